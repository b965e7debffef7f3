/- Texts of this claim laid together, one behind the other: contracts and plain lemmas; conditions as each names them. -/
import Derived.Test.YtaaghcimfcjehaaGreatDoorGp27
import Derived.Maps.OwnOps
import Derived.Maps.Views
import Derived.DeepKeys4
import Derived.Laws.Cover1
import Derived.Laws.Strings
import Derived.Maps.OwnSet
/- May a log be: the document's Check (stages 6 and 7), the program's check (stage 7). Conditions as each names them. -/
namespace Go.Proofs.YtaaghcimfcjehaaGreatDoor
open Go.ChangeShapes Go.WideShapes Go.ChangeAt Go.RowKit Go.Lib
set_option linter.unusedVariables false
set_option linter.unusedSimpArgs false
theorem tdrop_cons7 (ts : List Tm) (i : Nat) (h : i < ts.length) : ts.drop i = ts.getD i Tm.zero :: ts.drop (i + 1) := by
  rw [List.drop_eq_getElem_cons h]
  simp [List.getD, h]

set_option maxHeartbeats 4000000 in
set_option maxRecDepth 100000 in
theorem ycheck_any (ao : Option Addr) (L cap c : Nat) (ts : List Tm) (w : World) (hT : TRs w ao ts) (hL : L = ts.length) (hc : Bad 1 (txs ts) c) :
    Calls Tryz.prog 28 #[.slice ao L cap] w fun e w' => e = .returned (.int .i64 (c : Int)) ∧ Fr [] w w' := by
  have HC : Hid (Bad 1 (txs ts) c) := hc
  have HL : Hid (L = ts.length) := hL
  have hLm : L ≤ 140737488355328 := by have := hT.few; omega
  clear hc hL
  go_enter Tryz.func28, Tryz.ntmps28
  go_wp2_with fail
  go_loopw [3] (fun ii wr => ∃ (i : Nat), ii = .int .i64 i ∧ i ≤ L ∧ Hid (Bad (1 + i) (txs (ts.drop i)) c) ∧ Fr [] w wr) (fun ii _ => L - (RowKit.intOf ii).toNat)
  case atStart => exact ⟨0, rfl, Nat.zero_le _, HC.out, Fr.refl _ _⟩
  case round =>
    obtain ⟨i, rfl, hiL, HE, hFr⟩ := hrel
    by_cases hi : i < L
    · have hi' : i < ts.length := by rw [← HL.out]; exact hi
      obtain ⟨bb, off, rfl, hbl, hc⟩ := (hT.keep hFr).lies (by omega)
      have hx := hc i hi'
      have hat := (hT.keep hFr).each _ (tgetD_mem ts i hi')
      obtain ⟨x, hxx⟩ : ∃ x, x = ts.getD i Tm.zero := ⟨_, rfl⟩
      rw [← hxx] at hx hat
      have HX : Hid (x = ts.getD i Tm.zero) := hxx
      clear hxx hc
      obtain ⟨n, xo, M, cm, ws⟩ := x
      obtain ⟨c0, c1⟩ := hx
      simp only at c0 c1
      have e1 := HE.out
      rw [tdrop_cons7 ts i hi', ← HX.out] at e1
      have hn0 := hat.n0
      have hn1 := hat.n1
      simp only at hn0 hn1
      have hG := hFr
      have hat1 : TArg wr n xo M cm ws := hat
      have HCe : Hid (∀ W, Fr [] wr W → W.cell? ⟨bb, off + i * 2, none⟩ = some (.int .i64 n)) := fun W hf => (World.cell?_of_block (hf.block bb hbl (by simp))).trans c0
      clear hat
      clear HE HC
      rcases e1 with ⟨h1, rfl⟩ | ⟨h1, h2, rfl⟩ | ⟨h1, h2, h3⟩
      · have HN : Hid (¬ okT n ws) := h1
        clear h1
        go_wp2_with fail
        refine (xCheck_any n xo M cm 1 ws _ hat1.rs hat1.len hn0 hn1 (Or.inr ⟨HN.out, rfl⟩)).mono ?_
        rintro e w2 ⟨rfl, hF2⟩
        have hG2 := hG.then hF2
        clear hG hF2 hat1
        go_wp2
        go_ret
        exact ⟨rfl, hG2⟩
      · have HN : Hid (okT n ws) := h1
        have hne : (n != (i : Int) + 1) = true := by rw [bne_iff_ne]; have h2' : n ≠ ((1 + i : Nat) : Int) := h2; omega
        clear h1 h2
        go_wp2_with fail
        refine (xCheck_any n xo M cm 0 ws _ hat1.rs hat1.len hn0 hn1 (Or.inl ⟨HN.out, rfl⟩)).mono ?_
        rintro e w2 ⟨rfl, hF2⟩
        have hG2 := hG.then hF2
        have k0 := HCe.out _ hF2
        clear hG hF2 hat1 c0 c1
        go_wp2
        go_ret
        exact ⟨rfl, hG2⟩
      · have HN : Hid (okT n ws ∧ Bad (1 + i + 1) (txs (ts.drop (i + 1))) c) := ⟨h1, h3⟩
        have hne : (n != (i : Int) + 1) = false := by rw [bne_eq_false_iff_eq]; have h2' : n = ((1 + i : Nat) : Int) := h2; omega
        clear h1 h2 h3
        go_wp2_with fail
        refine (xCheck_any n xo M cm 0 ws _ hat1.rs hat1.len hn0 hn1 (Or.inl ⟨HN.out.1, rfl⟩)).mono ?_
        rintro e w2 ⟨rfl, hF2⟩
        have hG2 := hG.then hF2
        have k0 := HCe.out _ hF2
        clear hG hF2 hat1 c0 c1
        go_wp2
        go_roundw
        case rel => exact ⟨i + 1, by simp, by omega, by show Bad _ _ _; rw [show 1 + (i + 1) = 1 + i + 1 by omega]; exact HN.out.2, hG2⟩
        case measure => simp [RowKit.intOf]; omega
    · have hc0 : c = 0 := by
        have e1 := HE.out
        rw [List.drop_eq_nil_of_le (by rw [← HL.out]; omega)] at e1
        exact e1
      subst hc0
      clear HC HE
      go_wp2
      go_ret
      exact ⟨rfl, hFr⟩

set_option maxHeartbeats 4000000 in
set_option maxRecDepth 100000 in
theorem fcheck_any (ao : Option Addr) (L cap c : Nat) (ts : List Tm) (w : World) (hT : TRs w ao ts) (hL : L = ts.length) (hc : Bad 1 (txs ts) c) :
    Calls Tryz.prog 164 #[.slice ao L cap] w fun e w' => e = .returned (.int .i64 (c : Int)) ∧ Fr [] w w' := by
  have HC : Hid (Bad 1 (txs ts) c) := hc
  have HL : Hid (L = ts.length) := hL
  have hLm : L ≤ 140737488355328 := by have := hT.few; omega
  clear hc hL
  go_enter Tryz.func164, Tryz.ntmps164
  go_wp2_with fail
  go_loopw [8] (fun ii wr => ∃ (i : Nat), ii = .int .i64 i ∧ i ≤ L ∧ Hid (Bad (1 + i) (txs (ts.drop i)) c) ∧ Fr [] w wr) (fun ii _ => L - (RowKit.intOf ii).toNat)
  case atStart => exact ⟨0, rfl, Nat.zero_le _, HC.out, Fr.refl _ _⟩
  case round =>
    obtain ⟨i, rfl, hiL, HE, hFr⟩ := hrel
    by_cases hi : i < L
    · have hi' : i < ts.length := by rw [← HL.out]; exact hi
      obtain ⟨bb, off, rfl, hbl, hc⟩ := (hT.keep hFr).lies (by omega)
      have hx := hc i hi'
      have hat := (hT.keep hFr).each _ (tgetD_mem ts i hi')
      obtain ⟨x, hxx⟩ : ∃ x, x = ts.getD i Tm.zero := ⟨_, rfl⟩
      rw [← hxx] at hx hat
      have HX : Hid (x = ts.getD i Tm.zero) := hxx
      clear hxx hc
      obtain ⟨n, xo, M, cm, ws⟩ := x
      obtain ⟨c0, c1⟩ := hx
      simp only at c0 c1
      have e1 := HE.out
      rw [tdrop_cons7 ts i hi', ← HX.out] at e1
      have hn0 := hat.n0
      have hn1 := hat.n1
      simp only at hn0 hn1
      have hF1 : Fr [] wr (wr.alloc (.cells #[.int .i64 n, .slice xo M cm] 66)) := Fr.alloc _ _ _
      have hbx : (wr.alloc (.cells #[.int .i64 n, .slice xo M cm] 66)).heap[wr.heap.size]? = some (.cells #[.int .i64 n, .slice xo M cm] 66 (0, 0)) := heap_alloc_new wr _
      have hG := hFr.then hF1
      obtain ⟨w1, HW1⟩ : ∃ w1, Hid (wr.alloc (.cells #[.int .i64 n, .slice xo M cm] 66) = w1) := ⟨_, rfl⟩
      rw [HW1.out] at hF1 hbx hG
      have hat1 : TArg w1 n xo M cm ws := TArg.keep hat hF1
      have HCe : Hid (∀ W, Fr [] w1 W → W.cell? ⟨wr.heap.size, 0, none⟩ = some (.int .i64 n)) := fun W hf => by
        have hb := hf.keep hbx (by simp)
        rw [cell_of_row _ _ _ _ _ _ hb]; rfl
      clear hat hF1 hbx
      clear HE HC
      rcases e1 with ⟨h1, rfl⟩ | ⟨h1, h2, rfl⟩ | ⟨h1, h2, h3⟩
      · have HN : Hid (¬ okT n ws) := h1
        clear h1
        go_wp2_with fail
        rw [HW1.out]
        refine (check_any n xo M cm 1 ws _ hat1.rs hat1.len hn0 hn1 (Or.inr ⟨HN.out, rfl⟩)).mono ?_
        rintro e w2 ⟨rfl, hF2⟩
        have hG2 := hG.then hF2
        clear hG hF2 hat1
        go_wp2
        go_ret
        exact ⟨rfl, hG2⟩
      · have HN : Hid (okT n ws) := h1
        have hne : (n != (i : Int) + 1) = true := by rw [bne_iff_ne]; have h2' : n ≠ ((1 + i : Nat) : Int) := h2; omega
        clear h1 h2
        go_wp2_with fail
        rw [HW1.out]
        refine (check_any n xo M cm 0 ws _ hat1.rs hat1.len hn0 hn1 (Or.inl ⟨HN.out, rfl⟩)).mono ?_
        rintro e w2 ⟨rfl, hF2⟩
        have hG2 := hG.then hF2
        have k0 := HCe.out _ hF2
        clear hG hF2 hat1 c0 c1
        go_wp2
        go_ret
        exact ⟨rfl, hG2⟩
      · have HN : Hid (okT n ws ∧ Bad (1 + i + 1) (txs (ts.drop (i + 1))) c) := ⟨h1, h3⟩
        have hne : (n != (i : Int) + 1) = false := by rw [bne_eq_false_iff_eq]; have h2' : n = ((1 + i : Nat) : Int) := h2; omega
        clear h1 h2 h3
        go_wp2_with fail
        rw [HW1.out]
        refine (check_any n xo M cm 0 ws _ hat1.rs hat1.len hn0 hn1 (Or.inl ⟨HN.out.1, rfl⟩)).mono ?_
        rintro e w2 ⟨rfl, hF2⟩
        have hG2 := hG.then hF2
        have k0 := HCe.out _ hF2
        clear hG hF2 hat1 c0 c1
        go_wp2
        go_roundw
        case rel => exact ⟨i + 1, by simp, by omega, by show Bad _ _ _; rw [show 1 + (i + 1) = 1 + i + 1 by omega]; exact HN.out.2, hG2⟩
        case measure => simp [RowKit.intOf]; omega
    · have hc0 : c = 0 := by
        have e1 := HE.out
        rw [List.drop_eq_nil_of_le (by rw [← HL.out]; omega)] at e1
        exact e1
      subst hc0
      clear HC HE
      go_wp2
      go_ret
      exact ⟨rfl, hFr⟩
end Go.Proofs.YtaaghcimfcjehaaGreatDoor
/- Plain facts of the types of a number and a text. -/
namespace Go.Proofs.YtaaghcimfcjehaaGreatDoor
open Go.ChangeShapes Go.WideShapes Go.ChangeAt Go.RowKit Go.Lib Go.Maps
theorem Tryz.laid7 : laidOutB Tryz.prog = true := by kernel_rfl
theorem Tryz.undI7 : Tryz.prog.underlying 3 = some (.int .i64) := by kernel_rfl
theorem Tryz.undS7 : Tryz.prog.underlying 9 = some .string := by kernel_rfl
theorem Tryz.cellsS7 : Tryz.prog.cellsOf 9 = 1 := by kernel_rfl
theorem Tryz.cellsI7 : Tryz.prog.cellsOf 3 = 1 := by kernel_rfl
theorem Tryz.zeroI7 (w : World) : (zeroValue 3).run Tryz.prog w = .ok (.int .i64 0) w := by kernel_rfl
end Go.Proofs.YtaaghcimfcjehaaGreatDoor
/- The questions of keys: one key alone, a stretch: contracts. Conditions as each names them. -/
namespace Go.Proofs.YtaaghcimfcjehaaGreatDoor
open Go.ChangeShapes Go.WideShapes Go.ChangeAt Go.RowKit Go.Lib
set_option linter.unusedVariables false
set_option linter.unusedSimpArgs false
/-- A text in a block of its own. -/
def SBox (w : World) (b : Nat) (s : ByteArray) : Prop := w.heap[b]? = some (.cells #[.string s] 9 (0, 0))
theorem SBox.c {w : World} {b : Nat} {s : ByteArray} (h : SBox w b s) : w.cell? ⟨b, 0, none⟩ = some (.string s) := by unfold SBox at h; simp [World.cell?, h]
theorem SBox.keep {S : List Nat} {w w' : World} {b : Nat} {s : ByteArray} (h : SBox w b s) (hf : Fr S w w') (hn : b ∉ S) : SBox w' b s := hf.keep h hn
theorem SBox.lt {w : World} {b : Nat} {s : ByteArray} (h : SBox w b s) : b < w.heap.size := lt_of_block h
theorem stretch_any (key en : ByteArray) (w : World) : Calls Tryz.prog 138 #[.string key, .string en] w fun e w' => ∃ b c, e = .returned (.func (Fn.func 166) #[] #[.pointer (some ⟨b, 0, none⟩), .pointer (some ⟨c, 0, none⟩)]) ∧ SBox w' b key ∧ SBox w' c en ∧ w.heap.size ≤ b ∧ w.heap.size ≤ c ∧ Fr [] w w' := by
  go_enter Tryz.func138, Tryz.ntmps138
  go_wp2
  go_ret
  refine ⟨_, _, rfl, ?_, ?_, Nat.le_refl _, Nat.le_succ _, (Fr.alloc [] w _).then (Fr.alloc [] _ _)⟩
  · exact (Fr.alloc [] _ _).keep (heap_alloc_new w (.cells #[.string key] 9)) (by simp)
  · have := heap_alloc_new (w.alloc (.cells #[.string key] 9)) (.cells #[.string en] 9)
    simpa [SBox] using this
/-- Does a key lie in a stretch? -/
def inS (key en s : ByteArray) : Bool := !(Op.bytesLess s.toList key.toList) && (en.toList == [] || Op.bytesLess s.toList en.toList)
set_option maxHeartbeats 1000000 in
theorem stretch1_any (b c : Nat) (key en s : ByteArray) (B : Bool) (w : World) (hb : SBox w b key) (hc : SBox w c en) (hB : B = inS key en s) : Calls Tryz.prog 166 #[.string s, .pointer (some ⟨b, 0, none⟩), .pointer (some ⟨c, 0, none⟩)] w fun e w' => e = .returned (.bool B) ∧ Fr [] w w' := by
  have c0 := hb.c
  have c1 := hc.c
  have hE0 : (⟨#[]⟩ : ByteArray).toList = [] := (tl_nil _).2 rfl
  obtain ⟨G, hG⟩ : ∃ G, Op.bytesLess s.toList key.toList = G := ⟨_, rfl⟩
  obtain ⟨E, hE⟩ : ∃ E, (en.toList == ([] : List UInt8)) = E := ⟨_, rfl⟩
  obtain ⟨K, hK⟩ : ∃ K, Op.bytesLess s.toList en.toList = K := ⟨_, rfl⟩
  have hB' : B = (!G && (E || K)) := by rw [hB, ← hG, ← hE, ← hK]; rfl
  have HB : Hid (B = (!G && (E || K))) := hB'
  clear hB hB'
  have hundef : undef = Value.tuple #[] := rfl
  cases G <;> cases E <;> cases K <;> (go_enter Tryz.func166, Tryz.ntmps166; go_wp2; go_ret; exact ⟨by rw [HB.out]; rfl, Fr.refl _ _⟩)
end Go.Proofs.YtaaghcimfcjehaaGreatDoor
/- Plain facts that stand ahead of the maps of entries. -/
namespace Go.Proofs.YtaaghcimfcjehaaGreatDoor
open Go.ChangeShapes Go.WideShapes Go.ChangeAt Go.RowKit Go.Lib Go.Maps
theorem ttx_get {ts : List Tm} {i : Nat} (h : i < ts.length) : txs (ts.take (i + 1)) = txs (ts.take i) ++ [(ts.getD i Tm.zero).tx] := by rw [ttake_snoc ts i h, txs_append]; rfl
theorem Tryz.undTsE : Tryz.prog.underlying 24 = some (.slice (Tryz.prog.elem 24)) := by kernel_rfl
theorem Tryz.elemTs : Tryz.prog.elem 24 = 66 := by kernel_rfl
theorem Tryz.sizeT (w : World) : (sizeOf 66).run Tryz.prog w = .ok 2 w := by kernel_rfl
end Go.Proofs.YtaaghcimfcjehaaGreatDoor
/- A map of entries by their keys, as a function; contract of apply. Conditions as each names them. -/
namespace Go.Proofs.YtaaghcimfcjehaaGreatDoor
open Go.ChangeShapes Go.WideShapes Go.ChangeAt Go.RowKit Go.Lib Go.Maps
set_option linter.unusedVariables false
set_option linter.unusedSimpArgs false

theorem Tryz.undMap : Tryz.prog.underlying 222 = some (.map 9 152) := by kernel_rfl
theorem Tryz.keyedStr : Keyed Tryz.prog 9 := string_keyed Tryz.undS7
theorem Tryz.zeroEn (w : World) : (zeroValue 152).run Tryz.prog w = .ok (.agg #[.string ⟨#[]⟩, .string ⟨#[]⟩]) w := by kernel_rfl
/-- How an entry reads. -/
def entD (k s : ByteArray) : DataW Unit := .agg [.lit (.string k.data.toList), .lit (.string s.data.toList)]
def entElem (v : Value) : Option (DataW Unit × List MemPlace) :=
  match v with
  | .agg cs => match cs.toList with
    | [.string k, .string s] => some (entD k s, [])
    | _ => none
  | _ => none
theorem entElem_mk (k s : ByteArray) : entElem (.agg #[.string k, .string s]) = some (entD k s, []) := rfl
theorem entElem_inv {v : Value} {y : DataW Unit × List MemPlace} (h : entElem v = some y) : ∃ k s, v = .agg #[.string k, .string s] ∧ y = (entD k s, []) := by
  unfold entElem at h
  split at h
  · rename_i cs
    split at h
    · rename_i k s hcs
      simp only [Option.some.injEq] at h
      exact ⟨k, s, by rw [← Array.toArray_toList (xs := cs), hcs], h.symm⟩
    · cases h
  · cases h
theorem bytes_eq {a b : ByteArray} (h : a.data.toList = b.data.toList) : a = b := by
  cases a; cases b
  simp only at h
  congr
  exact Array.toList_inj.1 h
theorem entD_inj {k s k' s' : ByteArray} (h : entD k s = entD k' s') : k = k' ∧ s = s' := by
  simp only [entD, DataW.agg.injEq, List.cons.injEq, DataW.lit.injEq, Lit.string.injEq, and_true] at h
  exact ⟨bytes_eq h.1, bytes_eq h.2⟩
def kl7 (s : ByteArray) : Lit := .string s.data.toList
theorem kl7_inj {s t : ByteArray} (h : kl7 s = kl7 t) : s = t := bytes_eq (by simpa [kl7] using h)
theorem keyOf_str7 (s : ByteArray) (hs : s.size ≤ maxLen) : keyOf Tryz.prog 9 (.string s) = some (kl7 s) := Go.WideMaps.keyOf_string_mk Tryz.undS7 hs
/-- Block b is a map of at most n entries that says at each key what E says. -/
def MapE (w : World) (b n : Nat) (E : ByteArray → Option ByteArray) : Prop :=
  ∃ D : DataW Unit, w.ownsMap Tryz.prog 9 entElem b n D ∧ (∀ s, has D (kl7 s) = (E s).isSome) ∧ ∀ s v, E s = some v → ∀ z, D.atKey (kl7 s) z = entD s v
theorem MapE.lt {w : World} {b n : Nat} {E : ByteArray → Option ByteArray} (h : MapE w b n E) : b < w.heap.size := by
  obtain ⟨D, hD, _⟩ := h
  exact hD.lt
theorem MapE.keep {S : List Nat} {w w' : World} {b n : Nat} {E : ByteArray → Option ByteArray} (h : MapE w b n E) (hf : Fr S w w') (hn : b ∉ S) : MapE w' b n E := by
  have hlt := h.lt
  obtain ⟨D, ⟨es, clock, hb, hr⟩, h2⟩ := h
  exact ⟨D, ⟨es, clock, (hf.block b hlt hn).trans hb, hr⟩, h2⟩
theorem MapE.mono {w : World} {b n m : Nat} {E : ByteArray → Option ByteArray} (h : MapE w b n E) (hn : n ≤ m) : MapE w b m E := by
  obtain ⟨D, hD, h2⟩ := h
  exact ⟨D, hD.mono hn, h2⟩
theorem MapE.made (w : World) : MapE (w.alloc (.map #[] 0)) w.heap.size 0 (fun _ => none) :=
  ⟨.map [], World.ownsMap_made w _ _ _, fun s => rfl, fun s v h => by cases h⟩
/-- What a write makes of it. -/
def applyE (E : ByteArray → Option ByteArray) (x : Wt) : ByteArray → Option ByteArray := fun s => if s = x.key then (if x.drop = true then none else some x.val) else E s
theorem MapE.store {w : World} {b n : Nat} {E : ByteArray → Option ByteArray} (h : MapE w b n E) (key val : ByteArray) (hs : key.size ≤ maxLen) (hn : n < maxLen) :
    ∃ w', (Instr.mapUpdate 222 (.map (some b)) (.string key) (.agg #[.string key, .string val])).run Tryz.prog w = .ok () w' ∧ MapE w' b (n + 1) (applyE E ⟨key, val, false⟩) ∧ Fr [b] w w' := by
  obtain ⟨D, hD, hH, hA⟩ := h
  have hk := keyOf_str7 key hs
  have hI := hD.isMap
  obtain ⟨w', hrun, hO, hg⟩ := hD.update Tryz.keyedStr Tryz.undMap hn hk (entElem_mk key val)
  refine ⟨w', hrun, ⟨_, hO, ?_, ?_⟩, Fr.grown hg (by intro k hk _; cases hk; simp)⟩
  · intro s
    unfold applyE
    by_cases he : s = key
    · subst he
      rw [if_pos rfl, has_put_same hI (Tryz.keyedStr.key hk)]
      rfl
    · rw [if_neg he, has_put_other (fun e => he (kl7_inj e)), hH s]
  · intro s v hv z
    unfold applyE at hv
    by_cases he : s = key
    · subst he
      rw [if_pos rfl] at hv
      simp only [Bool.false_eq_true, if_false, Option.some.injEq] at hv
      subst hv
      exact atKey_put_same hI (Tryz.keyedStr.key hk) _ _
    · rw [if_neg he] at hv
      rw [atKey_put_other (fun e => he (kl7_inj e))]
      exact hA s v hv z
theorem MapE.drop {w : World} {b n : Nat} {E : ByteArray → Option ByteArray} (h : MapE w b n E) (key val : ByteArray) (hs : key.size ≤ maxLen) (ty : TypeId) :
    ∃ w', (Builtin.delete_ #[222, 9] ty #[.map (some b), .string key]).run Tryz.prog w = .ok (.tuple #[]) w' ∧ MapE w' b n (applyE E ⟨key, val, true⟩) ∧ Fr [b] w w' := by
  obtain ⟨D, hD, hH, hA⟩ := h
  have hk := keyOf_str7 key hs
  obtain ⟨w', hrun, hO, ht⟩ := hD.drop Tryz.keyedStr Tryz.undMap hk ty
  refine ⟨w', hrun, ⟨_, hO, ?_, ?_⟩, Fr.grown ht.grown (by intro k hk _; cases hk; simp)⟩
  · intro s
    unfold applyE
    by_cases he : s = key
    · subst he
      rw [if_pos rfl, has_del_same]
      rfl
    · rw [if_neg he, has_del_other (fun e => he (kl7_inj e)), hH s]
  · intro s v hv z
    unfold applyE at hv
    by_cases he : s = key
    · rw [if_pos he] at hv
      cases hv
    · rw [if_neg he] at hv
      rw [atKey_del_other (fun e => he (kl7_inj e))]
      exact hA s v hv z
theorem MapE.look {w : World} {b n : Nat} {E : ByteArray → Option ByteArray} (h : MapE w b n E) (key : ByteArray) (hs : key.size ≤ maxLen) :
    (Instr.lookup 222 (.map (some b)) (.string key) true).run Tryz.prog w = .ok (.tuple #[(match E key with | some v => .agg #[.string key, .string v] | none => .agg #[.string ⟨#[]⟩, .string ⟨#[]⟩]), .bool (E key).isSome]) w := by
  obtain ⟨D, hD, hH, hA⟩ := h
  have hk := keyOf_str7 key hs
  obtain ⟨v, ps, hrun, hv⟩ := hD.look_ok Tryz.keyedStr Tryz.undMap (Tryz.zeroEn _) (entElem_mk _ _) hk
  rw [hrun, hH key]
  obtain ⟨k', s', rfl, e⟩ := entElem_inv hv
  simp only [Prod.mk.injEq] at e
  cases hE : E key with
  | some x =>
    rw [hA key x hE] at e
    obtain ⟨rfl, rfl⟩ := entD_inj e.1
    rfl
  | none =>
    have hh : has D (kl7 key) = false := by rw [hH key, hE]; rfl
    rw [atKey_of_not_has hh] at e
    obtain ⟨rfl, rfl⟩ := entD_inj e.1
    rfl

set_option maxHeartbeats 4000000 in
set_option maxRecDepth 100000 in
theorem apply_any (b n : Nat) (E : ByteArray → Option ByteArray) (key val : ByteArray) (drop : Bool) (w : World) (h : MapE w b n E) (hs : key.size ≤ 64) (hn : n < 9007199254740992) :
    Calls Tryz.prog 165 #[.map (some b), .agg #[.string key, .string val, .bool drop]] w fun e w' => e = .returned (.tuple #[]) ∧ MapE w' b (n + 1) (applyE E ⟨key, val, drop⟩) ∧ Fr [b] w w' := by
  have hsm : key.size ≤ maxLen := by unfold maxLen; omega
  obtain ⟨w0, HW0⟩ : ∃ w0, Hid (w.alloc (.cells #[.string key, .string val, .bool drop] 92) = w0) := ⟨_, rfl⟩
  have hF0 : Fr [] w w0 := by rw [← HW0.out]; exact Fr.alloc [] w _
  have hb0 : w0.heap[w.heap.size]? = some (.cells #[.string key, .string val, .bool drop] 92 (0, 0)) := by rw [← HW0.out]; exact heap_alloc_new w _
  have c0 : w0.cell? ⟨w.heap.size, 0, none⟩ = some (.string key) := by rw [cell_of_row _ _ _ _ _ _ hb0]; rfl
  have c1 : w0.cell? ⟨w.heap.size, 1, none⟩ = some (.string val) := by rw [cell_of_row _ _ _ _ _ _ hb0]; rfl
  have c2 : w0.cell? ⟨w.heap.size, 2, none⟩ = some (.bool drop) := by rw [cell_of_row _ _ _ _ _ _ hb0]; rfl
  have h0 := h.keep hF0 (by simp)
  cases drop with
  | true =>
    have hdr : ∀ ty, ∃ w', (Builtin.delete_ #[222, 9] ty #[.map (some b), .string key]).run Tryz.prog w0 = .ok (.tuple #[]) w' ∧ MapE w' b n (applyE E ⟨key, val, true⟩) ∧ Fr [b] w0 w' := fun ty => h0.drop key val hsm ty
    obtain ⟨w1, hr1, hM1, hG1⟩ := hdr 0
    have HR : Hid (MapE w1 b (n + 1) (applyE E ⟨key, val, true⟩) ∧ Fr [b] w w1) := ⟨hM1.mono (by omega), (hF0.mono (by simp)).then hG1⟩
    clear h h0 hM1 hG1 hb0 hdr
    go_enter Tryz.func165, Tryz.ntmps165
    go_upto_region 1 with fail
    rw [HW0.out]
    go_wp2
    refine bodyPost_ret (results_none rfl _ _ _) rfl ?_
    exact ⟨rfl, HR.out⟩
  | false =>
    obtain ⟨w1, hr1, hM1, hG1⟩ := h0.store key val hsm (by unfold maxLen; omega)
    have HR : Hid (MapE w1 b (n + 1) (applyE E ⟨key, val, false⟩) ∧ Fr [b] w w1) := ⟨hM1, (hF0.mono (by simp)).then hG1⟩
    clear h h0 hM1 hG1 hb0
    go_enter Tryz.func165, Tryz.ntmps165
    go_upto_region 1 with fail
    rw [HW0.out]
    go_wp2
    go_end0
    exact ⟨rfl, HR.out⟩
end Go.Proofs.YtaaghcimfcjehaaGreatDoor
