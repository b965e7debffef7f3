/- Texts of this claim laid together, one behind the other: contracts and plain lemmas; conditions as each names them. -/
import Derived.Test.YtldghdbfhikcoaaGreatDoorGp19
/- A Book that holds one list of lists: how its marks lie (each a list of one key, made anew), what filling and growing keep. Plain lemmas. -/
namespace Go.Proofs.YtldghdbfhikcoaaGreatDoor.Bq
open Go.ChangeShapes Go.WideShapes Go.ChangeAt Go.RowKit Go.Lib
set_option linter.unusedVariables false

abbrev kHL : Kd := { tH := 168, tE := 23, S := 1, mark := fun _ => [.slice none 0 0], col := 9, pos := by decide, len := fun _ => rfl, hE := by decide, hB := by decide, eB := by decide }
/-- A mark: a list of one key. -/
def mkV (b : Nat) : Value := .slice (some ⟨b, 0, none⟩) 1 1
def Mk9 (w : World) (B : ByteArray) (b : Nat) : Prop := w.heap[b]? = some (.cells #[.string B, .slice none 0 0] 73 (0, 0))
theorem Mk9.keep {S : List Nat} {w w' : World} {B : ByteArray} {b : Nat} (h : Mk9 w B b) (hf : Fr S w w') (hn : b ∉ S) : Mk9 w' B b := hf.keep h hn
theorem Mk9.c0 {w : World} {B : ByteArray} {b : Nat} (h : Mk9 w B b) : w.cell? ⟨b, 0, none⟩ = some (.string B) := by rw [cell_of_row _ _ _ _ _ _ h]; rfl
theorem Mk9.c1 {w : World} {B : ByteArray} {b : Nat} (h : Mk9 w B b) : w.cell? ⟨b, 1, none⟩ = some (.slice none 0 0) := by rw [cell_of_row _ _ _ _ _ _ h]; rfl
theorem Mk9.ne {w : World} {B : ByteArray} {b k : Nat} {cs : Array Value} (h : Mk9 w B b) (hk : w.heap[k]? = some (.cells cs 23 (0, 0))) : b ≠ k := by
  rintro rfl
  rw [show w.heap[b]? = _ from h] at hk
  simp at hk
/-- All marks lie, each made since. -/
def Mks (w : World) (base : Nat) (B : ByteArray) (ms : List Nat) : Prop := ∀ b ∈ ms, Mk9 w B b ∧ base ≤ b
theorem Mks.keep {S : List Nat} {w w' : World} {base : Nat} {B : ByteArray} {ms : List Nat} (h : Mks w base B ms) (hf : Fr S w w') (hn : ∀ k ∈ S, k < base) : Mks w' base B ms := fun b hb => ⟨(h b hb).1.keep hf (fun hm => by have := hn b hm; have := (h b hb).2; omega), (h b hb).2⟩
theorem Mks.keepR {S : List Nat} {w w' : World} {base : Nat} {B : ByteArray} {ms : List Nat} (h : Mks w base B ms) (hf : Fr S w w') (hn : ∀ k ∈ S, k < w.heap.size → ∃ cs, w.heap[k]? = some (.cells cs 23 (0, 0))) : Mks w' base B ms := fun b hb => ⟨(h b hb).1.keep hf (fun hm => by
  obtain ⟨cs, hc⟩ := hn b hm (lt_of_block (h b hb).1)
  exact (h b hb).1.ne hc rfl), (h b hb).2⟩
theorem Mks.snoc {w : World} {base : Nat} {B : ByteArray} {ms : List Nat} {b : Nat} (h : Mks w base B ms) (hb : Mk9 w B b) (hn : base ≤ b) : Mks w base B (ms ++ [b]) := fun x hx => by
  rcases List.mem_append.1 hx with e | e
  · exact h x e
  · rw [List.mem_singleton] at e; subst e; exact ⟨hb, hn⟩
theorem map_get {ms : List Nat} {j : Nat} (hj : j < ms.length) : (ms.map mkV)[j]? = some (mkV (ms.getD j 0)) := by
  simp [List.getD, hj]
theorem own_mkV {w : World} {g m cap : Nat} {ms : List Nat} (h : w.ownsRow 0 23 1 (.slice (some ⟨g, 0, none⟩) m cap) m (ms.map mkV)) (j : Nat) (hj : j < m) : w.cell? ⟨g, j, none⟩ = some (mkV (ms.getD j 0)) := by
  have hl := h.1
  simp at hl
  rw [h.cellAt j (by omega)]
  exact map_get (by omega)
/-- Filling, so far. -/
structure FHi (base : Nat) (B : ByteArray) (lao : Option Addr) (n lf lcap k : Nat) (ms : List Nat) (R : List Value) (w1 w : World) : Prop where
  len : ms.length = k
  rl : R.length = (n - k) * 1
  own : w.ownsRow 0 23 1 (.slice lao n lf) n (ms.map mkV ++ R)
  mks : Mks w base B ms
  fr : Fr (Value.slice lao n lcap).ownBlock.toList w1 w
theorem FHi.next {base : Nat} {B : ByteArray} {t n lf lcap k : Nat} {ms : List Nat} {a : Value} {S : List Value} {w1 w W : World} {b : Nat} (h : FHi base B (some ⟨t, 0, none⟩) n lf lcap k ms (a :: S) w1 w) (hS : S.length = (n - (k + 1)) * 1) (ht : t < base) (hf : Fr [] w W) (hb : Mk9 W B b) (hbb : base ≤ b) :
    FHi base B (some ⟨t, 0, none⟩) n lf lcap (k + 1) (ms ++ [b]) S w1 (W.setCell ⟨t, k, none⟩ (mkV b)) := by
  have hO := own_put (owns_keep h.own hf (by simp)) k (mkV b)
  have e : (ms.map mkV ++ a :: S).set k (mkV b) = (ms ++ [b]).map mkV ++ S := by
    have hl : (ms.map mkV).length = k := by simp [h.len]
    rw [List.set_append_right _ _ (by omega), hl, Nat.sub_self]
    simp
  rw [e] at hO
  have hfs : Fr [t] W (W.setCell ⟨t, k, none⟩ (mkV b)) := Fr.set _ _ _ (by simp)
  refine ⟨by simp [h.len], hS, hO, ?_, ?_⟩
  · exact ((h.mks.keep hf (by simp)).snoc hb hbb).keep hfs (fun x hx => by simp at hx; omega)
  · show Fr [t] w1 _
    exact ((show Fr [t] w1 w from h.fr).trans hf (fun x hx _ => hx) (by simp)).then hfs
/-- A Book's list of lists: marked. -/
structure FL (base : Nat) (w : World) (bk : Nat) (rv : Value) (e : HB) : Prop where
  bl : Bl kHL w bk rv [e]
  row : ∃ n ms, Cut w 23 1 e.l n (ms.map mkV) ∧ ms.length = n ∧ n < 17179869184 ∧ Mks w base (mWord e.n) ms
  nil : e.long = .slice none 0 0
  lo : base ≤ w.heap.size
theorem FL.type {base : Nat} {w : World} {bk : Nat} {rv : Value} {e : HB} (h : FL base w bk rv e) : ∀ k, e.l.ownBlock = some k → ∃ cs, w.heap[k]? = some (.cells cs 23 (0, 0)) := by
  obtain ⟨n, ms, h1, _⟩ := h.row
  exact h1.type
theorem FL.stay {S : List Nat} {base : Nat} {w w' : World} {bk : Nat} {rv : Value} {e : HB} (h : FL base w bk rv e) (hf : Fr S w w') (ho : Off kHL S w) (hS : ∀ k ∈ S, k < base) : FL base w' bk rv e := by
  refine ⟨h.bl.stay hf ho, ?_, h.nil, Nat.le_trans h.lo hf.size⟩
  obtain ⟨n, ms, h1, h2, h3, h4⟩ := h.row
  exact ⟨n, ms, h1.keep hf (fun k hk => by obtain ⟨cs, hc⟩ := h1.type k hk; exact ho.notE hc), h2, h3, h4.keep hf hS⟩
/-- A slice reads as such marks. -/
structure Rd1 (w : World) (v : Value) (n : Nat) (ms : List Nat) : Prop where
  shape : ∃ ao cap, v = .slice ao n cap ∧ n ≤ cap ∧ (0 < n → ∃ b, ao = some ⟨b, 0, none⟩ ∧ ∀ j, j < n → w.cell? ⟨b, j, none⟩ = some (mkV (ms.getD j 0)))
  type : ∀ k, v.ownBlock = some k → ∃ cs, w.heap[k]? = some (.cells cs 23 (0, 0))
theorem Rd1.keep {S : List Nat} {w w' : World} {v : Value} {n : Nat} {ms : List Nat} (h : Rd1 w v n ms) (hf : Fr S w w') (hn : ∀ k, v.ownBlock = some k → k ∉ S) : Rd1 w' v n ms := by
  obtain ⟨ao, cap, rfl, hc, hr⟩ := h.shape
  refine ⟨⟨ao, cap, rfl, hc, fun h0 => ?_⟩, fun k hk => ?_⟩
  · obtain ⟨b, rfl, hb⟩ := hr h0
    refine ⟨b, rfl, fun j hj => ?_⟩
    obtain ⟨cs, hcs⟩ := h.type b rfl
    exact (World.cell?_of_block (hf.block b (lt_of_block hcs) (hn b rfl))).trans (hb j hj)
  · obtain ⟨cs, hcs⟩ := h.type k hk
    exact ⟨cs, hf.keep hcs (hn k hk)⟩
theorem Rd1.of_cut {w : World} {v : Value} {n : Nat} {ms : List Nat} (h : Cut w 23 1 v n (ms.map mkV)) : Rd1 w v n ms := by
  have ht := h.type
  obtain ⟨ao, rc, rf, rfl, h1, h2, hO⟩ := h
  refine ⟨⟨ao, rc, rfl, h1, fun h0 => ?_⟩, ht⟩
  obtain ⟨g, c, hh, _⟩ := own_form hO h0
  cases hh
  exact ⟨g, rfl, fun j hj => own_mkV hO j hj⟩
theorem getD_left {ms ns : List Nat} {j : Nat} (h : j < ms.length) : (ms ++ ns).getD j 0 = ms.getD j 0 := by
  simp [List.getD, List.getElem?_append_left h]
theorem Rd1.own0 {w w0 : World} {l v : Value} {n m : Nat} {ms ns : List Nat} (hl : ms.length = n) (h : Cut w 23 1 v m ((ms ++ ns).map mkV)) (hm : n ≤ m) (he : v.ownBlock = l.ownBlock) (r : Rd1 w0 l n ms) : Rd1 w l n ms := by
  obtain ⟨ao, cap, rfl, hc, hr⟩ := r.shape
  refine ⟨⟨ao, cap, rfl, hc, fun h0 => ?_⟩, fun k hk => h.type k (by rw [he]; exact hk)⟩
  obtain ⟨b, rfl, _⟩ := hr h0
  obtain ⟨vo, rc, rf, rfl, _, _, h⟩ := h
  obtain ⟨g, c, e, _⟩ := own_form h (by omega)
  cases e
  simp [Value.ownBlock] at he
  subst he
  exact ⟨g, rfl, fun j hj => by rw [own_mkV h j (by omega), getD_left (by omega)]⟩
/-- Growing, so far. -/
structure GHi (base : Nat) (B : ByteArray) (w1 : World) (l : Value) (n : Nat) (ms : List Nat) (k : Nat) (v : Value) (ns : List Nat) (w : World) : Prop where
  len : ns.length = k
  lm : ms.length = n
  own : Cut w 23 1 v (n + k) ((ms ++ ns).map mkV)
  rds : Rd1 w l n ms
  mks : Mks w base B (ms ++ ns)
  fr : Fr l.ownBlock.toList w1 w
  plc : v.ownBlock = l.ownBlock ∨ ∃ g, v.ownBlock = some g ∧ w1.heap.size ≤ g
theorem GHi.keep {base : Nat} {B : ByteArray} {w1 w w' : World} {l v : Value} {n k : Nat} {ms ns : List Nat} (h : GHi base B w1 l n ms k v ns w) (hf : Fr [] w w') : GHi base B w1 l n ms k v ns w' :=
  ⟨h.len, h.lm, h.own.keep hf (by simp), h.rds.keep hf (by simp), h.mks.keep hf (by simp), h.fr.trans hf (fun x hx _ => hx) (by simp), h.plc⟩
theorem GHi.next {base : Nat} {B : ByteArray} {w1 w w' : World} {l v : Value} {n k g cap b : Nat} {ms ns : List Nat} (h : GHi base B w1 l n ms k v ns w) (o : Obj) (hb : Mk9 w B b) (hbb : base ≤ b) (hO : Cut w' 23 1 (.slice (some ⟨g, 0, none⟩) (n + k + 1) cap) (n + k + 1) ((ms ++ ns).map mkV ++ [mkV b])) (hW : Went (w.alloc o) v g w') (hl : ∀ k, l.ownBlock = some k → k < w1.heap.size) :
    GHi base B w1 l n ms (k + 1) (.slice (some ⟨g, 0, none⟩) (n + k + 1) cap) (ns ++ [b]) w' := by
  have e : (ms ++ ns).map mkV ++ [mkV b] = (ms ++ (ns ++ [b])).map mkV := by simp
  rw [e] at hO
  have hFa : Fr [] w (w.alloc o) := Fr.alloc [] _ _
  have hs1 := h.fr.size
  have hs2 := hFa.size
  have hM : Mks w base B (ms ++ (ns ++ [b])) := by
    have := h.mks.snoc hb hbb
    rwa [List.append_assoc] at this
  have hN : (ns ++ [b]).length = k + 1 := by simp [h.len]
  rcases hW with ⟨hv, hg⟩ | ⟨hv, hg⟩
  · have hFg : Fr [g] (w.alloc o) w' := Fr.grown hg (by intro k hk _; cases hk; simp)
    have hF : Fr [g] w w' := hFa.trans hFg (by simp) (fun x hx _ => hx)
    have hM' : Mks w' base B (ms ++ (ns ++ [b])) := hM.keepR hF (fun x hx hlt => by
      simp at hx
      subst hx
      exact h.own.type x hv)
    rcases h.plc with hp | ⟨g', hp, hge⟩
    · have hlg : l.ownBlock = some g := by rw [← hp, hv]
      refine ⟨hN, h.lm, hO, Rd1.own0 h.lm hO (by omega) hlg.symm h.rds, hM', ?_, Or.inl hlg.symm⟩
      rw [hlg]
      have := h.fr
      rw [hlg] at this
      exact this.trans hF (fun x hx _ => hx) (fun x hx _ => by simpa using hx)
    · rw [hv] at hp
      cases hp
      have hne : ∀ k, l.ownBlock = some k → k ≠ g := by intro k hk; have := hl k hk; omega
      refine ⟨hN, h.lm, hO, h.rds.keep hF (by intro k hk hm; exact hne k hk (by simpa using hm)), hM', h.fr.trans hF (fun x hx _ => hx) ?_, Or.inr ⟨g, rfl, hge⟩⟩
      intro x hx hxl
      simp at hx
      omega
  · have hFg : Fr [] (w.alloc o) w' := Fr.grown hg (by simp)
    have hF := hFa.then hFg
    exact ⟨hN, h.lm, hO, h.rds.keep hF (by simp), hM.keep hF (by simp), h.fr.trans hF (fun x hx _ => hx) (by simp), Or.inr ⟨g, rfl, by omega⟩⟩
/-- A Book's list of lists: grown. -/
structure GL (base : Nat) (w : World) (bk : Nat) (rv : Value) (e : HB) : Prop where
  bl : Bl kHL w bk rv [e]
  row : ∃ n ms ns, ms.length = n ∧ ns.length = 70 ∧ n < 17179869184 ∧ Rd1 w e.l n ms ∧ Cut w 23 1 e.long (n + 70) ((ms ++ ns).map mkV) ∧ Mks w base (mWord e.n) (ms ++ ns)
theorem GL.stay {base : Nat} {w w' : World} {bk : Nat} {rv : Value} {e : HB} (h : GL base w bk rv e) (hf : Fr [] w w') : GL base w' bk rv e := by
  refine ⟨h.bl.stay hf (Off.nil _ _), ?_⟩
  obtain ⟨n, ms, ns, h1, h2, h3, h4, h5, h6⟩ := h.row
  exact ⟨n, ms, ns, h1, h2, h3, h4.keep hf (by simp), h5.keep hf (by simp), h6.keep hf (by simp)⟩
theorem off_HB : kHL.off kByte := by refine ⟨?_, ?_, ?_, ?_⟩ <;> decide
theorem off_HI : kHL.off kInt := by refine ⟨?_, ?_, ?_, ?_⟩ <;> decide
theorem off_HW : kHL.off kHeld := by refine ⟨?_, ?_, ?_, ?_⟩ <;> decide
theorem off_HT : kHL.off kVersion := by refine ⟨?_, ?_, ?_, ?_⟩ <;> decide
theorem off_BH : kByte.off kHL := by refine ⟨?_, ?_, ?_, ?_⟩ <;> decide
theorem off_IH : kInt.off kHL := by refine ⟨?_, ?_, ?_, ?_⟩ <;> decide
theorem off_WH : kHeld.off kHL := by refine ⟨?_, ?_, ?_, ?_⟩ <;> decide
theorem off_TH : kVersion.off kHL := by refine ⟨?_, ?_, ?_, ?_⟩ <;> decide
end Go.Proofs.YtldghdbfhikcoaaGreatDoor.Bq
/- A Book's mark of a list of lists, its test, its fill. Conditions: one such list is held; the table of powers of ten reads as the library lays it. -/
namespace Go.Proofs.YtldghdbfhikcoaaGreatDoor.Bq
open BigFrame Go.ChangeShapes Go.WideShapes Go.ChangeAt Go.RowKit Go.Lib
set_option linter.unusedVariables false
set_option linter.unusedSimpArgs false

set_option maxHeartbeats 1000000 in
theorem markHL_at (n : Nat) (B : ByteArray) (w : World) (hn : n < 134217728) (hB : mWord n = B) (ht : Tab w) : Calls Tryz.prog 124 #[.int .i64 (n : Int)] w fun e w' => ∃ b, e = .returned (.slice (some ⟨b, 0, none⟩) 1 1) ∧ Fr [] w w' ∧ Mk9 w' B b ∧ w.heap.size ≤ b := by
  have HB : Hid (mWord n = B) := hB
  clear hB
  go_enter Tryz.func124, Tryz.ntmps124
  go_wp2_with fail
  refine (word_any n B hn HB.out _ ht).mono ?_
  rintro e w1 ⟨rfl, hF⟩
  go_wp2
  go_ret
  exact ⟨w1.heap.size, rfl, hF.then (Fr.alloc [] _ _), heap_alloc_new w1 _, hF.size⟩
set_option maxHeartbeats 8000000 in
set_option maxRecDepth 100000 in
theorem fillHL_any (bk : Nat) (rv : Value) (e : HB) (w : World) (h : Bl kHL w bk rv [e]) (h0 : P0 kHL w e) (hfre : e.long = .slice none 0 0) (htab : Tab w) (hgt : gTab ∉ lbs [e]) :
    Calls Tryz.prog 55 #[.pointer (some ⟨bk, 0, none⟩)] w fun r w' => r = .returned (.tuple #[]) ∧ Hid (FL w.heap.size w' bk rv e ∧ Fr (lbs [e]) w w') := by
  have hlb : lbs [e] = e.l.ownBlock.toList := by simp [lbs]
  rw [hlb] at hgt ⊢
  clear hlb
  obtain ⟨N, HN⟩ : ∃ N, Hid (N = [e].length) := ⟨_, rfl⟩
  have hN1 : N ≤ 1 := by have := HN.out; simp at this; omega
  have HNUM : Hid (e.n < 134217728) := h.num 0 e rfl
  obtain ⟨rao, rcap, hrv⟩ := own_slice h.row
  rw [← HN.out] at hrv
  subst hrv
  have HH : Hid (Bl kHL w bk (.slice rao N rcap) [e] ∧ P0 kHL w e ∧ e.long = .slice none 0 0) := ⟨h, h0, hfre⟩
  obtain ⟨base, HBs⟩ : ∃ base, Hid (base = w.heap.size) := ⟨_, rfl⟩
  rw [← HBs.out]
  clear h h0 hfre
  go_enter Tryz.func55, Tryz.ntmps55
  go_wp2_with fail
  go_loopw [2] (fun ii wr => ∃ i : Nat, ii = .int .i64 i ∧ i ≤ N ∧ Hid ((i = 0 ∧ wr = w) ∨ (i = 1 ∧ FL base wr bk (.slice rao N rcap) e ∧ Fr e.l.ownBlock.toList w wr))) (fun ii _ => N - (RowKit.intOf ii).toNat)
  case atStart => exact ⟨0, rfl, Nat.zero_le _, Or.inl ⟨rfl, rfl⟩⟩
  case round =>
    obtain ⟨i, rfl, hiN, HI⟩ := hrel
    have hN2 : 1 ≤ N := by have := HN.out; simp at this; omega
    by_cases hi : i < N
    · have hi0 : i = 0 := by omega
      have HI0 : Hid (i = 0) := hi0
      obtain rfl : wr = w := by
        rcases HI.out with ⟨_, q⟩ | ⟨q, _⟩
        · exact q
        · omega
      clear HI
      obtain ⟨rb, rc, hrv, hrc, d0, d1, d2⟩ := HH.out.1.at i e (by rw [hi0]; rfl)
      have c1 : wr.cell? ⟨bk, 9, none⟩ = some (.slice rao N rcap) := HH.out.1.c1
      rw [← HN.out] at hrv hrc
      cases hrv
      clear hi0
      have hen : e.n < 134217728 := HNUM.out
      obtain ⟨n, vs, hOc, hn21⟩ := HH.out.2.1
      obtain ⟨lao, lcap, lf, hl, hnl, hlf, hO⟩ := hOc
      have HLe : Hid (e.l = .slice lao n lcap) := hl
      have HCu : Hid (n ≤ lcap ∧ lcap ≤ lf) := ⟨hnl, hlf⟩
      rw [hl] at d0 hgt
      clear hnl hlf
      obtain ⟨M, HM⟩ : ∃ M, Hid (M = e.n) := ⟨_, rfl⟩
      rw [HH.out.2.2] at d1
      rw [← HM.out] at d2 hen
      clear hl
      obtain ⟨B, HB⟩ : ∃ B, Hid (mWord M = B) := ⟨_, rfl⟩
      go_wp2_with fail
      obtain ⟨hv, hhv⟩ : ∃ hv, hv = wr.heap.size := ⟨_, rfl⟩
      obtain ⟨w1, hw1⟩ : ∃ w1, w1 = wr.alloc (Obj.cells #[.slice lao n lcap, .slice none 0 0, .int .i64 (M : Int)] 168) := ⟨_, rfl⟩
      rw [← hw1, ← hhv]
      have hF1 : Fr [] wr w1 := by rw [hw1]; exact Fr.alloc [] _ _
      have HF1 : Hid (Fr [] wr w1) := hF1
      have HTB : Hid (Tab w1) := htab.keep hF1 (by simp)
      have HGT : Hid (gTab ∉ (Value.slice lao n lcap).ownBlock.toList) := hgt
      have hvb : w1.heap[hv]? = some (.cells #[.slice lao n lcap, .slice none 0 0, .int .i64 (M : Int)] 168 (0, 0)) := by rw [hw1, hhv]; exact heap_alloc_new wr _
      have HLT : Hid (∀ k, (Value.slice lao n lcap).ownBlock = some k → k < base ∧ k ≠ hv) := by
        intro k hk
        have := (hO.lt k (by rw [ownBlock_cap lao n n lf lcap]; exact hk)).2
        have := HBs.out
        omega
      have HBz : Hid (base ≤ w1.heap.size) := by have := hF1.size; have := HBs.out; show _ ≤ _; omega
      have hO1 := owns_keep hO hF1 (by simp)
      have hvl := hO.1
      have HHw : Hid (Bl kHL wr bk (.slice (some ⟨rb, 0, none⟩) N rcap) [e] ∧ e.long = .slice none 0 0 ∧ (∀ k, e.l.ownBlock = some k → ∃ cs, wr.heap[k]? = some (.cells cs 23 (0, 0)))) := ⟨HH.out.1, HH.out.2.2, HH.out.2.1.type⟩
      clear hO hw1 hhv d0 d1 d2 c1 HH htab hgt
      have HI0' : Hid (FHi base B lao n lf lcap 0 [] vs w1 w1) := ⟨rfl, hvl, hO1, fun b hb => by simp at hb, Fr.refl _ _⟩
      clear hO1 hF1 hvl
      obtain ⟨w0, hw0⟩ : ∃ w0, w0 = wr := ⟨_, rfl⟩
      subst hw0
      go_loopw [4] (fun kk wr' => ∃ (k : Nat) (ms : List Nat) (R : List Value), kk = .int .i64 k ∧ k ≤ n ∧ Hid (FHi base B lao n lf lcap k ms R w1 wr')) (fun kk _ => n - (RowKit.intOf kk).toNat)
      case atStart => exact ⟨0, [], vs, rfl, Nat.zero_le _, HI0'⟩
      case round =>
        clear HI0'
        obtain ⟨k, ms, R, rfl, hkn, HR⟩ := hrel
        have hvb2 := HR.out.fr.keep hvb (by intro hm; exact (HLT.out hv (by simpa using hm)).2 rfl)
        by_cases hk : k < n
        · have hlt : (k : Int) < n := by omega
          obtain ⟨t, gc, hg, hgc⟩ := own_form HR.out.own (by omega)
          cases hg
          have htb : t < base := (HLT.out t rfl).1
          have hvt' : t ≠ hv := (HLT.out t rfl).2
          have hvt : hv ≠ t := fun e => hvt' e.symm
          obtain ⟨a, S, hRe, hS⟩ := fmore1 hk HR.out.rl
          subst hRe
          have HS : Hid (S.length = (n - (k + 1)) * 1) := hS
          have HC : Hid (∀ W, Fr [] wr W → W.cell? ⟨hv, 0, none⟩ = some (.slice (some ⟨t, 0, none⟩) n lcap) ∧ W.cell? ⟨hv, 2, none⟩ = some (.int .i64 (M : Int)) ∧ W.cell? ⟨t, k, none⟩ = some a ∧ W.frozen? ⟨t, k, none⟩ = false) := by
            intro W hf
            have hb := hf.keep hvb2 (by simp)
            have hO := owns_keep HR.out.own hf (by simp)
            have hlm := HR.out.len
            have hol := hO.1
            refine ⟨by rw [cell_of_row _ _ _ _ _ _ hb]; rfl, by rw [cell_of_row _ _ _ _ _ _ hb]; rfl, ?_, own_free hO _⟩
            rw [hO.cellAt k (by omega), List.getElem?_append_right (by simp; omega)]
            simp [hlm]
          have HP : Hid (∀ W b, Fr [] wr W → Mk9 W B b → base ≤ b → Hid (FHi base B (some ⟨t, 0, none⟩) n lf lcap (k + 1) (ms ++ [b]) S w1 (W.setCell ⟨t, k, none⟩ (.slice (some ⟨b, 0, none⟩) 1 1)))) := fun W b hf h1 h2 => HR.out.next HS.out htb hf h1 h2
          have HZ0 : Hid (base ≤ wr.heap.size) := Nat.le_trans HBz.out HR.out.fr.size
          obtain ⟨a0, a1, a2, a3⟩ := HC.out _ (Fr.refl [] wr)
          obtain ⟨b0, b1, b2, b3⟩ := HC.out _ (Fr.drew [] wr)
          have hMk := markHL_at M B wr.drew hen HB.out ((HTB.out.keep HR.out.fr HGT.out).keep (Fr.drew [] _) (by simp))
          clear hvb hvb2 hS
          go_wp2_with fail
          first
            | go_loud (go_region_held3 (fun W => W.cell? ⟨hv, 0, none⟩ = some (.slice (some ⟨t, 0, none⟩) n lcap) ∧ W.cell? ⟨hv, 2, none⟩ = some (.int .i64 (M : Int))) (go_keep)
                (first
                | (go_at_call 124; with_reducible refine hMk.mono ?_; rintro e w3 ⟨b, rfl, hF3, hm3, hb3⟩; obtain ⟨j0, j1, j2, j3⟩ := HC.out _ ((Fr.drew [] wr).then hF3))))
            | fail
          have p1 := HP.out _ b ((Fr.drew [] wr).then hF3) hm3 (Nat.le_trans HZ0.out hb3)
          clear hF3 hMk HP HC hm3 hb3
          go_wp2_with fail
          go_roundw
          case rel => exact ⟨k + 1, ms ++ [b], S, by simp, by omega, p1⟩
          case measure => simp [RowKit.intOf]; omega
        · have hle : (n : Int) ≤ k := by omega
          have v0 : wr.cell? ⟨hv, 0, none⟩ = some (.slice lao n lcap) := by rw [cell_of_row _ _ _ _ _ _ hvb2]; rfl
          have HFin : Hid ((FL base wr bk (.slice (some ⟨rb, 0, none⟩) N rcap) e ∧ Fr e.l.ownBlock.toList w0 wr)) := by
            have hkn' : k = n := by omega
            have hR0 : R = [] := List.eq_nil_of_length_eq_zero (by rw [HR.out.rl, hkn']; omega)
            have hown := HR.out.own
            rw [hR0, List.append_nil] at hown
            have hfr : Fr e.l.ownBlock.toList w0 wr := HF1.out.trans (by rw [HLe.out]; exact HR.out.fr) (by simp) (fun x hx _ => hx)
            refine ⟨⟨?_, ⟨n, ms, ?_, by rw [HR.out.len]; exact hkn', hn21, ?_⟩, HHw.out.2.1, Nat.le_trans HBz.out HR.out.fr.size⟩, hfr⟩
            · refine HHw.out.1.keep hfr ?_ ?_
              · intro hm
                obtain ⟨cs, hc⟩ := HHw.out.2.2 bk (by simpa using hm)
                exact (HHw.out.1.apart hc).1 rfl
              · intro k hk hm
                obtain ⟨cs, hc⟩ := HHw.out.2.2 k (by simpa using hm)
                exact (HHw.out.1.apart hc).2 hk
            · rw [HLe.out]
              exact ⟨lao, lcap, lf, rfl, HCu.out.1, HCu.out.2, hown⟩
            · have := HR.out.mks
              rw [← HB.out, HM.out] at this
              exact this
          have HI1 : Hid (i + 1 = 1) := by have := HI0.out; show _ = _; omega
          clear hvb hvb2 HR
          go_wp2_with fail
          go_roundw
          case rel => exact ⟨i + 1, by simp, by omega, Or.inr ⟨HI1.out, HFin.out⟩⟩
          case measure => simp [RowKit.intOf]; omega
    · have hi1 : i = N := by omega
      have HFin : Hid (FL base wr bk (.slice rao N rcap) e ∧ Fr e.l.ownBlock.toList w wr) := by
        rcases HI.out with ⟨q, _⟩ | ⟨_, q⟩
        · omega
        · exact q
      have c1 : wr.cell? ⟨bk, 9, none⟩ = some (.slice rao N rcap) := HFin.out.1.bl.c1
      subst hi1
      go_wp2_with fail
      go_end0
      exact ⟨rfl, HFin⟩
end Go.Proofs.YtldghdbfhikcoaaGreatDoor.Bq
