/- Texts of this claim laid together, one behind the other: contracts and plain lemmas; conditions as each names them. -/
import Derived.Test.YtomajifklajilaaGreatGp39
import Derived.Test.YtomajifklajilaaGreatGp36
import Derived.Test.YtomajifklajilaaGreatGp21
import Derived.Test.YtomajifklajilaaGreatGp35
/- The document's shard in memory: contracts of All, Size, place, at, Get; of none. Conditions as each names them. -/
namespace Go.Proofs.YtomajifklajilaaGreat
open Go.ChangeShapes Go.WideShapes Go.ChangeAt Go.RowKit Go.Lib Go.Maps
set_option linter.unusedVariables false
set_option linter.unusedSimpArgs false

/-- The block in which a key's versions lie. -/
def VB (x : Hd) (j : Nat) : Prop := 0 < x.vs.length ∧ ∃ a, x.vo = some a ∧ a.block = j
theorem HEach.blk {w : World} {x : Hd} {j : Nat} (h : HEach w x) (hj : VB x j) : j < w.heap.size := by
  obtain ⟨h0, a, e, rfl⟩ := hj
  obtain ⟨b, off, e2, hb, _⟩ := h.rs.lies h0
  rw [e] at e2
  cases e2
  exact hb
theorem HEach.keepS {S : List Nat} {w w' : World} {x : Hd} (h : HEach w x) (hf : Fr S w w') (hn : ∀ j, VB x j → j ∉ S) : HEach w' x := ⟨h.k, h.len, h.cp, h.rs.keepS hf fun h0 a e => hn _ ⟨h0, a, e, rfl⟩⟩
/-- Its block holds versions. -/
def HTy (w : World) (x : Hd) : Prop := ∀ j, VB x j → ∃ cur, w.heap[j]? = some (.cells cur 110 (0, 0))
theorem HTy.keepS {S : List Nat} {w w' : World} {x : Hd} (h : HTy w x) (hf : Fr S w w') (hn : ∀ j, VB x j → j ∉ S) : HTy w' x := fun j hj => by
  obtain ⟨cur, e⟩ := h j hj
  exact ⟨cur, hf.keep e (hn j hj)⟩
/-- A row of keys of one's own; their versions can be read. -/
structure HRo (w0 w : World) (ro : Option Addr) (N rc : Nat) (hs : List Hd) : Prop where
  len : N = hs.length
  row : w.ownsRow w0.heap.size 70 2 (.slice ro N rc) N (hdsC hs)
  each : ∀ x ∈ hs, HEach w x
  ty : ∀ x ∈ hs, HTy w x
theorem HRo.keep {w0 w w' : World} {ro : Option Addr} {N rc : Nat} {hs : List Hd} (h : HRo w0 w ro N rc hs) (hf : Fr [] w w') : HRo w0 w' ro N rc hs := ⟨h.len, owns_keepB h.row hf (by simp), fun x hx => (h.each x hx).keep hf, fun x hx => (h.ty x hx).keepS hf (by simp)⟩
theorem HRo.later {w0 w1 w : World} {ro : Option Addr} {N rc : Nat} {hs : List Hd} (h : HRo w1 w ro N rc hs) (hz : w0.heap.size ≤ w1.heap.size) : HRo w0 w ro N rc hs := ⟨h.len, own_base h.row hz, h.each, h.ty⟩
theorem HOut.ro {w0 w : World} {ro : Option Addr} {N rc : Nat} {hs : List Hd} (h : HOut w0 w ro N rc hs) (hl : LoOk hs) : HRo w0 w ro N rc hs := by
  refine ⟨h.len, h.row, fun x hx => ?_, fun x hx j hj => ?_⟩
  · have hV := h.each x hx
    have ho := hl.2 x hx
    exact ⟨by have := ho.1.2; omega, hV.len, hV.cap, hV.each ho.2.2⟩
  · obtain ⟨_, a, e, rfl⟩ := hj
    exact ((h.each x hx).blk a.block (by rw [e]; simp [Value.ownBlock])).2
theorem HRo.rs {w w' : World} {ro : Option Addr} {N rc : Nat} {hs : List Hd} (h : HRo w w' ro N rc hs) (hN : N ≤ 3518437208882) : HRs w' ro hs := by
  refine ⟨fun h0 => ?_, by rw [← h.len]; exact hN, h.each⟩
  rcases h.row.2 with ⟨_, h1⟩ | ⟨g, cap, cur, hv, _, hg, _, _, _, ht⟩
  · have := h.len; omega
  · cases hv
    refine ⟨g, 0, rfl, lt_of_block hg, fun i hi => ?_⟩
    obtain ⟨e1, e2⟩ := hdsC_get hs i hi
    have hN2 := h.len
    constructor
    · rw [cell_of_row _ _ _ _ _ _ hg, Nat.zero_add, ← Array.getElem?_toList, ← e1, ← ht, List.getElem?_take_of_lt (by omega)]
    · rw [cell_of_row _ _ _ _ _ _ hg, Nat.zero_add, ← Array.getElem?_toList, ← e2, ← ht, List.getElem?_take_of_lt (by omega)]
/-- The document's shard: its struct lies in block g, its keys are a row of its own. -/
structure KSh (w0 w : World) (g N lc : Nat) (lo : Option Addr) (hs : List Hd) : Prop where
  box : w.heap[g]? = some (.cells #[.slice lo N lc] 103 (0, 0))
  log : HRo w0 w lo N lc hs
  ok : LoOk hs
  few : N ≤ 3518437208882
  gn : w0.heap.size ≤ g
section
variable {w0 w w' : World} {g N lc : Nat} {lo : Option Addr} {hs : List Hd}
theorem KSh.lt (h : KSh w0 w g N lc lo hs) : g < w.heap.size := lt_of_block h.box
theorem KSh.c0 (h : KSh w0 w g N lc lo hs) : w.cell? ⟨g, 0, none⟩ = some (.slice lo N lc) := by simp [World.cell?, h.box]
theorem KSh.keep (h : KSh w0 w g N lc lo hs) (hf : Fr [] w w') : KSh w0 w' g N lc lo hs := ⟨hf.keep h.box (by simp), h.log.keep hf, h.ok, h.few, h.gn⟩
theorem KSh.rs (h : KSh w0 w g N lc lo hs) : HRs w lo hs := h.log.rs h.few
set_option maxHeartbeats 2000000 in
theorem kall_any (h : KSh w0 w g N lc lo hs) : Calls Tryz.prog 50 #[.pointer (some ⟨g, 0, none⟩)] w fun e w' => ∃ ro rc gs, e = .returned (.slice ro N rc) ∧ HOut w w' ro N rc gs ∧ gs.map Hd.kv = hs.map Hd.kv ∧ Fr [] w w' := by
  have c0 := h.c0
  go_enter Tryz.func50, Tryz.ntmps50
  go_wp2_with fail
  refine (kown_any lo N lc hs w h.rs h.log.len).mono ?_
  rintro e w1 ⟨ro, rc, gs, rfl, hO, hG, hF⟩
  go_wp2
  go_ret
  exact ⟨ro, rc, gs, rfl, hO, hG, hF⟩
set_option maxHeartbeats 2000000 in
theorem kall_nil (w : World) : Calls Tryz.prog 50 #[.pointer none] w fun e w' => e = .returned (.slice none 0 0) ∧ w = w' := by
  go_enter Tryz.func50, Tryz.ntmps50
  go_wp2
  go_ret
  exact ⟨rfl, rfl⟩
set_option maxHeartbeats 2000000 in
theorem kget_nil (w : World) (key : ByteArray) (mk : Int) : Calls Tryz.prog 35 #[.pointer none, .string key, .int .i64 mk] w fun e w' => e = .returned (.tuple #[.string ⟨#[]⟩, .bool false]) ∧ w = w' := by
  go_enter Tryz.func35, Tryz.ntmps35
  go_wp2
  go_ret2
  exact ⟨rfl, rfl⟩
/-- What place tells: the first that is not ahead of the key; is it the key's? -/
def PlH (hs : List Hd) (key : ByteArray) (i : Nat) (ok : Bool) : Prop := i ≤ hs.length ∧ (∀ j, j < i → Op.bytesLess (hs.getD j Hd.zero).key.toList key.toList = true) ∧ (i < hs.length → Op.bytesLess (hs.getD i Hd.zero).key.toList key.toList = false) ∧ (ok = true ↔ i < hs.length ∧ (hs.getD i Hd.zero).key = key)
set_option maxHeartbeats 4000000 in
set_option maxRecDepth 100000 in
theorem kplace_any (h : KSh w0 w g N lc lo hs) (key : ByteArray) : Calls Tryz.prog 71 #[.pointer (some ⟨g, 0, none⟩), .string key] w fun e w' => ∃ (i : Nat) (ok : Bool), e = .returned (.tuple #[.int .i64 (i : Int), .bool ok]) ∧ PlH hs key i ok ∧ Fr [] w w' := by
  have c0 := h.c0
  have HN : Hid (N = hs.length) := h.log.len
  have hfew := h.few
  have hR := h.rs
  clear h
  go_enter Tryz.func71, Tryz.ntmps71
  go_wp2_with fail
  go_loopw [6] (fun ii wr => ∃ (i : Nat), ii = .int .i64 i ∧ i ≤ N ∧ Hid (∀ j, j < i → Op.bytesLess (hs.getD j Hd.zero).key.toList key.toList = true) ∧ wr = w) (fun ii _ => N - (RowKit.intOf ii).toNat)
  case atStart => exact ⟨0, rfl, Nat.zero_le _, fun j hj => by omega, rfl⟩
  case round =>
    obtain ⟨i, rfl, hiN, HJ, rfl⟩ := hrel
    by_cases hi : i < N
    · have hi' : i < hs.length := by rw [← HN.out]; exact hi
      obtain ⟨b, off, e9, _, hc⟩ := hR.lies (by omega)
      subst e9
      obtain ⟨d0, d1⟩ := hc i hi'
      obtain ⟨x, hx⟩ : ∃ x, x = hs.getD i Hd.zero := ⟨_, rfl⟩
      rw [← hx] at d0 d1
      have HX : Hid (x = hs.getD i Hd.zero) := hx
      clear hc hx
      obtain ⟨k2, vo, M, cm, vs⟩ := x
      simp only at d0 d1
      cases hB : Op.bytesLess k2.toList key.toList with
      | true =>
        have HJ2 : Hid (∀ j, j < i + 1 → Op.bytesLess (hs.getD j Hd.zero).key.toList key.toList = true) := by
          intro j hj
          by_cases hji : j = i
          · subst hji; rw [← HX.out]; exact hB
          · exact HJ.out j (by omega)
        go_wp2
        go_roundw
        case rel => exact ⟨i + 1, by simp, by omega, HJ2, by first | rfl | trivial⟩
        case measure => simp [RowKit.intOf]; omega
      | false =>
        obtain ⟨Q, hQ⟩ : ∃ Q, (k2.toList == key.toList) = Q := ⟨_, rfl⟩
        have HPl : Hid (PlH hs key i Q) := by
          refine ⟨by omega, HJ.out, fun _ => by rw [← HX.out]; exact hB, ?_⟩
          rw [← hQ, ← HX.out, beq_iff_eq, tl_inj]
          exact ⟨fun h => ⟨hi', h⟩, fun h => h.2⟩
        go_wp2_with fail
        go_quiet (fail)
        all_goals (
          go_wp2
          go_ret2
          exact ⟨i, Q, rfl, HPl.out, Fr.drewN [] _ _⟩)
    · obtain rfl : i = N := by omega
      have HPl : Hid (PlH hs key i false) := by
        refine ⟨by have := HN.out; omega, HJ.out, fun h => by have := HN.out; omega, ?_⟩
        constructor
        · intro h; cases h
        · intro h; have := HN.out; omega
      go_wp2
      go_ret2
      exact ⟨i, false, rfl, HPl.out, Fr.refl _ _⟩
/-- What versions say at a mark: a value, if the one that stands is no drop. -/
def AtW (vs : List Vn) (mk : Int) (r : ByteArray) (o : Bool) : Prop := ∃ x ok c, AtTold vs mk x ok c ∧ o = (ok && !x.drop) ∧ r = if (ok && !x.drop) = true then x.val else ⟨#[]⟩
set_option maxHeartbeats 4000000 in
set_option maxRecDepth 100000 in
theorem kat_any (ao : Option Addr) (L cap : Nat) (mk : Int) (vs : List Vn) (w : World) (hV : VRs w ao vs) (hL : L = vs.length) :
    Calls Tryz.prog 73 #[.slice ao L cap, .int .i64 mk] w fun e w' => ∃ r o, e = .returned (.tuple #[.string r, .bool o]) ∧ AtW vs mk r o ∧ Fr [] w w' := by
  have HL : Hid (L = vs.length) := hL
  clear hL
  go_enter Tryz.func73, Tryz.ntmps73
  go_wp2_with fail
  refine (uat_any ao L cap mk vs w hV HL.out).mono ?_
  rintro e w1 ⟨x, ok, c, rfl, hA, hF1⟩
  have HA : Hid (AtTold vs mk x ok c) := hA
  obtain ⟨n, val, drop⟩ := x
  have hF2 : Fr [] w1 (w1.alloc (.cells #[.int .i64 n, .string val, .bool drop] 110)) := Fr.alloc _ _ _
  have hb := heap_alloc_new w1 (.cells #[.int .i64 n, .string val, .bool drop] 110)
  obtain ⟨w2, HW2⟩ : ∃ w2, Hid (w1.alloc (.cells #[.int .i64 n, .string val, .bool drop] 110) = w2) := ⟨_, rfl⟩
  rw [HW2.out] at hF2 hb
  obtain ⟨b, HB⟩ : ∃ b, Hid (w1.heap.size = b) := ⟨_, rfl⟩
  rw [HB.out] at hb
  have d1 : w2.cell? ⟨b, 1, none⟩ = some (.string val) := by rw [cell_of_row _ _ _ _ _ _ hb]; rfl
  have d2 : w2.cell? ⟨b, 2, none⟩ = some (.bool drop) := by rw [cell_of_row _ _ _ _ _ _ hb]; rfl
  have HG : Hid (Fr [] w w2) := hF1.then hF2
  clear hA hF1 hF2 hb hV
  go_upto_region 2 with fail
  rw [HW2.out, HB.out]
  clear HW2
  cases ok
  · go_wp2
    go_ret2
    exact ⟨_, _, rfl, ⟨_, _, _, HA.out, rfl, rfl⟩, HG.out⟩
  · cases drop
    · go_wp2
      go_ret2
      exact ⟨_, _, rfl, ⟨_, _, _, HA.out, rfl, rfl⟩, HG.out⟩
    · go_wp2
      go_ret2
      exact ⟨_, _, rfl, ⟨_, _, _, HA.out, rfl, rfl⟩, HG.out⟩
/-- What Get tells. -/
def GtH (hs : List Hd) (key : ByteArray) (mk : Int) (r : ByteArray) (o : Bool) : Prop := ∃ i ok, PlH hs key i ok ∧ ((ok = false ∧ r = ⟨#[]⟩ ∧ o = false) ∨ (ok = true ∧ AtW (hs.getD i Hd.zero).vs mk r o))
set_option maxHeartbeats 4000000 in
set_option maxRecDepth 100000 in
theorem kget_any (h : KSh w0 w g N lc lo hs) (key : ByteArray) (mk : Int) : Calls Tryz.prog 35 #[.pointer (some ⟨g, 0, none⟩), .string key, .int .i64 mk] w fun e w' => ∃ r o, e = .returned (.tuple #[.string r, .bool o]) ∧ GtH hs key mk r o ∧ Fr [] w w' := by
  have HK : Hid (KSh w0 w g N lc lo hs) := h
  have hfew := h.few
  clear h
  go_enter Tryz.func35, Tryz.ntmps35
  go_wp2_with fail
  refine (kplace_any HK.out key).mono ?_
  rintro e w1 ⟨i, ok, rfl, hP, hF1⟩
  have HP : Hid (PlH hs key i ok) := hP
  have c0 := (HK.out.keep hF1).c0
  have hR := (HK.out.keep hF1).rs
  have HN : Hid (N = hs.length) := HK.out.log.len
  clear hP
  cases ok
  · go_wp2
    go_ret2
    exact ⟨_, _, rfl, ⟨i, false, HP.out, Or.inl ⟨rfl, rfl, rfl⟩⟩, hF1⟩
  · have hi' : i < hs.length := (HP.out.2.2.2.1 rfl).1
    have hi : i < N := by rw [HN.out]; exact hi'
    obtain ⟨b, off, e9, _, hc⟩ := hR.lies (by omega)
    subst e9
    obtain ⟨d0, d1⟩ := hc i hi'
    have hE := hR.each _ (hgetD_mem hs i hi')
    obtain ⟨x, hx⟩ : ∃ x, x = hs.getD i Hd.zero := ⟨_, rfl⟩
    rw [← hx] at d0 d1 hE
    have HX : Hid (x = hs.getD i Hd.zero) := hx
    clear hc hx
    obtain ⟨k2, vo, M, cm, vs⟩ := x
    simp only at d0 d1
    have HV : Hid (VRs w1 vo vs) := hE.rs
    have HM : Hid (M = vs.length) := hE.len
    clear hE hR
    go_wp2_with fail
    refine (kat_any vo M cm mk vs w1 HV.out HM.out).mono ?_
    rintro e w2 ⟨r, o, rfl, hA, hF2⟩
    have HG : Hid (GtH hs key mk r o ∧ Fr [] w w2) := ⟨⟨i, true, HP.out, Or.inr ⟨rfl, by rw [← HX.out]; exact hA⟩⟩, hF1.then hF2⟩
    clear hA hF1 hF2
    go_wp2
    go_ret2
    exact ⟨r, o, rfl, HG.out⟩
end
end Go.Proofs.YtomajifklajilaaGreat
/- A list of keys, rising, as a function of the key: what the document's calls do to it. Conditions as each names them. -/
namespace Go.Proofs.YtomajifklajilaaGreat
open Go.ChangeShapes Go.WideShapes Go.ChangeAt Go.RowKit Go.Lib Go.Maps
set_option linter.unusedVariables false
set_option linter.unusedSimpArgs false

theorem mOf_ne {hs : List Hd} {k : ByteArray} (h : mOf hs k ≠ []) : ∃ x ∈ hs, x.key = k := by
  apply Classical.byContradiction
  intro hn
  exact h (mOf_off fun x hx e => hn ⟨x, hx, e⟩)
/-- What a rising list says is just itself. -/
theorem mOf_pk {hs : List Hd} (h : LoOk hs) : PkT (mOf hs) (mOf hs) hs :=
  ⟨h.1, fun x hx => ⟨(mOf_mem h hx).symm, by rw [mOf_mem h hx]; exact (h.2 x hx).2.1, by rw [mOf_mem h hx]; exact (h.2 x hx).2.1⟩, fun k hk _ => mOf_ne hk⟩
theorem mOf_ok {hs : List Hd} (h : LoOk hs) (k : ByteArray) : okV (mOf hs k) := by
  by_cases hk : mOf hs k = []
  · rw [hk]; exact okV_nil
  · obtain ⟨x, hx, rfl⟩ := mOf_ne hk
    rw [mOf_mem h hx]
    exact (h.2 x hx).2.2
theorem mOf_is {hs : List Hd} (h : LoOk hs) {M : ByteArray → List Vn} (h1 : ∀ x ∈ hs, M x.key = x.vs) (h2 : ∀ k, (∀ x ∈ hs, x.key ≠ k) → M k = []) : mOf hs = M := by
  funext k
  by_cases hk : ∃ x ∈ hs, x.key = k
  · obtain ⟨x, hx, rfl⟩ := hk
    rw [mOf_mem h hx, h1 x hx]
  · have hn : ∀ x ∈ hs, x.key ≠ k := fun x hx e => hk ⟨x, hx, e⟩
    rw [mOf_off hn, h2 k hn]
theorem key_eq {a b : ByteArray} (h1 : Op.bytesLess a.toList b.toList = false) (h2 : Op.bytesLess b.toList a.toList = false) : a = b := (tl_inj _ _).1 (bl_eq h1 h2)
/-- A key's place. -/
theorem PlH.at {hs : List Hd} {key : ByteArray} {i : Nat} (h : PlH hs key i true) (hl : LoOk hs) : i < hs.length ∧ (hs.getD i Hd.zero).key = key ∧ mOf hs key = (hs.getD i Hd.zero).vs := by
  obtain ⟨h1, h2⟩ := h.2.2.2.1 rfl
  refine ⟨h1, h2, ?_⟩
  rw [← h2]
  exact mOf_mem hl (hgetD_mem hs i h1)
theorem PlH.gt {hs : List Hd} {key : ByteArray} {i : Nat} (h : PlH hs key i false) (hl : LoOk hs) : ∀ x ∈ hs.drop i, Op.bytesLess key.toList x.key.toList = true := by
  intro x hx
  obtain ⟨j, hj, rfl⟩ := List.getElem_of_mem hx
  rw [List.length_drop] at hj
  have hi : i < hs.length := by omega
  have h3 := h.2.2.1 hi
  have hne : (hs.getD i Hd.zero).key ≠ key := fun e => by have := h.2.2.2.2 ⟨hi, e⟩; cases this
  have h4 : Op.bytesLess key.toList (hs.getD i Hd.zero).key.toList = true := by
    cases hb : Op.bytesLess key.toList (hs.getD i Hd.zero).key.toList with
    | true => rfl
    | false => exact absurd (key_eq h3 hb) hne
  rw [List.getElem_drop]
  by_cases hj0 : j = 0
  · subst hj0
    simpa [List.getD, hi] using h4
  · have h5 := List.pairwise_iff_getElem.1 hl.1 i (i + j) hi (by omega) (by omega)
    exact bl_trans (by simpa [List.getD, hi] using h4) h5
theorem PlH.lt {hs : List Hd} {key : ByteArray} {i : Nat} {ok : Bool} (h : PlH hs key i ok) : ∀ x ∈ hs.take i, Op.bytesLess x.key.toList key.toList = true := by
  intro x hx
  obtain ⟨j, hj, rfl⟩ := List.getElem_of_mem hx
  rw [List.length_take] at hj
  have h1 := h.2.1 j (by omega)
  have hjl : j < hs.length := by omega
  rw [List.getElem_take]
  simpa [List.getD, hjl] using h1
theorem PlH.off {hs : List Hd} {key : ByteArray} {i : Nat} (h : PlH hs key i false) (hl : LoOk hs) : ∀ x ∈ hs, x.key ≠ key := by
  intro x hx e
  rw [← List.take_append_drop i hs] at hx
  rcases List.mem_append.1 hx with h1 | h1
  · have := h.lt x h1
    rw [e, bl_irrefl] at this
    cases this
  · have := h.gt hl x h1
    rw [e, bl_irrefl] at this
    cases this
/-- One key more, in its place. -/
theorem LoOk.ins {hs : List Hd} {x : Hd} {i : Nat} (hl : LoOk hs) (h : PlH hs x.key i false) (hx : okH x) : LoOk (hs.take i ++ [x] ++ hs.drop i) ∧ mOf (hs.take i ++ [x] ++ hs.drop i) = updM (mOf hs) x.key x.vs := by
  have hL : LoOk (hs.take i ++ [x] ++ hs.drop i) := by
    refine ⟨?_, fun y hy => ?_⟩
    · rw [List.pairwise_append, List.pairwise_append]
      refine ⟨⟨hl.1.sublist (List.take_sublist _ _), by simp, fun a ha b hb => ?_⟩, hl.1.sublist (List.drop_sublist _ _), fun a ha b hb => ?_⟩
      · simp at hb
        subst hb
        exact h.lt a ha
      · rcases List.mem_append.1 ha with h1 | h1
        · exact bl_trans (h.lt a h1) (h.gt hl b hb)
        · simp at h1
          subst h1
          exact h.gt hl b hb
    · rcases List.mem_append.1 hy with h1 | h1
      · rcases List.mem_append.1 h1 with h2 | h2
        · exact hl.2 y (List.mem_of_mem_take h2)
        · simp at h2
          subst h2
          exact hx
      · exact hl.2 y (List.mem_of_mem_drop h1)
  have hmem : ∀ y, y ∈ hs.take i ++ [x] ++ hs.drop i ↔ y = x ∨ y ∈ hs := fun y => by
    have e : y ∈ hs ↔ y ∈ hs.take i ∨ y ∈ hs.drop i := by rw [← List.mem_append, List.take_append_drop]
    rw [e]
    simp only [List.mem_append, List.mem_singleton]
    constructor
    · rintro ((h1 | h1) | h1)
      · exact Or.inr (Or.inl h1)
      · exact Or.inl h1
      · exact Or.inr (Or.inr h1)
    · rintro (h1 | h1 | h1)
      · exact Or.inl (Or.inr h1)
      · exact Or.inl (Or.inl h1)
      · exact Or.inr h1
  refine ⟨hL, mOf_is hL (fun y hy => ?_) (fun k hk => ?_)⟩
  · unfold updM
    rcases (hmem y).1 hy with rfl | h1
    · rw [if_pos rfl]
    · rw [if_neg (h.off hl y h1)]
      exact mOf_mem hl h1
  · unfold updM
    rw [if_neg (fun e => hk x ((hmem x).2 (Or.inl rfl)) e.symm)]
    exact mOf_off fun y hy => hk y ((hmem y).2 (Or.inr hy))
/-- Other versions at a place. -/
theorem LoOk.set {hs : List Hd} {x : Hd} {i : Nat} (hl : LoOk hs) (hi : i < hs.length) (hk : x.key = (hs.getD i Hd.zero).key) (hx : okH x) : LoOk (hs.set i x) ∧ mOf (hs.set i x) = updM (mOf hs) x.key x.vs := by
  have hk' : x.key = hs[i].key := by rw [hk]; simp [List.getD, hi]
  have hkey : ∀ j (h : j < (hs.set i x).length), (hs.set i x)[j].key = (hs[j]'(by simpa using h)).key := fun j h => by
    rw [List.getElem_set]
    split
    · rename_i e; subst e; exact hk'
    · rfl
  have hL : LoOk (hs.set i x) := by
    refine ⟨?_, fun y hy => ?_⟩
    · rw [List.pairwise_iff_getElem]
      intro a b ha hb hab
      rw [hkey a ha, hkey b hb]
      exact List.pairwise_iff_getElem.1 hl.1 a b _ _ hab
    · rcases List.mem_or_eq_of_mem_set hy with h1 | h1
      · exact hl.2 y h1
      · rw [h1]; exact hx
  refine ⟨hL, mOf_is hL (fun y hy => ?_) (fun k hk2 => ?_)⟩
  · unfold updM
    obtain ⟨j, hj, rfl⟩ := List.getElem_of_mem hy
    have hj' : j < hs.length := by simpa using hj
    by_cases hji : i = j
    · subst hji
      rw [List.getElem_set_self, if_pos rfl]
    · rw [List.getElem_set_ne hji]
      have hne : hs[j].key ≠ x.key := fun e => by
        rw [hk'] at e
        rcases Nat.lt_or_ge i j with h1 | h1
        · have := List.pairwise_iff_getElem.1 hl.1 i j hi hj' h1
          rw [e, bl_irrefl] at this
          cases this
        · have := List.pairwise_iff_getElem.1 hl.1 j i hj' hi (by omega)
          rw [e, bl_irrefl] at this
          cases this
      rw [if_neg hne]
      exact mOf_mem hl (List.getElem_mem _)
  · unfold updM
    have hin : x ∈ hs.set i x := List.mem_set hi x
    rw [if_neg (fun e => hk2 x hin e.symm)]
    refine mOf_off fun y hy e => ?_
    obtain ⟨j, hj, rfl⟩ := List.getElem_of_mem hy
    have hj' : j < (hs.set i x).length := by simpa using hj
    exact hk2 _ (List.getElem_mem hj') (by rw [hkey j hj']; exact e)
end Go.Proofs.YtomajifklajilaaGreat
/- The document's shard: contract of Size. Conditions as each names them. -/
namespace Go.Proofs.YtomajifklajilaaGreat
open Go.ChangeShapes Go.WideShapes Go.ChangeAt Go.RowKit Go.Lib Go.Maps
set_option linter.unusedVariables false
set_option linter.unusedSimpArgs false

/-- How many versions there are. -/
def szH (hs : List Hd) : Nat := (hs.map fun h => h.vs.length).sum
theorem szH_append (a b : List Hd) : szH (a ++ b) = szH a + szH b := by simp [szH]
theorem szH_le (hs : List Hd) (h : ∀ x ∈ hs, x.vs.length ≤ 65536) : szH hs ≤ hs.length * 65536 := by
  induction hs with
  | nil => simp [szH]
  | cons a r ih =>
    have h1 := ih (fun x hx => h x (List.mem_cons_of_mem _ hx))
    have h2 := h a (by simp)
    simp only [szH, List.map_cons, List.sum_cons, List.length_cons] at h1 ⊢
    omega
set_option maxHeartbeats 2000000 in
theorem kscan_nil (w : World) (key en : ByteArray) (mk : Int) : Calls Tryz.prog 36 #[.pointer none, .string key, .string en, .int .i64 mk] w fun e w' => e = .returned (.slice none 0 0) ∧ w = w' := by
  go_enter Tryz.func36, Tryz.ntmps36
  go_wp2
  go_ret
  exact ⟨rfl, rfl⟩
set_option maxHeartbeats 2000000 in
theorem kcollect_nil (w : World) (n : Int) : Calls Tryz.prog 37 #[.pointer none, .int .i64 n] w fun e w' => e = .returned (.int .i64 0) ∧ w = w' := by
  go_enter Tryz.func37, Tryz.ntmps37
  go_wp2
  go_ret
  exact ⟨rfl, rfl⟩
set_option maxHeartbeats 2000000 in
theorem kdump_nil (w : World) (mk : Int) (bo : Option Addr) (M cb : Nat) : Calls Tryz.prog 38 #[.pointer none, .int .i64 mk, .slice bo M cb] w fun e w' => e = .returned (.slice none 0 0) ∧ w = w' := by
  go_enter Tryz.func38, Tryz.ntmps38
  go_wp2
  go_ret
  exact ⟨rfl, rfl⟩
end Go.Proofs.YtomajifklajilaaGreat
/- A list of keys, rising: what Collect, Scan, Dump and Size make of it. Conditions as each names them. -/
namespace Go.Proofs.YtomajifklajilaaGreat
open Go.ChangeShapes Go.WideShapes Go.ChangeAt Go.RowKit Go.Lib Go.Maps
set_option linter.unusedVariables false
set_option linter.unusedSimpArgs false

theorem hget_eq (hs : List Hd) (j : Nat) (h : j < hs.length) : hs.getD j Hd.zero = hs[j] := by simp [List.getD, h]
theorem LoOk.keys {hs : List Hd} (h : LoOk hs) : (hs.map (·.key)).Nodup := by
  rw [List.Nodup, List.pairwise_map]
  exact h.1.imp fun {a b} hab e => by rw [e, bl_irrefl] at hab; cases hab
theorem LoOk.keyMem {hs : List Hd} (h : LoOk hs) (k : ByteArray) : k ∈ hs.map (·.key) ↔ mOf hs k ≠ [] := by
  constructor
  · intro hk
    obtain ⟨x, hx, rfl⟩ := List.mem_map.1 hk
    rw [mOf_mem h hx]
    exact (h.2 x hx).2.1
  · intro hk
    obtain ⟨x, hx, e⟩ := mOf_ne hk
    exact List.mem_map.2 ⟨x, hx, e⟩
theorem LoOk.sum {hs : List Hd} (h : LoOk hs) (f : List Vn → Nat) : ((hs.map (·.key)).map fun k => f (mOf hs k)).sum = (hs.map fun x => f x.vs).sum := by
  rw [List.map_map]
  congr 1
  refine List.map_congr_left fun x hx => ?_
  simp only [Function.comp]
  rw [mOf_mem h hx]
theorem szH_is {hs : List Hd} (h : LoOk hs) : SzT (mOf hs) (szH hs) := ⟨hs.map (fun x : Hd => x.key), h.keys, h.keyMem, by unfold szH; exact (h.sum List.length).symm⟩
/-- How many go at a Collect. -/
def goH (hs : List Hd) (k : Int) : Nat := (hs.map fun x => colN x.vs k).sum
theorem goH_is {hs : List Hd} (h : LoOk hs) (k : Int) : GoT (mOf hs) k (goH hs k) := ⟨hs.map (fun x : Hd => x.key), h.keys, fun s => h.keyMem s, by unfold goH; exact (h.sum fun vs => colN vs k).symm⟩
theorem goH_snoc (hs : List Hd) (x : Hd) (k : Int) : goH (hs ++ [x]) k = goH hs k + colN x.vs k := by simp [goH]
/-- The first i collected. -/
structure ColI (hs gs : List Hd) (k : Int) (i : Nat) : Prop where
  len : gs.length = hs.length
  key : ∀ j, j < hs.length → (gs.getD j Hd.zero).key = (hs.getD j Hd.zero).key
  done : ∀ j, j < i → j < hs.length → (gs.getD j Hd.zero).vs = colV (hs.getD j Hd.zero).vs k
  rest : ∀ j, i ≤ j → j < hs.length → gs.getD j Hd.zero = hs.getD j Hd.zero
theorem ColI.refl (hs : List Hd) (k : Int) : ColI hs hs k 0 := ⟨rfl, fun _ _ => rfl, fun j h => by omega, fun _ _ _ => rfl⟩
theorem ColI.next {hs gs : List Hd} {k : Int} {i : Nat} (h : ColI hs gs k i) (hi : i < hs.length) (x : Hd) (hk : x.key = (hs.getD i Hd.zero).key) (hv : x.vs = colV (hs.getD i Hd.zero).vs k) : ColI hs (gs.set i x) k (i + 1) := by
  have hg : ∀ j, (gs.set i x).getD j Hd.zero = if i = j then x else gs.getD j Hd.zero := fun j => by
    have := h.len
    by_cases hj : j < gs.length
    · by_cases e : i = j
      · subst e; rw [if_pos rfl]; simp [List.getD, hj]
      · rw [if_neg e]; simp [List.getD, List.getElem?_set, e]
    · have e : i ≠ j := by omega
      rw [if_neg e]; simp [List.getD, List.getElem?_set, e]
  refine ⟨by rw [List.length_set]; exact h.len, fun j hj => ?_, fun j h1 h2 => ?_, fun j h1 h2 => ?_⟩
  · rw [hg j]
    split
    · rename_i e; subst e; exact hk
    · exact h.key j hj
  · rw [hg j]
    split
    · rename_i e; subst e; exact hv
    · exact h.done j (by omega) h2
  · rw [hg j, if_neg (by omega)]
    exact h.rest j (by omega) h2
theorem ColI.ok {hs gs : List Hd} {k : Int} {i : Nat} (h : ColI hs gs k i) (hl : LoOk hs) : LoOk gs := by
  have hn := h.len
  refine ⟨?_, fun y hy => ?_⟩
  · rw [List.pairwise_iff_getElem]
    intro a b ha hb hab
    have e1 := h.key a (by omega)
    have e2 := h.key b (by omega)
    rw [hget_eq _ _ ha, hget_eq _ _ (by omega)] at e1
    rw [hget_eq _ _ hb, hget_eq _ _ (by omega)] at e2
    rw [e1, e2]
    exact List.pairwise_iff_getElem.1 hl.1 a b _ _ hab
  · obtain ⟨j, hj, rfl⟩ := List.getElem_of_mem hy
    have hj' : j < hs.length := by omega
    have ho := hl.2 _ (hgetD_mem hs j hj')
    rw [← hget_eq _ _ hj]
    by_cases hji : j < i
    · refine ⟨by rw [h.key j hj']; exact ho.1, ?_, ?_⟩
      · rw [h.done j hji hj']; exact (colV_ne k).2 ho.2.1
      · rw [h.done j hji hj']; exact colV_ok ho.2.2 k
    · rw [h.rest j (by omega) hj']; exact ho
theorem ColI.is {hs gs : List Hd} {k : Int} (h : ColI hs gs k hs.length) (hl : LoOk hs) : LoOk gs ∧ mOf gs = fun s => colV (mOf hs s) k := by
  have hL := h.ok hl
  have hn := h.len
  refine ⟨hL, mOf_is hL (fun x hx => ?_) (fun s hs2 => ?_)⟩
  · obtain ⟨j, hj, rfl⟩ := List.getElem_of_mem hx
    have hj' : j < hs.length := by omega
    rw [← hget_eq _ _ hj]
    show colV (mOf hs (gs.getD j Hd.zero).key) k = _
    rw [h.key j hj', h.done j hj' hj', mOf_mem hl (hgetD_mem hs j hj')]
  · show colV (mOf hs s) k = []
    rw [mOf_off fun x hx e => ?_]
    · exact colV_nil k
    · obtain ⟨j, hj, rfl⟩ := List.getElem_of_mem hx
      have hj' : j < gs.length := by omega
      refine hs2 _ (List.getElem_mem hj') ?_
      rw [← hget_eq _ _ hj', h.key j hj, hget_eq _ _ hj]
      exact e
/-- What a Dump has of one. -/
def duOf (k : Int) (ns : List Int) (x : Hd) : Option (ByteArray × List Vn) := if dmp x.vs k ns = [] then none else some (x.key, dmp x.vs k ns)
theorem duOf_is {hs gs : List Hd} (hl : LoOk hs) (k : Int) (ns : List Int) (h : gs.map hkv = hs.filterMap (duOf k ns)) : PkT (mOf hs) (fun s => dmp (mOf hs s) k ns) gs := by
  have hin : ∀ y ∈ gs, ∃ x ∈ hs, dmp x.vs k ns ≠ [] ∧ y.key = x.key ∧ y.vs = dmp x.vs k ns := fun y hy => by
    have h1 : hkv y ∈ gs.map hkv := List.mem_map.2 ⟨y, hy, rfl⟩
    rw [h] at h1
    obtain ⟨x, hx, e⟩ := List.mem_filterMap.1 h1
    unfold duOf at e
    split at e
    · cases e
    · rename_i hd
      simp only [Option.some.injEq, hkv, Prod.mk.injEq] at e
      exact ⟨x, hx, hd, e.1.symm, e.2.symm⟩
  refine ⟨?_, fun y hy => ?_, fun s h1 h2 => ?_⟩
  · have h1 : (gs.map hkv).Pairwise fun a b => Op.bytesLess a.1.toList b.1.toList = true := by
      rw [h, List.pairwise_filterMap]
      refine hl.1.imp fun {a b} hab a' ha b' hb => ?_
      unfold duOf at ha hb
      split at ha
      · cases ha
      · split at hb
        · cases hb
        · simp only [Option.some.injEq] at ha hb
          subst ha
          subst hb
          exact hab
    rw [List.pairwise_map] at h1
    exact h1
  · obtain ⟨x, hx, hd, e1, e2⟩ := hin y hy
    have e3 := mOf_mem hl hx
    refine ⟨?_, ?_, ?_⟩
    · show y.vs = dmp (mOf hs y.key) k ns
      rw [e1, e3, e2]
    · show dmp (mOf hs y.key) k ns ≠ []
      rw [e1, e3]; exact hd
    · rw [e1, e3]; exact (hl.2 x hx).2.1
  · obtain ⟨x, hx, rfl⟩ := mOf_ne h1
    rw [mOf_mem hl hx] at h2
    have h3 : (x.key, dmp x.vs k ns) ∈ gs.map hkv := by
      rw [h]
      refine List.mem_filterMap.2 ⟨x, hx, ?_⟩
      unfold duOf
      rw [if_neg h2]
    obtain ⟨y, hy, e⟩ := List.mem_map.1 h3
    simp only [hkv, Prod.mk.injEq] at e
    exact ⟨y, hy, e.1⟩
/-- What a Scan has of one. -/
def scOf (key en : ByteArray) (k : Int) (x : Hd) : Option Pr := if inS key en x.key = true then (valAt x.vs k).map fun v => (x.key, v) else none
theorem scOf_is {hs : List Hd} (hl : LoOk hs) (key en : ByteArray) (k : Int) : Is (atMark (mOf hs) key en k) (hs.filterMap (scOf key en k)) := by
  have hone : ∀ x y : Pr, ∀ a : Hd, scOf key en k a = some x → x.1 = a.key ∧ inS key en a.key = true ∧ valAt a.vs k = some x.2 := fun x y a h => by
    unfold scOf at h
    split at h
    · rename_i hi
      cases hv : valAt a.vs k with
      | none => rw [hv] at h; cases h
      | some v =>
        rw [hv] at h
        simp only [Option.map_some, Option.some.injEq] at h
        subst h
        exact ⟨rfl, hi, rfl⟩
    · cases h
  refine ⟨?_, fun p => ?_⟩
  · unfold Inc
    rw [List.pairwise_filterMap]
    refine hl.1.imp fun {a b} hab a' ha b' hb => ?_
    rw [(hone a' a' a ha).1, (hone b' b' b hb).1]
    exact hab
  · rw [List.mem_filterMap]
    unfold atMark
    constructor
    · rintro ⟨x, hx, e⟩
      obtain ⟨e1, e2, e3⟩ := hone p p x e
      rw [e1, if_pos e2, mOf_mem hl hx]
      exact e3
    · intro h
      split at h
      · rename_i hi
        have hne : mOf hs p.1 ≠ [] := fun e => by rw [e, valAt_nil] at h; cases h
        obtain ⟨x, hx, e⟩ := mOf_ne hne
        refine ⟨x, hx, ?_⟩
        rw [← e, mOf_mem hl hx] at h
        unfold scOf
        rw [e, if_pos hi, h]
        rfl
      · cases h
end Go.Proofs.YtomajifklajilaaGreat
