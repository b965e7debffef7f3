/- A row of entries as it is read; the document's place of a key in entries. Conditions as each names them. -/
import Derived.Test.YtfminnmfdogopaaScn
import Derived.BigQuiet
namespace Go.Proofs.Ytfminnmfdogopaa
open Go.ChangeShapes Go.WideShapes Go.ChangeAt Go.RowKit Go.Lib Go.Maps Go.Sort
set_option linter.unusedVariables false
set_option linter.unusedSimpArgs false

/-- A row of entries can be read. -/
structure ERs (w : World) (ro : Option Addr) (ps : List Pr) : Prop where
  few : ps.length < 1099511627776
  lies : 0 < ps.length → ∃ g cur, ro = some ⟨g, 0, none⟩ ∧ w.heap[g]? = some (.cells cur 47 (0, 0)) ∧ cur.toList.take (ps.length * 2) = celsE ps
theorem ERs.keep {w w' : World} {ro : Option Addr} {ps : List Pr} (h : ERs w ro ps) (hf : Fr [] w w') : ERs w' ro ps :=
  ⟨h.few, fun h0 => by obtain ⟨g, cur, e, hb, ht⟩ := h.lies h0; exact ⟨g, cur, e, hf.keep hb (by simp), ht⟩⟩
theorem ers_of {w : World} {base : Nat} {ro : Option Addr} {N rc : Nat} {ps : List Pr} (h : w.ownsRow base 47 2 (.slice ro N rc) N (celsE ps)) (hN : N = ps.length) (hf : ps.length < 1099511627776) : ERs w ro ps := by
  refine ⟨hf, fun h0 => ?_⟩
  rcases h.2 with ⟨_, h1⟩ | ⟨g, cap, cur, hv, _, hg, _, _, _, ht⟩
  · omega
  · cases hv
    exact ⟨g, cur, rfl, hg, by rw [← hN]; exact ht⟩
def e0 : Pr := (⟨#[]⟩, ⟨#[]⟩)
theorem celsE_get (ps : List Pr) (i : Nat) (h : i < ps.length) : (celsE ps)[i * 2]? = some (.string (ps.getD i e0).1) ∧ (celsE ps)[i * 2 + 1]? = some (.string (ps.getD i e0).2) := by
  have a := celsE_at ps (i * 2) (by omega)
  have b := celsE_at ps (i * 2 + 1) (by omega)
  have e1 : i * 2 / 2 = i := by omega
  have e2 : i * 2 % 2 = 0 := by omega
  have e3 : (i * 2 + 1) / 2 = i := by omega
  have e4 : (i * 2 + 1) % 2 = 1 := by omega
  rw [e1, e2] at a
  rw [e3, e4] at b
  rw [a, b]
  simp [celE, List.getD, h]
theorem ERs.at {w : World} {ro : Option Addr} {ps : List Pr} (h : ERs w ro ps) (i : Nat) (hi : i < ps.length) : ∃ g, ro = some ⟨g, 0, none⟩ ∧ w.cell? ⟨g, i * 2, none⟩ = some (.string (ps.getD i e0).1) ∧ w.cell? ⟨g, i * 2 + 1, none⟩ = some (.string (ps.getD i e0).2) := by
  obtain ⟨g, cur, e, hb, ht⟩ := h.lies (by omega)
  obtain ⟨a, b⟩ := celsE_get ps i hi
  refine ⟨g, e, ?_, ?_⟩
  · rw [cell_of_row _ _ _ _ _ _ hb, ← Array.getElem?_toList, ← a, ← ht, List.getElem?_take_of_lt (by omega)]
  · rw [cell_of_row _ _ _ _ _ _ hb, ← Array.getElem?_toList, ← b, ← ht, List.getElem?_take_of_lt (by omega)]
/-- What place tells: the first that is not ahead of the key; is it the key's? -/
structure PlT (ps : List Pr) (key : ByteArray) (i : Nat) (ok : Bool) : Prop where
  le : i ≤ ps.length
  lo : ∀ j, j < i → Op.bytesLess (ps.getD j e0).1.toList key.toList = true
  hi : ∀ j, i ≤ j → j < ps.length → Op.bytesLess (ps.getD j e0).1.toList key.toList = false
  is : ok = true ↔ i < ps.length ∧ (ps.getD i e0).1 = key
theorem inc_getD {ps : List Pr} (h : Inc ps) {i j : Nat} (hij : i < j) (hj : j < ps.length) : Op.bytesLess (ps.getD i e0).1.toList (ps.getD j e0).1.toList = true := by
  have := List.pairwise_iff_getElem.1 h i j (by omega) hj hij
  simpa [List.getD, hj, show i < ps.length by omega] using this
set_option maxHeartbeats 4000000 in
set_option maxRecDepth 100000 in
theorem zplace_any (ro : Option Addr) (N rc : Nat) (ps : List Pr) (key : ByteArray) (w : World) (hE : ERs w ro ps) (hN : N = ps.length) (hInc : Inc ps) :
    Calls Try.prog 34 #[.slice ro N rc, .string key] w fun e w' => ∃ (i : Nat) (ok : Bool), e = .returned (.tuple #[.int .i64 (i : Int), .bool ok]) ∧ PlT ps key i ok ∧ Fr [] w w' := by
  have HN : Hid (N = ps.length) := hN
  have HI : Hid (Inc ps) := hInc
  have hNf : N < 1099511627776 := by rw [hN]; exact hE.few
  clear hN hInc
  go_enter Try.func34, Try.ntmps34
  go_wp2_with fail
  go_loop [6, 7, 8] (fun ll hh _ => ∃ (lo hi : Nat), ll = .int .i64 lo ∧ hh = .int .i64 hi ∧ lo ≤ hi ∧ hi ≤ N ∧ Hid (∀ j, j < lo → Op.bytesLess (ps.getD j e0).1.toList key.toList = true) ∧ Hid (∀ j, hi ≤ j → j < ps.length → Op.bytesLess (ps.getD j e0).1.toList key.toList = false)) (fun ll hh _ => (intOf hh).toNat - (intOf ll).toNat)
  case atStart => exact ⟨0, N, rfl, rfl, Nat.zero_le _, Nat.le_refl _, fun j hj => by omega, fun j h1 h2 => by have := HN.out; omega⟩
  case round =>
    obtain ⟨lo, hi, rfl, rfl, hlh, hhN, HLo, HHi⟩ := hrel
    by_cases hlt : lo < hi
    · have hmb : lo ≤ (lo + hi) / 2 ∧ (lo + hi) / 2 < hi := by omega
      obtain ⟨g, rfl, d0, d1⟩ := hE.at ((lo + hi) / 2) (by have := HN.out; omega)
      obtain ⟨y, hyy⟩ : ∃ y, y = ps.getD ((lo + hi) / 2) e0 := ⟨_, rfl⟩
      rw [← hyy] at d0 d1
      have HY : Hid (y = ps.getD ((lo + hi) / 2) e0) := hyy
      clear hyy
      obtain ⟨k2, v2⟩ := y
      simp only at d0 d1
      cases hB : Op.bytesLess k2.toList key.toList with
      | true =>
        have HLo2 : Hid (∀ j, j < (lo + hi) / 2 + 1 → Op.bytesLess (ps.getD j e0).1.toList key.toList = true) := by
          intro j hj
          by_cases hji : j = (lo + hi) / 2
          · subst hji; rw [← HY.out]; exact hB
          · have a := inc_getD HI.out (show j < (lo + hi) / 2 by omega) (by have := HN.out; omega)
            rw [← HY.out] at a
            exact bl_trans a hB
        go_wp2
        refine ⟨⟨(lo + hi) / 2 + 1, hi, congrArg _ (by omega), rfl, by omega, hhN, HLo2, HHi⟩, ?_⟩
        simp only [intOf]
        omega
      | false =>
        have HHi2 : Hid (∀ j, (lo + hi) / 2 ≤ j → j < ps.length → Op.bytesLess (ps.getD j e0).1.toList key.toList = false) := by
          intro j h1 h2
          by_cases hji : j = (lo + hi) / 2
          · subst hji; rw [← HY.out]; exact hB
          · have a := inc_getD HI.out (show (lo + hi) / 2 < j by omega) h2
            rw [← HY.out] at a
            exact bl_ntrans (bl_asymm a) hB
        go_wp2
        refine ⟨⟨lo, (lo + hi) / 2, rfl, congrArg _ (by omega), by omega, by omega, HLo, HHi2⟩, ?_⟩
        simp only [intOf]
        omega
    · obtain rfl : lo = hi := by omega
      by_cases hlN : lo < N
      · obtain ⟨g, rfl, d0, d1⟩ := hE.at lo (by have := HN.out; omega)
        obtain ⟨y, hyy⟩ : ∃ y, y = ps.getD lo e0 := ⟨_, rfl⟩
        rw [← hyy] at d0 d1
        have HY : Hid (y = ps.getD lo e0) := hyy
        clear hyy
        obtain ⟨k2, v2⟩ := y
        simp only at d0 d1
        obtain ⟨Q, hQ⟩ : ∃ Q, (k2.toList == key.toList) = Q := ⟨_, rfl⟩
        have HPl : Hid (PlT ps key lo Q) := by
          refine ⟨by have := HN.out; omega, HLo.out, HHi.out, ?_⟩
          rw [← hQ, ← HY.out, beq_iff_eq, tl_inj]
          exact ⟨fun h => ⟨by have := HN.out; omega, h⟩, fun h => h.2⟩
        go_wp2_with fail
        have hd : decide ((lo : Int) < (N : Int)) = true := by simp; omega
        go_quiet (fail)
        all_goals (
          go_wp2
          go_ret2
          exact ⟨lo, Q, rfl, HPl.out, Fr.drewN [] w _⟩)
      · obtain rfl : lo = N := by omega
        have HPl : Hid (PlT ps key lo false) := by
          refine ⟨by have := HN.out; omega, HLo.out, HHi.out, ?_⟩
          constructor
          · intro h; cases h
          · intro h; have := HN.out; omega
        go_wp2_with fail
        have hd : decide ((lo : Int) < (lo : Int)) = false := by simp
        go_quiet (fail)
        all_goals (
          go_wp2
          go_ret2
          exact ⟨lo, false, rfl, HPl.out, Fr.drewN [] w _⟩)
end Go.Proofs.Ytfminnmfdogopaa
