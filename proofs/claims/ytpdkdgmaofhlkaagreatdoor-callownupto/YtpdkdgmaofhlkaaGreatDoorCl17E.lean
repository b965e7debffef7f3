/- Rows of entries read cell by cell; slices.Clone of them. Conditions as each names them. -/
import Derived.Test.YtpdkdgmaofhlkaaGreatDoorVo17
namespace Go.Proofs.YtpdkdgmaofhlkaaGreatDoor
open Go.ChangeShapes Go.WideShapes Go.ChangeAt Go.RowKit Go.Lib
set_option linter.unusedVariables false
set_option linter.unusedSimpArgs false

theorem Tryz.undKE : Tryz.prog.underlying 50 = some (.slice 102) := by kernel_rfl
theorem Tryz.infoKE : (Tryz.prog.info? 102).map (fun i => (i.zero, i.size, i.bytes)) = some (some (.agg #[.string ⟨#[]⟩, .string ⟨#[]⟩]), 2, 32) := by kernel_rfl
theorem infoKE_parts : ∃ i, Tryz.prog.info? 102 = some i ∧ i.zero = some (.agg #[.string ⟨#[]⟩, .string ⟨#[]⟩]) ∧ i.size = 2 ∧ i.bytes = 32 := by
  have h := Tryz.infoKE
  cases hi : Tryz.prog.info? 102 with
  | none => rw [hi] at h; cases h
  | some i =>
    rw [hi] at h
    simp only [Option.map_some, Option.some.injEq, Prod.mk.injEq] at h
    exact ⟨i, rfl, h.1, h.2.1, h.2.2⟩
/-- A row's cells can be read. -/
def RrE (w : World) (ao : Option Addr) (xs : List Ey) : Prop := ∀ (j : Nat) (u : Value), (eysC xs)[j]? = some u → ∃ b off, ao = some ⟨b, off, none⟩ ∧ b < w.heap.size ∧ w.cell? ⟨b, off + j, none⟩ = some u
theorem RrE.nil (w : World) (ao : Option Addr) : RrE w ao [] := fun j u h => by simp [eysC] at h
theorem RrE.keepS {S : List Nat} {w w' : World} {ao : Option Addr} {xs : List Ey} (h : RrE w ao xs) (hf : Fr S w w') (hn : ∀ a, ao = some a → a.block ∉ S) : RrE w' ao xs := fun j u hu => by
  obtain ⟨b, off, e, hb, hc⟩ := h j u hu
  exact ⟨b, off, e, Nat.lt_of_lt_of_le hb hf.size, (World.cell?_of_block (hf.block b hb (hn _ e))).trans hc⟩
theorem RrE.keep {w w' : World} {ao : Option Addr} {xs : List Ey} (h : RrE w ao xs) (hf : Fr [] w w') : RrE w' ao xs := h.keepS hf (by simp)
theorem RrE.of_own {w : World} {base : Nat} {ro : Option Addr} {N rc : Nat} {xs : List Ey} (h : w.ownsRow base 102 2 (.slice ro N rc) N (eysC xs)) (hN : N = xs.length) : RrE w ro xs := fun j u hu => by
  have hj : j < (eysC xs).length := by
    rcases Nat.lt_or_ge j (eysC xs).length with h | h
    · exact h
    · rw [List.getElem?_eq_none h] at hu; cases hu
  rw [eysC_length] at hj
  rcases h.2 with ⟨hv, h0⟩ | ⟨g, cap, cur, hv, _, hg, _, _, _, ht⟩
  · omega
  · cases hv
    refine ⟨g, 0, rfl, lt_of_block hg, ?_⟩
    rw [cell_of_row _ _ _ _ _ _ hg, Nat.zero_add, ← Array.getElem?_toList, ← hu, ← ht, List.getElem?_take_of_lt (by omega)]
theorem RrE.none {w : World} {xs : List Ey} (h : RrE w none xs) : xs = [] := by
  cases xs with
  | nil => rfl
  | cons x r =>
    have hl : 0 < (eysC (x :: r)).length := by rw [eysC_length]; simp
    obtain ⟨b, off, e, _⟩ := h 0 ((eysC (x :: r))[0]) (by simp)
    cases e
set_option maxHeartbeats 2000000 in
set_option maxRecDepth 100000 in
theorem cloneE_any (ao : Option Addr) (L cap : Nat) (xs : List Ey) (w : World) (hX : RrE w ao xs) (hL : L = xs.length) (hf : L ≤ 2199023255552) :
    Calls Tryz.prog 68 #[.slice ao L cap] w fun e w' => ∃ ro rc, e = .returned (.slice ro L rc) ∧ w'.ownsRow w.heap.size 102 2 (.slice ro L rc) L (eysC xs) ∧ Fr [] w w' := by
  have q22 : ∀ (w : World) (a : Option Addr) (n c n' c' : Nat), (binOp .eql 50 (.slice a n c) (.slice none n' c')).run Tryz.prog w = .ok (.bool a.isNone) w := fun w a n c n' c' => Lib.run_eql_slice_nil w _ _ a n c n' c' Tryz.undKE
  cases ao with
  | none =>
    obtain rfl : xs = [] := hX.none
    obtain rfl : L = 0 := hL
    clear hX
    go_enter Tryz.func68, Tryz.ntmps68
    go_wp2
    go_ret
    exact ⟨none, 0, rfl, ⟨rfl, .inl ⟨rfl, rfl⟩⟩, Fr.refl _ _⟩
  | some a =>
    obtain ⟨i0, hi, hz0, hz1, hz2⟩ := infoKE_parts
    have hc : Hid (∀ j u, (eysC xs)[j]? = some u → w.cell? (a.add j) = some u) := by
      intro j u hu
      obtain ⟨b, off, e, _, hc⟩ := hX j u hu
      cases e
      rw [Addr.add_lit]
      exact hc
    have HL : Hid (L = xs.length) := hL
    clear hX hL
    go_enter Tryz.func68, Tryz.ntmps68
    go_wp2_with (at_builtin; refine wpList_append_own _ rfl _ _ 50 rfl w.heap.size 102 i0 (.agg #[.string ⟨#[]⟩, .string ⟨#[]⟩]) 2 32 Tryz.undKE hi hz0 hz1 hz2 rfl (by decide) _ _ _ rfl (World.ownsRow_made w #[] 0 (Nat.le_refl _) (Nat.zero_le _) (by simp)) a L cap (eysC xs) rfl ?qc1 ?qc2 ?qc3 ?qc4 ?qc5 ?qc6 ?_)
    case qc1 => rw [eysC_length, HL.out]
    case qc2 =>
      intro j u hj
      exact Lib.cell?_alloc_some _ (hc.out j u hj)
    case qc3 => exact eysC_oneCell xs
    case qc4 => rw [Nat.zero_add]; simp only [maxLen]; omega
    case qc5 => rw [Nat.zero_add]; omega
    case qc6 => simp
    intro v' w1 hown hgrow hnil
    obtain ⟨ro, rc, rfl⟩ : ∃ ro rc, v' = .slice ro L rc := by
      rcases hown.2 with ⟨hh, h0⟩ | ⟨g, cap', _, hh, _⟩
      · exact ⟨none, 0, by rw [hh]; have : L = 0 := by omega
                           rw [this]⟩
      · exact ⟨_, cap', by rw [hh]⟩
    have HO : Hid (w1.ownsRow w.heap.size 102 2 (.slice ro L rc) L (eysC xs) ∧ Fr [] w w1) := ⟨by simpa using hown, (Fr.alloc [] w _).on (Fr.grown (S := [w.heap.size]) hgrow (by intro k hk _; simp [Value.ownBlock] at hk; simp [hk])) (by simp)⟩
    clear hown hgrow hnil
    go_wp2
    go_ret
    exact ⟨ro, rc, rfl, HO.out⟩
end Go.Proofs.YtpdkdgmaofhlkaaGreatDoor
