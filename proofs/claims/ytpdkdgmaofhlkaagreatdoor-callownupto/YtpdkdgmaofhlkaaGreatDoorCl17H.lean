/- Rows of keys with their versions read cell by cell; slices.Clone of them. Conditions as each names them. -/
import Derived.Test.YtpdkdgmaofhlkaaGreatDoorVo17
namespace Go.Proofs.YtpdkdgmaofhlkaaGreatDoor
open Go.ChangeShapes Go.WideShapes Go.ChangeAt Go.RowKit Go.Lib
set_option linter.unusedVariables false
set_option linter.unusedSimpArgs false
theorem hdsC_oneCell (a : List Hd) : ∀ u ∈ hdsC a, u.oneCell' = true := by
  intro u hu
  obtain ⟨x, _, h⟩ := List.mem_flatMap.1 hu
  exact hdC_one x u h
theorem hdsC_at (a : List Hd) (j c : Nat) (hj : j < a.length) (hc : c < 2) : (hdsC a)[j * 2 + c]? = (hdC (a.getD j Hd.zero))[c]? := by
  have h := hdsC_get a j hj
  match c, hc with
  | 0, _ => exact h.1
  | 1, _ => exact h.2

theorem Tryz.undKH : Tryz.prog.underlying 51 = some (.slice 97) := by kernel_rfl
theorem Tryz.infoKH : (Tryz.prog.info? 97).map (fun i => (i.zero, i.size, i.bytes)) = some (some (.agg #[.string ⟨#[]⟩, .slice none 0 0]), 2, 40) := by kernel_rfl
theorem infoKH_parts : ∃ i, Tryz.prog.info? 97 = some i ∧ i.zero = some (.agg #[.string ⟨#[]⟩, .slice none 0 0]) ∧ i.size = 2 ∧ i.bytes = 40 := by
  have h := Tryz.infoKH
  cases hi : Tryz.prog.info? 97 with
  | none => rw [hi] at h; cases h
  | some i =>
    rw [hi] at h
    simp only [Option.map_some, Option.some.injEq, Prod.mk.injEq] at h
    exact ⟨i, rfl, h.1, h.2.1, h.2.2⟩
/-- A row's cells can be read. -/
def RrH (w : World) (ao : Option Addr) (xs : List Hd) : Prop := ∀ (j : Nat) (u : Value), (hdsC xs)[j]? = some u → ∃ b off, ao = some ⟨b, off, none⟩ ∧ b < w.heap.size ∧ w.cell? ⟨b, off + j, none⟩ = some u
theorem RrH.nil (w : World) (ao : Option Addr) : RrH w ao [] := fun j u h => by simp [hdsC] at h
theorem RrH.keepS {S : List Nat} {w w' : World} {ao : Option Addr} {xs : List Hd} (h : RrH w ao xs) (hf : Fr S w w') (hn : ∀ a, ao = some a → a.block ∉ S) : RrH w' ao xs := fun j u hu => by
  obtain ⟨b, off, e, hb, hc⟩ := h j u hu
  exact ⟨b, off, e, Nat.lt_of_lt_of_le hb hf.size, (World.cell?_of_block (hf.block b hb (hn _ e))).trans hc⟩
theorem RrH.keep {w w' : World} {ao : Option Addr} {xs : List Hd} (h : RrH w ao xs) (hf : Fr [] w w') : RrH w' ao xs := h.keepS hf (by simp)
theorem RrH.of_own {w : World} {base : Nat} {ro : Option Addr} {N rc : Nat} {xs : List Hd} (h : w.ownsRow base 97 2 (.slice ro N rc) N (hdsC xs)) (hN : N = xs.length) : RrH w ro xs := fun j u hu => by
  have hj : j < (hdsC xs).length := by
    rcases Nat.lt_or_ge j (hdsC xs).length with h | h
    · exact h
    · rw [List.getElem?_eq_none h] at hu; cases hu
  rw [hdsC_length] at hj
  rcases h.2 with ⟨hv, h0⟩ | ⟨g, cap, cur, hv, _, hg, _, _, _, ht⟩
  · omega
  · cases hv
    refine ⟨g, 0, rfl, lt_of_block hg, ?_⟩
    rw [cell_of_row _ _ _ _ _ _ hg, Nat.zero_add, ← Array.getElem?_toList, ← hu, ← ht, List.getElem?_take_of_lt (by omega)]
theorem RrH.none {w : World} {xs : List Hd} (h : RrH w none xs) : xs = [] := by
  cases xs with
  | nil => rfl
  | cons x r =>
    have hl : 0 < (hdsC (x :: r)).length := by rw [hdsC_length]; simp
    obtain ⟨b, off, e, _⟩ := h 0 ((hdsC (x :: r))[0]) (by simp)
    cases e
set_option maxHeartbeats 2000000 in
set_option maxRecDepth 100000 in
theorem cloneH_any (ao : Option Addr) (L cap : Nat) (xs : List Hd) (w : World) (hX : RrH w ao xs) (hL : L = xs.length) (hf : L ≤ 2199023255552) :
    Calls Tryz.prog 103 #[.slice ao L cap] w fun e w' => ∃ ro rc, e = .returned (.slice ro L rc) ∧ w'.ownsRow w.heap.size 97 2 (.slice ro L rc) L (hdsC xs) ∧ Fr [] w w' := by
  have q22 : ∀ (w : World) (a : Option Addr) (n c n' c' : Nat), (binOp .eql 51 (.slice a n c) (.slice none n' c')).run Tryz.prog w = .ok (.bool a.isNone) w := fun w a n c n' c' => Lib.run_eql_slice_nil w _ _ a n c n' c' Tryz.undKH
  cases ao with
  | none =>
    obtain rfl : xs = [] := hX.none
    obtain rfl : L = 0 := hL
    clear hX
    go_enter Tryz.func103, Tryz.ntmps103
    go_wp2
    go_ret
    exact ⟨none, 0, rfl, ⟨rfl, .inl ⟨rfl, rfl⟩⟩, Fr.refl _ _⟩
  | some a =>
    obtain ⟨i0, hi, hz0, hz1, hz2⟩ := infoKH_parts
    have hc : Hid (∀ j u, (hdsC xs)[j]? = some u → w.cell? (a.add j) = some u) := by
      intro j u hu
      obtain ⟨b, off, e, _, hc⟩ := hX j u hu
      cases e
      rw [Addr.add_lit]
      exact hc
    have HL : Hid (L = xs.length) := hL
    clear hX hL
    go_enter Tryz.func103, Tryz.ntmps103
    go_wp2_with (at_builtin; refine wpList_append_own _ rfl _ _ 51 rfl w.heap.size 97 i0 (.agg #[.string ⟨#[]⟩, .slice none 0 0]) 2 40 Tryz.undKH hi hz0 hz1 hz2 rfl (by decide) _ _ _ rfl (World.ownsRow_made w #[] 0 (Nat.le_refl _) (Nat.zero_le _) (by simp)) a L cap (hdsC xs) rfl ?qc1 ?qc2 ?qc3 ?qc4 ?qc5 ?qc6 ?_)
    case qc1 => rw [hdsC_length, HL.out]
    case qc2 =>
      intro j u hj
      exact Lib.cell?_alloc_some _ (hc.out j u hj)
    case qc3 => exact hdsC_oneCell xs
    case qc4 => rw [Nat.zero_add]; simp only [maxLen]; omega
    case qc5 => rw [Nat.zero_add]; omega
    case qc6 => simp
    intro v' w1 hown hgrow hnil
    obtain ⟨ro, rc, rfl⟩ : ∃ ro rc, v' = .slice ro L rc := by
      rcases hown.2 with ⟨hh, h0⟩ | ⟨g, cap', _, hh, _⟩
      · exact ⟨none, 0, by rw [hh]; have : L = 0 := by omega
                           rw [this]⟩
      · exact ⟨_, cap', by rw [hh]⟩
    have HO : Hid (w1.ownsRow w.heap.size 97 2 (.slice ro L rc) L (hdsC xs) ∧ Fr [] w w1) := ⟨by simpa using hown, (Fr.alloc [] w _).on (Fr.grown (S := [w.heap.size]) hgrow (by intro k hk _; simp [Value.ownBlock] at hk; simp [hk])) (by simp)⟩
    clear hown hgrow hnil
    go_wp2
    go_ret
    exact ⟨ro, rc, rfl, HO.out⟩
end Go.Proofs.YtpdkdgmaofhlkaaGreatDoor
