/- What was asked of a source, and the statements' own helper SameInts. Conditions: fewer than 2^40 numbers. -/
import Derived.Test.YtibgdfjfhjckoaaGet6
namespace Go.Proofs.Ytibgdfjfhjckoaa
open Go.ChangeShapes Go.WideShapes Go.ChangeAt Go.RowKit Go.Lib
set_option linter.unusedVariables false

/-- The slice at ao reads as the numbers xs. -/
structure Is (w : World) (ao : Option Addr) (xs : List Nat) : Prop where
  lies : 0 < xs.length → ∃ b off, ao = some ⟨b, off, none⟩ ∧ ∀ j, j < xs.length → w.cell? ⟨b, off + j, none⟩ = some (.int .i64 ((xs.getD j 0 : Nat) : Int))
theorem Is.drewN {w : World} {ao : Option Addr} {xs : List Nat} (h : Is w ao xs) (q : Nat) : Is (w.drewN q) ao xs := ⟨h.lies⟩
theorem Is.keep {w w' : World} {ao : Option Addr} {xs : List Nat} (h : Is w ao xs) (hf : Fr [] w w') : Is w' ao xs := by
  refine ⟨fun h0 => ?_⟩
  obtain ⟨b, off, e, hc⟩ := h.lies h0
  refine ⟨b, off, e, fun j hj => ?_⟩
  have hlt := World.block_lt_of_cell? w _ (hc j hj)
  exact (World.cell?_of_block (hf.block b hlt (by simp))).trans (hc j hj)
theorem Is.of_row {w : World} {b : Nat} {xs : List Nat} (h : w.heap[b]? = some (.cells (ints xs).toArray 3 (0, 0))) : Is w (some ⟨b, 0, none⟩) xs :=
  ⟨fun _ => ⟨b, 0, rfl, fun j hj => by rw [cell_of_row _ _ _ _ _ _ h, Nat.zero_add]; simpa using ints_get xs j hj⟩⟩
theorem Is.of_own {w : World} {ao : Option Addr} {n cap : Nat} {xs : List Nat} (h : w.ownsRow 0 3 1 (.slice ao n cap) n (ints xs)) (hn : n = xs.length) : Is w ao xs := by
  rcases h.2 with ⟨hh, h0⟩ | ⟨g, cap', cur, hh, _, hg, hnc, _, hcs, ht⟩
  · cases hh
    exact ⟨fun h => by omega⟩
  · cases hh
    refine ⟨fun h0 => ⟨g, 0, rfl, fun j hj => ?_⟩⟩
    have := h.cells (g := g) rfl j _ (ints_get xs j (by omega))
    rw [show (⟨g, 0, none⟩ : Addr).add j = ⟨g, 0 + j, none⟩ from by simp [Addr.add]; omega] at this
    exact this
theorem Is.src {w : World} {b off : Nat} {xs : List Nat} (h : Is w (some ⟨b, off, none⟩) xs) : ∀ j u, (ints xs)[j]? = some u → w.cell? ((⟨b, off, none⟩ : Addr).add j) = some u := by
  intro j u hj
  have hlt : j < xs.length := by have := (List.getElem?_eq_some_iff.1 hj).1; rwa [ints_length] at this
  obtain ⟨b', off', e, hc⟩ := h.lies (by omega)
  cases e
  rw [ints_get xs j hlt] at hj
  rw [Addr.add_lit, hc j hlt, hj]

set_option maxHeartbeats 4000000 in
set_option maxRecDepth 100000 in
theorem asked_any {w0 w : World} {g lb L : Nat} {ts : List Tm} {v : Value} {qs : List Nat} (h : Src w0 w g lb L ts v qs) (hq : qs.length < 2 ^ 40) (N : Nat) (hN : N = qs.length) :
    Calls Try.prog 22 #[.pointer (some ⟨g, 0, none⟩)] w fun e w' => ∃ bo, e = .returned (.slice bo N N) ∧ Is w' bo qs ∧ Fr [] w w' := by
  obtain ⟨iI, hiI, hzI, hsI, hbI⟩ := info_parts Try.infoI
  obtain ⟨ao, cap, hv⟩ := own_shape w h.row
  have HL : Hid (N = qs.length) := hN
  rw [← hN] at hv hq
  subst hv
  clear hN
  have c2 := h.c2
  have HI : Hid (Is w ao qs) := Is.of_own (n := qs.length) (by have := h.row; rw [HL.out] at this; exact this) rfl
  by_cases h0 : 0 < N
  · obtain ⟨b, off, e1, _⟩ := HI.out.lies (by have := HL.out; omega)
    subst e1
    have hn0 : ((N : Int) == 0) = false := by rw [beq_eq_false_iff_ne]; omega
    go_enter Try.func22, Try.ntmps22
    go_wp2_with fail
    refine (sThere_any h).mono ?_
    rintro e w1 ⟨rfl, rfl⟩
    go_wp2_with (at_make; refine wpList_make_full _ rfl (.tmp 19) (.tmp 19) 23 rfl 0 3 iI (.int .i64 0) 1 Try.undIs hiI hzI hsI .i64 .i64 N N N rfl rfl rfl rfl ?b2 ?b3 ?b4 ?_)
    case b2 => rw [hbI]; omega
    case b3 => unfold maxLen; omega
    case b4 => exact Nat.zero_le _
    intro w1 hown hgrow
    obtain ⟨cur, hcur, hcs⟩ := own_lit hown
    have hF1 : Fr [] w w1 := Fr.grown (S := []) hgrow (by simp)
    have hcl : (ints qs).length = N := by rw [ints_length, HL.out]
    have hS1 := h.keep hF1
    have c2' := hS1.c2
    have hcp := run_copy_row (P := Try.prog) w1 23 23 3 3 w.heap.size 0 N N ⟨b, off, none⟩ N cap cur 3 (ints qs) Try.undIs Try.sizeI hcur (by rw [hcl]; exact (Nat.min_self N).symm) (HI.out.keep hF1).src (by omega) (ints_oneCell qs)
    rw [hcl] at hcp
    have hcur2 : cur.toList.drop (0 + N) = [] := by simp [hcs]
    rw [hcur2, List.take_zero, List.append_nil, List.nil_append] at hcp
    have HF : Hid (Is (w1.setRow w.heap.size (ints qs).toArray) (some ⟨w.heap.size, 0, none⟩) qs ∧ Fr [] w (w1.setRow w.heap.size (ints qs).toArray)) := ⟨Is.of_row (setRow_heap w1 _ _ _ _ _ hcur), hF1.on (Fr.setRow w1 _ _) (by simp)⟩
    clear hcur hown hgrow hF1 hS1 hcl hcs hcur2 h c2
    go_wp2
    go_ret
    exact ⟨_, rfl, HF.out.1, HF.out.2⟩
  · obtain rfl : N = 0 := by omega
    go_enter Try.func22, Try.ntmps22
    go_wp2_with fail
    refine (sThere_any h).mono ?_
    rintro e w1 ⟨rfl, rfl⟩
    go_wp2
    go_ret
    exact ⟨_, rfl, ⟨fun hh => by have := HL.out; omega⟩, Fr.refl _ _⟩
