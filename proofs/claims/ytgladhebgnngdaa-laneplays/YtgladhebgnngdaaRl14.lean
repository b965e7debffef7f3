/- The document's lane in memory (RlM), holding none or a transaction: contracts of New, Take, Acked, Done, Holds, Ready; of one that is nil. Conditions as each names them. -/
import Derived.Test.YtgladhebgnngdaaLo14
import Derived.Test.YtgladhebgnngdaaLt14
import Derived.Test.YtgladhebgnngdaaLx14
import Derived.Test.YtgladhebgnngdaaCr14
import Derived.Test.YtgladhebgnngdaaRefC
namespace Go.Proofs.Ytgladhebgnngdaa
open Go.ChangeShapes Go.WideShapes Go.ChangeAt Go.RowKit Go.Lib Go.Maps
set_option linter.unusedVariables false
set_option linter.unusedSimpArgs false

/-- The document's lane's struct lies in block rb. -/
def RlB (w : World) (rb : Nat) (nm l s x q h : Int) (v : Value) (sn ak : Int) : Prop := w.heap[rb]? = some (.cells #[.int .i64 nm, .int .i64 l, .int .i64 s, .int .i64 x, .int .i64 q, .int .i64 h, v, .int .i64 sn, .int .i64 ak] 73 (0, 0))
/-- What it holds, told by all the writes that count and how many were sent and acknowledged. -/
structure RlH (w : World) (rb : Nat) (ro : Option Addr) (N rc : Nat) (al : List Wt) (sn ak : Nat) (h : Hl) (S : List Nat) : Prop where
  rs : WRs w ro al
  len : N = al.length
  few : N ≤ 32
  n0 : h.n ≠ 0
  left : h.l = al.drop sn
  most : sn ≤ N
  out : h.out + ak = sn
  own : 0 < al.length → ∀ a, ro = some a → a.block ∈ S ∧ a.block ≠ rb
def RlM (w : World) (rb : Nat) (nm l s x q : Int) (st : Option Hl) (S : List Nat) : Prop :=
  match st with
  | none => ∃ v sn ak, RlB w rb nm l s x q 0 v sn ak
  | some h => ∃ ro N rc al sn ak, RlB w rb nm l s x q h.n (.slice ro N rc) (sn : Nat) (ak : Nat) ∧ RlH w rb ro N rc al sn ak h S
section
variable {w : World} {rb : Nat} {nm l s x q h : Int} {v : Value} {sn ak : Int} {st : Option Hl} {S : List Nat}
theorem RlB.c0 (b : RlB w rb nm l s x q h v sn ak) : w.cell? ⟨rb, 0, none⟩ = some (.int .i64 nm) := by rw [cell_of_row _ _ _ _ _ _ b]; rfl
theorem RlB.c1 (b : RlB w rb nm l s x q h v sn ak) : w.cell? ⟨rb, 1, none⟩ = some (.int .i64 l) := by rw [cell_of_row _ _ _ _ _ _ b]; rfl
theorem RlB.c2 (b : RlB w rb nm l s x q h v sn ak) : w.cell? ⟨rb, 2, none⟩ = some (.int .i64 s) := by rw [cell_of_row _ _ _ _ _ _ b]; rfl
theorem RlB.c3 (b : RlB w rb nm l s x q h v sn ak) : w.cell? ⟨rb, 3, none⟩ = some (.int .i64 x) := by rw [cell_of_row _ _ _ _ _ _ b]; rfl
theorem RlB.c4 (b : RlB w rb nm l s x q h v sn ak) : w.cell? ⟨rb, 4, none⟩ = some (.int .i64 q) := by rw [cell_of_row _ _ _ _ _ _ b]; rfl
theorem RlB.c5 (b : RlB w rb nm l s x q h v sn ak) : w.cell? ⟨rb, 5, none⟩ = some (.int .i64 h) := by rw [cell_of_row _ _ _ _ _ _ b]; rfl
theorem RlB.c6 (b : RlB w rb nm l s x q h v sn ak) : w.cell? ⟨rb, 6, none⟩ = some v := by rw [cell_of_row _ _ _ _ _ _ b]; rfl
theorem RlB.c7 (b : RlB w rb nm l s x q h v sn ak) : w.cell? ⟨rb, 7, none⟩ = some (.int .i64 sn) := by rw [cell_of_row _ _ _ _ _ _ b]; rfl
theorem RlB.c8 (b : RlB w rb nm l s x q h v sn ak) : w.cell? ⟨rb, 8, none⟩ = some (.int .i64 ak) := by rw [cell_of_row _ _ _ _ _ _ b]; rfl
theorem RlB.fz (b : RlB w rb nm l s x q h v sn ak) (j : Nat) : w.frozen? ⟨rb, j, none⟩ = false := by unfold RlB at b; simp [World.frozen?, b]
theorem RlB.keep {T : List Nat} {w' : World} (b : RlB w rb nm l s x q h v sn ak) (hf : Fr T w w') (hn : rb ∉ T) : RlB w' rb nm l s x q h v sn ak := hf.keep b hn
theorem RlB.set5 (b : RlB w rb nm l s x q h v sn ak) (u : Int) : RlB (w.setCell ⟨rb, 5, none⟩ (.int .i64 u)) rb nm l s x q u v sn ak := by unfold RlB; rw [vrow_setCell _ b]; rfl
theorem RlB.set6 (b : RlB w rb nm l s x q h v sn ak) (u : Value) : RlB (w.setCell ⟨rb, 6, none⟩ u) rb nm l s x q h u sn ak := by unfold RlB; rw [vrow_setCell _ b]; rfl
theorem RlB.set7 (b : RlB w rb nm l s x q h v sn ak) (u : Int) : RlB (w.setCell ⟨rb, 7, none⟩ (.int .i64 u)) rb nm l s x q h v u ak := by unfold RlB; rw [vrow_setCell _ b]; rfl
theorem RlB.set8 (b : RlB w rb nm l s x q h v sn ak) (u : Int) : RlB (w.setCell ⟨rb, 8, none⟩ (.int .i64 u)) rb nm l s x q h v sn u := by unfold RlB; rw [vrow_setCell _ b]; rfl
theorem RlH.keep {T : List Nat} {w' : World} {ro : Option Addr} {N rc : Nat} {al : List Wt} {sn ak : Nat} {h : Hl} (r : RlH w rb ro N rc al sn ak h S) (hf : Fr T w w') (h1 : ∀ k ∈ S, k ∉ T) : RlH w' rb ro N rc al sn ak h S :=
  { r with rs := r.rs.keepS hf (fun hp a ha => h1 _ (r.own hp a ha).1) }
theorem RlH.keepB {w' : World} {ro : Option Addr} {N rc : Nat} {al : List Wt} {sn ak : Nat} {h : Hl} (r : RlH w rb ro N rc al sn ak h S) (hf : Fr [rb] w w') : RlH w' rb ro N rc al sn ak h S :=
  { r with rs := r.rs.keepS hf (fun hp a ha => by simpa using (r.own hp a ha).2) }
theorem RlM.keep {T : List Nat} {w' : World} (r : RlM w rb nm l s x q st S) (hf : Fr T w w') (h0 : rb ∉ T) (h1 : ∀ k ∈ S, k ∉ T) : RlM w' rb nm l s x q st S := by
  cases st with
  | none =>
    obtain ⟨v, sn, ak, b⟩ := r
    exact ⟨v, sn, ak, b.keep hf h0⟩
  | some hl =>
    obtain ⟨ro, N, rc, al, sn, ak, b, hh⟩ := r
    exact ⟨ro, N, rc, al, sn, ak, b.keep hf h0, hh.keep hf h1⟩
theorem RlM.kept (r : RlM w rb nm l s x q st S) : ∀ W, Fr [] w W → RlM W rb nm l s x q st S := fun W hf => r.keep hf (by simp) (by simp)
theorem RlM.lt (r : RlM w rb nm l s x q st S) : rb < w.heap.size := by
  cases st with
  | none => obtain ⟨v, sn, ak, b⟩ := r; exact lt_of_block b
  | some hl => obtain ⟨ro, N, rc, al, sn, ak, b, hh⟩ := r; exact lt_of_block b

theorem rlholds_nil (w : World) : Calls Try.prog 33 #[.pointer none] w fun e w' => e = .returned (.int .i64 0) ∧ Fr [] w w' := by
  go_enter Try.func33, Try.ntmps33
  go_wp2
  go_ret
  exact ⟨rfl, Fr.refl _ _⟩
theorem rlacked_nil (w : World) : Calls Try.prog 30 #[.pointer none] w fun e w' => e = .returned (.int .i64 2) ∧ Fr [] w w' := by
  go_enter Try.func30, Try.ntmps30
  go_wp2
  go_ret
  exact ⟨rfl, Fr.refl _ _⟩
theorem rldone_nil (w : World) : Calls Try.prog 31 #[.pointer none] w fun e w' => e = .returned (.tuple #[.int .i64 0, .int .i64 2]) ∧ Fr [] w w' := by
  go_enter Try.func31, Try.ntmps31
  go_wp2
  refine bodyPost_ret (results_tmp2 rfl _ _ _) rfl ?_
  exact ⟨rfl, Fr.refl _ _⟩
theorem rltake_nil (n : Int) (ao : Option Addr) (L cap : Nat) (w : World) : Calls Try.prog 27 #[.pointer none, .agg #[.int .i64 n, .slice ao L cap]] w fun e w' => e = .returned (.int .i64 2) ∧ Fr [] w w' := by
  go_enter Try.func27, Try.ntmps27
  go_wp2
  go_ret
  exact ⟨rfl, Fr.alloc _ _ _⟩
theorem rlready_nil (w : World) : Calls Try.prog 34 #[.pointer none] w fun e w' => e = .returned (.bool false) ∧ Fr [] w w' := by
  go_enter Try.func34, Try.ntmps34
  go_wp2_with fail
  go_quiet (fail)
  go_wp2
  go_ret
  exact ⟨rfl, Fr.drewN _ _ _⟩
theorem rlholds_any (r : RlM w rb nm l s x q st S) : Calls Try.prog 33 #[.pointer (some ⟨rb, 0, none⟩)] w fun e w' => e = .returned (.int .i64 (holdsN st)) ∧ Fr [] w w' := by
  obtain ⟨h, c5, E⟩ : ∃ h, w.cell? ⟨rb, 5, none⟩ = some (.int .i64 h) ∧ holdsN st = h := by
    cases st with
    | none => obtain ⟨v, sn, ak, b⟩ := r; exact ⟨0, b.c5, rfl⟩
    | some hl => obtain ⟨ro, N, rc, al, sn, ak, b, hh⟩ := r; exact ⟨hl.n, b.c5, rfl⟩
  rw [E]
  clear r E
  go_enter Try.func33, Try.ntmps33
  go_wp2
  go_ret
  exact ⟨rfl, Fr.refl _ _⟩
theorem RlH.ready {ro : Option Addr} {N rc : Nat} {al : List Wt} {sn ak : Nat} {h : Hl} (r : RlH w rb ro N rc al sn ak h S) : readyB (some h) = decide (ak = N) := by
  have h1 := r.left
  have h2 := r.out
  have h3 := r.most
  have h4 := r.len
  have h5 : h.l.length = N - sn := by rw [h1, List.length_drop, h4]
  simp only [readyB]
  by_cases e : ak = N
  · have e1 : h.l = [] := List.eq_nil_of_length_eq_zero (by omega)
    have e2 : h.out = 0 := by omega
    simp [e, e1, e2]
  · have : ¬ (h.l = [] ∧ h.out = 0) := by
      rintro ⟨e1, e2⟩
      rw [e1] at h5
      simp at h5
      omega
    simp [e, this]
theorem rlready_any (r : RlM w rb nm l s x q st S) : Calls Try.prog 34 #[.pointer (some ⟨rb, 0, none⟩)] w fun e w' => e = .returned (.bool (readyB st)) ∧ Fr [] w w' := by
  cases st with
  | none =>
    obtain ⟨v, sn, ak, b⟩ := r
    have c5 := b.c5
    clear b
    go_enter Try.func34, Try.ntmps34
    go_wp2_with fail
    go_quiet (fail)
    go_wp2
    go_ret
    exact ⟨rfl, Fr.drewN _ _ _⟩
  | some hl =>
    obtain ⟨ro, N, rc, al, sn, ak, b, hh⟩ := r
    have c5 := b.c5
    have c6 := b.c6
    have c8 := b.c8
    have hn : (hl.n != 0) = true := by simpa using hh.n0
    rw [hh.ready]
    obtain ⟨hn', hhn⟩ : ∃ m, m = hl.n := ⟨_, rfl⟩
    rw [← hhn] at c5 hn
    clear b hh hhn
    by_cases e : ak = N
    · subst e
      go_enter Try.func34, Try.ntmps34
      go_wp2_with fail
      go_quiet (fail)
      go_wp2
      go_ret
      exact ⟨by simp, Fr.drewN _ _ _⟩
    · have e' : ((ak : Int) == (N : Int)) = false := by rw [beq_eq_false_iff_ne]; omega
      go_enter Try.func34, Try.ntmps34
      go_wp2_with fail
      go_quiet (fail)
      go_wp2
      go_ret
      exact ⟨by simp [e, e'], Fr.drewN _ _ _⟩
end
end Go.Proofs.Ytgladhebgnngdaa
