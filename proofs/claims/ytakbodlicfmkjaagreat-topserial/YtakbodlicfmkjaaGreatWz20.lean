/- Where a new machine stands: what holds of it, how far it is. Mathematics. Conditions as each names them. -/
import Derived.Test.YtakbodlicfmkjaaGreatSe20
import Derived.Test.YtakbodlicfmkjaaGreatFg20
namespace Go.Proofs.YtakbodlicfmkjaaGreat
set_option linter.unusedVariables false
set_option linter.unusedSimpArgs false
/-- A new machine. -/
def ms0 : Ms := ⟨0, false, 0, 0, fun _ => False, 0, [], fun _ => False, [], [], fun _ => none, fun _ => [], fun _ _ => [], 0⟩
theorem outs_nil (f : Int) : ∀ n, outs (fun _ => []) f n = 0
  | 0 => rfl
  | n + 1 => by rw [outs, outs_nil f n]; rfl
theorem opn_zero (T : List Tx) (n : Int) : ¬ Opn T ms0 n := fun h => by
  have := (op_iff.1 h).1
  have e : ms0.d = 0 := rfl
  rw [e] at this
  omega
theorem Wf.zero {c : Cf} {T : List Tx} (hm : c.may) (hok : okL 1 T) : Wf c T ms0 := by
  refine ⟨hm, hok, fun _ => rfl, fun h => (by cases h), ⟨Nat.le_refl _, Nat.zero_le _⟩, ?_, fun n => ?_, fun n h => h.elim, ?_, fun n => ⟨fun h => h.elim, fun h => (opn_zero T n h.1).elim⟩, fun n h => (by cases h), fun n h => (by cases h), fun i h hi hl => (by cases hl), fun n h => (opn_zero T n h).elim, List.nodup_nil, List.nodup_nil, fun n h => (by cases h), fun i h hi hl => (by cases hl), fun i j h g hi hj hl => (by cases hl), fun i h hi hl => (by cases hl), fun i h hi hl => (by cases hl), fun j e hj he => (by cases he), fun j hj => List.Pairwise.nil, fun j e hj he => (by cases he), fun j hj => ?_, fun j k v hj hv => (by cases hv), fun n h j k v hj hv => (by cases hv), fun n h => ?_, fun j k => ?_⟩
  · exact ⟨⟨Int.le_refl _, by show (0 : Int) ≤ 65536; omega, List.Pairwise.nil, fun x hx => (by cases hx)⟩, fun h => (by cases h)⟩
  · constructor
    · exact fun h => h.elim
    · rintro ⟨h1, h2 | h2⟩
      · have e : ms0.ma = 0 := rfl
        rw [e] at h2
        omega
      · cases h2
  · have := hm.2.2.1
    show ((0 : Nat) : Int) ≤ 0 + c.w
    omega
  · have := hm.2.2.2
    show (([] : List Qe).length : Int) ≤ c.q
    simp only [List.length_nil]
    omega
  · rcases h with h | h
    · cases h
    · exact h.elim
  · exact ⟨fun x hx => (by cases hx), List.Pairwise.nil⟩
theorem sumW_nil (n : Nat) : sumW (fun _ => none) n = 0 := by
  induction n with
  | zero => rfl
  | succ n ih => rw [sumW, ih]; rfl
/-- How far a new one that is fed is. -/
theorem mu_fed (c : Cf) (n : Nat) : mu c { ms0 with fd := n } = 69 * n := by
  unfold mu
  show 69 * (n - 0) + (if false = true then 68 else 0) + 67 * (wtN (fun _ => False) 0 + 0) + sumW (fun _ => none) c.l.toNat + 0 = 69 * n
  rw [sumW_nil]
  have : wtN (fun _ => False) 0 = 0 := rfl
  rw [this]
  simp
/-- A run of picks: each lessens the measure. -/
theorem nxt_run {c : Cf} {T : List Tx} : ∀ (n : Nat) (f : Nat → Ms), (∀ i, i < n → Nxt c T (f i) (f (i + 1))) → mu c (f n) + n ≤ mu c (f 0) ∧ (f n).k = (f 0).k + n ∧ (f n).fd = (f 0).fd
  | 0, f, _ => ⟨Nat.le_refl _, rfl, rfl⟩
  | n + 1, f, h => by
    obtain ⟨h1, h2, h3⟩ := nxt_run n f (fun i hi => h i (by omega))
    have h4 := h n (by omega)
    exact ⟨by have := h4.mu; omega, by rw [h4.k]; omega, by rw [h4.fd, h3]⟩
end Go.Proofs.YtakbodlicfmkjaaGreat
