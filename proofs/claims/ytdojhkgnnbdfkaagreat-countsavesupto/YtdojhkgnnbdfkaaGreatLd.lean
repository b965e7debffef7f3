/- The program's disk as the statements use it: made since a world w0, nothing that was there then is touched. Conditions: fewer than 2^40 raw writes were done. -/
import Derived.Test.YtdojhkgnnbdfkaaGreatOps3
import Derived.Lib.SlBytesConst
namespace Go.Proofs.YtdojhkgnnbdfkaaGreat
open Go.ChangeShapes Go.WideShapes Go.ChangeAt Go.RowKit Go.Lib

structure LD (w0 w : World) (g : Nat) (S : List Nat) (t : Sk) : Prop where
  dk : ∃ v0 v1, Dk w g v0 v1 t ∧ S = dOwn g v0 v1
  new : ∀ k ∈ S, w0.heap.size ≤ k
  ok : t.ok
  fr : Fr [] w0 w
section
variable {w0 w w' : World} {g : Nat} {S : List Nat} {t t' : Sk}
theorem LD.lt (h : LD w0 w g S t) : ∀ k ∈ S, k < w.heap.size := by
  obtain ⟨v0, v1, hD, rfl⟩ := h.dk
  exact hD.lt
theorem LD.keepS {T : List Nat} (h : LD w0 w g S t) (hf : Fr T w w') (hT : ∀ k ∈ T, k ∉ S) (hN : ∀ k ∈ T, w0.heap.size ≤ k) : LD w0 w' g S t := by
  obtain ⟨v0, v1, hD, rfl⟩ := h.dk
  exact ⟨⟨v0, v1, hD.keep hf hT, rfl⟩, h.new, h.ok, h.fr.on hf hN⟩
theorem LD.quiet (h : LD w0 w g S t) (hf : Fr [] w w') : LD w0 w' g S t := h.keepS hf (by simp) (by simp)
theorem LD.step {S' : List Nat} {v0 v1 : Value} (h : LD w0 w g S t) (hT : To S S' w w') (hD : Dk w' g v0 v1 t') (hS : S' = dOwn g v0 v1) (ht : t'.ok) : LD w0 w' g S' t' := by
  refine ⟨⟨v0, v1, hD, hS⟩, ?_, ht, h.fr.on hT.fr h.new⟩
  intro k hk
  rcases hT.grew k hk with h1 | h1
  · exact h.new k h1
  · exact Nat.le_trans h.fr.size h1
/-- What came in lies in none of its blocks. -/
theorem LD.apart {bo : Option Addr} {M cb : Nat} {ys : List Nat} (h : LD w0 w g S t) (hB : BArg w0 bo M cb ys) : 0 < M → ∀ a, bo = some a → a.block ∉ S := by
  intro h0 a ha hm
  obtain ⟨b, off, e, hb, _⟩ := hB.lies h0
  rw [e] at ha
  cases ha
  have := h.new _ hm
  simp only at this
  omega
theorem ld_new (C : Nat) (w0 w : World) (hf : Fr [] w0 w) (h : C ≤ 16777216) : Calls Tryz.prog 28 #[.int .i64 (C : Int)] w fun e w' => ∃ g S, e = .returned (.tuple #[ptr g, .int .i64 0]) ∧ LD w0 w' g S (Sk.new C) ∧ (∀ k ∈ S, w.heap.size ≤ k) ∧ Fr [] w w' := by
  refine (new_ok C w h).mono ?_
  rintro e w' ⟨rfl, hD, hF⟩
  have hS : ∀ k ∈ dOwn w.heap.size (.slice none 0 0) (.slice none 0 0), w.heap.size ≤ k := by
    intro k hk
    rcases mem_dOwn.1 hk with rfl | hk | hk
    · exact Nat.le_refl _
    · simp [Value.ownBlock] at hk
    · simp [Value.ownBlock] at hk
  exact ⟨_, _, rfl, ⟨⟨_, _, hD, rfl⟩, fun k hk => Nat.le_trans hf.size (hS k hk), Sk.new_ok C h, hf.then hF⟩, hS, hF⟩
theorem ld_write {s a E : Int} {bo : Option Addr} {M cb : Nat} {ys : List Nat} (h : LD w0 w g S t) (hn : t.n < 2^40) (ha : a ≤ 9223372036854775807) (hB : BArg w bo M cb ys) (hap : 0 < M → ∀ a, bo = some a → a.block ∉ S) (hc : Wrote t s a ys E t') :
    Calls Tryz.prog 97 #[ptr g, .int .i64 s, .int .i64 a, .slice bo M cb] w fun e w' => e = .returned (.int .i64 E) ∧ ∃ S', LD w0 w' g S' t' ∧ To S S' w w' := by
  obtain ⟨v0, v1, hD, hS⟩ := h.dk
  refine (write_any hD h.ok hn ha hB (by rw [← hS]; exact hap) hc).mono ?_
  rintro e w' ⟨rfl, u0, u1, hU, hT⟩
  rw [← hS] at hT
  exact ⟨rfl, _, h.step hT hU rfl (hc.ok h.ok hB.low), hT⟩
theorem ld_clear {s E : Int} (h : LD w0 w g S t) (hn : t.n < 2^40) (hc : Cleared t s E t') :
    Calls Tryz.prog 96 #[ptr g, .int .i64 s] w fun e w' => e = .returned (.int .i64 E) ∧ ∃ S', LD w0 w' g S' t' ∧ To S S' w w' := by
  obtain ⟨v0, v1, hD, hS⟩ := h.dk
  refine (clear_any hD h.ok hn hc).mono ?_
  rintro e w' ⟨rfl, u0, u1, hU, hT⟩
  rw [← hS] at hT
  exact ⟨rfl, _, h.step hT hU rfl (hc.ok h.ok), hT⟩
theorem ld_read {s E : Int} {xs : List Nat} (h : LD w0 w g S t) (hc : Told t s E xs) :
    Calls Tryz.prog 70 #[ptr g, .int .i64 s] w fun e w' => ∃ ao n cap, e = .returned (.tuple #[.slice ao n cap, .int .i64 E]) ∧ Fre w w' ao n cap xs ∧ LD w0 w' g S t := by
  obtain ⟨v0, v1, hD, hS⟩ := h.dk
  refine (read_any hD h.ok hc).mono ?_
  rintro e w' ⟨ao, n, cap, rfl, hF⟩
  exact ⟨_, _, _, rfl, hF, h.quiet hF.fr⟩
theorem ld_capacity (h : LD w0 w g S t) {m : Nat} (hm : t.C = m) : Calls Tryz.prog 51 #[ptr g] w fun e w' => e = .returned (.int .i64 (m : Int)) ∧ w = w' := by
  obtain ⟨v0, v1, hD, hS⟩ := h.dk
  rw [← hm]
  exact capacity_any hD
end
theorem lit_arg {w : World} {g : Nat} {xs : List Nat} {L : Nat} {fr : Nat × Nat} (hL : L = xs.length) (hl : ∀ x ∈ xs, x < 256) (hm : L < 2^40) (h : w.heap[g]? = some (.cells (bts xs).toArray 5 fr)) : BArg w (some ⟨g, 0, none⟩) L L xs := by
  refine ⟨hL, hl, by omega, by omega, fun h0 => ⟨g, 0, rfl, lt_of_block h, fun j hj => ?_⟩⟩
  rw [cell_of_row _ _ _ _ _ _ h]
  have := bts_get xs j (by rw [← hL]; exact hj)
  simpa using this
theorem nil_arg (w : World) : BArg w none 0 0 [] := ⟨rfl, by simp, Nat.le_refl _, by omega, fun h => by omega⟩
/-- A new block is none of the disk's. -/
theorem LD.fresh {w0 w : World} {g : Nat} {S : List Nat} {t : Sk} (h : LD w0 w g S t) (M : Nat) : 0 < M → ∀ a, (some ⟨w.heap.size, 0, none⟩ : Option Addr) = some a → a.block ∉ S := by
  intro _ a ha hm
  cases ha
  have := h.lt _ hm
  simp only at this
  omega
end Go.Proofs.YtdojhkgnnbdfkaaGreat
