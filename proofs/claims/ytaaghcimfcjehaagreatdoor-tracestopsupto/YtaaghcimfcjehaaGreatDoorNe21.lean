/- A new story. Conditions as each names them. -/
import Derived.Test.YtaaghcimfcjehaaGreatDoorNr21
namespace Go.Proofs.YtaaghcimfcjehaaGreatDoor
open Go.ChangeShapes Go.WideShapes Go.ChangeAt Go.RowKit Go.Lib Go.Maps
set_option linter.unusedVariables false
set_option linter.unusedSimpArgs false

/-- Where a story begins. -/
def sy0 (m : Int) (xs : List Int) : Sy := ⟨m, false, m, xs, [], fun _ => False, fun _ => 0, fun _ => [], fun _ => 0, fun _ => 0⟩
theorem lk_of {T : List Tx} (h : okL 1 T) : Lk T := by
  have hg := fun (n : Int) (h1 : 1 ≤ n) (h2 : n ≤ (T.length : Int)) => okL_get h (n - 1).toNat (by omega)
  refine ⟨okL_few h, fun n h1 h2 => ?_, fun n h1 h2 => ?_, fun n h1 h2 => ?_⟩
  · exact (hg n h1 h2).1.2.2.1
  · have e := (hg n h1 h2).2
    have e2 : ((1 + (n - 1).toNat : Nat) : Int) = n := by omega
    have := (hg n h1 h2).1
    unfold Tx.ok at this
    rw [e, e2] at this
    exact this
  · rw [(hg n h1 h2).2]
    omega
theorem grt_low {m : Int} {xs : List Int} (h : Gok m xs) : m ≤ grt m xs := by
  unfold grt
  split
  · next h0 =>
    have hm : xs.getD (xs.length - 1) 0 ∈ xs := by simp [List.getD, show xs.length - 1 < xs.length by omega]
    have := (h.1.bey _ hm).1
    omega
  · exact Int.le_refl _
theorem iv_zero {c : Cf} {T : List Tx} {m : Int} {xs : List Int} (hc : c.may) (h : Gok m xs) (ht : grt m xs ≤ (T.length : Int)) : Iv c T (sy0 m xs) 0 := by
  have h1 := h.1.low
  have h2 := grt_low h
  have hq := hc.2.2.2.1
  refine ⟨h1, by show m ≤ _; omega, by intro hh; simp [sy0] at hh, by simp [sy0], by simp [sy0], by simp [sy0], fun i => Or.inl rfl, by simp [sy0], by simp [sy0], fun j hj => ?_, by simp [sy0], by simp [sy0], by simp [sy0], by simp [sy0]⟩
  simp [sy0]
  omega
theorem rng_at (n i : Nat) (h : i < n) : (Array.range n)[i]? = some i := by
  have h2 : i < (Array.range n).size := by rw [Array.size_range]; exact h
  rw [Array.getElem?_eq_getElem h2, Array.getElem_range]
theorem zLn_at (n i : Nat) (h : i < n) : (zLn (n * 2))[2 * i]? = some (.int .i64 0) ∧ (zLn (n * 2))[2 * i + 1]? = some (.slice none 0 0) := by
  have e1 : 2 * i % 2 = 0 := by omega
  have e2 : (2 * i + 1) % 2 = 1 := by omega
  constructor
  · simp only [zLn, madeCells, Array.getElem?_map]
    rw [rng_at _ _ (by omega)]
    simp [e1]
  · simp only [zLn, madeCells, Array.getElem?_map]
    rw [rng_at _ _ (by omega)]
    simp [e2]
theorem zQu_at (n i : Nat) (h : i < n) : (zQu (n * 1))[i]? = some (.slice none 0 0) := by
  simp only [zQu, madeCells, Array.getElem?_map]
  rw [rng_at _ _ (by omega)]
  simp [Nat.mod_one]
theorem sy_made {c : Cf} {lo : Option Addr} {M mc g b3 b5 : Nat} {m : Int} {xs : List Int} {w0 w : World} {ρ : Nat → Value} {B : Nat → List Nat} (hc : c.may) (hG : GG w g m xs) (hg : g < w0.heap.size)
    (hP : ∀ i, i < 18 → Ph c lo M mc g m b3 b5 i ρ (B i) w) (hB : ∀ i, i < 18 → ∀ x ∈ B i, w0.heap.size ≤ x ∧ x < w.heap.size) (hA : ∀ i j, i ≠ j → i < 18 → j < 18 → ∀ x ∈ B i, x ∉ B j) :
    ∃ Z, ρ 6 = .pointer (some ⟨Z.sb, 0, none⟩) ∧ ρ 7 = .bool true ∧ SyM w Z c (sy0 m xs) 0 ∧ Z.g = g ∧ Z.logo = lo ∧ Z.M = M ∧ Z.mc = mc ∧ (∀ x ∈ Z.own, x = g ∨ w0.heap.size ≤ x) := by
  obtain ⟨_, p37⟩ := hP 1 (by omega)
  obtain ⟨_, p38⟩ := hP 2 (by omega)
  obtain ⟨tb, p39, hT⟩ := hP 3 (by omega)
  obtain ⟨_, p41⟩ := hP 5 (by omega)
  obtain ⟨lb, p44, b8, hL⟩ := hP 8 (by omega)
  obtain ⟨qq, p47, b11, hQ⟩ := hP 11 (by omega)
  obtain ⟨ob, p48, b12, hO⟩ := hP 12 (by omega)
  obtain ⟨cb, p49, b13, hC⟩ := hP 13 (by omega)
  obtain ⟨_, p50⟩ := hP 14 (by omega)
  obtain ⟨sb, cells, q50, p51, b15, hS⟩ := hP 15 (by omega)
  obtain ⟨_, p6⟩ := hP 16 (by omega)
  obtain ⟨_, p7⟩ := hP 17 (by omega)
  rw [p37, p38, p39, p41, p44, p47, p48, p49] at p50
  rw [p50] at q50
  cases q50
  have mem : ∀ i b, B i = [b] → b ∈ B i := fun i b h => by rw [h]; simp
  have ne : ∀ i j a b, i ≠ j → i < 18 → j < 18 → B i = [a] → B j = [b] → a ≠ b := by
    intro i j a b hij hi hj ha hb e
    subst e
    exact hA i j hij hi hj a (mem i a ha) (mem j a hb)
  have neB : ∀ i a, i ≠ 3 → i < 18 → B i = [a] → a ∉ B 3 := fun i a hi hl ha => hA i 3 hi hl (by omega) a (mem i a ha)
  have lo' : ∀ i a, i < 18 → B i = [a] → w0.heap.size ≤ a := fun i a hi ha => (hB i hi a (mem i a ha)).1
  have l8 := lo' 8 lb (by omega) b8
  have l11 := lo' 11 qq (by omega) b11
  have l12 := lo' 12 ob (by omega) b12
  have l13 := lo' 13 cb (by omega) b13
  have l15 := lo' 15 sb (by omega) b15
  have d1 := ne 15 8 sb lb (by omega) (by omega) (by omega) b15 b8
  have d2 := ne 15 11 sb qq (by omega) (by omega) (by omega) b15 b11
  have d3 := ne 15 12 sb ob (by omega) (by omega) (by omega) b15 b12
  have d4 := ne 15 13 sb cb (by omega) (by omega) (by omega) b15 b13
  have d5 := ne 8 11 lb qq (by omega) (by omega) (by omega) b8 b11
  have d6 := ne 8 12 lb ob (by omega) (by omega) (by omega) b8 b12
  have d7 := ne 8 13 lb cb (by omega) (by omega) (by omega) b8 b13
  have d8 := ne 11 12 qq ob (by omega) (by omega) (by omega) b11 b12
  have d9 := ne 11 13 qq cb (by omega) (by omega) (by omega) b11 b13
  have d10 := ne 12 13 ob cb (by omega) (by omega) (by omega) b12 b13
  have hrows : (⟨sb, g, tb, lb, qq, ob, cb, B 3, fun _ => Sq.no, lo, M, mc⟩ : Zs).rows = [] := by
    refine List.eq_nil_iff_forall_not_mem.2 fun b hb => ?_
    obtain ⟨i, _, hi⟩ := Zs.rows_mem hb
    simp [Sq.no, qb] at hi
  refine ⟨⟨sb, g, tb, lb, qq, ob, cb, B 3, fun _ => Sq.no, lo, M, mc⟩, by rw [p6, p51], p7, ?_, rfl, rfl, rfl, rfl, fun x hx => ?_⟩
  · refine ⟨hS, ⟨_, hL, ?_, fun i hi => zLn_at _ i hi⟩, ⟨_, hQ, ?_, fun j hj => zQu_at _ j hj⟩, fun i => QR.nil w, hG, ⟨Dt.none, hT, Inv.none, by simp [Dt.none]⟩, ⟨_, hO, fun n => rfl⟩, ⟨_, hC, fun n => rfl⟩, ?_, hc⟩
    · simp [zLn, size_madeCells]; omega
    · simp [zQu, size_madeCells]
    · refine ⟨?_, fun x hx => ?_, fun i b hb => by simp [Sq.no, qb] at hb, fun i j b _ hb => by simp [Sq.no, qb] at hb, fun i _ => rfl⟩
      · simp only [Zs.six, List.nodup_cons, List.mem_cons, List.not_mem_nil, or_false, not_or, List.nodup_nil, not_false_eq_true, and_true]
        refine ⟨⟨by omega, d1, d2, d3, d4⟩, ⟨by omega, by omega, by omega, by omega⟩, ⟨d5, d6, d7⟩, ⟨d8, d9⟩, d10⟩
      · simp only [Zs.six, List.mem_cons, List.not_mem_nil, or_false] at hx
        rcases hx with rfl | rfl | rfl | rfl | rfl | rfl
        · exact neB 15 _ (by omega) (by omega) b15
        · intro hh
          have := (hB 3 (by omega) _ hh).1
          omega
        · exact neB 8 _ (by omega) (by omega) b8
        · exact neB 11 _ (by omega) (by omega) b11
        · exact neB 12 _ (by omega) (by omega) b12
        · exact neB 13 _ (by omega) (by omega) b13
  · rw [Zs.mem_own, hrows] at hx
    simp only [Zs.six, List.mem_cons, List.not_mem_nil, or_false] at hx
    rcases hx with (rfl | rfl | rfl | rfl | rfl | rfl) | hx
    · exact Or.inr l15
    · exact Or.inl rfl
    · exact Or.inr l8
    · exact Or.inr l11
    · exact Or.inr l12
    · exact Or.inr l13
    · exact Or.inr (hB 3 (by omega) x hx).1
end Go.Proofs.YtaaghcimfcjehaaGreatDoor
