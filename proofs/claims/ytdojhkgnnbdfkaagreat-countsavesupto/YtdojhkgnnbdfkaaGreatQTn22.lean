/- Sums, and how many steps a transaction takes: the program's total, ofTxn and Txn, the document's Txn. Conditions as each names them. -/
import Derived.Test.YtdojhkgnnbdfkaaGreatQCn22
namespace Go.Proofs.YtdojhkgnnbdfkaaGreat.Q
open Go.ChangeShapes Go.WideShapes Go.ChangeAt Go.RowKit Go.Lib
set_option linter.unusedVariables false
set_option linter.unusedSimpArgs false

def sumI : List Int → Int
  | [] => 0
  | x :: r => x + sumI r
theorem sumI_app : ∀ (a b : List Int), sumI (a ++ b) = sumI a + sumI b
  | [], b => by simp [sumI]
  | x :: r, b => by simp [sumI, sumI_app r b]; omega
theorem sumI_snoc (a : List Int) (x : Int) : sumI (a ++ [x]) = sumI a + x := by rw [sumI_app]; simp [sumI]
theorem sumI_bound {M : Nat} : ∀ (a : List Int), (∀ x ∈ a, 0 ≤ x ∧ x ≤ (M : Int)) → 0 ≤ sumI a ∧ sumI a ≤ (a.length * M : Nat)
  | [], _ => by simp [sumI]
  | x :: r, h => by
    obtain ⟨h1, h2⟩ := sumI_bound r fun y hy => h y (List.mem_cons_of_mem _ hy)
    have h3 := h x List.mem_cons_self
    simp only [sumI, List.length_cons, Nat.add_mul, Nat.one_mul]
    omega
theorem igetD_mem (xs : List Int) (i : Nat) (h : i < xs.length) : xs.getD i 0 ∈ xs := by
  simp [List.getD, h]
set_option maxHeartbeats 4000000 in
set_option maxRecDepth 100000 in
theorem ntotal_any (ao : Option Addr) (L cap : Nat) (xs : List Int) (w : World) (hI : IRs w ao xs) (hL : L = xs.length) (hb : ∀ x ∈ xs, 0 ≤ x ∧ x ≤ ((1048576 : Nat) : Int)) (hLb : L ≤ 4194304) :
    Calls Tryz.prog 14 #[.slice ao L cap] w fun e w' => e = .returned (.int .i64 (sumI xs)) ∧ Fr [] w w' := by
  have HL : Hid (L = xs.length) := hL
  have HI : Hid (∀ W, Fr [] w W → IRs W ao xs) := fun W hf => hI.keep hf
  have HB : Hid (∀ i, i < L → (0 ≤ xs.getD i 0 ∧ xs.getD i 0 ≤ 1048576) ∧ sumI (xs.take (i + 1)) = sumI (xs.take i) + xs.getD i 0 ∧ 0 ≤ sumI (xs.take i) ∧ sumI (xs.take i) ≤ 4398046511104) := fun i hi => by
    refine ⟨by have := hb _ (igetD_mem xs i (by omega)); omega, by rw [itake_snoc xs i (by omega), sumI_snoc], ?_⟩
    have h2 := sumI_bound (M := 1048576) (xs.take i) (fun x hx => hb x (List.mem_of_mem_take hx))
    have h3 : (xs.take i).length ≤ 4194304 := by rw [List.length_take]; omega
    have h4 : (xs.take i).length * 1048576 ≤ 4194304 * 1048576 := Nat.mul_le_mul_right _ h3
    omega
  clear hI hb hL
  go_enter Tryz.func14, Tryz.ntmps14
  go_wp2_with fail
  go_loopw [3, 8] (fun ss ii wr => ∃ (i : Nat), ss = .int .i64 (sumI (xs.take i)) ∧ ii = .int .i64 i ∧ i ≤ L ∧ Fr [] w wr) (fun _ ii _ => L - (intOf ii).toNat)
  case atStart => exact ⟨0, rfl, rfl, Nat.zero_le _, Fr.refl _ _⟩
  case round =>
    obtain ⟨i, rfl, rfl, hiL, hF⟩ := hrel
    by_cases hi : i < L
    · obtain ⟨bb, off, rfl, _, hc⟩ := (HI.out _ hF).lies (by rw [← HL.out]; omega)
      have d0 := hc i (by rw [← HL.out]; exact hi)
      obtain ⟨⟨x0, x1⟩, HE, s0, s1⟩ := HB.out i hi
      have HE' : Hid (_ = _) := HE
      clear HE
      generalize xs.getD i 0 = x at d0 x0 x1 HE'
      generalize hS : sumI (xs.take i) = S at s0 s1 HE' ⊢
      clear hc hS
      go_wp2_with fail
      go_roundw
      case rel => exact ⟨i + 1, by rw [HE'.out], by simp, by omega, hF⟩
      case measure => simp [intOf]; omega
    · obtain rfl : i = L := by omega
      have HE : Hid (sumI (xs.take i) = sumI xs) := by
        show _ = _
        rw [HL.out, List.take_length]
      rw [HE.out]
      clear HE hi hiL
      go_wp2_with fail
      go_ret
      exact ⟨rfl, hF⟩

/-- How many steps a transaction takes. -/
noncomputable def tnC (ws : List Wt) (sk : Bool) : Nat := if sk then 2 else 5 + 2 * (dd ws).length
theorem tnC_le {ws : List Wt} (h : ws.length ≤ 32) (sk : Bool) : tnC ws sk ≤ 69 := by
  have := dd_len ws
  unfold tnC
  split <;> omega
/-- What a call of Txn answers. -/
def TnP (n : Int) (ws : List Wt) (sk : Bool) (r e : Int) : Prop := (okT n ws ∧ r = (tnC ws sk : Int) ∧ e = 0) ∨ (¬ okT n ws ∧ r = 0 ∧ e = 1)
theorem TnP.uniq {n : Int} {ws : List Wt} {sk : Bool} {r e r' e' : Int} (h : TnP n ws sk r e) (h' : TnP n ws sk r' e') : r = r' ∧ e = e' := by
  rcases h with ⟨h1, h2, h3⟩ | ⟨h1, h2, h3⟩ <;> rcases h' with ⟨g1, g2, g3⟩ | ⟨g1, g2, g3⟩ <;> first | (exact ⟨by omega, by omega⟩) | (exact absurd g1 h1) | (exact absurd h1 g1)
set_option maxHeartbeats 4000000 in
set_option maxRecDepth 100000 in
theorem noftxn_any (n : Int) (ao : Option Addr) (L cap : Nat) (ws : List Wt) (sk : Bool) (w : World) (hT : TArg w n ao L cap ws) (hok : okT n ws) :
    Calls Tryz.prog 42 #[.agg #[.int .i64 n, .slice ao L cap], .bool sk] w fun e w' => e = .returned (.int .i64 (tnC ws sk : Int)) ∧ Fr [] w w' := by
  have HQ : Hid (∀ W, Fr [] w W → Calls Tryz.prog 67 #[.slice ao L cap] W fun e w' => e = .returned (.int .i64 ((dd ws).length : Int)) ∧ Fr [] W w') := fun W hf => ncounting_any ao L cap ws W (hT.rs.keep hf) hT.len (by have := hok.2.2.1; have := hT.len; omega) (fun y hy => (hok.2.2.2 y hy).2.1)
  have hdl : (dd ws).length ≤ 32 := by have := hok.2.2.1; have := dd_len ws; omega
  have hF0 : Fr [] w (w.alloc (.cells #[.int .i64 n, .slice ao L cap] 54)) := Fr.alloc _ _ _
  have hrow0 := heap_alloc_new w (.cells #[.int .i64 n, .slice ao L cap] 54)
  obtain ⟨w1, HW1⟩ : ∃ w1, Hid (w.alloc (.cells #[.int .i64 n, .slice ao L cap] 54) = w1) := ⟨_, rfl⟩
  obtain ⟨B, HB⟩ : ∃ B, Hid (w.heap.size = B) := ⟨_, rfl⟩
  rw [HW1.out] at hF0 hrow0
  rw [HB.out] at hrow0
  have b1 : w1.cell? ⟨B, 1, none⟩ = some (.slice ao L cap) := by rw [cell_of_row _ _ _ _ _ _ hrow0]; rfl
  have HF0 : Hid (Fr [] w w1) := hF0
  have HE : Hid (tnC ws true = 2 ∧ tnC ws false = 5 + 2 * (dd ws).length) := ⟨rfl, rfl⟩
  generalize (dd ws).length = D at HQ hdl HE
  clear hT hok hF0 hrow0
  cases sk with
  | true =>
    go_enter Tryz.func42, Tryz.ntmps42
    go_upto_region 1 with fail
    rw [HW1.out, HB.out]
    go_wp2_with fail
    go_ret
    exact ⟨by rw [HE.out.1]; rfl, HF0.out⟩
  | false =>
    go_enter Tryz.func42, Tryz.ntmps42
    go_upto_region 1 with fail
    rw [HW1.out, HB.out]
    go_wp2_with fail
    refine (HQ.out _ HF0.out).mono ?_
    rintro e w2 ⟨rfl, hF2⟩
    have HF2 : Hid (Fr [] w w2) := HF0.out.then hF2
    have HT : Hid (∀ W, Fr [] (w2.alloc (.cells #[.int .i64 5, .int .i64 (2 * (D : Int))] 3)) W → Calls Tryz.prog 14 #[.slice (some ⟨w2.heap.size, 0, none⟩) 2 2] W fun e w' => e = .returned (.int .i64 (5 + 2 * (D : Int))) ∧ Fr [] W w') := fun W hf => by
      have hr := hf.keep (heap_alloc_new w2 (.cells #[.int .i64 5, .int .i64 (2 * (D : Int))] 3)) (by simp)
      refine (ntotal_any (some ⟨w2.heap.size, 0, none⟩) 2 2 [5, 2 * (D : Int)] W ⟨fun _ => ⟨_, 0, rfl, lt_of_block hr, fun i hi => ?_⟩, by simp⟩ rfl ?_ (by omega)).mono ?_
      · have : i = 0 ∨ i = 1 := by simp at hi; omega
        rcases this with rfl | rfl <;> (rw [cell_of_row _ _ _ _ _ _ hr]; rfl)
      · intro x hx
        simp at hx
        rcases hx with rfl | rfl <;> omega
      · rintro e w3 ⟨rfl, h3⟩
        exact ⟨by simp [sumI], h3⟩
    go_wp2_with fail
    refine (HT.out _ (Fr.refl _ _)).mono ?_
    rintro e w3 ⟨rfl, hF3⟩
    go_wp2_with fail
    go_ret
    exact ⟨by rw [HE.out.2]; simp, (HF2.out.then (Fr.alloc _ _ _)).then hF3⟩
end Go.Proofs.YtdojhkgnnbdfkaaGreat.Q
