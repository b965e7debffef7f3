/- What Tasks and Name answer, the program's and the document's. Conditions: the array of names lies as its variable lays it; numbers of 64 bits. -/
import Derived.Test.YtaaghcimfcjehaaGreatDoorCi13
namespace Go.Proofs.YtaaghcimfcjehaaGreatDoor
open Go.ChangeShapes Go.WideShapes Go.ChangeAt Go.RowKit Go.Lib
set_option linter.unusedVariables false
set_option linter.unusedSimpArgs false

def nDisp : ByteArray := ⟨#[100, 105, 115, 112, 97, 116, 99, 104, 101, 114]⟩
def nLane : ByteArray := ⟨#[108, 97, 110, 101]⟩
def nOwn : ByteArray := ⟨#[111, 119, 110, 101, 114]⟩
def nGate : ByteArray := ⟨#[103, 97, 116, 101]⟩
def nCall : ByteArray := ⟨#[99, 97, 108, 108]⟩
def nmAt : Nat → ByteArray
  | 0 => nDisp
  | 1 => nLane
  | 2 => nOwn
  | 3 => nGate
  | _ => nCall
/-- The names lie as they are laid. -/
def Nms (w : World) : Prop := ∀ j, j < 5 → w.cell? ⟨0, j, none⟩ = some (.string (nmAt j))
theorem Nms.lt {w : World} (h : Nms w) : 0 < w.heap.size := World.block_lt_of_cell? w _ (h 0 (by decide))
theorem Nms.keep {S : List Nat} {w w' : World} (h : Nms w) (hf : Fr S w w') (hn : 0 ∉ S) : Nms w' := fun j hj => (World.cell?_of_block (hf.block 0 h.lt hn)).trans (h j hj)

/-- What Tasks answers. -/
def Cf.tasks (c : Cf) : Int × Int := if c.may then (c.l + c.s + 2, 0) else (0, 7)

set_option maxHeartbeats 4000000 in
set_option maxRecDepth 100000 in
theorem tasks_any (l s x q : Int) (w : World) :
    Calls Tryz.prog 151 #[.agg #[.int .i64 l, .int .i64 s, .int .i64 x, .int .i64 q]] w fun e w' => e = .returned (.tuple #[.int .i64 (Cf.tasks ⟨l, s, x, q⟩).1, .int .i64 (Cf.tasks ⟨l, s, x, q⟩).2]) ∧ Fr [] w w' := by
  have HC := fun w => check_cells l s x q w
  by_cases hm : Cf.may ⟨l, s, x, q⟩
  · have E : Cf.err ⟨l, s, x, q⟩ = 0 := if_pos hm
    rw [E] at HC
    have hs : 1 ≤ s ∧ s ≤ 16 := hm.2.1
    have hl : 1 ≤ l ∧ l ≤ 16 := hm.1
    have E2 : Cf.tasks ⟨l, s, x, q⟩ = (l + s + 2, 0) := if_pos hm
    rw [E2]
    clear hm E E2
    have HS : Hid (1 + l + s + 1 = l + s + 2) := by show _ = _; omega
    go_enter Tryz.func151, Tryz.ntmps151
    go_wp2_with fail
    refine (HC _).mono ?_
    rintro e w1 ⟨rfl, hF1⟩
    obtain ⟨_, a0, a1, _, _⟩ := (CfM.new w l s x q 23).keep hF1
    have HF : Hid (Fr [] w w1) := (Fr.alloc _ _ _).then hF1
    clear hF1 HC
    go_wp2_with fail
    refine bodyPost_ret (results_tmp2 rfl _ _ _) rfl ?_
    exact ⟨by rw [← HS.out]; rfl, HF.out⟩
  · have E : Cf.err ⟨l, s, x, q⟩ = 7 := if_neg hm
    rw [E] at HC
    have E2 : Cf.tasks ⟨l, s, x, q⟩ = (0, 7) := if_neg hm
    rw [E2]
    clear hm E E2
    go_enter Tryz.func151, Tryz.ntmps151
    go_wp2_with fail
    refine (HC _).mono ?_
    rintro e w1 ⟨rfl, hF1⟩
    have HF : Hid (Fr [] w w1) := (Fr.alloc _ _ _).then hF1
    clear hF1 HC
    go_wp2_with fail
    refine bodyPost_ret (results_tmp2 rfl _ _ _) rfl ?_
    exact ⟨rfl, HF.out⟩

/-- Which kind, and which one of it, a task that is there is. -/
def KT (l s t : Int) (K : Nat) (k : Int) : Prop :=
  (t < 0 ∧ K = 4 ∧ k = t) ∨ (t = 0 ∧ K = 0 ∧ k = 0) ∨ (0 < t ∧ t ≤ l ∧ K = 1 ∧ k = t) ∨ (l < t ∧ t ≤ l + s ∧ K = 2 ∧ k = t - l - 1) ∨ (t = l + s + 1 ∧ K = 3 ∧ k = 0)
theorem KT.ex (l s t : Int) (h : t < l + s + 2) : ∃ K k, KT l s t K k := by
  by_cases h1 : t < 0
  · exact ⟨4, t, Or.inl ⟨h1, rfl, rfl⟩⟩
  · by_cases h2 : t = 0
    · exact ⟨0, 0, Or.inr (Or.inl ⟨h2, rfl, rfl⟩)⟩
    · by_cases h3 : t ≤ l
      · exact ⟨1, t, Or.inr (Or.inr (Or.inl ⟨by omega, h3, rfl, rfl⟩))⟩
      · by_cases h4 : t ≤ l + s
        · exact ⟨2, t - l - 1, Or.inr (Or.inr (Or.inr (Or.inl ⟨by omega, h4, rfl, rfl⟩)))⟩
        · exact ⟨3, 0, Or.inr (Or.inr (Or.inr (Or.inr ⟨by omega, rfl, rfl⟩)))⟩

set_option maxHeartbeats 4000000 in
set_option maxRecDepth 100000 in
theorem kind_any (l s x q t : Int) (K : Nat) (k : Int) (w : World) (hl : 1 ≤ l ∧ l ≤ 16) (hs : 1 ≤ s ∧ s ≤ 16) (ht : I6 t) (h : KT l s t K k) :
    Calls Tryz.prog 152 #[.agg #[.int .i64 l, .int .i64 s, .int .i64 x, .int .i64 q], .int .i64 t] w fun e w' => e = .returned (.int .u8 (K : Int)) ∧ Fr [] w w' := by
  rcases h with ⟨h1, rfl, h3⟩ | ⟨h1, rfl, h3⟩ | ⟨h1, h2, rfl, h3⟩ | ⟨h1, h2, rfl, h3⟩ | ⟨h1, rfl, h3⟩
  · clear h3 ht
    go_enter Tryz.func152, Tryz.ntmps152
    go_wp2
    go_ret
    exact ⟨rfl, Fr.alloc _ _ _⟩
  · subst h1
    clear h3 ht
    go_enter Tryz.func152, Tryz.ntmps152
    go_wp2
    go_ret
    exact ⟨rfl, Fr.alloc _ _ _⟩
  · have e1 : ¬ t < 0 := by omega
    have e2 : ¬ t = 0 := by omega
    clear h3 ht
    go_enter Tryz.func152, Tryz.ntmps152
    go_wp2
    go_ret
    exact ⟨rfl, Fr.alloc _ _ _⟩
  · have e1 : ¬ t < 0 := by omega
    have e2 : ¬ t = 0 := by omega
    have e3 : ¬ t ≤ l := by omega
    clear h3 ht h1
    go_enter Tryz.func152, Tryz.ntmps152
    go_wp2
    go_ret
    exact ⟨rfl, Fr.alloc _ _ _⟩
  · have e1 : ¬ t < 0 := by omega
    have e2 : ¬ t = 0 := by omega
    have e3 : ¬ t ≤ l := by omega
    have e4 : ¬ t ≤ l + s := by omega
    clear h3 ht h1
    go_enter Tryz.func152, Tryz.ntmps152
    go_wp2
    go_ret
    exact ⟨rfl, Fr.alloc _ _ _⟩

set_option maxHeartbeats 4000000 in
set_option maxRecDepth 100000 in
theorem which_any (l s x q t : Int) (K : Nat) (k : Int) (w : World) (hl : 1 ≤ l ∧ l ≤ 16) (hs : 1 ≤ s ∧ s ≤ 16) (ht : I6 t) (h : KT l s t K k) :
    Calls Tryz.prog 153 #[.agg #[.int .i64 l, .int .i64 s, .int .i64 x, .int .i64 q], .int .u8 (K : Int), .int .i64 t] w fun e w' => e = .returned (.int .i64 k) ∧ Fr [] w w' := by
  rcases h with ⟨h1, rfl, h3⟩ | ⟨h1, rfl, h3⟩ | ⟨h1, h2, rfl, h3⟩ | ⟨h1, h2, rfl, h3⟩ | ⟨h1, rfl, h3⟩
  · subst h3
    clear ht
    go_enter Tryz.func153, Tryz.ntmps153
    go_wp2
    go_ret
    exact ⟨rfl, Fr.alloc _ _ _⟩
  · subst h1 h3
    clear ht
    go_enter Tryz.func153, Tryz.ntmps153
    go_wp2
    go_ret
    exact ⟨rfl, Fr.alloc _ _ _⟩
  · subst h3
    clear ht
    go_enter Tryz.func153, Tryz.ntmps153
    go_wp2
    go_ret
    exact ⟨rfl, Fr.alloc _ _ _⟩
  · have HK : Hid (t - (1 + l) = k) := by show _ = _; omega
    clear h3 ht
    have h4 : 0 ≤ t - (1 + l) := by omega
    have h5 : t - (1 + l) ≤ 16 := by omega
    go_enter Tryz.func153, Tryz.ntmps153
    go_wp2
    go_ret
    exact ⟨by rw [← HK.out]; rfl, Fr.alloc _ _ _⟩
  · have HK : Hid (t - s - (1 + l) = k) := by show _ = _; omega
    clear h3 ht
    have h4 : 0 ≤ t - s ∧ t - s ≤ 32 := by omega
    have h5 : 0 ≤ t - s - (1 + l) ∧ t - s - (1 + l) ≤ 16 := by omega
    clear h1
    go_enter Tryz.func153, Tryz.ntmps153
    go_wp2
    go_ret
    exact ⟨by rw [← HK.out]; rfl, Fr.alloc _ _ _⟩
end Go.Proofs.YtaaghcimfcjehaaGreatDoor
