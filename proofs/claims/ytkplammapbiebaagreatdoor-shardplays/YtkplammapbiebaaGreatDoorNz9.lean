/- A shard that is not there: a nil one, or a zero struct: what its calls answer. Install of the document's nil. No conditions. -/
import Derived.Test.YtkplammapbiebaaGreatDoorHv9
namespace Go.Proofs.YtkplammapbiebaaGreatDoor
open Go.ChangeShapes Go.WideShapes Go.ChangeAt Go.RowKit Go.Lib Go.Maps
set_option linter.unusedVariables false
set_option linter.unusedSimpArgs false

/-- A shard that is not there. -/
def NoSh (w : World) (p : Option Addr) : Prop := p = none ∨ ∃ z, p = some ⟨z, 0, none⟩ ∧ w.heap[z]? = some (.cells #[.map none] 55 (0, 0))
theorem NoSh.keep {S : List Nat} {w w' : World} {p : Option Addr} (h : NoSh w p) (hf : Fr S w w') (hn : ∀ a, p = some a → a.block ∉ S) : NoSh w' p := by
  rcases h with h | ⟨z, h1, h2⟩
  · exact Or.inl h
  · exact Or.inr ⟨z, h1, hf.keep h2 (hn _ h1)⟩
set_option maxHeartbeats 1000000 in
theorem hthere_no (p : Option Addr) (w : World) (h : NoSh w p) : Calls Tryz.prog 77 #[.pointer p] w fun e w' => e = .returned (.bool false) ∧ w = w' := by
  have qT : ∀ (w : World) (r : Option Nat), (binOp .neq 51 (.map r) (.map none)).run Tryz.prog w = .ok (.bool (!r.isNone)) w := fun w r => run_neq_map_nil w _ _ _ r Tryz.undVMap
  rcases h with rfl | ⟨z, rfl, hz⟩
  · go_enter Tryz.func77, Tryz.ntmps77
    go_wp2
    go_ret
    exact ⟨rfl, rfl⟩
  · have c0 : w.cell? ⟨z, 0, none⟩ = some (.map none) := by simp [World.cell?, hz]
    go_enter Tryz.func77, Tryz.ntmps77
    go_wp2
    go_ret
    exact ⟨rfl, rfl⟩
set_option maxHeartbeats 1000000 in
theorem hall_no (p : Option Addr) (w : World) (h : NoSh w p) : Calls Tryz.prog 16 #[.pointer p] w fun e w' => e = .returned (.slice none 0 0) ∧ w = w' := by
  go_enter Tryz.func16, Tryz.ntmps16
  go_wp2_with fail
  refine (hthere_no p w h).mono ?_
  rintro e w1 ⟨rfl, rfl⟩
  go_wp2_with fail
  go_ret
  exact ⟨rfl, rfl⟩
set_option maxHeartbeats 1000000 in
theorem hsize_no (p : Option Addr) (w : World) (h : NoSh w p) : Calls Tryz.prog 14 #[.pointer p] w fun e w' => e = .returned (.int .i64 0) ∧ w = w' := by
  go_enter Tryz.func14, Tryz.ntmps14
  go_wp2_with fail
  refine (hthere_no p w h).mono ?_
  rintro e w1 ⟨rfl, rfl⟩
  go_wp2_with fail
  go_ret
  exact ⟨rfl, rfl⟩
set_option maxHeartbeats 1000000 in
theorem hget_no (p : Option Addr) (w : World) (h : NoSh w p) (key : ByteArray) (k : Int) : Calls Tryz.prog 68 #[.pointer p, .string key, .int .i64 k] w fun e w' => e = .returned (.tuple #[.string ⟨#[]⟩, .bool false]) ∧ w = w' := by
  go_enter Tryz.func68, Tryz.ntmps68
  go_wp2_with fail
  refine (hthere_no p w h).mono ?_
  rintro e w1 ⟨rfl, rfl⟩
  go_wp2_with fail
  go_ret2
  exact ⟨rfl, rfl⟩
set_option maxHeartbeats 1000000 in
theorem hScan_no (p : Option Addr) (w : World) (h : NoSh w p) (key en : ByteArray) (k : Int) : Calls Tryz.prog 19 #[.pointer p, .string key, .string en, .int .i64 k] w fun e w' => e = .returned (.slice none 0 0) ∧ w = w' := by
  go_enter Tryz.func19, Tryz.ntmps19
  go_wp2_with fail
  refine (hthere_no p w h).mono ?_
  rintro e w1 ⟨rfl, rfl⟩
  go_wp2_with fail
  go_ret
  exact ⟨rfl, rfl⟩
set_option maxHeartbeats 1000000 in
theorem hcollect_no (p : Option Addr) (w : World) (h : NoSh w p) (k : Int) : Calls Tryz.prog 72 #[.pointer p, .int .i64 k] w fun e w' => e = .returned (.int .i64 0) ∧ w = w' := by
  go_enter Tryz.func72, Tryz.ntmps72
  go_wp2_with fail
  refine (hthere_no p w h).mono ?_
  rintro e w1 ⟨rfl, rfl⟩
  go_wp2_with fail
  go_ret
  exact ⟨rfl, rfl⟩
set_option maxHeartbeats 1000000 in
theorem hdump_no (p : Option Addr) (w : World) (h : NoSh w p) (k : Int) (bo : Option Addr) (Mn cb : Nat) : Calls Tryz.prog 17 #[.pointer p, .int .i64 k, .slice bo Mn cb] w fun e w' => e = .returned (.slice none 0 0) ∧ Fr [] w w' := by
  have HF : Hid (Fr [] w ((w.alloc (.cells #[.int .i64 k] 3)).alloc (.cells #[.slice bo Mn cb] 59))) := (Fr.alloc _ _ _).then (Fr.alloc _ _ _)
  have HN := h.keep HF.out (by simp)
  go_enter Tryz.func17, Tryz.ntmps17
  go_wp2_with fail
  refine (hthere_no p _ HN).mono ?_
  rintro e w1 ⟨rfl, rfl⟩
  go_wp2_with fail
  go_ret
  exact ⟨rfl, HF.out⟩
set_option maxHeartbeats 1000000 in
theorem hinstall_no (p : Option Addr) (w : World) (h : NoSh w p) (num : Int) (key val : ByteArray) (drop : Bool) : Calls Tryz.prog 66 #[.pointer p, .int .i64 num, .agg #[.string key, .string val, .bool drop]] w fun e w' => e = .returned (.tuple #[.bool false, .int .i64 2]) ∧ Fr [] w w' := by
  have HF : Hid (Fr [] w (w.alloc (.cells #[.string key, .string val, .bool drop] 58))) := Fr.alloc _ _ _
  have HN := h.keep HF.out (by simp)
  go_enter Tryz.func66, Tryz.ntmps66
  go_wp2_with fail
  refine (hthere_no p _ HN).mono ?_
  rintro e w1 ⟨rfl, rfl⟩
  go_wp2_with fail
  go_ret2
  exact ⟨rfl, HF.out⟩
set_option maxHeartbeats 1000000 in
theorem kinstall_nil (w : World) (num : Int) (key val : ByteArray) (drop : Bool) : Calls Tryz.prog 67 #[.pointer none, .int .i64 num, .agg #[.string key, .string val, .bool drop]] w fun e w' => e = .returned (.tuple #[.bool false, .int .i64 2]) ∧ Fr [] w w' := by
  go_enter Tryz.func67, Tryz.ntmps67
  go_wp2
  go_ret2
  exact ⟨rfl, Fr.alloc _ _ _⟩
end Go.Proofs.YtkplammapbiebaaGreatDoor
