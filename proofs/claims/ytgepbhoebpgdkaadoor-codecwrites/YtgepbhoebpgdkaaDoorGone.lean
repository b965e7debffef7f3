/- That a writer which is not there (nil, or zero) does nothing and answers ErrNil where it has an error. No conditions. -/
import Derived.Test.YtgepbhoebpgdkaaDoorWant2
namespace Go.Proofs.YtgepbhoebpgdkaaDoor
open Go.ChangeShapes Go.WideShapes Go.ChangeAt Go.RowKit Go.Lib

def Gone (w : World) (p : Value) : Prop := p = .pointer none ∨ ∃ z, p = .pointer (some ⟨z, 0, none⟩) ∧ w.cell? ⟨z, 0, none⟩ = some (.bool false)
theorem wThere_gone (p : Value) (w : World) (h : Gone w p) : Calls Tryd.prog 19 #[p] w fun e w' => e = .returned (.bool false) ∧ w = w' := by
  rcases h with rfl | ⟨z, rfl, hz⟩
  · exact wThere_nil w
  · go_enter Tryd.func19, Tryd.ntmps19
    go_wp2
    go_ret
    exact ⟨rfl, rfl⟩
set_option maxHeartbeats 1000000 in
theorem wVar_gone (p : Value) (n : Int) (w : World) (h : Gone w p) : Calls Tryd.prog 13 #[p, .int .u64 n] w fun e w' => e = .returned (.tuple #[]) ∧ w = w' := by
  have H : Hid (Gone w p) := h
  clear h
  go_enter Tryd.func13, Tryd.ntmps13
  go_wp2_with fail
  refine (wThere_gone p _ H.out).mono ?_
  rintro e w' ⟨rfl, rfl⟩
  go_wp2
  (try simp only [Exit.inBlock, Exit.then])
  refine bodyPost_ret (results_none rfl _ _ _) rfl ?_
  exact ⟨rfl, rfl⟩
set_option maxHeartbeats 1000000 in
theorem wInt_gone (p : Value) (n : Int) (w : World) (h : Gone w p) (hn0 : -9223372036854775808 ≤ n) (hn : n ≤ 9223372036854775807) : Calls Tryd.prog 9 #[p, .int .i64 n] w fun e w' => e = .returned (.tuple #[]) ∧ w = w' := by
  have H : Hid (Gone w p) := h
  clear h
  go_enter Tryd.func9, Tryd.ntmps9
  go_wp2_with fail
  refine (zig_any n _ hn0 hn).mono ?_
  rintro e w' ⟨rfl, rfl⟩
  go_wp2_with fail
  refine (wVar_gone p _ _ H.out).mono ?_
  rintro e w' ⟨rfl, rfl⟩
  go_wp2
  go_end0
  exact ⟨rfl, rfl⟩
set_option maxHeartbeats 1000000 in
theorem wText_gone (p : Value) (s : ByteArray) (w : World) (h : Gone w p) : Calls Tryd.prog 11 #[p, .string s] w fun e w' => e = .returned (.tuple #[]) ∧ w = w' := by
  have H : Hid (Gone w p) := h
  clear h
  go_enter Tryd.func11, Tryd.ntmps11
  go_wp2_with fail
  refine (wThere_gone p _ H.out).mono ?_
  rintro e w' ⟨rfl, rfl⟩
  go_wp2
  (try simp only [Exit.inBlock, Exit.then])
  refine bodyPost_ret (results_none rfl _ _ _) rfl ?_
  exact ⟨rfl, rfl⟩
set_option maxHeartbeats 1000000 in
theorem wFixed_gone (p : Value) (n x : Int) (w : World) (h : Gone w p) : Calls Tryd.prog 7 #[p, .int .u64 n, .int .i64 x] w fun e w' => e = .returned (.int .i64 2) ∧ w = w' := by
  have H : Hid (Gone w p) := h
  clear h
  go_enter Tryd.func7, Tryd.ntmps7
  go_wp2_with fail
  refine (wThere_gone p _ H.out).mono ?_
  rintro e w' ⟨rfl, rfl⟩
  go_wp2
  go_ret
  exact ⟨rfl, rfl⟩
set_option maxHeartbeats 1000000 in
theorem wDone_gone (p : Value) (w : World) (h : Gone w p) : Calls Tryd.prog 15 #[p] w fun e w' => e = .returned (.slice none 0 0) ∧ w = w' := by
  have H : Hid (Gone w p) := h
  clear h
  go_enter Tryd.func15, Tryd.ntmps15
  go_wp2_with fail
  refine (wThere_gone p _ H.out).mono ?_
  rintro e w' ⟨rfl, rfl⟩
  go_wp2
  go_ret
  exact ⟨rfl, rfl⟩
end Go.Proofs.YtgepbhoebpgdkaaDoor
