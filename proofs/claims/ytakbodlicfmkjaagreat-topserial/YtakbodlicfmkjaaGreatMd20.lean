/- The methods of tasks, as an interface's call finds them. Conditions as each names them. -/
import Derived.Test.YtakbodlicfmkjaaGreatUw14
import Derived.Deep.MidRow
namespace Go.Proofs.YtakbodlicfmkjaaGreat
open Go.ChangeShapes Go.WideShapes Go.ChangeAt Go.RowKit Go.Lib Go.Maps
set_option linter.unusedVariables false
set_option linter.unusedSimpArgs false

set_option maxRecDepth 100000
theorem m_dcan (b : Nat) (w : World) : (method 609 215 (.pointer (some ⟨b, 0, none⟩)) "towpath/replica.can").run Tryz.prog w = .ok (248, .pointer (some ⟨b, 0, none⟩)) w := by kernel_rfl
theorem m_wcan (b : Nat) (w : World) : (method 609 221 (.pointer (some ⟨b, 0, none⟩)) "towpath/replica.can").run Tryz.prog w = .ok (268, .pointer (some ⟨b, 0, none⟩)) w := by kernel_rfl
theorem m_kcan (b : Nat) (w : World) : (method 609 224 (.pointer (some ⟨b, 0, none⟩)) "towpath/replica.can").run Tryz.prog w = .ok (302, .pointer (some ⟨b, 0, none⟩)) w := by kernel_rfl
theorem m_gcan (b : Nat) (w : World) : (method 609 227 (.pointer (some ⟨b, 0, none⟩)) "towpath/replica.can").run Tryz.prog w = .ok (335, .pointer (some ⟨b, 0, none⟩)) w := by kernel_rfl
theorem m_dstep (b : Nat) (w : World) : (method 609 215 (.pointer (some ⟨b, 0, none⟩)) "towpath/replica.step").run Tryz.prog w = .ok (251, .pointer (some ⟨b, 0, none⟩)) w := by kernel_rfl
theorem m_wstep (b : Nat) (w : World) : (method 609 221 (.pointer (some ⟨b, 0, none⟩)) "towpath/replica.step").run Tryz.prog w = .ok (270, .pointer (some ⟨b, 0, none⟩)) w := by kernel_rfl
theorem m_kstep (b : Nat) (w : World) : (method 609 224 (.pointer (some ⟨b, 0, none⟩)) "towpath/replica.step").run Tryz.prog w = .ok (303, .pointer (some ⟨b, 0, none⟩)) w := by kernel_rfl
theorem m_gstep (b : Nat) (w : World) : (method 609 227 (.pointer (some ⟨b, 0, none⟩)) "towpath/replica.step").run Tryz.prog w = .ok (336, .pointer (some ⟨b, 0, none⟩)) w := by kernel_rfl
theorem m_whear (b : Nat) (w : World) : (method 609 221 (.pointer (some ⟨b, 0, none⟩)) "towpath/replica.hear").run Tryz.prog w = .ok (269, .pointer (some ⟨b, 0, none⟩)) w := by kernel_rfl
/-- What a seat says, wherever it stands. -/
theorem load_seat {w : World} {b mb : Nat} {n : Int} (h0 : w.cell? ⟨b, 0, none⟩ = some (.pointer (some ⟨mb, 0, none⟩))) (h1 : w.cell? ⟨b, 1, none⟩ = some (.int .i64 n)) :
    (loadVar 217 ⟨b, 0, none⟩).run Tryz.prog w = .ok (.agg #[.pointer (some ⟨mb, 0, none⟩), .int .i64 n]) w := by
  refine run_loadVar_mid (P := Tryz.prog) w b 0 217 [.pointer (some ⟨mb, 0, none⟩), .int .i64 n] (.struct (Tryz.prog.fieldsOf 217)) (fun j v hj => ?_) (by kernel_rfl) rfl (by kernel_rfl)
  match j, hj with
  | 0, hj => cases hj; exact h0
  | 1, hj => cases hj; exact h1
  | j + 2, hj => cases hj
/-- A promoted method's call. -/
theorem met_is {n : Nat} {t : TypeId} {v : Value} {name : String} {w : World} {f : FuncId} {pr : Bool} {path : List FieldStep}
    (hI : (Tryz.prog.info? t).map (fun i => (i.methods.find? (fun m => m.name == name)).map fun m => (m.func, m.path.toList, m.path.isEmpty)) = some (some (some (f, pr), path, false)))
    {xt : TypeId} {x : Place} (hx : (follow path t (.val v)).run Tryz.prog w = .ok (xt, x) w) {r : Value} (hr : (receiverAt xt x pr none).run Tryz.prog w = .ok r w) :
    (method (n + 1) t v name).run Tryz.prog w = .ok (f, r) w := by
  cases hi : Tryz.prog.info? t with
  | none => rw [hi] at hI; cases hI
  | some i =>
    rw [hi] at hI
    simp only [Option.map_some, Option.some.injEq] at hI
    cases hm : i.methods.find? (fun m => m.name == name) with
    | none => rw [hm] at hI; cases hI
    | some m =>
      rw [hm] at hI
      simp only [Option.map_some, Option.some.injEq, Prod.mk.injEq] at hI
      obtain ⟨h1, h2, h3⟩ := hI
      have ht : (typeInfo t).run Tryz.prog w = .ok i w := by simp [typeInfo, hi]
      have h4 : ¬ m.path = #[] := fun e => by rw [e] at h3; cases h3
      unfold method
      simp [Sem.run_bind, ht, hm, h1, h2, h4, hx, hr, Result.andThen]
section
variable {w : World} {b mb : Nat} {n : Int}
theorem m_dnum (h0 : w.cell? ⟨b, 0, none⟩ = some (.pointer (some ⟨mb, 0, none⟩))) (h1 : w.cell? ⟨b, 1, none⟩ = some (.int .i64 n)) : (method 609 215 (.pointer (some ⟨b, 0, none⟩)) "towpath/replica.number").run Tryz.prog w = .ok (250, .agg #[.pointer (some ⟨mb, 0, none⟩), .int .i64 n]) w := by
  refine met_is (n := 609 - 1) (path := [⟨220, 0, true⟩]) (xt := 217) (x := .var ⟨b, 0, none⟩) (pr := false) (by kernel_rfl) (by kernel_rfl) ?_
  have e : (receiverAt 217 (.var ⟨b, 0, none⟩) false none).run Tryz.prog w = (loadVar 217 ⟨b, 0, none⟩).run Tryz.prog w := by kernel_rfl
  rw [e, load_seat h0 h1]
theorem m_wnum (h0 : w.cell? ⟨b, 0, none⟩ = some (.pointer (some ⟨mb, 0, none⟩))) (h1 : w.cell? ⟨b, 1, none⟩ = some (.int .i64 n)) : (method 609 221 (.pointer (some ⟨b, 0, none⟩)) "towpath/replica.number").run Tryz.prog w = .ok (250, .agg #[.pointer (some ⟨mb, 0, none⟩), .int .i64 n]) w := by
  refine met_is (n := 609 - 1) (path := [⟨223, 0, true⟩]) (xt := 217) (x := .var ⟨b, 0, none⟩) (pr := false) (by kernel_rfl) (by kernel_rfl) ?_
  have e : (receiverAt 217 (.var ⟨b, 0, none⟩) false none).run Tryz.prog w = (loadVar 217 ⟨b, 0, none⟩).run Tryz.prog w := by kernel_rfl
  rw [e, load_seat h0 h1]
theorem m_knum (h0 : w.cell? ⟨b, 0, none⟩ = some (.pointer (some ⟨mb, 0, none⟩))) (h1 : w.cell? ⟨b, 1, none⟩ = some (.int .i64 n)) : (method 609 224 (.pointer (some ⟨b, 0, none⟩)) "towpath/replica.number").run Tryz.prog w = .ok (250, .agg #[.pointer (some ⟨mb, 0, none⟩), .int .i64 n]) w := by
  refine met_is (n := 609 - 1) (path := [⟨226, 0, true⟩]) (xt := 217) (x := .var ⟨b, 0, none⟩) (pr := false) (by kernel_rfl) (by kernel_rfl) ?_
  have e : (receiverAt 217 (.var ⟨b, 0, none⟩) false none).run Tryz.prog w = (loadVar 217 ⟨b, 0, none⟩).run Tryz.prog w := by kernel_rfl
  rw [e, load_seat h0 h1]
theorem m_gnum (h0 : w.cell? ⟨b, 0, none⟩ = some (.pointer (some ⟨mb, 0, none⟩))) (h1 : w.cell? ⟨b, 1, none⟩ = some (.int .i64 n)) : (method 609 227 (.pointer (some ⟨b, 0, none⟩)) "towpath/replica.number").run Tryz.prog w = .ok (250, .agg #[.pointer (some ⟨mb, 0, none⟩), .int .i64 n]) w := by
  refine met_is (n := 609 - 1) (path := [⟨228, 0, true⟩]) (xt := 217) (x := .var ⟨b, 0, none⟩) (pr := false) (by kernel_rfl) (by kernel_rfl) ?_
  have e : (receiverAt 217 (.var ⟨b, 0, none⟩) false none).run Tryz.prog w = (loadVar 217 ⟨b, 0, none⟩).run Tryz.prog w := by kernel_rfl
  rw [e, load_seat h0 h1]
/-- A seat's number. -/
theorem snum_any (n : Int) (mb : Nat) (w : World) : Calls Tryz.prog 250 #[.agg #[.pointer (some ⟨mb, 0, none⟩), .int .i64 n]] w fun e w' => e = .returned (.int .i64 n) ∧ Fr [] w w' := by
  have HF : Hid (Fr [] w (w.alloc (.cells #[.pointer (some ⟨mb, 0, none⟩), .int .i64 n] 217))) := Fr.alloc _ _ _
  go_enter Tryz.func250, Tryz.ntmps250
  go_wp2
  go_ret
  exact ⟨rfl, HF.out⟩
end
end Go.Proofs.YtakbodlicfmkjaaGreat
