/- A lane in memory (LnM), holding none or a transaction under way, and one that is not there (NoL): contracts of there, doing, Holds, Ready. Conditions as each names them. -/
import Derived.Test.YtakbodlicfmkjaaGreatUw14
import Derived.Test.YtakbodlicfmkjaaGreatCi13
namespace Go.Proofs.YtakbodlicfmkjaaGreat
open Go.ChangeShapes Go.WideShapes Go.ChangeAt Go.RowKit Go.Lib Go.Maps
set_option linter.unusedVariables false
set_option linter.unusedSimpArgs false

/-- The states as values. -/
def noV : Value := .iface 209 (.agg #[])
def uwV (ub : Nat) : Value := .iface 389 (.pointer (some ⟨ub, 0, none⟩))
/-- A lane's struct lies in block lb. -/
def LnB (w : World) (lb : Nat) (nm l s x q : Int) (v : Value) : Prop := w.heap[lb]? = some (.cells #[.int .i64 nm, .int .i64 l, .int .i64 s, .int .i64 x, .int .i64 q, v] 213 (0, 0))
/-- The lane in memory; S: its own blocks besides. -/
def LnM (w : World) (lb : Nat) (nm l s x q : Int) (st : Option Hl) (S : List Nat) : Prop :=
  match st with
  | none => LnB w lb nm l s x q noV
  | some h => ∃ ub ao N cp, LnB w lb nm l s x q (uwV ub) ∧ UwM w ub h.n ao N cp h.out h.l ∧ lb ≠ ub ∧ ub ∈ S ∧ (0 < h.l.length → ∀ a, ao = some a → a.block ∈ S ∧ a.block ≠ lb)
section
variable {w : World} {lb : Nat} {nm l s x q : Int} {v : Value} {st : Option Hl} {S : List Nat}
theorem LnB.c0 (h : LnB w lb nm l s x q v) : w.cell? ⟨lb, 0, none⟩ = some (.int .i64 nm) := by rw [cell_of_row _ _ _ _ _ _ h]; rfl
theorem LnB.c1 (h : LnB w lb nm l s x q v) : w.cell? ⟨lb, 1, none⟩ = some (.int .i64 l) := by rw [cell_of_row _ _ _ _ _ _ h]; rfl
theorem LnB.c2 (h : LnB w lb nm l s x q v) : w.cell? ⟨lb, 2, none⟩ = some (.int .i64 s) := by rw [cell_of_row _ _ _ _ _ _ h]; rfl
theorem LnB.c3 (h : LnB w lb nm l s x q v) : w.cell? ⟨lb, 3, none⟩ = some (.int .i64 x) := by rw [cell_of_row _ _ _ _ _ _ h]; rfl
theorem LnB.c4 (h : LnB w lb nm l s x q v) : w.cell? ⟨lb, 4, none⟩ = some (.int .i64 q) := by rw [cell_of_row _ _ _ _ _ _ h]; rfl
theorem LnB.c5 (h : LnB w lb nm l s x q v) : w.cell? ⟨lb, 5, none⟩ = some v := by rw [cell_of_row _ _ _ _ _ _ h]; rfl
theorem LnB.fz (h : LnB w lb nm l s x q v) (j : Nat) : w.frozen? ⟨lb, j, none⟩ = false := by unfold LnB at h; simp [World.frozen?, h]
theorem LnB.keep {T : List Nat} {w' : World} (h : LnB w lb nm l s x q v) (hf : Fr T w w') (hn : lb ∉ T) : LnB w' lb nm l s x q v := hf.keep h hn
theorem LnB.set (h : LnB w lb nm l s x q v) (u : Value) : LnB (w.setCell ⟨lb, 5, none⟩ u) lb nm l s x q u := by
  unfold LnB
  rw [vrow_setCell _ h]
  rfl
theorem LnM.keep {T : List Nat} {w' : World} (h : LnM w lb nm l s x q st S) (hf : Fr T w w') (h0 : lb ∉ T) (h1 : ∀ k ∈ S, k ∉ T) : LnM w' lb nm l s x q st S := by
  cases st with
  | none => exact LnB.keep h hf h0
  | some hl =>
    obtain ⟨ub, ao, N, cp, hb, hu, hne, hS, hr⟩ := h
    exact ⟨ub, ao, N, cp, hb.keep hf h0, hu.keep hf (h1 _ hS) (fun hp a ha => h1 _ (hr hp a ha).1), hne, hS, hr⟩
theorem LnM.lt (h : LnM w lb nm l s x q st S) : lb < w.heap.size := by
  cases st with
  | none => exact lt_of_block h
  | some hl =>
    obtain ⟨ub, ao, N, cp, hb, _⟩ := h
    exact lt_of_block hb
theorem LnM.kept (h : LnM w lb nm l s x q st S) : ∀ W, Fr [] w W → LnM W lb nm l s x q st S := fun W hf => h.keep hf (by simp) (by simp)

theorem Tryz.undSt : Tryz.prog.underlying 211 = some (.interface (Tryz.prog.methodsAt 211)) := by kernel_rfl
theorem Tryz.undWk : Tryz.prog.underlying 384 = some (.interface (Tryz.prog.methodsAt 384)) := by kernel_rfl
theorem as_no (w : World) : (Instr.typeAssert (.iface 209 (.agg #[])) 211 384 true).run Tryz.prog w = .ok (.tuple #[.nilIface, .bool false]) w := run_typeAssert_lacksB Tryz.undWk (by kernel_rfl) (by kernel_rfl) _ _ w
theorem as_uw (ub : Nat) (w : World) : (Instr.typeAssert (.iface 389 (.pointer (some ⟨ub, 0, none⟩))) 211 384 true).run Tryz.prog w = .ok (.tuple #[.iface 389 (.pointer (some ⟨ub, 0, none⟩)), .bool true]) w := run_typeAssert_hasB Tryz.undWk (by kernel_rfl) _ _ w
theorem m_noholds (w : World) : (method 609 209 (.agg #[]) "towpath/lane.holds").run Tryz.prog w = .ok (247, .agg #[]) w := by kernel_rfl
theorem m_noready (w : World) : (method 609 209 (.agg #[]) "towpath/lane.ready").run Tryz.prog w = .ok (436, .agg #[]) w := by kernel_rfl
theorem m_uwholds (ub : Nat) (w : World) : (method 609 389 (.pointer (some ⟨ub, 0, none⟩)) "towpath/lane.holds").run Tryz.prog w = .ok (431, .pointer (some ⟨ub, 0, none⟩)) w := by kernel_rfl
theorem m_uwready (ub : Nat) (w : World) : (method 609 389 (.pointer (some ⟨ub, 0, none⟩)) "towpath/lane.ready").run Tryz.prog w = .ok (433, .pointer (some ⟨ub, 0, none⟩)) w := by kernel_rfl
theorem m_uwnext (ub : Nat) (w : World) : (method 609 389 (.pointer (some ⟨ub, 0, none⟩)) "towpath/lane.next").run Tryz.prog w = .ok (432, .pointer (some ⟨ub, 0, none⟩)) w := by kernel_rfl
theorem m_uwsend (ub : Nat) (w : World) : (method 609 389 (.pointer (some ⟨ub, 0, none⟩)) "towpath/lane.send").run Tryz.prog w = .ok (434, .pointer (some ⟨ub, 0, none⟩)) w := by kernel_rfl
theorem m_uwack (ub : Nat) (w : World) : (method 609 389 (.pointer (some ⟨ub, 0, none⟩)) "towpath/lane.acknowledge").run Tryz.prog w = .ok (430, .pointer (some ⟨ub, 0, none⟩)) w := by kernel_rfl

/-- There is a lane of New. -/
theorem lthere_b {t : TypeId} {y : Value} (h : LnB w lb nm l s x q (.iface t y)) : Calls Tryz.prog 275 #[.pointer (some ⟨lb, 0, none⟩)] w fun e w' => e = .returned (.bool true) ∧ w = w' := by
  have c5 := h.c5
  have qn : ∀ w, (binOp .neq 211 (.iface t y) .nilIface).run Tryz.prog w = .ok (.bool true) w := fun w => run_neq_held_nil w 211 t y Tryz.undSt
  clear h
  go_enter Tryz.func275, Tryz.ntmps275
  go_wp2
  go_ret
  exact ⟨rfl, rfl⟩
theorem lthere_any (h : LnM w lb nm l s x q st S) : Calls Tryz.prog 275 #[.pointer (some ⟨lb, 0, none⟩)] w fun e w' => e = .returned (.bool true) ∧ w = w' := by
  cases st with
  | none => exact lthere_b (t := 209) h
  | some hl =>
    obtain ⟨ub, ao, N, cp, hb, _⟩ := h
    exact lthere_b (t := 389) hb
/-- One that is not there: nil, or a zero struct. -/
def NoL (w : World) (p : Option Addr) : Prop := p = none ∨ ∃ lb, p = some ⟨lb, 0, none⟩ ∧ LnB w lb 0 0 0 0 0 .nilIface
theorem NoL.keep {T : List Nat} {w' : World} {p : Option Addr} (h : NoL w p) (hf : Fr T w w') (hn : ∀ a, p = some a → a.block ∉ T) : NoL w' p := by
  rcases h with h | ⟨lb, rfl, hb⟩
  · exact .inl h
  · exact .inr ⟨lb, rfl, hb.keep hf (hn _ rfl)⟩
theorem lthere_no (p : Option Addr) (h : NoL w p) : Calls Tryz.prog 275 #[.pointer p] w fun e w' => e = .returned (.bool false) ∧ w = w' := by
  rcases h with rfl | ⟨lb, rfl, hb⟩
  · go_enter Tryz.func275, Tryz.ntmps275
    go_wp2
    go_ret
    exact ⟨rfl, rfl⟩
  · have c5 := hb.c5
    have qn : ∀ w, (binOp .neq 211 .nilIface .nilIface).run Tryz.prog w = .ok (.bool false) w := fun w => run_neq_nil_nil w 211 Tryz.undSt
    clear hb
    go_enter Tryz.func275, Tryz.ntmps275
    go_wp2
    go_ret
    exact ⟨rfl, rfl⟩
theorem ldoing_no (p : Option Addr) (h : NoL w p) : Calls Tryz.prog 282 #[.pointer p] w fun e w' => e = .returned (.tuple #[.nilIface, .bool false]) ∧ w = w' := by
  have HT : Hid (Calls _ _ _ _ _) := lthere_no p h
  clear h
  go_enter Tryz.func282, Tryz.ntmps282
  go_wp2_with fail
  refine Calls.mono HT.out ?_
  rintro e w1 ⟨rfl, rfl⟩
  go_wp2
  refine bodyPost_ret (results_tmp2 rfl _ _ _) rfl ?_
  exact ⟨rfl, rfl⟩
theorem ldoing_none (h : LnB w lb nm l s x q noV) : Calls Tryz.prog 282 #[.pointer (some ⟨lb, 0, none⟩)] w fun e w' => e = .returned (.tuple #[.nilIface, .bool false]) ∧ w = w' := by
  have HT : Hid (Calls _ _ _ _ _) := lthere_b (t := 209) h
  have c5 : w.cell? ⟨lb, 5, none⟩ = some (.iface 209 (.agg #[])) := h.c5
  have ha := as_no
  clear h
  go_enter Tryz.func282, Tryz.ntmps282
  go_wp2_with fail
  refine Calls.mono HT.out ?_
  rintro e w1 ⟨rfl, rfl⟩
  go_wp2
  refine bodyPost_ret (results_tmp2 rfl _ _ _) rfl ?_
  exact ⟨rfl, rfl⟩
theorem ldoing_some {ub : Nat} (h : LnB w lb nm l s x q (uwV ub)) : Calls Tryz.prog 282 #[.pointer (some ⟨lb, 0, none⟩)] w fun e w' => e = .returned (.tuple #[.iface 389 (.pointer (some ⟨ub, 0, none⟩)), .bool true]) ∧ w = w' := by
  have HT : Hid (Calls _ _ _ _ _) := lthere_b (t := 389) h
  have c5 : w.cell? ⟨lb, 5, none⟩ = some (.iface 389 (.pointer (some ⟨ub, 0, none⟩))) := h.c5
  have ha := as_uw ub
  clear h
  go_enter Tryz.func282, Tryz.ntmps282
  go_wp2_with fail
  refine Calls.mono HT.out ?_
  rintro e w1 ⟨rfl, rfl⟩
  go_wp2
  refine bodyPost_ret (results_tmp2 rfl _ _ _) rfl ?_
  exact ⟨rfl, rfl⟩
/-- Which one it holds. -/
def holdsN (st : Option Hl) : Int := match st with | none => 0 | some h => h.n
/-- May Done be? -/
def readyB (st : Option Hl) : Bool := match st with | none => false | some h => decide (h.l = [] ∧ h.out = 0)
theorem lholds_no (p : Option Addr) (h : NoL w p) : Calls Tryz.prog 244 #[.pointer p] w fun e w' => e = .returned (.int .i64 0) ∧ Fr [] w w' := by
  have HT : Hid (Calls _ _ _ _ _) := lthere_no p h
  clear h
  go_enter Tryz.func244, Tryz.ntmps244
  go_wp2_with fail
  refine Calls.mono HT.out ?_
  rintro e w1 ⟨rfl, rfl⟩
  go_wp2
  go_ret
  exact ⟨rfl, Fr.refl _ _⟩
theorem lready_no (p : Option Addr) (h : NoL w p) : Calls Tryz.prog 274 #[.pointer p] w fun e w' => e = .returned (.bool false) ∧ Fr [] w w' := by
  have HT : Hid (Calls _ _ _ _ _) := lthere_no p h
  clear h
  go_enter Tryz.func274, Tryz.ntmps274
  go_wp2_with fail
  refine Calls.mono HT.out ?_
  rintro e w1 ⟨rfl, rfl⟩
  go_wp2
  go_ret
  exact ⟨rfl, Fr.refl _ _⟩
theorem lholds_any (h : LnM w lb nm l s x q st S) : Calls Tryz.prog 244 #[.pointer (some ⟨lb, 0, none⟩)] w fun e w' => e = .returned (.int .i64 (holdsN st)) ∧ Fr [] w w' := by
  have HT : Hid (Calls _ _ _ _ _) := lthere_any h
  cases st with
  | none =>
    have c5 : w.cell? ⟨lb, 5, none⟩ = some (.iface 209 (.agg #[])) := LnB.c5 h
    have m1 := m_noholds
    clear h
    go_enter Tryz.func244, Tryz.ntmps244
    go_wp2_with fail
    refine Calls.mono HT.out ?_
    rintro e w1 ⟨rfl, rfl⟩
    go_wp2_with fail
    refine Calls.mono (noholds_any _) ?_
    rintro e w2 ⟨rfl, hF⟩
    go_wp2
    go_ret
    exact ⟨rfl, hF⟩
  | some hl =>
    obtain ⟨ub, ao, N, cp, hb, hu, _⟩ := h
    have c5 : w.cell? ⟨lb, 5, none⟩ = some (.iface 389 (.pointer (some ⟨ub, 0, none⟩))) := hb.c5
    have m1 := m_uwholds ub
    have HH : Hid (Calls _ _ _ _ _) := uwholds_any hu
    clear hb hu
    go_enter Tryz.func244, Tryz.ntmps244
    go_wp2_with fail
    refine Calls.mono HT.out ?_
    rintro e w1 ⟨rfl, rfl⟩
    go_wp2_with fail
    refine Calls.mono HH.out ?_
    rintro e w2 ⟨rfl, rfl⟩
    go_wp2
    go_ret
    exact ⟨rfl, Fr.refl _ _⟩
theorem lready_any (h : LnM w lb nm l s x q st S) : Calls Tryz.prog 274 #[.pointer (some ⟨lb, 0, none⟩)] w fun e w' => e = .returned (.bool (readyB st)) ∧ Fr [] w w' := by
  have HT : Hid (Calls _ _ _ _ _) := lthere_any h
  cases st with
  | none =>
    have c5 : w.cell? ⟨lb, 5, none⟩ = some (.iface 209 (.agg #[])) := LnB.c5 h
    have m1 := m_noready
    clear h
    go_enter Tryz.func274, Tryz.ntmps274
    go_wp2_with fail
    refine Calls.mono HT.out ?_
    rintro e w1 ⟨rfl, rfl⟩
    go_wp2_with fail
    refine Calls.mono (noready_any _) ?_
    rintro e w2 ⟨rfl, hF⟩
    go_wp2
    go_ret
    exact ⟨rfl, hF⟩
  | some hl =>
    obtain ⟨ub, ao, N, cp, hb, hu, _⟩ := h
    have c5 : w.cell? ⟨lb, 5, none⟩ = some (.iface 389 (.pointer (some ⟨ub, 0, none⟩))) := hb.c5
    have m1 := m_uwready ub
    have HH : Hid (Calls _ _ _ _ _) := uwready_any hu (readyB (some hl)) (by simp [readyB])
    clear hb hu
    go_enter Tryz.func274, Tryz.ntmps274
    go_wp2_with fail
    refine Calls.mono HT.out ?_
    rintro e w1 ⟨rfl, rfl⟩
    go_wp2_with fail
    refine Calls.mono HH.out ?_
    rintro e w2 ⟨rfl, rfl⟩
    go_wp2
    go_ret
    exact ⟨rfl, Fr.refl _ _⟩
end
end Go.Proofs.YtakbodlicfmkjaaGreat
