/- What a run was like, as a plain thing; the small functions of package stat. Conditions: numbers of 64 bits. -/
import Derived.Test.YtfhfjplhfjlpaaaDoorEv26
namespace Go.Proofs.YtfhfjplhfjlpaaaDoor
open Go.ChangeShapes Go.WideShapes Go.ChangeAt Go.RowKit Go.Lib
set_option linter.unusedVariables false
set_option linter.unusedSimpArgs false

theorem results_ct_row {fn : Func} {p u : Tmp} {ty : TypeId} (h : fn.results = #[.cell p ty, .tmp u]) (tmps : Array Value) (P : Program) (w : World) (g : Nat) (v : Value) (hp : tmps.getD p undef = .pointer (some ⟨g, 0, none⟩)) (hld : (loadVar ty ⟨g, 0, none⟩).run P w = .ok v w) :
    (results fn tmps).run P w = .ok (.tuple #[v, tmps.getD u undef]) w := by
  simp only [results, h]
  simp [Sem.run_bind, Result.andThen, ← Array.getD_eq_getD_getElem?, hp, asAddr, hld]
theorem results_c_row {fn : Func} {p : Tmp} {ty : TypeId} (h : fn.results = #[.cell p ty]) (tmps : Array Value) (P : Program) (w : World) (g : Nat) (v : Value) (hp : tmps.getD p undef = .pointer (some ⟨g, 0, none⟩)) (hld : (loadVar ty ⟨g, 0, none⟩).run P w = .ok v w) :
    (results fn tmps).run P w = .ok v w := by
  simp only [results, h]
  simp [Sem.run_bind, Result.andThen, ← Array.getD_eq_getD_getElem?, hp, asAddr, hld]
/-- May a log have it? -/
def inlg (n : Int) : Prop := 0 ≤ n ∧ n ≤ 65536
instance (n : Int) : Decidable (inlg n) := by unfold inlg; infer_instance
/-- How far a number is ahead of a mark. -/
def lagE (e : Ev) : Int := if inlg e.n ∧ inlg e.m then e.n - e.m else 0
/-- What an event counts for: an install, a lag, an end. -/
def insE (e : Ev) : Int := if e.k = 7 ∧ 0 < e.n then 1 else 0
def dspE (e : Ev) : Int := if e.k = 3 then lagE e else 0
def endE (e : Ev) : Int := if e.k = 12 then 1 else 0
/-- Stats as they lie. -/
def stA (n i g b r : Int) : Array Value := #[.int .i64 n, .int .i64 i, .int .i64 g, .int .i64 b, .int .i64 r]
theorem stA_one (n i g b r : Int) : (stA n i g b r).all (·.oneCell') = true := by simp [stA, Value.oneCell']
theorem load_st {w : World} {g : Nat} {a b c d e : Int} (h : w.heap[g]? = some (.cells (stA a b c d e) 27 (0, 0))) : (loadVar 27 ⟨g, 0, none⟩).run Tryd.prog w = .ok (.agg (stA a b c d e)) w :=
  run_loadVar_row (P := Tryd.prog) _ g _ 27 _ _ (.struct (Tryd.prog.fieldsOf 27)) h (by kernel_rfl) rfl (by kernel_rfl)
theorem wpList_storeSt {w : World} {ops : Array Oper} {rest : List Oper} {o : Oper} {a : Act} {Q : Exit → Act → World → Prop} (hgd : o.guard = none) (x y : Operand) (ho : o.op = .store 27 x y)
    (g : Nat) (n i l b r : Int) (hx : a.eval x = .pointer (some ⟨g, 0, none⟩)) (hy : a.eval y = .agg #[.int .i64 n, .int .i64 i, .int .i64 l, .int .i64 b, .int .i64 r])
    (n' i' l' b' r' : Int) (hg : w.heap[g]? = some (.cells (stA n' i' l' b' r') 27 (0, 0)))
    (h : ∀ w', Hid (w'.heap[g]? = some (.cells (stA n i l b r) 27 (0, 0))) → Fr [g] w w' → wpList Tryd.prog ops Q rest (a.put o.dst undef) w') : wpList Tryd.prog ops Q (o :: rest) a w :=
  wpList_storeRow hgd 27 x y ho g (stA n i l b r) hx hy 27 _ hg (by kernel_rfl) rfl (stA_one _ _ _ _ _) h

set_option maxHeartbeats 1000000 in
theorem inLog_any (n : Int) (w : World) : Calls Tryd.prog 86 #[.int .i64 n] w fun e w' => e = .returned (.bool (decide (inlg n))) ∧ w = w' := by
  by_cases h : 0 ≤ n
  · by_cases h2 : n ≤ 65536
    · go_enter Tryd.func86, Tryd.ntmps86
      go_wp2
      go_ret
      exact ⟨by simp [inlg, h, h2], rfl⟩
    · go_enter Tryd.func86, Tryd.ntmps86
      go_wp2
      go_ret
      exact ⟨by simp [inlg, h, h2], rfl⟩
  · go_enter Tryd.func86, Tryd.ntmps86
    go_wp2
    go_ret
    exact ⟨by rw [decide_eq_false (p := inlg n) (by unfold inlg; omega)]; rfl, rfl⟩
theorem inLog_yes (n : Int) (w : World) (h : inlg n) : Calls Tryd.prog 86 #[.int .i64 n] w fun e w' => e = .returned (.bool true) ∧ w = w' :=
  (inLog_any n w).mono fun e w' k => ⟨by rw [k.1, decide_eq_true h], k.2⟩
theorem inLog_no (n : Int) (w : World) (h : ¬ inlg n) : Calls Tryd.prog 86 #[.int .i64 n] w fun e w' => e = .returned (.bool false) ∧ w = w' :=
  (inLog_any n w).mono fun e w' k => ⟨by rw [k.1, decide_eq_false h], k.2⟩
set_option maxHeartbeats 4000000 in
set_option maxRecDepth 100000 in
theorem lag_any (e : Ev) (w : World) : Calls Tryd.prog 84 #[.agg (evA e.t e.k e.n e.s e.c e.m)] w fun x w' => x = .returned (.int .i64 (lagE e)) ∧ Fr [] w w' := by
  obtain ⟨t, k, n, s, c, m⟩ := e
  by_cases h1 : inlg n
  · have H1 := fun w => inLog_yes n w h1
    by_cases h2 : inlg m
    · have H2 := fun w => inLog_yes m w h2
      have E : lagE ⟨t, k, n, s, c, m⟩ = n - m := if_pos ⟨h1, h2⟩
      rw [E]
      have hw : IntKind.i64.wrap (n - m) = n - m := by
        obtain ⟨a1, a2⟩ := h1
        obtain ⟨b1, b2⟩ := h2
        rw [IntKind.wrap_i64]; omega
      simp only [evA]
      clear h1 h2 E
      go_enter Tryd.func84, Tryd.ntmps84
      go_wp2_with fail
      with_reducible refine (H1 _).mono ?_
      rintro e w1 ⟨rfl, rfl⟩
      go_wp2_with fail
      with_reducible refine (H2 _).mono ?_
      rintro e w1 ⟨rfl, rfl⟩
      go_wp2_with fail
      go_ret
      exact ⟨rfl, Fr.alloc _ _ _⟩
    · have H2 := fun w => inLog_no m w h2
      have E : lagE ⟨t, k, n, s, c, m⟩ = 0 := if_neg fun h => h2 h.2
      rw [E]
      simp only [evA]
      clear h1 h2 E
      go_enter Tryd.func84, Tryd.ntmps84
      go_wp2_with fail
      with_reducible refine (H1 _).mono ?_
      rintro e w1 ⟨rfl, rfl⟩
      go_wp2_with fail
      with_reducible refine (H2 _).mono ?_
      rintro e w1 ⟨rfl, rfl⟩
      go_wp2_with fail
      go_ret
      exact ⟨rfl, Fr.alloc _ _ _⟩
  · have H1 := fun w => inLog_no n w h1
    have E : lagE ⟨t, k, n, s, c, m⟩ = 0 := if_neg fun h => h1 h.1
    rw [E]
    simp only [evA]
    clear h1 E
    go_enter Tryd.func84, Tryd.ntmps84
    go_wp2_with fail
    with_reducible refine (H1 _).mono ?_
    rintro e w1 ⟨rfl, rfl⟩
    go_wp2_with fail
    go_ret
    exact ⟨rfl, Fr.alloc _ _ _⟩
end Go.Proofs.YtfhfjplhfjlpaaaDoor
