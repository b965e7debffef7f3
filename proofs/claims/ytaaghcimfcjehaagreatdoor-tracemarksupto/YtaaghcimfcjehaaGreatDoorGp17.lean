/- Texts of this claim laid together, one behind the other: contracts and plain lemmas; conditions as each names them. -/
import Derived.Test.YtaaghcimfcjehaaGreatDoorGp16
/- A request goes to a queue's end, if there is room. Conditions as each names them. -/
namespace Go.Proofs.YtaaghcimfcjehaaGreatDoor
open Go.ChangeShapes Go.WideShapes Go.ChangeAt Go.RowKit Go.Lib Go.Maps
set_option linter.unusedVariables false
set_option linter.unusedSimpArgs false

/-- There is such a shard, and room in its queue. -/
def Room (c : Cf) (s : Sy) (sh : Int) : Prop := 0 ≤ sh ∧ sh < c.s ∧ ((s.R (18 + sh.toNat)).length : Int) < c.q
section
variable {w w' : World} {Z : Zs} {c : Cf} {s : Sy} {k : Nat}
set_option maxHeartbeats 4000000 in
set_option maxRecDepth 100000 in
theorem ask_no (h : SyM w Z c s k) (sh n : Int) (hi : I6 sh) (hr : ¬ Room c s sh) :
    Calls Tryz.prog 150 #[.pointer (some ⟨Z.sb, 0, none⟩), .int .i64 sh, .int .i64 n] w fun e w' => e = .returned (.bool false) ∧ Fr [] w w' := by
  have hs := h.may.2.1
  have c12 : w.cell? ⟨Z.sb, 12, none⟩ = some (.slice (some ⟨Z.qq, 0, none⟩) c.s.toNat c.s.toNat) := h.cell rfl
  have c3 : w.cell? ⟨Z.sb, 3, none⟩ = some (.int .i64 c.q) := h.cell rfl
  have hi1 := hi.1
  have hi2 := hi.2
  by_cases h1 : sh < 0
  · clear h hr
    have hd : decide (sh < 0) = true := by simpa using h1
    go_enter Tryz.func150, Tryz.ntmps150
    go_wp2_with fail
    go_quiet (fail)
    go_wp2
    go_ret
    exact ⟨rfl, Fr.drewN _ _ _⟩
  have hd : decide (sh < 0) = false := by simpa using h1
  by_cases h2 : c.s ≤ sh
  · clear h hr
    have hd2 : ((c.s.toNat : Nat) : Int) ≤ sh := by omega
    have hd3 : decide (((c.s.toNat : Nat) : Int) ≤ sh) = true := by simpa using hd2
    obtain ⟨S, hS⟩ : ∃ S, S = c.s.toNat := ⟨_, rfl⟩
    rw [← hS] at c12 hd2 hd3
    have hS2 : S ≤ 16 := by omega
    clear hS hs h2
    go_enter Tryz.func150, Tryz.ntmps150
    go_wp2_with fail
    go_quiet (fail)
    go_wp2
    go_ret
    exact ⟨rfl, Fr.drewN _ _ _⟩
  obtain ⟨j, rfl⟩ : ∃ j : Nat, sh = (j : Int) := ⟨sh.toNat, by omega⟩
  have hj : j < c.s.toNat := by omega
  obtain ⟨q0, _⟩ := h.queCell hj
  have hl := (h.rows (18 + j)).len
  have h3 : c.q ≤ ((Z.q (18 + j)).n : Int) := by
    rw [hl]
    apply Int.not_lt.1
    intro h4
    exact hr ⟨by omega, by omega, by simpa using h4⟩
  have q1 : w.cell? ⟨Z.qq, j, none⟩ = some (.slice (Z.q (18 + j)).lo (Z.q (18 + j)).n (Z.q (18 + j)).c) := q0
  clear q0
  obtain ⟨lo, hlo⟩ : ∃ lo, lo = (Z.q (18 + j)).lo := ⟨_, rfl⟩
  obtain ⟨m, hm⟩ : ∃ m, m = (Z.q (18 + j)).n := ⟨_, rfl⟩
  obtain ⟨cc, hcc⟩ : ∃ cc, cc = (Z.q (18 + j)).c := ⟨_, rfl⟩
  rw [← hlo, ← hm, ← hcc] at q1
  rw [← hm] at h3
  obtain ⟨S, hS⟩ : ∃ S, S = c.s.toNat := ⟨_, rfl⟩
  rw [← hS] at c12 hj
  have hS2 : S ≤ 16 := by omega
  have hd2 : ¬ (S : Int) ≤ (j : Int) := by omega
  have hd3 : decide (S ≤ j) = false := by simpa using hj
  have hd4 : decide (c.q ≤ (m : Int)) = true := by simpa using h3
  obtain ⟨Q, hQ⟩ : ∃ Q, Q = c.q := ⟨_, rfl⟩
  rw [← hQ] at c3 h3 hd4
  clear h hr hS hs h2 hlo hm hcc hl hQ
  go_enter Tryz.func150, Tryz.ntmps150
  go_wp2_with fail
  go_quiet (fail)
  go_wp2
  go_ret
  exact ⟨rfl, Fr.drewN _ _ _⟩
set_option maxHeartbeats 4000000 in
set_option maxRecDepth 100000 in
theorem ask_yes (h : SyM w Z c s k) (j : Nat) (n : Int) (hn : i64 n) (hr : Room c s (j : Int)) (hk : k < 1152921504606846976) (hc : -(k : Int) ≤ s.F n ∧ s.F n ≤ k) :
    Calls Tryz.prog 150 #[.pointer (some ⟨Z.sb, 0, none⟩), .int .i64 (j : Int), .int .i64 n] w fun e w' => ∃ Z', e = .returned (.bool true) ∧ SyM w' Z' c (asks s j n) (k + 1) ∧ Mv w Z w' Z' ∧ Z'.sb = Z.sb ∧ Z'.lb = Z.lb ∧ Z'.qq = Z.qq := by
  have hs := h.may.2.1
  have hqm := h.may.2.2.2
  have c12 : w.cell? ⟨Z.sb, 12, none⟩ = some (.slice (some ⟨Z.qq, 0, none⟩) c.s.toNat c.s.toNat) := h.cell rfl
  have c3 : w.cell? ⟨Z.sb, 3, none⟩ = some (.int .i64 c.q) := h.cell rfl
  have hjs : (j : Int) < c.s := hr.2.1
  have hj : j < c.s.toNat := by omega
  have hl := (h.rows (18 + j)).len
  have h3 : ¬ c.q ≤ ((Z.q (18 + j)).n : Int) := by
    rw [hl]
    have := hr.2.2
    simp only [Int.toNat_natCast] at this
    omega
  obtain ⟨q0, _⟩ := h.queCell hj
  have q1 : w.cell? ⟨Z.qq, j, none⟩ = some (.slice (Z.q (18 + j)).lo (Z.q (18 + j)).n (Z.q (18 + j)).c) := q0
  clear q0
  have HY : Hid (∀ W, Fr [] w W → SyM W Z c s k) := fun W hf => h.quiet hf
  have hsl : Z.sb < w.heap.size := lt_of_block h.box
  have hne := h.apa.six_ne
  have HN : Hid (Z.sb ≠ Z.qq) := hne.2.2.1
  have HR : Hid (∀ W lo' c' w', Fr [] w W → QR w' lo' ((Z.q (18 + j)).n + 1) c' (s.R (18 + j) ++ [n]) → Fr (qb (Z.q (18 + j)).lo).toList W w' → (qb lo' = qb (Z.q (18 + j)).lo ∨ ∃ k, qb lo' = some k ∧ W.heap.size ≤ k) →
      (w'.cell? ⟨Z.sb, 12, none⟩ = some (.slice (some ⟨Z.qq, 0, none⟩) c.s.toNat c.s.toNat) ∧ w'.cell? ⟨Z.qq, j, none⟩ = some (.slice (Z.q (18 + j)).lo (Z.q (18 + j)).n (Z.q (18 + j)).c) ∧ w'.frozen? ⟨Z.qq, j, none⟩ = false) ∧ ∃ Z', Z'.sb = Z.sb ∧ Z'.lb = Z.lb ∧ Z'.qq = Z.qq ∧ Z'.ob = Z.ob ∧ SyM (w'.setCell ⟨Z.qq, j, none⟩ (.slice lo' ((Z.q (18 + j)).n + 1) c')) Z' c (s.put (18 + j) (s.R (18 + j) ++ [n])) k ∧ Mv w Z (w'.setCell ⟨Z.qq, j, none⟩ (.slice lo' ((Z.q (18 + j)).n + 1) c')) Z') := by
    intro W lo' c' w' hf hq hF hm
    have hW := h.quiet hf
    have hnr : ∀ x, x ∈ Z.six → x ∉ (qb (Z.q (18 + j)).lo).toList := fun x hx hh => (h.apa.nR (18 + j) x (Option.mem_toList.1 hh)).1 hx
    obtain ⟨cq, g1, g2, g3⟩ := hW.ques
    have hb := hF.keep hW.box (hnr _ (by simp [Zs.six]))
    have hq2 := hF.keep g1 (hnr _ (by simp [Zs.six]))
    obtain ⟨m1, m2⟩ := hW.rowQ hj (w1 := w') ⟨lo', (Z.q (18 + j)).n + 1, c'⟩ (s.R (18 + j) ++ [n]) hF hq hm
    exact ⟨⟨by rw [cell_of_row _ _ _ _ _ _ hb]; rfl, by rw [cell_of_row _ _ _ _ _ _ hq2]; exact g3 j hj, by simp [World.frozen?, hq2]⟩, Z.put (18 + j) ⟨lo', (Z.q (18 + j)).n + 1, c'⟩, rfl, rfl, rfl, rfl, m1, (Mv.quiet hf).trans m2⟩
  have HQ : Hid (∀ W, Fr [] w W → QR W (Z.q (18 + j)).lo (Z.q (18 + j)).n (Z.q (18 + j)).c (s.R (18 + j))) := fun W hf => (h.quiet hf).rows (18 + j)
  have hmn : (Z.q (18 + j)).n ≤ 16 := by omega
  obtain ⟨lo, hlo⟩ : ∃ lo, lo = (Z.q (18 + j)).lo := ⟨_, rfl⟩
  obtain ⟨m, hm⟩ : ∃ m, m = (Z.q (18 + j)).n := ⟨_, rfl⟩
  obtain ⟨cc, hcc⟩ : ∃ cc, cc = (Z.q (18 + j)).c := ⟨_, rfl⟩
  rw [← hlo, ← hm, ← hcc] at q1 HR HQ
  rw [← hm] at h3 hmn
  obtain ⟨S, hS⟩ : ∃ S, S = c.s.toNat := ⟨_, rfl⟩
  rw [← hS] at c12 hj HR
  have hS2 : S ≤ 16 := by omega
  have hd1 : ¬ (j : Int) < 0 := by omega
  have hd2 : ¬ (S : Int) ≤ (j : Int) := by omega
  have hd3 : decide (S ≤ j) = false := by simpa using hj
  have hd4 : decide (c.q ≤ (m : Int)) = false := by simpa using h3
  obtain ⟨Q, hQ⟩ : ∃ Q, Q = c.q := ⟨_, rfl⟩
  rw [← hQ] at c3 h3 hd4
  have HF2 : Hid (∀ W Z', Z'.sb = Z.sb → Z'.ob = Z.ob → Z'.lb = Z.lb → Z'.qq = Z.qq → SyM W Z' c (s.put (18 + j) (s.R (18 + j) ++ [n])) k → Mv w Z W Z' → W.cell? ⟨Z.sb, 13, none⟩ = some (.map (some Z.ob)) ∧ (Instr.lookup 111 (.map (some Z.ob)) (.int .i64 n) false).run Tryz.prog W = .ok (.int .i64 (s.F n)) W ∧ ∃ w3, (Instr.mapUpdate 111 (.map (some Z.ob)) (.int .i64 n) (.int .i64 (s.F n + 1))).run Tryz.prog W = .ok () w3 ∧ SyM w3 Z' c (asks s j n) (k + 1) ∧ Mv w Z w3 Z') := by
    intro W Z' e1 e2 e3 e4 hW hm
    obtain ⟨w3, r1, r2, r3⟩ := hW.setOut n (s.F n + 1) hn (by omega)
    rw [e2] at r1
    refine ⟨by have := hW.cell (j := 13) (v := .map (some Z'.ob)) rfl; rw [e1, e2] at this; exact this, by have := hW.lookOut n hn; rw [e2] at this; exact this, w3, r1, r2, hm.trans r3⟩
  have hfr1 : -1152921504606846976 ≤ s.F n := by omega
  have hfr2 : s.F n ≤ 1152921504606846976 := by omega
  obtain ⟨Fn, hFn⟩ : ∃ Fn, Fn = s.F n := ⟨_, rfl⟩
  rw [← hFn] at HF2 hfr1 hfr2
  clear h hr hS hs hlo hm hcc hl hQ hne hFn hc hqm hjs
  go_enter Tryz.func150, Tryz.ntmps150
  go_wp2_with fail
  go_quiet (fail)
  have hF1 : Fr [] w (w.drewN nq) := Fr.drewN _ _ _
  obtain ⟨w1, HW1⟩ : ∃ w1, Hid (w.drewN nq = w1) := ⟨_, rfl⟩
  rw [HW1.out] at hF1 ⊢
  have hW1 := HY.out w1 hF1
  have d12 : w1.cell? ⟨Z.sb, 12, none⟩ = some (.slice (some ⟨Z.qq, 0, none⟩) S S) := by rw [← HW1.out]; exact c12
  have dq : w1.cell? ⟨Z.qq, j, none⟩ = some (.slice lo m cc) := by rw [← HW1.out]; exact q1
  have HFr1 : Hid (Fr [] w w1) := hF1
  have a12 : (w1.alloc (.cells #[.int .i64 n] 3)).cell? ⟨Z.sb, 12, none⟩ = some (.slice (some ⟨Z.qq, 0, none⟩) S S) := by rw [World.cell?_of_block ((Fr.alloc [] w1 _).block Z.sb (lt_of_block hW1.box) (by simp))]; exact d12
  have aq : (w1.alloc (.cells #[.int .i64 n] 3)).cell? ⟨Z.qq, j, none⟩ = some (.slice lo m cc) := by
    obtain ⟨cq, g1, _⟩ := hW1.ques
    rw [World.cell?_of_block ((Fr.alloc [] w1 _).block Z.qq (lt_of_block g1) (by simp))]
    exact dq
  clear c12 q1 c3 HW1 hW1 hF1 hd4 h3
  have HX : Hid (∀ W, Fr [] w1 W → QR W lo m cc (s.R (18 + j))) := fun W hf => HQ.out W (HFr1.out.then hf)
  have HG : Hid (∀ W lo' c' w', Fr [] w1 W → QR w' lo' (m + 1) c' (s.R (18 + j) ++ [n]) → Fr (qb lo).toList W w' → (qb lo' = qb lo ∨ ∃ k, qb lo' = some k ∧ W.heap.size ≤ k) → _) := fun W lo' c' w' hf => HR.out W lo' c' w' (HFr1.out.then hf)
  have hn := HN.out
  go_wp2_with fail
  go_region_law (first
    | (refine step_appQ1 _ (by rfl) _ _ (by rfl) lo m cc _ n (by rfl) (HX.out _ (Fr.drewN _ _ _)) (by omega) (by rfl) ?_; intro lo' c' w3 hQ3 hF3 hm3; obtain ⟨⟨e1, e2, e3⟩, hG3⟩ := HG.out _ lo' c' w3 (Fr.drewN _ _ _) hQ3 hF3 hm3)
    | (refine step_appQ1 _ (by rfl) _ _ (by rfl) lo m cc _ n (by rfl) (HX.out _ (Fr.drew _ _)) (by omega) (by rfl) ?_; intro lo' c' w3 hQ3 hF3 hm3; obtain ⟨⟨e1, e2, e3⟩, hG3⟩ := HG.out _ lo' c' w3 (Fr.drew _ _) hQ3 hF3 hm3)
    | (refine step_appQ1 _ (by rfl) _ _ (by rfl) lo m cc _ n (by rfl) (HX.out _ (Fr.refl _ _)) (by omega) (by rfl) ?_; intro lo' c' w3 hQ3 hF3 hm3; obtain ⟨⟨e1, e2, e3⟩, hG3⟩ := HG.out _ lo' c' w3 (Fr.refl _ _) hQ3 hF3 hm3))
  all_goals
    obtain ⟨Z', z1, z2, z3, z4, hS4, hM4⟩ := hG3
    obtain ⟨w4, HW4⟩ : ∃ w4, Hid (w3.setCell ⟨Z.qq, j, none⟩ (.slice lo' (m + 1) c') = w4) := ⟨_, rfl⟩
    rw [HW4.out] at hS4 hM4 ⊢
    obtain ⟨f1, f2, w5, f3, f4, f5⟩ := HF2.out _ Z' z1 z4 z2 z3 hS4 hM4
    have HE : Hid (SyM w5 Z' c (asks s j n) (k + 1) ∧ Mv w Z w5 Z') := ⟨f4, f5⟩
    clear hS4 hM4 f4 f5 HF2 HR HX HG HQ HY HW4 e1 e2 e3 d12 dq a12 aq hQ3 hF3 hm3
    go_wp2
    go_ret
    exact ⟨Z', rfl, HE.out.1, HE.out.2, z1, z2, z3⟩
end
end Go.Proofs.YtaaghcimfcjehaaGreatDoor
/- What a task's step answers, in a box of its own; the story behind it. Conditions as each names them. -/
namespace Go.Proofs.YtaaghcimfcjehaaGreatDoor
open Go.ChangeShapes Go.WideShapes Go.ChangeAt Go.RowKit Go.Lib Go.Maps
set_option linter.unusedVariables false
set_option linter.unusedSimpArgs false

theorem results_c_row {fn : Func} {p : Tmp} {ty : TypeId} (h : fn.results = #[.cell p ty]) (tmps : Array Value) (P : Program) (w : World) (g : Nat) (v : Value) (hp : tmps.getD p undef = .pointer (some ⟨g, 0, none⟩)) (hld : (loadVar ty ⟨g, 0, none⟩).run P w = .ok v w) :
    (results fn tmps).run P w = .ok v w := by
  simp only [results, h]
  simp [Sem.run_bind, Result.andThen, ← Array.getD_eq_getD_getElem?, hp, asAddr, hld]
/-- An event's cells. -/
def evA (t k n s c m : Int) : Array Value := #[.int .i64 t, .int .u8 k, .int .i64 n, .int .i64 s, .int .i64 c, .int .i64 m]
theorem load_evt {w : World} {g : Nat} {t k n s c m : Int} (h : w.heap[g]? = some (.cells (evA t k n s c m) 62 (0, 0))) : (loadVar 62 ⟨g, 0, none⟩).run Tryz.prog w = .ok (.agg (evA t k n s c m)) w :=
  run_loadVar_row (P := Tryz.prog) _ g _ 62 _ _ (.struct (Tryz.prog.fieldsOf 62)) h (by kernel_rfl) rfl (by kernel_rfl)
theorem wpList_storeRow {w : World} {ops : Array Oper} {rest : List Oper} {o : Oper} {a : Act} {Q : Exit → Act → World → Prop} (hgd : o.guard = none) (ty : TypeId) (x y : Operand) (ho : o.op = .store ty x y)
    (g : Nat) (cells : Array Value) (hx : a.eval x = .pointer (some ⟨g, 0, none⟩)) (hy : a.eval y = .agg cells)
    (t : TypeId) (old : Array Value) (hg : w.heap[g]? = some (.cells old t (0, 0))) (hi : (Tryz.prog.info? ty).map (·.size) = some cells.size)
    (hold : old.size = cells.size) (h1 : cells.all (·.oneCell') = true)
    (h : ∀ w', Hid (w'.heap[g]? = some (.cells cells t (0, 0))) → Fr [g] w w' → wpList Tryz.prog ops Q rest (a.put o.dst undef) w') : wpList Tryz.prog ops Q (o :: rest) a w :=
  wpList_store_row hgd ty x y ho g cells hx hy t old hg hi hold h1 (h _ (setRow_heap w g _ _ t _ hg) (Fr.setRow _ _ _))
theorem wpList_storeEv {w : World} {ops : Array Oper} {rest : List Oper} {o : Oper} {a : Act} {Q : Exit → Act → World → Prop} (hgd : o.guard = none) (x y : Operand) (ho : o.op = .store 62 x y)
    (g : Nat) (t k n s c m : Int) (hx : a.eval x = .pointer (some ⟨g, 0, none⟩)) (hy : a.eval y = .agg #[.int .i64 t, .int .u8 k, .int .i64 n, .int .i64 s, .int .i64 c, .int .i64 m])
    (t' k' n' s' c' m' : Int) (hg : w.heap[g]? = some (.cells (evA t' k' n' s' c' m') 62 (0, 0)))
    (h : ∀ w', Hid (w'.heap[g]? = some (.cells (evA t k n s c m) 62 (0, 0))) → Fr [g] w w' → wpList Tryz.prog ops Q rest (a.put o.dst undef) w') : wpList Tryz.prog ops Q (o :: rest) a w :=
  wpList_storeRow hgd 62 x y ho g (evA t k n s c m) hx hy 62 _ hg (by kernel_rfl) rfl (by simp [evA, Value.oneCell']) h
/-- What a step tells, as it is answered. -/
def Te.v (a : Te) : Value := .agg (evA 0 a.k a.n a.s a.c 0)
/-- A task's step: what it tells, and where the story stands behind it. -/
def TaskP (w : World) (Z : Zs) (c : Cf) (k : Nat) (r : Te × Sy) (e : Ending) (w' : World) : Prop :=
  ∃ Z', e = .returned r.1.v ∧ SyM w' Z' c r.2 (k + 1) ∧ Mv w Z w' Z' ∧ Z'.sb = Z.sb
/-- The box of the answer lies apart from the story. -/
theorem Mv.fin {w w0 W W' : World} {Z Z' : Zs} {c : Cf} {s : Sy} {k rb : Nat} (hM : Mv w0 Z W Z') (h0 : Fr [] w w0) (h1 : w.heap.size ≤ rb) (h2 : rb < w0.heap.size) (hlt : ∀ x ∈ Z.own, x < w.heap.size) (hf : Fr [rb] W W') (hS : SyM W Z' c s k) : SyM W' Z' c s k ∧ Mv w Z W' Z' := by
  have hn : rb ∉ Z'.own := fun h => by
    rcases hM.sub rb h with h3 | h3
    · have := hlt rb h3; omega
    · omega
  refine ⟨hS.keep hf (fun x hx hh => by simp at hh; exact hn (hh ▸ hx)), ⟨?_, fun x hx => ?_, hM.at_, hM.log⟩⟩
  · exact ((h0.mono (by simp)).then hM.fr).trans hf (fun x hx _ => hx) (fun x hx hl => by simp at hx; omega)
  · rcases hM.sub x hx with h3 | h3
    · exact Or.inl h3
    · exact Or.inr (Nat.le_trans h0.size h3)
/-- The box of the answer stays as it was. -/
theorem Mv.box {w w0 W : World} {Z Z' : Zs} (hM : Mv w0 Z W Z') {rb : Nat} {o : Obj} (h1 : w.heap.size ≤ rb) (hlt : ∀ x ∈ Z.own, x < w.heap.size) (hb : w0.heap[rb]? = some o) : W.heap[rb]? = some o :=
  hM.fr.keep hb (fun h => by have := hlt rb h; omega)
end Go.Proofs.YtaaghcimfcjehaaGreatDoor
/- The shards of a transaction's writes that count. Conditions: at most 32 writes, whose keys may be. -/
namespace Go.Proofs.YtaaghcimfcjehaaGreatDoor
open Go.ChangeShapes Go.WideShapes Go.ChangeAt Go.RowKit Go.Lib Go.Maps
set_option linter.unusedVariables false
set_option linter.unusedSimpArgs false

theorem lastIx_upd (ws : List Wt) (i : Nat) : lastIx ws (i + 1) = updF (lastIx ws i) (kAt ws i) (some (i : Int)) := by
  funext k
  by_cases e : k = kAt ws i
  · simp only [lastIx, if_pos e]
    rw [e, updF_same]
  · simp only [lastIx, if_neg e]
    rw [updF_other _ _ e]
theorem run_makeMapN (n : Int) (w : World) : (Instr.makeMap 195 (some (.int .i64 n))).run Tryz.prog w = .ok (.map (some w.heap.size)) (w.alloc (.map #[] 0)) := by
  simp [Instr.makeMap, run_underlying Tryz.undLMap, asInt, asIntOf]
/-- The shards of the first i writes that count. -/
noncomputable def shT (c : Cf) (ws : List Wt) (i : Nat) : List Int := (ddTo ws i).map fun x => shN13 c.s x.key
section
variable {w w' wS : World} {Z : Zs} {c : Cf} {s : Sy} {k : Nat} {ts : List Tm}
set_option maxHeartbeats 8000000 in
set_option maxRecDepth 100000 in
theorem shards_any (h : SyM w Z c s k) (hx : Cx wS w Z ts) (n : Int) (h1 : 1 ≤ n) (h2 : n ≤ (ts.length : Int)) (hok : okT n (wsAt (txs ts) n)) (hlen : ts.length ≤ 65536) :
    Calls Tryz.prog 173 #[.pointer (some ⟨Z.sb, 0, none⟩), .int .i64 n] w fun e w' => ∃ so N cc, e = .returned (.slice so N cc) ∧ IOw w.heap.size w' so N cc (shs c (txs ts) n) ∧ Fr [] w w' := by
  obtain ⟨j, rfl⟩ : ∃ j : Nat, n = (j : Int) + 1 := ⟨(n - 1).toNat, by omega⟩
  have hj : j < ts.length := by omega
  have hws : wsAt (txs ts) ((j : Int) + 1) = (ts.getD j Tm.zero).ws := by
    unfold wsAt
    rw [show ((j : Int) + 1 - 1).toNat = j by omega, txs_getD]
    rfl
  rw [hws] at hok
  have c4 : w.cell? ⟨Z.sb, 4, none⟩ = some (.slice Z.logo Z.M Z.mc) := h.cell rfl
  have hT := hx.trs
  have hLM := hx.len
  obtain ⟨lb, loff, hlo, _, hcl⟩ := hT.lies (by omega)
  obtain ⟨d1, d2⟩ := hcl j hj
  have hat := hT.each _ (tgetD_mem ts j hj)
  unfold Tm.at at hat
  rw [hlo, hLM] at c4
  unfold shs
  rw [hws]
  obtain ⟨t, htt⟩ : ∃ t, t = ts.getD j Tm.zero := ⟨_, rfl⟩
  rw [← htt] at d1 d2 hat hok ⊢
  obtain ⟨tn, ao, L, cap, ws⟩ := t
  simp only at d1 d2 hat hok ⊢
  have hL := hat.len
  have hks : ∀ x ∈ ws, 1 ≤ x.key.size ∧ x.key.size ≤ 64 := fun x hx => ⟨(hok.2.2.2 x hx).1, (hok.2.2.2 x hx).2.1⟩
  have hLb : L ≤ 32 := by rw [hL]; exact hok.2.2.1
  have HL : Hid (L = ws.length) := hL
  have HKs : Hid (∀ x ∈ ws, 1 ≤ x.key.size ∧ x.key.size ≤ 64) := hks
  have hmm := fun w => run_makeMapN (L : Int) w
  have HI : Hid (∀ W, Fr [] w W → WRs W ao ws) := fun W hf => hat.rs.keep hf
  have HM0 : Hid (MapG kLast (w.alloc (.map #[] 0)) w.heap.size 0 (lastIx ws 0)) := MapG.made w
  have HF0 : Hid (Fr [] w (w.alloc (.map #[] 0))) := Fr.alloc [] w _
  have HY : Hid (∀ W, Fr [] w W → W.cell? ⟨Z.sb, 0, none⟩ = some (.int .i64 c.l) ∧ W.cell? ⟨Z.sb, 1, none⟩ = some (.int .i64 c.s) ∧ W.cell? ⟨Z.sb, 2, none⟩ = some (.int .i64 c.w) ∧ W.cell? ⟨Z.sb, 3, none⟩ = some (.int .i64 c.q)) := fun W hf => ⟨(h.quiet hf).cell rfl, (h.quiet hf).cell rfl, (h.quiet hf).cell rfl, (h.quiet hf).cell rfl⟩
  have HC : Hid (∀ (x : ByteArray) (W : World), 1 ≤ x.size → x.size ≤ 64 → Calls Tryz.prog 185 #[.agg #[.int .i64 c.l, .int .i64 c.s, .int .i64 c.w, .int .i64 c.q], .string x] W fun e w' => e = .returned (.tuple #[.int .i64 (shN13 c.s x), .int .i64 0]) ∧ Fr [] W w') := by
    intro x W x1 x2
    have := shard_any c.l c.s c.w c.q x W (by omega)
    have e : Cf.shard ⟨c.l, c.s, c.w, c.q⟩ x = (shN13 c.s x, 0) := by
      unfold Cf.shard
      rw [if_neg (by simp; exact h.may), if_neg (by simp; exact ⟨x1, x2⟩)]
    rw [e] at this
    exact this
  obtain ⟨TL, hTL⟩ : ∃ TL, TL = ts.length := ⟨_, rfl⟩
  rw [← hTL] at c4 hj hlen
  have d2 : w.cell? ⟨lb, loff + j * 2 + 1, none⟩ = some (.slice ao L cap) := d2
  clear h hx hws hok hat hT hcl d1 hL hks h1 h2 htt hTL hlo hLM
  go_enter Tryz.func173, Tryz.ntmps173
  go_wp2_with fail
  obtain ⟨b, hb⟩ : ∃ b, b = w.heap.size := ⟨_, rfl⟩
  rw [← hb] at HM0 ⊢
  have hbw : w.heap.size ≤ b := by omega
  clear hb c4 d2
  go_loopw [28] (fun ii wr => ∃ (i : Nat), ii = .int .i64 i ∧ i ≤ L ∧ Hid (MapG kLast wr b i (lastIx ws i)) ∧ Hid (Fr [] w wr)) (fun ii _ => L - (RowKit.intOf ii).toNat)
  case atStart => exact ⟨0, rfl, Nat.zero_le _, HM0, HF0⟩
  case round =>
    obtain ⟨i, rfl, hiL, HM, HFr⟩ := hrel
    have hFr := HFr.out
    clear HFr
    by_cases hi : i < L
    · have hi' : i < ws.length := by rw [← HL.out]; exact hi
      obtain ⟨bb, off, rfl, _, hc⟩ := (HI.out _ hFr).lies (by omega)
      obtain ⟨d0, d1, d2⟩ := hc i hi'
      have hkz := HKs.out _ (wgetD_mem ws i hi')
      have HKa : Hid (kAt ws i = (ws.getD i Wt.zero).key) := rfl
      obtain ⟨y, hyy⟩ : ∃ y, y = ws.getD i Wt.zero := ⟨_, rfl⟩
      rw [← hyy] at d0 d1 d2 hkz HKa
      clear hyy hc
      obtain ⟨key, val, drop⟩ := y
      simp only at d0 d1 d2 hkz HKa
      obtain ⟨w3, HW3⟩ : ∃ w3, Hid (wr.alloc (.cells #[.string key, .string val, .bool drop] 92) = w3) := ⟨_, rfl⟩
      obtain ⟨B9, HB9⟩ : ∃ B9, Hid (B9 = wr.heap.size) := ⟨_, rfl⟩
      have hF3 : Fr [] wr w3 := by rw [← HW3.out]; exact Fr.alloc [] wr _
      have hby : w3.heap[B9]? = some (.cells #[.string key, .string val, .bool drop] 92 (0, 0)) := by rw [← HW3.out, HB9.out]; exact heap_alloc_new wr _
      have e0 : w3.cell? ⟨B9, 0, none⟩ = some (.string key) := by rw [cell_of_row _ _ _ _ _ _ hby]; rfl
      have hG3 : Fr [] w w3 := hFr.then hF3
      have hM3 := HM.out.keep hF3 (by simp)
      obtain ⟨w4, hst, hM4, hF4⟩ := hM3.store key (i : Int) (by show key.size ≤ maxLen; unfold maxLen; omega) (by unfold maxLen; omega)
      have HM4 : Hid (MapG kLast w4 b (i + 1) (lastIx ws (i + 1))) := by
        show MapG _ _ _ _ _
        rw [lastIx_upd, HKa.out]
        exact hM4
      have HG4 : Hid (Fr [] w w4) := hG3.on hF4 (by intro x hx; simp at hx; omega)
      change (Instr.mapUpdate 195 (.map (some b)) (.string key) (.int .i64 (i : Int))).run Tryz.prog w3 = .ok () w4 at hst
      clear hM3 hM4 hF4 HM hF3 hG3 hby hFr
      go_upto_region 6 with fail
      rw [HW3.out, ← HB9.out]
      clear HW3 HB9 d0 d1 d2
      go_wp2_with fail
      go_roundw
      case rel => exact ⟨i + 1, by simp, by omega, HM4, HG4⟩
      case measure => simp [RowKit.intOf]; omega
    · obtain rfl : i = L := by omega
      clear hi hiL
      have HM1 : Hid (MapG kLast wr b i (lastIx ws ws.length)) := by rw [← HL.out]; exact HM
      have HF1 : Hid (Fr [] w wr) := hFr
      have hblt := HM1.out.lt
      clear HM hFr HM0 HF0
      go_wp2_with fail
      obtain ⟨w1, HW1⟩ : ∃ w1, Hid (wr = w1) := ⟨_, rfl⟩
      rw [HW1.out] at HM1 HF1 hblt ⊢
      clear HW1
      go_loopw [9, 40] (fun ll ii wr => ∃ (ro : Option Addr) (N rc k : Nat), ll = .slice ro N rc ∧ ii = .int .i64 k ∧ k ≤ i ∧ N ≤ k ∧ Hid (IOw w1.heap.size wr ro N rc (shT c ws k)) ∧ Hid (Fr [] w1 wr)) (fun _ ii _ => i - (RowKit.intOf ii).toNat)
      case atStart => exact ⟨none, 0, 0, 0, rfl, rfl, Nat.zero_le _, Nat.le_refl _, IOw.nil _ _, Fr.refl _ _⟩
      case round =>
        obtain ⟨ro, N, rc, k, rfl, rfl, hk, hN, HO, HF⟩ := hrel
        by_cases hki : k < i
        · have hk' : k < ws.length := by rw [← HL.out]; exact hki
          obtain ⟨bb, off, rfl, _, hc⟩ := (HI.out _ (HF1.out.then HF.out)).lies (by omega)
          obtain ⟨d0, d1, d2⟩ := hc k hk'
          have hkz := HKs.out _ (wgetD_mem ws k hk')
          have HKa : Hid (kAt ws k = (ws.getD k Wt.zero).key) := rfl
          have HKt := lastIx_kept ws k hk'
          have HKy : Hid (Kept ws k → shT c ws (k + 1) = shT c ws k ++ [shN13 c.s (ws.getD k Wt.zero).key]) := fun h => by unfold shT; rw [ddTo_yes h]; simp
          have HKn : Hid (¬ Kept ws k → shT c ws (k + 1) = shT c ws k) := fun h => by unfold shT; rw [ddTo_no h]
          obtain ⟨y, hyy⟩ : ∃ y, y = ws.getD k Wt.zero := ⟨_, rfl⟩
          rw [← hyy] at d0 d1 d2 hkz HKa HKy
          clear hyy hc
          obtain ⟨key, val, drop⟩ := y
          simp only at d0 d1 d2 hkz HKa
          rw [HKa.out] at HKt
          obtain ⟨J, hJ⟩ : ∃ J : Int, J = (lastIx ws ws.length key).getD 0 := ⟨_, rfl⟩
          rw [← hJ] at HKt
          obtain ⟨w3, HW3⟩ : ∃ w3, Hid (wr.alloc (.cells #[.string key, .string val, .bool drop] 92) = w3) := ⟨_, rfl⟩
          obtain ⟨B9, HB9⟩ : ∃ B9, Hid (B9 = wr.heap.size) := ⟨_, rfl⟩
          have hF3 : Fr [] wr w3 := by rw [← HW3.out]; exact Fr.alloc [] wr _
          have hby : w3.heap[B9]? = some (.cells #[.string key, .string val, .bool drop] 92 (0, 0)) := by rw [← HW3.out, HB9.out]; exact heap_alloc_new wr _
          have e0 : w3.cell? ⟨B9, 0, none⟩ = some (.string key) := by rw [cell_of_row _ _ _ _ _ _ hby]; rfl
          have hG3 : Fr [] w1 w3 := HF.out.then hF3
          have hlk := (HM1.out.keep hG3 (by simp)).look key (by show key.size ≤ maxLen; unfold maxLen; omega)
          change (Instr.lookup 195 (.map (some b)) (.string key) false).run Tryz.prog w3 = .ok (.int .i64 ((lastIx ws ws.length key).getD 0)) w3 at hlk
          rw [← hJ] at hlk
          have HO3 : Hid (IOw w1.heap.size w3 ro N rc (shT c ws k)) := HO.out.keep hF3
          have HG3 : Hid (Fr [] w1 w3) := hG3
          have HB3 : Hid (∀ W, Fr [] w3 W → W.cell? ⟨B9, 0, none⟩ = some (.string key)) := fun W hf => by rw [cell_of_row _ _ _ _ _ _ (hf.keep hby (by simp))]; rfl
          clear hJ HO hF3 hG3 hby HF
          by_cases hJk : J = (k : Int)
          · have heq : (J == (k : Int)) = true := by simp [hJk]
            have HYY : Hid (shT c ws (k + 1) = shT c ws k ++ [shN13 c.s key]) := HKy.out (HKt.1 hJk)
            have HCs : Hid (∀ W : World, Calls _ _ _ W _) := fun W => HC.out key W hkz.1 hkz.2
            have f0 : ∀ y : Wd13 w3, y.W.cell? ⟨Z.sb, 0, none⟩ = some (.int .i64 c.l) := fun y => (HY.out _ (HF1.out.then (HG3.out.then y.h))).1
            have f1 : ∀ y : Wd13 w3, y.W.cell? ⟨Z.sb, 1, none⟩ = some (.int .i64 c.s) := fun y => (HY.out _ (HF1.out.then (HG3.out.then y.h))).2.1
            have f2 : ∀ y : Wd13 w3, y.W.cell? ⟨Z.sb, 2, none⟩ = some (.int .i64 c.w) := fun y => (HY.out _ (HF1.out.then (HG3.out.then y.h))).2.2.1
            have f3 : ∀ y : Wd13 w3, y.W.cell? ⟨Z.sb, 3, none⟩ = some (.int .i64 c.q) := fun y => (HY.out _ (HF1.out.then (HG3.out.then y.h))).2.2.2
            have f4 : ∀ y : Wd13 w3, y.W.cell? ⟨B9, 0, none⟩ = some (.string key) := fun y => HB3.out _ y.h
            clear HKt HKy HKn hJk
            go_upto_region 12 with fail
            rw [HW3.out, ← HB9.out]
            clear HW3 HB9 d0 d1 d2
            go_wp2_with fail
            refine wp_region_wd13 (w1 := w3) (by kernel_rfl) (by kernel_rfl) (Fr.refl _ _) ?_
            repeat (go_big_quiet_step ((go_at_call 185; with_reducible refine (HCs.out _).mono ?_; exact fun e w3 hh => ⟨hh.1, ⟨_, Fr.then (Wd13.h _) hh.2⟩, rfl⟩)))
            refine wpQuiet_nil ?_
            rintro _ ⟨y, rfl⟩
            obtain ⟨w5, hw5⟩ : ∃ w5, w5 = y.W := ⟨_, rfl⟩
            have HF5 : Hid (Fr [] w3 w5) := by show Fr _ _ _; rw [hw5]; exact y.h
            rw [← hw5]
            clear hw5 f0 f1 f2 f3 f4 hlk e0
            have HO5 : Hid (IOw w1.heap.size w5 ro N rc (shT c ws k)) := HO3.out.keep HF5.out
            have HG5 : Hid (Fr [] w1 w5) := HG3.out.then HF5.out
            have hN1 : N < 1099511627776 := by omega
            have HB5 : Hid (∀ W', Fr (Value.slice ro N rc).ownBlock.toList (w5.alloc (.cells #[.int .i64 (shN13 c.s key)] 3)) W' → Fr [] w1 W') := fun W' h2 => HO5.out.on (Nat.le_refl _) HG5.out (Fr.alloc [] _ _) h2
            have HO6 : Hid (IOw w1.heap.size (w5.alloc (.cells #[.int .i64 (shN13 c.s key)] 3)) ro N rc (shT c ws k)) := HO5.out.keep (Fr.alloc [] _ _)
            have HSz : Hid (w1.heap.size ≤ w5.heap.size) := HG5.out.size
            clear HO3 HO5 HG3 HG5 HF5 HB3
            obtain ⟨q, hqq⟩ : ∃ q, q = shN13 c.s key := ⟨_, rfl⟩
            rw [← hqq] at HYY HB5 HO6 ⊢
            clear hqq
            go_wp2_with (first
              | (at_builtin; refine wpList_appI w1.heap.size _ rfl _ _ rfl ro N rc _ rfl HO6.out _ _ q rfl ?hcell (by omega) ?hsize ?_
                 case hcell => exact cell_new1 _ _ _
                 case hsize => have := HSz.out; simp; omega
                 intro o' c' w6 hO6 hF6 _
                 have HR6 : Hid (IOw w1.heap.size w6 o' (N + 1) c' (shT c ws k ++ [q]) ∧ Fr [] w1 w6) := ⟨hO6, HB5.out _ hF6⟩
                 clear hO6 hF6
                 go_frame)
              | fail)
            go_roundw
            case rel => exact ⟨o', N + 1, c', k + 1, rfl, by simp, by omega, by omega, (by rw [HYY.out]; exact HR6.out.1), HR6.out.2⟩
            case measure => simp [RowKit.intOf]; omega
          · have heq : (J == (k : Int)) = false := by simp [hJk]
            have HYY : Hid (shT c ws (k + 1) = shT c ws k) := HKn.out (fun h => hJk (HKt.2 h))
            have HO5 : Hid (IOw w1.heap.size w3 ro N rc (shT c ws (k + 1))) := by rw [HYY.out]; exact HO3
            clear HKt HKy HKn hJk HO3 HB3
            go_upto_region 12 with fail
            rw [HW3.out, ← HB9.out]
            clear HW3 HB9 d0 d1 d2
            go_wp2_with fail
            go_roundw
            case rel => exact ⟨_, N, _, k + 1, rfl, by simp, by omega, by omega, HO5, HG3⟩
            case measure => simp [RowKit.intOf]; omega
        · obtain rfl : k = i := by omega
          clear hki hk
          have HO1 : Hid (IOw w.heap.size wr ro N rc ((dd ws).map fun x => shN13 c.s x.key)) := by
            show IOw _ _ _ _ _ _
            unfold dd
            rw [← HL.out]
            exact HO.out.low HF1.out.size
          have HF2 : Hid (Fr [] w wr) := HF1.out.then HF.out
          clear HO HF
          go_wp2_with fail
          go_ret
          exact ⟨ro, N, rc, rfl, HO1.out, HF2.out⟩
end
end Go.Proofs.YtaaghcimfcjehaaGreatDoor
