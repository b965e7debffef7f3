/- Texts of this claim laid together, one behind the other: contracts and plain lemmas; conditions as each names them. -/
import Derived.Test.YtomajifklajilaaGreatGp38
import Derived.Deep.RegionHeld3
import Derived.Test.YtomajifklajilaaGreatGp5
import Derived.BigQuiet
import Derived.Deep.RegionLaw
import Derived.Deep.RegionWith
import Derived.Deep.CutRange
import Derived.Test.YtomajifklajilaaGreatGp17
import Derived.Test.YtomajifklajilaaGreatGp35
import Derived.Laws.AppendOwn
import Derived.Test.YtomajifklajilaaGreatGp7
/- The document's Ask: one more waits. Conditions as each names them. -/
namespace Go.Proofs.YtomajifklajilaaGreat
open Go.ChangeShapes Go.WideShapes Go.ChangeAt Go.RowKit Go.Lib Go.Maps
set_option linter.unusedVariables false
set_option linter.unusedSimpArgs false
theorem step_appR (w : World) {ops : Array Oper} {o : Oper} {a : Act} {K : Act → World → Prop} {Q : Exit → Act → World → Prop} {E : Prop} (hg : o.guard = none) (s x : Operand)
    (ho : o.op = .call { callee := .builtin .append, args := #[s, x], argTypes := #[76, 76] })
    (lo : Option Addr) (n c : Nat) (xs : List Rv) (hs : a.eval s = .slice lo n c) (hQ : QV w lo n c xs) (hn : n ≤ 65536)
    (r : Rv) (sb : Nat) (hx : a.eval x = .slice (some ⟨sb, 0, none⟩) 1 1) (hb : w.heap[sb]? = some (.cells r.cs.toArray 36 (0, 0)))
    (h : ∀ lo' c' w', QV w' lo' (n + 1) c' (xs ++ [r]) → Fr (qb lo).toList w w' → (qb lo' = qb lo ∨ ∃ k, qb lo' = some k ∧ w.heap.size ≤ k) → K (a.put o.dst (.slice lo' (n + 1) c')) w') :
    if Region.wanted o (yielded ops a.tmps) = true then Oper.wp Tryz.prog o a w K Q else E := by
  have hw : Region.wanted o (yielded ops a.tmps) = true := by simp [Region.wanted, hg]
  rw [if_pos hw]
  obtain ⟨lo', c', w', hr, h2, h3, h4⟩ := run_appV9 w o.type lo n c xs r sb hQ hn hb
  unfold Oper.wp execOp
  simp only [ho, resolve, invoke, builtin, Sem.run_bind, Sem.run_pure, Result.andThen_ok, List.map_toArray, List.map_cons, List.map_nil, hs, hx, hr]
  exact h lo' c' w' h2 h3 h4
section
variable {w w' : World} {yb C n c : Nat} {s lo : Option Addr} {xs : List Rv}
theorem YoM.qlt (h : YoM w yb s C lo n c xs) : ∀ k, qb lo = some k → k < w.heap.size := fun k hk => by
  obtain ⟨cur, hc⟩ := h.q.blk hk
  exact lt_of_block hc
set_option maxHeartbeats 4000000 in
set_option maxRecDepth 100000 in
theorem yoask_any (h : YoM w yb s C lo n c xs) (x : Rv) (ns : List Int) (hR : RqB w x ns) (hB : okR (x.q ns)) (hn : n < C) : Calls Tryz.prog 18 #[.pointer (some ⟨yb, 0, none⟩), x.v] w fun e w' => e = .returned (.tuple #[.bool true, .int .i64 0]) ∧ ∃ lo' c', YoM w' yb s C lo' (n + 1) c' (xs ++ [x]) ∧ Fr (yb :: (qb lo).toList) w w' ∧ (qb lo' = qb lo ∨ ∃ k, qb lo' = some k ∧ w.heap.size ≤ k) := by
  obtain ⟨xk, xf, xn, xa, xb, xd, xc, xe, xo, xl, xm⟩ := x
  obtain ⟨w0, HW0⟩ : ∃ w0, Hid (w.alloc (.cells #[.int .u8 xk, .int .i64 xf, .int .i64 xn, .string xa, .string xb, .bool xd, .string xc, .string xe, .slice xo xl xm] 36) = w0) := ⟨_, rfl⟩
  have hF0 : Fr [] w w0 := by rw [← HW0.out]; exact Fr.alloc _ _ _
  have hr0 : w0.heap[w.heap.size]? = some (.cells #[.int .u8 xk, .int .i64 xf, .int .i64 xn, .string xa, .string xb, .bool xd, .string xc, .string xe, .slice xo xl xm] 36 (0, 0)) := by rw [← HW0.out]; exact heap_alloc_new _ _
  obtain ⟨Z, HZ⟩ : ∃ Z, Hid (w.heap.size = Z) := ⟨_, rfl⟩
  rw [HZ.out] at hr0
  have HM : Hid (Calls _ _ _ _ _) := yomay_any ⟨xk, xf, xn, xa, xb, xd, xc, xe, xo, xl, xm⟩ ns true w0 (hR.keep hF0) ⟨fun _ => hB, fun _ => rfl⟩
  have h1 := h.cap
  have h2 := h.few
  have hyl := h.lt
  have HY : Hid (∀ W, Fr [] w0 W → YoM W yb s C lo n c xs ∧ W.heap[Z]? = some (.cells #[.int .u8 xk, .int .i64 xf, .int .i64 xn, .string xa, .string xb, .bool xd, .string xc, .string xe, .slice xo xl xm] 36 (0, 0)) ∧ Fr [] w W) := fun W hf => ⟨h.same (hF0.then hf), hf.keep hr0 (by simp), hF0.then hf⟩
  have HNe : Hid (yb ≠ Z ∧ qb lo ≠ some yb ∧ (∀ k, qb lo = some k → k ≠ Z ∧ k < w.heap.size)) := ⟨by have := HZ.out; omega, h.ne, fun k hk => ⟨by have := h.qlt k hk; have := HZ.out; omega, h.qlt k hk⟩⟩
  have HYl : Hid (yb < w.heap.size) := hyl
  simp only [Rv.v] at HM
  clear h hR hB hF0 hr0 hyl
  simp only [Rv.v]
  have hd1 : ¬ (C : Int) ≤ (n : Int) := by omega
  have hd2 : decide (C ≤ n) = false := by simp; omega
  go_enter Tryz.func18, Tryz.ntmps18
  go_upto_region 3 with fail
  rw [HW0.out]
  rw [HZ.out]
  obtain ⟨hy0, hz0, _⟩ := HY.out _ (Fr.refl _ _)
  have hld0 := load_req ⟨xk, xf, xn, xa, xb, xd, xc, xe, xo, xl, xm⟩ hz0
  have z0 := RvAt.ofRow (x := ⟨xk, xf, xn, xa, xb, xd, xc, xe, xo, xl, xm⟩) hz0
  obtain ⟨r0, r1, r2, r3, r4, r5, r6, r7, r8⟩ := z0
  simp only [Nat.zero_add] at r0 r1 r2 r3 r4 r5 r6 r7 r8
  clear hy0
  go_wp2_with fail
  refine Calls.mono HM.out ?_
  rintro e w1 ⟨rfl, hF1⟩
  have HF1 : Hid (Fr [] w0 w1) := hF1
  obtain ⟨hy1, hz1, _⟩ := HY.out _ hF1
  have c1 := hy1.c1
  have c2 := hy1.c2
  clear hy1 hz1 hF1 hld0 r0 r1 r2 r3 r4 r5 r6 r7 r8 hz0
  go_wp2_with fail
  go_quiet (fail)
  obtain ⟨w2, HW2⟩ : ∃ w2, Hid (w1.drewN nq = w2) := ⟨_, rfl⟩
  have HF2 : Hid (Fr [] w0 w2) := by show Fr _ _ _; rw [← HW2.out]; exact HF1.out.then (Fr.drewN _ _ _)
  rw [HW2.out]
  obtain ⟨hy2, hz2, _⟩ := HY.out _ HF2.out
  have d2 := hy2.c2
  obtain ⟨r0, r1, r2, r3, r4, r5, r6, r7, r8⟩ := RvAt.ofRow (x := ⟨xk, xf, xn, xa, xb, xd, xc, xe, xo, xl, xm⟩) hz2
  simp only [Nat.zero_add] at r0 r1 r2 r3 r4 r5 r6 r7 r8
  clear c1 c2 hy2 hz2 HW2
  have HX : Hid (∀ W, Fr [] w2 W → QV (W.alloc (.cells #[.int .u8 xk, .int .i64 xf, .int .i64 xn, .string xa, .string xb, .bool xd, .string xc, .string xe, .slice xo xl xm] 36)) lo n c xs ∧ (W.alloc (.cells #[.int .u8 xk, .int .i64 xf, .int .i64 xn, .string xa, .string xb, .bool xd, .string xc, .string xe, .slice xo xl xm] 36)).heap[W.heap.size]? = some (.cells (Rv.cs ⟨xk, xf, xn, xa, xb, xd, xc, xe, xo, xl, xm⟩).toArray 36 (0, 0))) := fun W hf => ⟨(HY.out _ ((HF2.out.then hf).then (Fr.alloc _ _ _))).1.q, heap_alloc_new _ _⟩
  have HG : Hid (∀ W, Fr [] w2 W → ∀ lo' c' w', QV w' lo' (n + 1) c' (xs ++ [⟨xk, xf, xn, xa, xb, xd, xc, xe, xo, xl, xm⟩]) → Fr (qb lo).toList (W.alloc (.cells #[.int .u8 xk, .int .i64 xf, .int .i64 xn, .string xa, .string xb, .bool xd, .string xc, .string xe, .slice xo xl xm] 36)) w' → (qb lo' = qb lo ∨ ∃ k, qb lo' = some k ∧ (W.alloc (.cells #[.int .u8 xk, .int .i64 xf, .int .i64 xn, .string xa, .string xb, .bool xd, .string xc, .string xe, .slice xo xl xm] 36)).heap.size ≤ k) →
      ((w'.cell? ⟨yb, 2, none⟩ = some (.slice lo n c) ∧ w'.cell? ⟨Z, 0, none⟩ = some (.int .u8 xk) ∧ w'.cell? ⟨Z, 1, none⟩ = some (.int .i64 xf) ∧ w'.cell? ⟨Z, 2, none⟩ = some (.int .i64 xn) ∧ w'.cell? ⟨Z, 3, none⟩ = some (.string xa) ∧ w'.cell? ⟨Z, 4, none⟩ = some (.string xb) ∧ w'.cell? ⟨Z, 5, none⟩ = some (.bool xd) ∧ w'.cell? ⟨Z, 6, none⟩ = some (.string xc) ∧ w'.cell? ⟨Z, 7, none⟩ = some (.string xe) ∧ w'.cell? ⟨Z, 8, none⟩ = some (.slice xo xl xm)) ∧ w'.frozen? ⟨yb, 2, none⟩ = false) ∧ YoM (w'.setCell ⟨yb, 2, none⟩ (.slice lo' (n + 1) c')) yb s C lo' (n + 1) c' (xs ++ [⟨xk, xf, xn, xa, xb, xd, xc, xe, xo, xl, xm⟩]) ∧ Fr (yb :: (qb lo).toList) w (w'.setCell ⟨yb, 2, none⟩ (.slice lo' (n + 1) c')) ∧ (qb lo' = qb lo ∨ ∃ k, qb lo' = some k ∧ w.heap.size ≤ k)) := fun W hf lo' c' w' hQ hF hm => by
    obtain ⟨hyW, hzW, hwW⟩ := HY.out _ ((HF2.out.then hf).then (Fr.alloc [] _ (.cells #[.int .u8 xk, .int .i64 xf, .int .i64 xn, .string xa, .string xb, .bool xd, .string xc, .string xe, .slice xo xl xm] 36)))
    have hyn : yb ∉ (qb lo).toList := by simp only [Option.mem_toList]; exact HNe.out.2.1
    have hzn : Z ∉ (qb lo).toList := by simp only [Option.mem_toList]; exact fun e => (HNe.out.2.2 Z e).1 rfl
    have hb := hF.keep hyW.row hyn
    have hz := RvAt.ofRow (x := ⟨xk, xf, xn, xa, xb, xd, xc, xe, xo, xl, xm⟩) (hF.keep hzW hzn)
    obtain ⟨q0, q1, q2, q3, q4, q5, q6, q7, q8⟩ := hz
    simp only [Nat.zero_add] at q0 q1 q2 q3 q4 q5 q6 q7 q8
    have hsz := hwW.size
    have hne : qb lo' ≠ some yb := by
      rcases hm with e | ⟨k, e, hk⟩
      · rw [e]; exact HNe.out.2.1
      · rw [e]; intro e2; cases e2; have := HYl.out; omega
    have hfs : Fr [yb] w' (w'.setCell ⟨yb, 2, none⟩ (.slice lo' (n + 1) c')) := Fr.set _ _ _ (by simp)
    refine ⟨⟨⟨by rw [cell_of_row _ _ _ _ _ _ hb]; rfl, q0, q1, q2, q3, q4, q5, q6, q7, q8⟩, by simp [World.frozen?, hb]⟩, ⟨by rw [qrow_setCell _ hb]; rfl, hQ.keep hfs (fun b e => by simp; rintro rfl; exact hne e), hne, h1, by omega⟩, (hwW.mono (by simp)).then ((hF.mono (by intro y hy _; exact List.mem_cons_of_mem _ hy)).then (hfs.mono (by simp))), ?_⟩
    rcases hm with e | ⟨k, e, hk⟩
    · exact Or.inl e
    · exact Or.inr ⟨k, e, by omega⟩
  have hyz := HNe.out.1
  have hyl2 : yb < w2.heap.size := by have := (HY.out _ HF2.out).1.lt; exact this
  go_wp2_with fail
  go_region_law (first
    | (refine step_appR _ (by rfl) _ _ (by rfl) lo n c xs (by rfl) (HX.out _ (Fr.drewN _ _ _)).1 (by omega) ⟨xk, xf, xn, xa, xb, xd, xc, xe, xo, xl, xm⟩ _ (by rfl) (HX.out _ (Fr.drewN _ _ _)).2 ?_; intro lo' c' w3 hQ3 hF3 hm3; obtain ⟨⟨⟨e2, j0, j1, j2, j3, j4, j5, j6, j7, j8⟩, f2⟩, hG3⟩ := HG.out _ (Fr.drewN _ _ _) lo' c' w3 hQ3 hF3 hm3)
    | (refine step_appR _ (by rfl) _ _ (by rfl) lo n c xs (by rfl) (HX.out _ (Fr.drew _ _)).1 (by omega) ⟨xk, xf, xn, xa, xb, xd, xc, xe, xo, xl, xm⟩ _ (by rfl) (HX.out _ (Fr.drew _ _)).2 ?_; intro lo' c' w3 hQ3 hF3 hm3; obtain ⟨⟨⟨e2, j0, j1, j2, j3, j4, j5, j6, j7, j8⟩, f2⟩, hG3⟩ := HG.out _ (Fr.drew _ _) lo' c' w3 hQ3 hF3 hm3)
    | (refine step_appR _ (by rfl) _ _ (by rfl) lo n c xs (by rfl) (HX.out _ (Fr.refl _ _)).1 (by omega) ⟨xk, xf, xn, xa, xb, xd, xc, xe, xo, xl, xm⟩ _ (by rfl) (HX.out _ (Fr.refl _ _)).2 ?_; intro lo' c' w3 hQ3 hF3 hm3; obtain ⟨⟨⟨e2, j0, j1, j2, j3, j4, j5, j6, j7, j8⟩, f2⟩, hG3⟩ := HG.out _ (Fr.refl _ _) lo' c' w3 hQ3 hF3 hm3))
  all_goals go_wp2
  all_goals (go_ret2; exact ⟨rfl, lo', c', hG3⟩)
end
end Go.Proofs.YtomajifklajilaaGreat
/- What the document's May and Check of versions answer. Conditions as each names them. -/
namespace Go.Proofs.YtomajifklajilaaGreat
open BigFrame Go.ChangeShapes Go.WideShapes Go.ChangeAt Go.RowKit Go.Lib
set_option linter.unusedVariables false
set_option linter.unusedSimpArgs false
/-- A row that a call answers: new, or in the block that it was handed; with its room. -/
def Nr9 (w w' : World) (ao ro : Option Addr) (N rc : Nat) : Prop := N ≤ rc ∧ ∀ a, ro = some a → (w.heap.size ≤ a.block ∧ ∃ cur, w'.heap[a.block]? = some (.cells cur 110 (0, 0))) ∨ ∃ c, ao = some c ∧ c.block = a.block
theorem Nr9.none (w w' : World) (ao : Option Addr) : Nr9 w w' ao none 0 0 := ⟨Nat.le_refl _, fun a h => by cases h⟩
theorem Nr9.same {w w' : World} {ao : Option Addr} {N rc : Nat} (h : N ≤ rc) : Nr9 w w' ao ao N rc := ⟨h, fun a e => Or.inr ⟨a, e, rfl⟩⟩
theorem Nr9.cut {w w' : World} {ao : Option Addr} {L cap d : Nat} (h : L ≤ cap) : Nr9 w w' ao (fromV ao cap d) (L - d) (cap - d) := by
  refine ⟨by omega, fun a e => Or.inr ?_⟩
  unfold fromV at e
  cases ao with
  | none => simp at e
  | some c =>
    refine ⟨c, rfl, ?_⟩
    split at e
    · simp at e
      rw [← e]
    · simp at e
      rw [← e]
      unfold Addr.add
      split <;> rfl

/-- A world that keeps all that w1 held. -/
structure Wd8 (w1 : World) where
  W : World
  h : Fr [] w1 W
instance (w1 : World) : Nonempty (Wd8 w1) := ⟨⟨w1, Fr.refl _ _⟩⟩
theorem wp_region_wd8 {P : Program} {w1 wr : World} {id : Nat} {Q : Exit → Act → World → Prop} {a : Act} {l : List Oper} (hm : P.follows .mixedOrders = true) (hB : Region.lexB .any l.toArray = true) (hf : Fr [] w1 wr)
    (h : wpQuiet P l.toArray (fun w' => ∃ x : Wd8 w1, w' = x.W) (fun a' => ∀ w', (∃ x : Wd8 w1, w' = x.W) → Q .normal a' w') l a) : (Code.region id l.toArray true).wp P Q a wr :=
  wp_region_quiet (C := fun w' => ∃ x : Wd8 w1, w' = x.W) hm hB ⟨⟨_, hf.then (Fr.drew [] wr)⟩, rfl⟩ (by simpa using h)
set_option maxHeartbeats 4000000 in
set_option maxRecDepth 100000 in
theorem umay_any (n : Int) (val : ByteArray) (drop : Bool) (B : Bool) (w : World) (hv : val.size ≤ 140737488355328) (hB : B = true ↔ okX ⟨n, val, drop⟩) :
    Calls Tryz.prog 102 #[.agg #[.int .i64 n, .string val, .bool drop]] w fun e w' => e = .returned (.bool B) ∧ Fr [] w w' := by
  have HB : Hid (B = true ↔ okX ⟨n, val, drop⟩) := hB
  clear hB
  have no : ¬ okX ⟨n, val, drop⟩ → B = false := fun h => by
    cases hb : B with
    | false => rfl
    | true => exact absurd (HB.out.1 hb) h
  by_cases h1 : 1 ≤ n
  · by_cases h2 : n ≤ 65536
    · by_cases h3 : val.size ≤ 1024
      · have h3' : (val.size : Int) ≤ 1024 := by omega
        cases drop with
        | false =>
          have hB : B = true := HB.out.2 ⟨h1, h2, h3, fun h => by cases h⟩
          subst hB
          clear no h3
          go_enter Tryz.func102, Tryz.ntmps102
          go_wp2
          go_ret
          exact ⟨rfl, Fr.alloc _ _ _⟩
        | true =>
          by_cases h4 : val.size = 0
          · have hB : B = true := HB.out.2 ⟨h1, h2, h3, fun _ => (noS_iff _).1 h4⟩
            subst hB
            have h4' : ((val.size : Int) == 0) = true := by simp [h4]
            clear no h3 h4
            go_enter Tryz.func102, Tryz.ntmps102
            go_wp2
            go_ret
            exact ⟨rfl, Fr.alloc _ _ _⟩
          · have hB : B = false := no (fun h => h4 ((noS_iff _).2 (h.2.2.2 rfl)))
            subst hB
            have h4' : ((val.size : Int) == 0) = false := by rw [beq_eq_false_iff_ne]; omega
            clear no h3 h4
            go_enter Tryz.func102, Tryz.ntmps102
            go_wp2
            go_ret
            exact ⟨rfl, Fr.alloc _ _ _⟩
      · have hB : B = false := no (fun h => h3 h.2.2.1)
        subst hB
        have h3' : ¬ (val.size : Int) ≤ 1024 := by omega
        clear no h3
        go_enter Tryz.func102, Tryz.ntmps102
        go_wp2
        go_ret
        exact ⟨rfl, Fr.alloc _ _ _⟩
    · have hB : B = false := no (fun h => h2 h.2.1)
      subst hB
      clear no
      go_enter Tryz.func102, Tryz.ntmps102
      go_wp2
      go_ret
      exact ⟨rfl, Fr.alloc _ _ _⟩
  · have hB : B = false := no (fun h => h1 h.1)
    subst hB
    clear no
    go_enter Tryz.func102, Tryz.ntmps102
    go_wp2
    go_ret
    exact ⟨rfl, Fr.alloc _ _ _⟩
/-- One version more. -/
theorem okV_next {vs : List Vn} {i : Nat} (h : okV (vs.take i)) (hi : i < vs.length) : okV (vs.take (i + 1)) ↔ okX (vs.getD i Vn.zero) ∧ (0 < i → (vs.getD (i - 1) Vn.zero).num < (vs.getD i Vn.zero).num) := by
  rw [vtake_snoc vs i hi, okV_snoc]
  constructor
  · rintro ⟨_, h2, h3⟩
    refine ⟨h2, fun h0 => h3 _ ?_⟩
    have hl : i - 1 < (vs.take i).length := by rw [List.length_take]; omega
    have e : vs.getD (i - 1) Vn.zero = (vs.take i).getD (i - 1) Vn.zero := by simp [List.getD, List.getElem?_take, show i - 1 < i by omega]
    rw [e]
    exact vgetD_mem _ _ hl
  · rintro ⟨h2, h3⟩
    refine ⟨h, h2, fun y hy => ?_⟩
    obtain ⟨j, hj, rfl⟩ := List.getElem_of_mem hy
    rw [List.length_take] at hj
    have h0 := h3 (by omega)
    have hl : i - 1 < (vs.take i).length := by rw [List.length_take]; omega
    have e : ∀ k, k < i → (vs.take i).getD k Vn.zero = vs.getD k Vn.zero := fun k hk => by simp [List.getD, List.getElem?_take, hk]
    have hjl : j < vs.length := by omega
    rw [List.getElem_take, show vs[j] = vs.getD j Vn.zero by simp [List.getD, hjl]]
    by_cases hji : j = i - 1
    · subst hji; exact h0
    · have := ris_get h.2 (show j < i - 1 by omega) hl
      rw [e j (by omega), e (i - 1) (by omega)] at this
      omega
set_option maxHeartbeats 8000000 in
set_option maxRecDepth 100000 in
theorem ucheck_any (ao : Option Addr) (L cap c : Nat) (vs : List Vn) (w : World) (hV : VRs w ao vs) (hL : L = vs.length) (hc : CkT vs c) :
    Calls Tryz.prog 94 #[.slice ao L cap] w fun e w' => e = .returned (.int .i64 (c : Int)) ∧ Fr [] w w' := by
  have HL : Hid (L = vs.length) := hL
  have HC : Hid (CkT vs c) := hc
  have HV : Hid (∀ W, Fr [] w W → VRs W ao vs) := fun W hf => hV.keep hf
  have hLL : L ≤ 4398046511104 := by have := hV.few; omega
  clear hV hL hc
  go_enter Tryz.func94, Tryz.ntmps94
  go_wp2_with fail
  go_loopw [3] (fun ii wr => ∃ (i : Nat), ii = .int .i64 i ∧ i ≤ L ∧ Hid (okV (vs.take i)) ∧ Fr [] w wr) (fun ii _ => L - (RowKit.intOf ii).toNat)
  case atStart => exact ⟨0, rfl, Nat.zero_le _, okV_sub okV_nil (by simp), Fr.refl _ _⟩
  case round =>
    obtain ⟨i, rfl, hiL, HI, hF⟩ := hrel
    by_cases hi : i < L
    · have hi' : i < vs.length := by rw [← HL.out]; exact hi
      have hst := okV_next HI.out hi'
      have hE := (HV.out _ (Fr.refl _ _)).each _ (vgetD_mem vs i hi')
      obtain ⟨b, off, eao, hbl, hat⟩ := (HV.out _ hF).lies (by omega)
      have hx := hat i hi'
      obtain ⟨⟨n, val, drop⟩, hxx⟩ : ∃ x, x = vs.getD i Vn.zero := ⟨_, rfl⟩
      rw [← hxx] at hst hE hx
      obtain ⟨m, hm⟩ : ∃ m, m = (vs.getD (i - 1) Vn.zero).num := ⟨_, rfl⟩
      rw [← hm] at hst
      have hvz : val.size ≤ 140737488355328 := hE.v
      have HS : Hid (okV (vs.take (i + 1)) ↔ okX ⟨n, val, drop⟩ ∧ (0 < i → m < n)) := hst
      have hp : 0 < i → wr.cell? ⟨b, off + (i - 1) * 3, none⟩ = some (.int .i64 m) := fun h0 => by rw [hm]; exact (hat (i - 1) (by omega)).c0
      clear hst hE hxx hm hat
      obtain ⟨c0, c1, c2⟩ := hx
      simp only at c0 c1 c2
      obtain ⟨B, HB⟩ : ∃ B : Bool, Hid (B = true ↔ okX ⟨n, val, drop⟩) := by classical exact ⟨decide (okX ⟨n, val, drop⟩), by show _ ↔ _; simp⟩
      have g0 : ∀ x : Wd8 wr, x.W.cell? ⟨b, off + i * 3, none⟩ = some (.int .i64 n) := fun x => (World.cell?_of_block (x.h.block b hbl (by simp))).trans c0
      have g1 : ∀ x : Wd8 wr, x.W.cell? ⟨b, off + i * 3 + 1, none⟩ = some (.string val) := fun x => (World.cell?_of_block (x.h.block b hbl (by simp))).trans c1
      have g2 : ∀ x : Wd8 wr, x.W.cell? ⟨b, off + i * 3 + 2, none⟩ = some (.bool drop) := fun x => (World.cell?_of_block (x.h.block b hbl (by simp))).trans c2
      have HM : Hid (∀ W, Fr [] wr W → Calls Tryz.prog 102 #[.agg #[.int .i64 n, .string val, .bool drop]] W fun e w' => e = .returned (.bool B) ∧ Fr [] W w') := fun W _ => umay_any n val drop B W hvz HB.out
      subst eao
      cases B with
      | false =>
        obtain rfl : c = 1 := HC.out.bad (i := i) (fun h => by have := HB.out.2 (HS.out.1 h).1; cases this)
        clear c0 c1 c2 hp
        go_upto_region 4 with fail
        refine wp_region_wd8 (w1 := wr) (by kernel_rfl) (by kernel_rfl) (Fr.refl _ _) ?_
        repeat (go_big_quiet_step (exact (HM.out _ (Wd8.h _)).mono fun e w3 hh => ⟨hh.1, ⟨_, Fr.then (Wd8.h _) hh.2⟩, rfl⟩))
        refine wpQuiet_nil ?_
        rintro _ ⟨x, rfl⟩
        go_wp2
        go_ret
        exact ⟨rfl, hF.then x.h⟩
      | true =>
        by_cases hi0 : 0 < i
        · obtain ⟨i', rfl⟩ : ∃ i', i = i' + 1 := ⟨i - 1, by omega⟩
          have p0 := hp (by omega)
          rw [Nat.add_sub_cancel] at p0
          have g3 : ∀ x : Wd8 wr, x.W.cell? ⟨b, off + i' * 3, none⟩ = some (.int .i64 m) := fun x => (World.cell?_of_block (x.h.block b hbl (by simp))).trans p0
          have hd : decide ((0 : Int) < ((i' + 1 : Nat) : Int)) = true := by simp <;> omega
          have hd2 : ((i' + 1 : Nat) : Int) - 1 = (i' : Int) := by omega
          clear c0 c1 c2 hp p0
          by_cases hmn : m < n
          · have HN : Hid (okV (vs.take (i' + 1 + 1))) := HS.out.2 ⟨HB.out.1 rfl, fun _ => hmn⟩
            have hmn' : ¬ n ≤ m := by omega
            go_upto_region 4 with fail
            refine wp_region_wd8 (w1 := wr) (by kernel_rfl) (by kernel_rfl) (Fr.refl _ _) ?_
            repeat (go_big_quiet_step (exact (HM.out _ (Wd8.h _)).mono fun e w3 hh => ⟨hh.1, ⟨_, Fr.then (Wd8.h _) hh.2⟩, rfl⟩))
            refine wpQuiet_nil ?_
            rintro _ ⟨x, rfl⟩
            have hFx := hF.then x.h
            go_wp2
            exact ⟨⟨i' + 1 + 1, by simp, by omega, HN, hFx⟩, by simp [RowKit.intOf]; omega⟩
          · obtain rfl : c = 1 := HC.out.bad (i := i' + 1) (fun h => hmn ((HS.out.1 h).2 (by omega)))
            have hmn' : n ≤ m := by omega
            go_upto_region 4 with fail
            refine wp_region_wd8 (w1 := wr) (by kernel_rfl) (by kernel_rfl) (Fr.refl _ _) ?_
            repeat (go_big_quiet_step (exact (HM.out _ (Wd8.h _)).mono fun e w3 hh => ⟨hh.1, ⟨_, Fr.then (Wd8.h _) hh.2⟩, rfl⟩))
            refine wpQuiet_nil ?_
            rintro _ ⟨x, rfl⟩
            go_wp2
            go_ret
            exact ⟨rfl, hF.then x.h⟩
        · obtain rfl : i = 0 := by omega
          simp only [Nat.zero_mul, Nat.add_zero] at g0 g1 g2
          have HN : Hid (okV (vs.take (0 + 1))) := HS.out.2 ⟨HB.out.1 rfl, fun h => by omega⟩
          clear c0 c1 c2 hp
          go_upto_region 4 with fail
          refine wp_region_wd8 (w1 := wr) (by kernel_rfl) (by kernel_rfl) (Fr.refl _ _) ?_
          repeat (go_big_quiet_step (exact (HM.out _ (Wd8.h _)).mono fun e w3 hh => ⟨hh.1, ⟨_, Fr.then (Wd8.h _) hh.2⟩, rfl⟩))
          refine wpQuiet_nil ?_
          rintro _ ⟨x, rfl⟩
          have hFx := hF.then x.h
          go_wp2
          exact ⟨⟨1, by simp, by omega, HN, hFx⟩, by simp [RowKit.intOf]; omega⟩
    · obtain rfl : c = 0 := by
        have hok := HI.out
        rw [List.take_of_length_le (by have := HL.out; omega)] at hok
        exact (HC.out.one (CkT.of hok))
      go_wp2
      go_ret
      exact ⟨rfl, hF⟩
end Go.Proofs.YtomajifklajilaaGreat
/- The document's Key, Val, Write, Number. Conditions as each names them. -/
namespace Go.Proofs.YtomajifklajilaaGreat
open BigFrame Go.ChangeShapes Go.WideShapes Go.ChangeAt Go.RowKit Go.Lib
set_option linter.unusedVariables false
set_option linter.unusedSimpArgs false

/-- A write: key, value, drop. -/
structure Wt where
  key : ByteArray
  val : ByteArray
  drop : Bool
/-- May a write be? -/
def okW (x : Wt) : Prop := 1 ≤ x.key.size ∧ x.key.size ≤ 64 ∧ x.val.size ≤ 1024 ∧ (x.drop = true → x.val = noS)
theorem xKey_any (s : ByteArray) (B : Bool) (w : World) (hs : s.size ≤ 140737488355328) (hB : B = true ↔ 1 ≤ s.size ∧ s.size ≤ 64) : Calls Tryz.prog 93 #[.string s] w fun e w' => e = .returned (.bool B) ∧ w = w' := by
  have HB : Hid (B = true ↔ 1 ≤ s.size ∧ s.size ≤ 64) := hB
  clear hB
  by_cases h1 : 1 ≤ s.size
  · have h1' : (1 : Int) ≤ s.size := by omega
    by_cases h2 : s.size ≤ 64
    · have h2' : (s.size : Int) ≤ 64 := by omega
      have HR : Hid (B = true) := HB.out.2 ⟨h1, h2⟩
      go_enter Tryz.func93, Tryz.ntmps93
      go_wp2
      go_ret
      rw [HR.out]
      simp [h2']
    · have h2' : decide ((s.size : Int) ≤ 64) = false := by simp; omega
      have HR : Hid (B = false) := by show B = false; simpa using fun h : B = true => h2 (HB.out.1 h).2
      clear h2
      go_enter Tryz.func93, Tryz.ntmps93
      go_wp2
      go_ret
      rw [HR.out]
      simp [h2']
  · have h1' : decide ((1 : Int) ≤ s.size) = false := by simp; omega
    have h1'' : (s.size : Int) < 1 := by omega
    have HR : Hid (B = false) := by show B = false; simpa using fun h : B = true => h1 (HB.out.1 h).1
    clear h1
    go_enter Tryz.func93, Tryz.ntmps93
    go_wp2
    go_ret
    rw [HR.out]
    simp
theorem xVal_any (s : ByteArray) (B : Bool) (w : World) (hs : s.size ≤ 140737488355328) (hB : B = true ↔ s.size ≤ 1024) : Calls Tryz.prog 101 #[.string s] w fun e w' => e = .returned (.bool B) ∧ w = w' := by
  have HB : Hid (decide ((s.size : Int) ≤ 1024) = B) := by
    show _ = _
    cases B with
    | true => have := hB.1 rfl; simp; omega
    | false => have : ¬ s.size ≤ 1024 := fun h => by have := hB.2 h; simp at this
               simp; omega
  clear hB
  go_enter Tryz.func101, Tryz.ntmps101
  go_wp2
  go_ret
  rw [← HB.out]
  exact ⟨rfl, rfl⟩
/-- It tells whether the write may be. -/
def TellsY (e : Ending) (x : Wt) : Prop := ∃ B : Bool, e = .returned (.bool B) ∧ (B = true ↔ okW x)
set_option maxHeartbeats 2000000 in
set_option maxRecDepth 100000 in
theorem xWrite_any (key val : ByteArray) (drop : Bool) (w : World) (hk : key.size ≤ 140737488355328) (hv : val.size ≤ 140737488355328) :
    Calls Tryz.prog 70 #[.agg #[.string key, .string val, .bool drop]] w fun e w' => TellsY e ⟨key, val, drop⟩ ∧ Fr [] w w' := by
  have hF0 : Fr [] w (w.alloc (.cells #[.string key, .string val, .bool drop] 33)) := Fr.alloc [] w _
  have HO : Hid (okW ⟨key, val, drop⟩ ↔ (1 ≤ key.size ∧ key.size ≤ 64) ∧ val.size ≤ 1024 ∧ (drop = true → val.size = 0)) := by
    show _ ↔ _
    unfold okW
    rw [← noS_iff]
    simp only
    constructor
    · rintro ⟨a, b, c, d⟩; exact ⟨⟨a, b⟩, c, d⟩
    · rintro ⟨⟨a, b⟩, c, d⟩; exact ⟨a, b, c, d⟩
  by_cases h1 : 1 ≤ key.size ∧ key.size ≤ 64
  · by_cases h2 : val.size ≤ 1024
    · cases drop with
      | true =>
        by_cases h3 : val.size = 0
        · have h3' : ((val.size : Int) == 0) = true := by rw [h3]; rfl
          have HA : Hid (okW ⟨key, val, true⟩) := HO.out.2 ⟨h1, h2, fun _ => h3⟩
          go_enter Tryz.func70, Tryz.ntmps70
          go_wp2_with fail
          refine (xKey_any key true _ hk (by simpa using h1)).mono ?_
          rintro e w1 ⟨rfl, rfl⟩
          go_wp2_with fail
          refine (xVal_any val true _ hv (by simpa using h2)).mono ?_
          rintro e w1 ⟨rfl, rfl⟩
          go_wp2
          go_ret
          exact ⟨⟨true, by simp [h3'], by simp [HA.out]⟩, hF0⟩
        · have h3' : ((val.size : Int) == 0) = false := by rw [beq_eq_false_iff_ne]; omega
          have HA : Hid (¬ okW ⟨key, val, true⟩) := fun h => h3 ((HO.out.1 h).2.2 rfl)
          clear h3
          go_enter Tryz.func70, Tryz.ntmps70
          go_wp2_with fail
          refine (xKey_any key true _ hk (by simpa using h1)).mono ?_
          rintro e w1 ⟨rfl, rfl⟩
          go_wp2_with fail
          refine (xVal_any val true _ hv (by simpa using h2)).mono ?_
          rintro e w1 ⟨rfl, rfl⟩
          go_wp2
          go_ret
          exact ⟨⟨false, by simp [h3'], by simp [HA.out]⟩, hF0⟩
      | false =>
        have HA : Hid (okW ⟨key, val, false⟩) := HO.out.2 ⟨h1, h2, fun h => by simp at h⟩
        go_enter Tryz.func70, Tryz.ntmps70
        go_wp2_with fail
        refine (xKey_any key true _ hk (by simpa using h1)).mono ?_
        rintro e w1 ⟨rfl, rfl⟩
        go_wp2_with fail
        refine (xVal_any val true _ hv (by simpa using h2)).mono ?_
        rintro e w1 ⟨rfl, rfl⟩
        go_wp2
        go_ret
        exact ⟨⟨true, by simp, by simp [HA.out]⟩, hF0⟩
    · have HA : Hid (¬ okW ⟨key, val, drop⟩) := fun h => h2 (HO.out.1 h).2.1
      go_enter Tryz.func70, Tryz.ntmps70
      go_wp2_with fail
      refine (xKey_any key true _ hk (by simpa using h1)).mono ?_
      rintro e w1 ⟨rfl, rfl⟩
      go_wp2_with fail
      refine (xVal_any val false _ hv (by simpa using h2)).mono ?_
      rintro e w1 ⟨rfl, rfl⟩
      go_wp2
      go_ret
      exact ⟨⟨false, by simp, by simp [HA.out]⟩, hF0⟩
  · have HA : Hid (¬ okW ⟨key, val, drop⟩) := fun h => h1 (HO.out.1 h).1
    have HB : Hid (false = true ↔ 1 ≤ key.size ∧ key.size ≤ 64) := ⟨fun h => by simp at h, fun h => absurd h h1⟩
    clear h1
    go_enter Tryz.func70, Tryz.ntmps70
    go_wp2_with fail
    refine (xKey_any key false _ hk HB.out).mono ?_
    rintro e w1 ⟨rfl, rfl⟩
    go_wp2
    go_ret
    exact ⟨⟨false, by simp, by simp [HA.out]⟩, hF0⟩
theorem xNumber_any (n : Int) (B : Bool) (w : World) (hB : B = true ↔ 1 ≤ n ∧ n ≤ 65536) : Calls Tryz.prog 69 #[.int .i64 n] w fun e w' => e = .returned (.bool B) ∧ w = w' := by
  have HB : Hid (B = true ↔ 1 ≤ n ∧ n ≤ 65536) := hB
  clear hB
  by_cases h1 : 1 ≤ n
  · have HR : Hid (decide (n ≤ 65536) = B) := by
      show _ = _
      cases B with
      | true => have := HB.out.1 rfl; simp; omega
      | false => have : ¬ n ≤ 65536 := fun h => by have := HB.out.2 ⟨h1, h⟩; simp at this
                 simp; omega
    go_enter Tryz.func69, Tryz.ntmps69
    go_wp2
    go_ret
    rw [← HR.out]
    exact ⟨by simp, rfl⟩
  · have h1' : n < 1 := by omega
    have HR : Hid (B = false) := by show B = false; simpa using fun h : B = true => h1 (HB.out.1 h).1
    clear h1
    go_enter Tryz.func69, Tryz.ntmps69
    go_wp2
    go_ret
    rw [HR.out]
    simp

end Go.Proofs.YtomajifklajilaaGreat
/- The document's keys with their versions in memory of their own: contract of Own. Conditions as each names them. -/
namespace Go.Proofs.YtomajifklajilaaGreat
open Go.ChangeShapes Go.WideShapes Go.ChangeAt Go.RowKit Go.Lib Go.Maps
set_option linter.unusedVariables false
set_option linter.unusedSimpArgs false

/-- Nothing behind nothing. -/
theorem wpList_append_zero {P : Program} {w : World} {ops : Array Oper} {rest : List Oper} {o : Oper} {a : Act} {Q : Exit → Act → World → Prop} (hgd : o.guard = none) (s x : Operand) (t : TypeId)
    (ho : o.op = .call { callee := .builtin .append, args := #[s, x], argTypes := #[t, t] })
    (e : TypeId) (i : TypeInfo) (ht : P.underlying t = some (.slice e)) (hi : P.info? e = some i)
    (hs : a.eval s = .slice none 0 0) (xo : Option Addr) (xc : Nat) (hx : a.eval x = .slice xo 0 xc)
    (h : wpList P ops Q rest (a.put o.dst (.slice none 0 0)) w) : wpList P ops Q (o :: rest) a w := by
  refine wpList_plain hgd fun K hK => ?_
  have hl : ∀ (x : Addr), (loadCells x 0).run P w = .ok #[] w := fun x => by simpa using run_loadCells_list (P := P) w x [] (by simp)
  have hrun : (Builtin.append_ #[t, t] o.type #[.slice none 0 0, .slice xo 0 xc]).run P w = .ok (.slice none 0 0) w := by
    cases xo <;> simp [Builtin.append_, run_underlying ht, sizeOf, typeInfo, hi, Builtin.lenOf, Builtin.firstCells, hl, storeCells]
  unfold Oper.wp
  simp [execOp, ho, resolve, invoke, builtin, hs, hx, hrun, Result.andThen]
  exact hK _ _ h
/-- All versions of a row that can be read, behind nothing. -/
theorem wpList_allV (w : World) {ops : Array Oper} {rest : List Oper} {o : Oper} {a : Act} {Q : Exit → Act → World → Prop} (hgd : o.guard = none) (s x : Operand)
    (ho : o.op = .call { callee := .builtin .append, args := #[s, x], argTypes := #[68, 68] })
    (hs : a.eval s = .slice none 0 0) (xo : Option Addr) (M xc : Nat) (vs : List Vn) (hx : a.eval x = .slice xo M xc) (hV : VRs w xo vs) (hM : M = vs.length)
    (h : ∀ bo rc w', VOut w w' bo M rc vs → Fr [] w w' → wpList Tryz.prog ops Q rest (a.put o.dst (.slice bo M rc)) w') : wpList Tryz.prog ops Q (o :: rest) a w := by
  obtain ⟨i0, hi, hz0, hz1, hz2⟩ := infoVn_parts
  by_cases h0 : 0 < M
  · obtain ⟨b, off, e, _, _⟩ := hV.lies (by omega)
    subst e
    have hfew := hV.few
    refine wpList_append_own w hgd s x 68 ho w.heap.size 110 i0 _ 3 32 Tryz.undVns' hi hz0 hz1 hz2 rfl (by decide) (.slice none 0 0) 0 [] hs (World.ownsRow_nil _ _ _ _) ⟨b, off, none⟩ M xc (vnsC vs) hx (by rw [vnsC_length, hM]) (fun j u hu => ?_) (vnsC_oneCell vs) (by unfold maxLen; omega) (by omega) (Nat.le_refl _) ?_
    · obtain ⟨b', off', e, hc⟩ := hV.cells hu
      cases e
      rw [Addr.add_lit]
      exact hc
    · intro v' w' hown hg _
      rw [Nat.zero_add, List.nil_append] at hown
      obtain ⟨bo, rc, rfl⟩ := own_shapeV hown
      exact h bo rc w' (VOut.of hown hM) (Fr.grown (S := []) hg (fun k hk => by simp [Value.ownBlock] at hk))
  · obtain rfl : M = 0 := by omega
    have hvs : vs = [] := List.eq_nil_of_length_eq_zero hM.symm
    subst hvs
    exact wpList_append_zero hgd s x 68 ho 110 i0 Tryz.undVns' hi hs xo xc hx (h none 0 w (VOut.of (World.ownsRow_nil _ _ _ _) rfl) (Fr.refl _ _))
/-- A key and its versions, wherever they lie. -/
def Hd.kv (h : Hd) : ByteArray × List Vn := (h.key, h.vs)
theorem HOut.later {w w1 w2 : World} {ro : Option Addr} {N rc : Nat} {hs : List Hd} (h : HOut w1 w2 ro N rc hs) (hz : w.heap.size ≤ w1.heap.size) : HOut w w2 ro N rc hs := ⟨h.len, own_base h.row hz, fun x hx => (h.each x hx).later hz, h.apart⟩

set_option maxHeartbeats 4000000 in
set_option maxRecDepth 100000 in
theorem kown_any (ao : Option Addr) (L cap : Nat) (hs : List Hd) (w : World) (hH : HRs w ao hs) (hL : L = hs.length) :
    Calls Tryz.prog 55 #[.slice ao L cap] w fun e w' => ∃ ro rc gs, e = .returned (.slice ro L rc) ∧ HOut w w' ro L rc gs ∧ gs.map Hd.kv = hs.map Hd.kv ∧ Fr [] w w' := by
  have HL : Hid (L = hs.length) := hL
  have hfew : L ≤ 3518437208882 := by rw [hL]; exact hH.few
  clear hL
  go_enter Tryz.func55, Tryz.ntmps55
  go_wp2_with fail
  go_loopw [3, 4] (fun vv ii wr => ∃ (i rc : Nat) (ro : Option Addr) (gs : List Hd), vv = .slice ro i rc ∧ ii = .int .i64 i ∧ i ≤ L ∧ Hid (HOut w wr ro i rc gs) ∧ Hid (gs.map Hd.kv = (hs.take i).map Hd.kv) ∧ Fr [] w wr) (fun _ ii _ => L - (RowKit.intOf ii).toNat)
  case atStart => exact ⟨0, 0, none, [], rfl, rfl, Nat.zero_le _, ⟨rfl, World.ownsRow_nil _ _ _ _, by simp, List.Pairwise.nil⟩, rfl, Fr.refl _ _⟩
  case round =>
    obtain ⟨i, rc, ro, gs, rfl, rfl, hiL, HO, HG, hFr⟩ := hrel
    by_cases hi : i < L
    · have hi' : i < hs.length := by rw [← HL.out]; exact hi
      obtain ⟨b, off, e9, _, hc⟩ := (hH.keep hFr).lies (by omega)
      subst e9
      obtain ⟨c0, c1⟩ := hc i hi'
      have hE := (hH.keep hFr).each _ (hgetD_mem hs i hi')
      have HT : Hid ((hs.take (i + 1)).map Hd.kv = (hs.take i).map Hd.kv ++ [(hs.getD i Hd.zero).kv]) := by show _ = _; rw [htake_snoc hs i hi', List.map_append]; rfl
      obtain ⟨x, hx⟩ : ∃ x, x = hs.getD i Hd.zero := ⟨_, rfl⟩
      rw [← hx] at c0 c1 hE HT
      clear hc hx
      obtain ⟨key, vo, M, cm, vs⟩ := x
      simp only at c0 c1
      have HM : Hid (M = vs.length) := hE.len
      have HV : Hid (VRs wr vo vs) := hE.rs
      have HC : Hid (∀ W, Fr [] wr W → W.cell? ⟨b, off + i * 2, none⟩ = some (.string key)) := fun W hf => by
        have hlt := World.block_lt_of_cell? wr _ c0
        exact (World.cell?_of_block (hf.block b hlt (by simp))).trans c0
      clear hE
      go_wp2_with (at_builtin; refine wpList_allV wr rfl (.tmp 12) (.tmp 17) rfl rfl vo M cm vs rfl HV.out HM.out ?_)
      intro bo bc w4 hV4 hF4
      have hG4 := hFr.then hF4
      have d0 := HC.out _ hF4
      have HTk : Hid (HOut w w4 ro i rc gs) := HO.out.keep hF4
      have HWk : Hid (VOut w w4 bo M bc vs) := hV4.later hFr.size
      have hsz : w.heap.size ≤ w4.heap.size := hG4.size
      have HOn : Hid (∀ w8, Fr (Value.slice ro i rc).ownBlock.toList w4 w8 → Fr [] w w8) := fun w8 hF8 => hG4.on hF8 (fun x hx => (owns_cells HTk.out.row (Option.mem_toList.1 hx)).1)
      have HApx : Hid (∀ x ∈ gs, Apa x.vo bo) := HO.out.newApart hV4
      clear hV4 hF4 hG4 hFr HO c0 c1 HV HC
      go_wp2_with (at_builtin; refine wpList_appH w w4 rfl _ _ rfl ro i rc gs rfl HTk.out (by omega) hsz ⟨key, bo, M, bc, vs⟩ HWk.out HApx.out rfl ?_)
      intro so3 c3 w8 hK8 hF8
      have HK8 : Hid (HOut w w8 so3 (i + 1) c3 (gs ++ [⟨key, bo, M, bc, vs⟩])) := hK8
      have hG8 := HOn.out _ hF8
      have HG8 : Hid ((gs ++ [(⟨key, bo, M, bc, vs⟩ : Hd)]).map Hd.kv = (hs.take (i + 1)).map Hd.kv) := by show _ = _; rw [HT.out, List.map_append, HG.out]; rfl
      clear hK8 hF8 HTk HWk
      go_wp2
      go_roundw
      case rel => exact ⟨i + 1, c3, so3, _, rfl, by simp, by omega, HK8, HG8, hG8⟩
      case measure => simp [RowKit.intOf]; omega
    · obtain rfl : i = L := by omega
      have HG2 : Hid (gs.map Hd.kv = hs.map Hd.kv) := by show _ = _; rw [HG.out, List.take_of_length_le (by rw [← HL.out]; omega)]
      go_wp2
      go_ret
      exact ⟨ro, rc, gs, rfl, HO.out, HG2.out, hFr⟩
end Go.Proofs.YtomajifklajilaaGreat
/- What the document's newest and Collect of versions answer. Conditions as each names them. -/
namespace Go.Proofs.YtomajifklajilaaGreat
open BigFrame Go.ChangeShapes Go.WideShapes Go.ChangeAt Go.RowKit Go.Lib
set_option linter.unusedVariables false
set_option linter.unusedSimpArgs false

set_option maxHeartbeats 4000000 in
set_option maxRecDepth 100000 in
theorem unewest_any (ao : Option Addr) (L cap d : Nat) (k : Int) (vs : List Vn) (w : World) (hV : VRs w ao vs) (hL : L = vs.length) (hd : UpTo vs k d) :
    Calls Tryz.prog 104 #[.slice ao L cap, .int .i64 k] w fun e w' => e = .returned (.int .i64 ((d : Int) - 1)) ∧ Fr [] w w' := by
  have HL : Hid (L = vs.length) := hL
  have HD : Hid (UpTo vs k d) := hd
  have HV : Hid (VRs w ao vs) := hV
  have hLL : L ≤ 4398046511104 := by have := hV.few; omega
  have hdL : d ≤ L := by have := hd.le; omega
  clear hV hL hd
  go_enter Tryz.func104, Tryz.ntmps104
  go_wp2_with fail
  go_loop [5, 6] (fun kk ii => ∃ (i : Nat) (z : Int), kk = .int .i64 z ∧ ii = .int .i64 i ∧ i ≤ L ∧ -1 ≤ z ∧ z < 4398046511105 ∧ Hid (z = ((min i d : Nat) : Int) - 1)) (fun _ ii => L - (RowKit.intOf ii).toNat)
  case atStart => exact ⟨0, -1, rfl, rfl, Nat.zero_le _, by omega, by omega, (by show _ = _; simp)⟩
  case round =>
    obtain ⟨i, z, rfl, rfl, hiL, hz0, hz1, HZ⟩ := hrel
    by_cases hi : i < L
    · have hi' : i < vs.length := by rw [← HL.out]; exact hi
      obtain ⟨b, off, rfl, hbl, hat⟩ := HV.out.lies (by omega)
      obtain ⟨c0, c1, c2⟩ := hat i hi'
      have hlo := HD.out.lo i
      have hhi := HD.out.hi i
      obtain ⟨⟨n, val, drop⟩, hx⟩ : ∃ x, x = vs.getD i Vn.zero := ⟨_, rfl⟩
      rw [← hx] at c0 c1 c2 hlo hhi
      simp only at c0 c1 c2 hlo hhi
      clear hat hx c1 c2
      by_cases hid : i < d
      · have h1 : n ≤ k := hlo hid
        have HZ2 : Hid ((i : Int) = ((min (i + 1) d : Nat) : Int) - 1) := by show _ = _; omega
        clear hlo hhi HZ
        go_wp2
        refine ⟨⟨i + 1, (i : Int), rfl, by simp, by omega, by omega, by omega, HZ2⟩, ?_⟩
        simp [RowKit.intOf]
        omega
      · have h1 : ¬ n ≤ k := by have := hhi (by omega) hi'; omega
        have HZ2 : Hid (z = ((min (i + 1) d : Nat) : Int) - 1) := by show _ = _; rw [HZ.out]; omega
        clear hlo hhi HZ
        go_wp2
        refine ⟨⟨i + 1, z, rfl, by simp, by omega, hz0, hz1, HZ2⟩, ?_⟩
        simp [RowKit.intOf]
        omega
    · have hz : z = (d : Int) - 1 := by rw [HZ.out]; omega
      subst hz
      clear HZ
      go_wp2
      go_ret
      exact ⟨rfl, Fr.refl _ _⟩
set_option maxHeartbeats 4000000 in
set_option maxRecDepth 100000 in
theorem ucollect_any (ao : Option Addr) (L cap : Nat) (k : Int) (vs : List Vn) (w : World) (hV : VRs w ao vs) (hL : L = vs.length) (hcap : L ≤ cap) :
    Calls Tryz.prog 75 #[.slice ao L cap, .int .i64 k] w fun e w' => ∃ ro N rc us n c, e = .returned (.tuple #[.slice ro N rc, .int .i64 ((n : Nat) : Int), .int .i64 ((c : Nat) : Int)]) ∧ CoTold vs k us n c ∧ N = us.length ∧ VRs w' ro us ∧ Fr [] w w' ∧ Nr9 w w' ao ro N rc := by
  by_cases hok : okV vs
  · have hck := CkT.of hok
    have HV : Hid (∀ W, Fr [] w W → VRs W ao vs) := fun W hf => hV.keep hf
    have HL : Hid (L = vs.length) := hL
    have HO : Hid (okV vs) := hok
    have hL2 : L ≤ 65536 := by have := okV_few hok; omega
    have HC : Hid (Calls _ _ _ _ _) := ucheck_any ao L cap 0 vs w hV hL hck
    obtain ⟨d, hd⟩ := UpTo.ex hok.2 k
    have HD : Hid (UpTo vs k d) := hd
    have hdL : d ≤ L := by have := hd.le; omega
    clear hV hL hok hck hd
    go_enter Tryz.func75, Tryz.ntmps75
    go_wp2_with fail
    refine Calls.mono HC.out ?_
    rintro e w1 ⟨rfl, hF1⟩
    have HU : Hid (Calls _ _ _ _ _) := unewest_any ao L cap d k vs w1 (HV.out _ hF1) HL.out HD.out
    clear HC
    go_wp2_with fail
    refine Calls.mono HU.out ?_
    rintro e w2 ⟨rfl, hF2⟩
    have hG2 := hF1.then hF2
    clear HU
    by_cases h0 : d = 0
    · subst h0
      go_wp2
      refine bodyPost_ret (results_tmp3 rfl _ _ _) rfl ?_
      exact ⟨ao, L, cap, vs, 0, 0, rfl, Or.inr ⟨rfl, HO.out, 0, HD.out, rfl, rfl⟩, HL.out, HV.out _ hG2, hG2, Nr9.same hcap⟩
    · obtain ⟨d', rfl⟩ : ∃ d', d = d' + 1 := ⟨d - 1, by omega⟩
      have hmx2 : (((d' + 1 : Nat) : Int) - 1) = (d' : Int) := by omega
      have s1 : ∀ W, (Instr.sliceAt 68 (.slice ao L cap) (some (.int .i64 (d' : Int))) none none).run Tryz.prog W = .ok (.slice (fromV ao cap d') (L - d') (cap - d')) W := slV_l ao L cap d' (by omega)
      have hn0 : ¬ ((d' : Int) < 0) := by omega
      have HR : Hid (VRs w2 (fromV ao cap d') (vs.drop d')) := by
        have h1 := (HV.out _ hG2).from cap d' L (by omega) (by rw [← HL.out]; exact Nat.le_refl _) (by rw [← HL.out]; exact hcap)
        have hdr : (vs.drop d').take (L - d') = vs.drop d' := by rw [HL.out, List.take_of_length_le (by simp)]
        rw [hdr] at h1
        exact h1
      rw [hmx2]
      go_wp2
      refine bodyPost_ret (results_tmp3 rfl _ _ _) rfl ?_
      exact ⟨fromV ao cap d', L - d', cap - d', vs.drop d', d', 0, rfl, Or.inr ⟨rfl, HO.out, d' + 1, HD.out, rfl, rfl⟩, by rw [List.length_drop, HL.out], HR.out, hG2, Nr9.cut hcap⟩
  · have hck : CkT vs 1 := Or.inr ⟨rfl, hok⟩
    have HO : Hid (¬ okV vs) := hok
    have HC : Hid (Calls _ _ _ _ _) := ucheck_any ao L cap 1 vs w hV hL hck
    clear hV hL hok hck
    go_enter Tryz.func75, Tryz.ntmps75
    go_wp2_with fail
    refine Calls.mono HC.out ?_
    rintro e w1 ⟨rfl, hF1⟩
    clear HC
    go_wp2
    refine bodyPost_ret (results_tmp3 rfl _ _ _) rfl ?_
    exact ⟨none, 0, 0, [], 0, 1, rfl, Or.inl ⟨rfl, HO.out, rfl, rfl⟩, rfl, VRs.nil _ _, hF1, Nr9.none _ _ _⟩
end Go.Proofs.YtomajifklajilaaGreat
/- What the document's At of versions answers. Conditions as each names them. -/
namespace Go.Proofs.YtomajifklajilaaGreat
open BigFrame Go.ChangeShapes Go.WideShapes Go.ChangeAt Go.RowKit Go.Lib
set_option linter.unusedVariables false
set_option linter.unusedSimpArgs false

set_option maxHeartbeats 4000000 in
set_option maxRecDepth 100000 in
theorem uat_any (ao : Option Addr) (L cap : Nat) (k : Int) (vs : List Vn) (w : World) (hV : VRs w ao vs) (hL : L = vs.length) :
    Calls Tryz.prog 103 #[.slice ao L cap, .int .i64 k] w fun e w' => ∃ x ok c, e = .returned (.tuple #[.agg #[.int .i64 x.num, .string x.val, .bool x.drop], .bool ok, .int .i64 ((c : Nat) : Int)]) ∧ AtTold vs k x ok c ∧ Fr [] w w' := by
  obtain ⟨w0, HW0⟩ : ∃ w0, Hid (w.alloc (.cells #[.int .i64 0, .string ⟨#[]⟩, .bool false] 110) = w0) := ⟨_, rfl⟩
  have hF0 : Fr [] w w0 := by rw [← HW0.out]; exact Fr.alloc [] w _
  have hb0 : w0.heap[w.heap.size]? = some (.cells #[.int .i64 0, .string ⟨#[]⟩, .bool false] 110 (0, 0)) := by rw [← HW0.out]; exact heap_alloc_new w _
  have hs0 : w.heap.size < w0.heap.size := lt_of_block hb0
  have HL : Hid (L = vs.length) := hL
  have HV : Hid (∀ W, Fr [] w W → VRs W ao vs) := fun W hf => hV.keep hf
  have hLL : L ≤ 4398046511104 := by have := hV.few; omega
  obtain ⟨c, hck⟩ := CkT.ex vs
  have HC : Hid (Calls _ _ _ _ _) := ucheck_any ao L cap c vs w0 (hV.keep hF0) hL hck
  have HB : Hid (∀ W, Fr [] w0 W → W.heap[w.heap.size]? = some (.cells #[.int .i64 0, .string ⟨#[]⟩, .bool false] 110 (0, 0))) := fun W hf => hf.keep hb0 (by simp)
  -- what lies in the box behind a store of a version
  have HS : Hid (∀ W, Fr [] w0 W → ∀ (a : Int) (b : ByteArray) (d : Bool) (W3 : World), ((W.setCell ⟨w.heap.size, 0, none⟩ (.int .i64 a)).setCell ⟨w.heap.size, 1, none⟩ (.string b)).setCell ⟨w.heap.size, 2, none⟩ (.bool d) = W3 →
      W3.cell? ⟨w.heap.size, 0, none⟩ = some (.int .i64 a) ∧ W3.cell? ⟨w.heap.size, 1, none⟩ = some (.string b) ∧ W3.cell? ⟨w.heap.size, 2, none⟩ = some (.bool d) ∧ Fr [] w W3) := by
    intro W hW a b d W3 e
    have hr := vrow3 (hW.keep hb0 (by simp)) (.int .i64 a) (.string b) (.bool d)
    rw [e] at hr
    have hFs : Fr [w.heap.size] W W3 := by rw [← e]; exact ((Fr.set _ _ _ (by simp)).then (Fr.set _ _ _ (by simp))).then (Fr.set _ _ _ (by simp))
    refine ⟨?_, ?_, ?_, (hF0.then hW).on hFs (by simp)⟩
    · rw [cell_of_row _ _ _ _ _ _ hr]; rfl
    · rw [cell_of_row _ _ _ _ _ _ hr]; rfl
    · rw [cell_of_row _ _ _ _ _ _ hr]; rfl
  clear hL hV
  rcases hck with ⟨rfl, hok⟩ | ⟨rfl, hok⟩
  · have HO : Hid (okV vs) := hok
    clear hok
    go_enter Tryz.func103, Tryz.ntmps103
    go_upto_region 1 with fail
    rw [HW0.out]
    clear hb0
    go_wp2_with fail
    refine Calls.mono HC.out ?_
    rintro e w1 ⟨rfl, hF1⟩
    obtain ⟨d, hd⟩ := UpTo.ex HO.out.2 k
    have HD : Hid (UpTo vs k d) := hd
    have hdL : d ≤ L := by have := hd.le; have := HL.out; omega
    have HU : Hid (Calls _ _ _ _ _) := unewest_any ao L cap d k vs w1 (HV.out _ (hF0.then hF1)) HL.out hd
    clear hd
    clear HC
    go_wp2_with fail
    refine Calls.mono HU.out ?_
    rintro e w2 ⟨rfl, hF2⟩
    have hG2 := hF1.then hF2
    have hb2 := HB.out _ hG2
    have z0 : w2.cell? ⟨w.heap.size, 0, none⟩ = some (.int .i64 0) := by rw [cell_of_row _ _ _ _ _ _ hb2]; rfl
    have z1 : w2.cell? ⟨w.heap.size, 1, none⟩ = some (.string ⟨#[]⟩) := by rw [cell_of_row _ _ _ _ _ _ hb2]; rfl
    have z2 : w2.cell? ⟨w.heap.size, 2, none⟩ = some (.bool false) := by rw [cell_of_row _ _ _ _ _ _ hb2]; rfl
    have y0 := vfrozen hb2 0
    have y1 := vfrozen hb2 1
    have y2 := vfrozen hb2 2
    clear HU hb2
    by_cases h0 : d = 0
    · subst h0
      go_wp2
      have hS := HS.out _ hG2 0 ⟨#[]⟩ false
      obtain ⟨W3, HW3⟩ : ∃ W3, Hid (((w2.setCell ⟨w.heap.size, 0, none⟩ (.int .i64 0)).setCell ⟨w.heap.size, 1, none⟩ (.string ⟨#[]⟩)).setCell ⟨w.heap.size, 2, none⟩ (.bool false) = W3) := ⟨_, rfl⟩
      obtain ⟨q0, q1, q2, hfin⟩ := hS _ HW3.out
      rw [HW3.out]
      clear hS HS HB
      refine bodyPost_ret (v := .tuple #[.agg #[.int .i64 0, .string ⟨#[]⟩, .bool false], .bool false, .int .i64 ((0 : Nat) : Int)]) ?_ rfl ⟨Vn.zero, false, 0, rfl, Or.inr ⟨rfl, HO.out, 0, HD.out, rfl, rfl⟩, hfin⟩
      rw [results_ctt rfl]
      go_simp
    · obtain ⟨d', rfl⟩ : ∃ d', d = d' + 1 := ⟨d - 1, by omega⟩
      have hd' : (((d' + 1 : Nat) : Int) - 1) = (d' : Int) := by omega
      have hV2 := HV.out _ (hF0.then hG2)
      obtain ⟨b, off, rfl, hbl, hat⟩ := hV2.lies (by have := HL.out; omega)
      obtain ⟨c0, c1, c2⟩ := hat d' (by have := HL.out; omega)
      obtain ⟨x, hx⟩ : ∃ x, x = vs.getD d' Vn.zero := ⟨_, rfl⟩
      have HX : Hid (x = atV vs (d' + 1)) := by show _ = _; unfold atV; rw [if_neg (by omega), hx]; rfl
      rw [← hx] at c0 c1 c2
      obtain ⟨n, val, drop⟩ := x
      simp only at c0 c1 c2
      have hdL' : d' < L := by omega
      have hn0 : ¬ ((d' : Int) < 0) := by omega
      clear hx hat hV2
      rw [hd']
      go_wp2
      have hS := HS.out _ hG2 n val drop
      obtain ⟨W3, HW3⟩ : ∃ W3, Hid (((w2.setCell ⟨w.heap.size, 0, none⟩ (.int .i64 n)).setCell ⟨w.heap.size, 1, none⟩ (.string val)).setCell ⟨w.heap.size, 2, none⟩ (.bool drop) = W3) := ⟨_, rfl⟩
      obtain ⟨q0, q1, q2, hfin⟩ := hS _ HW3.out
      rw [HW3.out]
      clear hS HS HB
      refine bodyPost_ret (v := .tuple #[.agg #[.int .i64 n, .string val, .bool drop], .bool true, .int .i64 ((0 : Nat) : Int)]) ?_ rfl ⟨⟨n, val, drop⟩, true, 0, rfl, Or.inr ⟨rfl, HO.out, d' + 1, HD.out, HX.out, by simp⟩, hfin⟩
      rw [results_ctt rfl]
      go_simp
  · have HO : Hid (¬ okV vs) := hok
    clear hok
    go_enter Tryz.func103, Tryz.ntmps103
    go_upto_region 1 with fail
    rw [HW0.out]
    clear hb0
    go_wp2_with fail
    refine Calls.mono HC.out ?_
    rintro e w1 ⟨rfl, hF1⟩
    have hb2 := HB.out _ hF1
    have z0 : w1.cell? ⟨w.heap.size, 0, none⟩ = some (.int .i64 0) := by rw [cell_of_row _ _ _ _ _ _ hb2]; rfl
    have z1 : w1.cell? ⟨w.heap.size, 1, none⟩ = some (.string ⟨#[]⟩) := by rw [cell_of_row _ _ _ _ _ _ hb2]; rfl
    have z2 : w1.cell? ⟨w.heap.size, 2, none⟩ = some (.bool false) := by rw [cell_of_row _ _ _ _ _ _ hb2]; rfl
    have y0 := vfrozen hb2 0
    have y1 := vfrozen hb2 1
    have y2 := vfrozen hb2 2
    clear HC hb2
    go_wp2
    have hS := HS.out _ hF1 0 ⟨#[]⟩ false
    obtain ⟨W3, HW3⟩ : ∃ W3, Hid (((w1.setCell ⟨w.heap.size, 0, none⟩ (.int .i64 0)).setCell ⟨w.heap.size, 1, none⟩ (.string ⟨#[]⟩)).setCell ⟨w.heap.size, 2, none⟩ (.bool false) = W3) := ⟨_, rfl⟩
    obtain ⟨q0, q1, q2, hfin⟩ := hS _ HW3.out
    rw [HW3.out]
    clear hS HS HB
    refine bodyPost_ret (v := .tuple #[.agg #[.int .i64 0, .string ⟨#[]⟩, .bool false], .bool false, .int .i64 ((1 : Nat) : Int)]) ?_ rfl ⟨Vn.zero, false, 1, rfl, Or.inl ⟨rfl, HO.out, rfl, rfl⟩, hfin⟩
    rw [results_ctt rfl]
    go_simp
end Go.Proofs.YtomajifklajilaaGreat
