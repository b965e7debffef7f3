/- Next: contracts; requests as plain things (Rq), SameReq of two that are the same. Conditions as each names them. -/
import Derived.Test.YtakbodlicfmkjaaGreatLn14
import Derived.Test.YtakbodlicfmkjaaGreatEq
namespace Go.Proofs.YtakbodlicfmkjaaGreat
open Go.ChangeShapes Go.WideShapes Go.ChangeAt Go.RowKit Go.Lib Go.Maps
set_option linter.unusedVariables false
set_option linter.unusedSimpArgs false

/-- A request of a lane: its kind, the lane, the transaction, the write. -/
structure Rq where
  k : Int
  f : Int
  n : Int
  x : Wt
def Rq.v (r : Rq) : Value := .agg #[.int .u8 r.k, .int .i64 r.f, .int .i64 r.n, .string r.x.key, .string r.x.val, .bool r.x.drop, .string ⟨#[]⟩, .string ⟨#[]⟩, .slice none 0 0]
def Rq.zero : Rq := ⟨0, 0, 0, Wt.zero⟩
/-- What Next tells. -/
def nextS (c : Cf) : Option Hl → Int
  | some ⟨_, y :: _, _⟩ => (c.shard y.key).1
  | _ => 0
def nextR (nm : Int) : Option Hl → Rq
  | some ⟨n, y :: _, _⟩ => ⟨1, nm, n, y⟩
  | _ => Rq.zero
def nextB : Option Hl → Bool
  | some ⟨_, _ :: _, _⟩ => true
  | _ => false
theorem results_tct {fn : Func} {t p u : Tmp} {ty : TypeId} (h : fn.results = #[.tmp t, .cell p ty, .tmp u]) (tmps : Array Value) (P : Program) (w : World) :
    (results fn tmps).run P w =
      ((asAddr (tmps.getD p undef)).run P w).andThen fun a w₁ => ((loadVar ty a).run P w₁).andThen fun v w₂ => .ok (.tuple #[tmps.getD t undef, v, tmps.getD u undef]) w₂ := by
  simp only [results, h]
  simp [Sem.run_bind, Result.andThen]
theorem results_tct_row {fn : Func} {t p u : Tmp} {ty : TypeId} (h : fn.results = #[.tmp t, .cell p ty, .tmp u]) (tmps : Array Value) (P : Program) (w : World) (g : Nat) (v : Value) (hp : tmps.getD p undef = .pointer (some ⟨g, 0, none⟩)) (hld : (loadVar ty ⟨g, 0, none⟩).run P w = .ok v w) :
    (results fn tmps).run P w = .ok (.tuple #[tmps.getD t undef, v, tmps.getD u undef]) w := by
  rw [results_tct h, hp]
  simp [asAddr, hld]
/-- Nine cells of a block, one behind the other. -/
def sets9 (W : World) (b : Nat) (v0 v1 v2 v3 v4 v5 v6 v7 v8 : Value) : World := (((((((((W.setCell ⟨b, 0, none⟩ v0).setCell ⟨b, 1, none⟩ v1).setCell ⟨b, 2, none⟩ v2).setCell ⟨b, 3, none⟩ v3).setCell ⟨b, 4, none⟩ v4).setCell ⟨b, 5, none⟩ v5).setCell ⟨b, 6, none⟩ v6).setCell ⟨b, 7, none⟩ v7).setCell ⟨b, 8, none⟩ v8)
theorem Fr.set1 {W V : World} {b : Nat} (h : Fr [b] W V) (j : Nat) (v : Value) : Fr [b] W (V.setCell ⟨b, j, none⟩ v) := h.then (Fr.set _ _ _ (by simp))
theorem sets9_fr (W : World) (b : Nat) (v0 v1 v2 v3 v4 v5 v6 v7 v8 : Value) : Fr [b] W (sets9 W b v0 v1 v2 v3 v4 v5 v6 v7 v8) := (Fr.set1 (Fr.set1 (Fr.set1 (Fr.set1 (Fr.set1 (Fr.set1 (Fr.set1 (Fr.set1 (Fr.set1 (Fr.refl [b] W) 0 v0) 1 v1) 2 v2) 3 v3) 4 v4) 5 v5) 6 v6) 7 v7) 8 v8)
theorem sets9_row {W : World} {b : Nat} {t : TypeId} {u0 u1 u2 u3 u4 u5 u6 u7 u8 : Value} (v0 v1 v2 v3 v4 v5 v6 v7 v8 : Value) (h : W.heap[b]? = some (.cells #[u0, u1, u2, u3, u4, u5, u6, u7, u8] t (0, 0))) : (sets9 W b v0 v1 v2 v3 v4 v5 v6 v7 v8).heap[b]? = some (.cells #[v0, v1, v2, v3, v4, v5, v6, v7, v8] t (0, 0)) := by
  unfold sets9
  have h0 : (W.setCell ⟨b, 0, none⟩ v0).heap[b]? = some (.cells #[v0, u1, u2, u3, u4, u5, u6, u7, u8] t (0, 0)) := by rw [vrow_setCell v0 h]; rfl
  have h1 : ((W.setCell ⟨b, 0, none⟩ v0).setCell ⟨b, 1, none⟩ v1).heap[b]? = some (.cells #[v0, v1, u2, u3, u4, u5, u6, u7, u8] t (0, 0)) := by rw [vrow_setCell v1 h0]; rfl
  have h2 : (((W.setCell ⟨b, 0, none⟩ v0).setCell ⟨b, 1, none⟩ v1).setCell ⟨b, 2, none⟩ v2).heap[b]? = some (.cells #[v0, v1, v2, u3, u4, u5, u6, u7, u8] t (0, 0)) := by rw [vrow_setCell v2 h1]; rfl
  have h3 : ((((W.setCell ⟨b, 0, none⟩ v0).setCell ⟨b, 1, none⟩ v1).setCell ⟨b, 2, none⟩ v2).setCell ⟨b, 3, none⟩ v3).heap[b]? = some (.cells #[v0, v1, v2, v3, u4, u5, u6, u7, u8] t (0, 0)) := by rw [vrow_setCell v3 h2]; rfl
  have h4 : (((((W.setCell ⟨b, 0, none⟩ v0).setCell ⟨b, 1, none⟩ v1).setCell ⟨b, 2, none⟩ v2).setCell ⟨b, 3, none⟩ v3).setCell ⟨b, 4, none⟩ v4).heap[b]? = some (.cells #[v0, v1, v2, v3, v4, u5, u6, u7, u8] t (0, 0)) := by rw [vrow_setCell v4 h3]; rfl
  have h5 : ((((((W.setCell ⟨b, 0, none⟩ v0).setCell ⟨b, 1, none⟩ v1).setCell ⟨b, 2, none⟩ v2).setCell ⟨b, 3, none⟩ v3).setCell ⟨b, 4, none⟩ v4).setCell ⟨b, 5, none⟩ v5).heap[b]? = some (.cells #[v0, v1, v2, v3, v4, v5, u6, u7, u8] t (0, 0)) := by rw [vrow_setCell v5 h4]; rfl
  have h6 : (((((((W.setCell ⟨b, 0, none⟩ v0).setCell ⟨b, 1, none⟩ v1).setCell ⟨b, 2, none⟩ v2).setCell ⟨b, 3, none⟩ v3).setCell ⟨b, 4, none⟩ v4).setCell ⟨b, 5, none⟩ v5).setCell ⟨b, 6, none⟩ v6).heap[b]? = some (.cells #[v0, v1, v2, v3, v4, v5, v6, u7, u8] t (0, 0)) := by rw [vrow_setCell v6 h5]; rfl
  have h7 : ((((((((W.setCell ⟨b, 0, none⟩ v0).setCell ⟨b, 1, none⟩ v1).setCell ⟨b, 2, none⟩ v2).setCell ⟨b, 3, none⟩ v3).setCell ⟨b, 4, none⟩ v4).setCell ⟨b, 5, none⟩ v5).setCell ⟨b, 6, none⟩ v6).setCell ⟨b, 7, none⟩ v7).heap[b]? = some (.cells #[v0, v1, v2, v3, v4, v5, v6, v7, u8] t (0, 0)) := by rw [vrow_setCell v7 h6]; rfl
  have h8 : (((((((((W.setCell ⟨b, 0, none⟩ v0).setCell ⟨b, 1, none⟩ v1).setCell ⟨b, 2, none⟩ v2).setCell ⟨b, 3, none⟩ v3).setCell ⟨b, 4, none⟩ v4).setCell ⟨b, 5, none⟩ v5).setCell ⟨b, 6, none⟩ v6).setCell ⟨b, 7, none⟩ v7).setCell ⟨b, 8, none⟩ v8).heap[b]? = some (.cells #[v0, v1, v2, v3, v4, v5, v6, v7, v8] t (0, 0)) := by rw [vrow_setCell v8 h7]; rfl
  exact h8
theorem drew_heap (w : World) (b : Nat) : w.drew.heap[b]? = w.heap[b]? := rfl
theorem fr_drew {S : List Nat} {w w' : World} (h : Fr S w w') : Fr S w w'.drew := h.then (Fr.drew _ _)
theorem rq_one (k f n : Int) (a b c d : ByteArray) (e : Bool) : (#[Value.int .u8 k, .int .i64 f, .int .i64 n, .string a, .string b, .bool e, .string c, .string d, .slice none 0 0] : Array Value).all (·.oneCell') = true := by simp [Value.oneCell']
theorem step_storeRow {w : World} {ops : Array Oper} {o : Oper} {a : Act} {K : Act → World → Prop} {Q : Exit → Act → World → Prop} {E : Prop} (hgd : o.guard = none) (ty : TypeId) (x y : Operand) (ho : o.op = .store ty x y)
    (g : Nat) (cells : Array Value) (hx : a.eval x = .pointer (some ⟨g, 0, none⟩)) (hy : a.eval y = .agg cells)
    (t : TypeId) (old : Array Value) (hg : w.heap[g]? = some (.cells old t (0, 0))) (hi : (Tryz.prog.info? ty).map (·.size) = some cells.size)
    (hold : old.size = cells.size) (h1 : cells.all (·.oneCell') = true)
    (h : K (a.put o.dst undef) (w.setRow g cells)) : if Region.wanted o (yielded ops a.tmps) = true then Oper.wp Tryz.prog o a w K Q else E := by
  have hw : Region.wanted o (yielded ops a.tmps) = true := by simp [Region.wanted, hgd]
  rw [if_pos hw]
  exact wp_store_row ty x y ho g cells hx hy t old hg hi hold h1 h
theorem enter_uwholds (ub : Nat) (w : World) : (callFunc 431 #[.pointer (some ⟨ub, 0, none⟩)]).run Tryz.prog w = .ok (.enter 431 #[.pointer (some ⟨ub, 0, none⟩)]) w := by kernel_rfl
set_option maxRecDepth 100000 in
theorem step_invoke {w : World} {ops : Array Oper} {o : Oper} {a : Act} {K : Act → World → Prop} {Q : Exit → Act → World → Prop} {E : Prop} (hgd : o.guard = none) (recv : Operand) (name : String) (ho : o.op = .call { callee := .invoke recv name, args := #[], argTypes := #[] })
    (t : TypeId) (v : Value) (hr : a.eval recv = .iface t v) (f : FuncId) (r : Value) (hm : (method 609 t v name).run Tryz.prog w = .ok (f, r) w) (hf : (callFunc f #[r]).run Tryz.prog w = .ok (.enter f #[r]) w)
    (val : Value) (hC : Calls Tryz.prog f #[r] w fun e w' => e = .returned val ∧ w = w')
    (h : K (a.put o.dst val) w) : if Region.wanted o (yielded ops a.tmps) = true then Oper.wp Tryz.prog o a w K Q else E := by
  have hw : Region.wanted o (yielded ops a.tmps) = true := by simp [Region.wanted, hgd]
  rw [if_pos hw]
  have hm' : (method (Tryz.prog.types.size + Made.depth) t v name).run Tryz.prog w = .ok (f, r) w := hm
  have hm2 : (method (509 + Made.depth) t v name).run Tryz.prog w = .ok (f, r) w := hm
  have e : (execOp a.eval o).run Tryz.prog w = .ok (.enter f #[r]) w := by
    simp [execOp, ho, resolve, invoke, callMethod, hr, hm', hm2, hf]
  unfold Oper.wp
  rw [e, Oper.upon_enter]
  refine hC.mono ?_
  rintro e w' ⟨rfl, rfl⟩
  exact h
section
variable {w : World} {lb : Nat} {nm l s x q : Int} {v : Value} {st : Option Hl} {S : List Nat}
theorem lnext_no (p : Option Addr) (h : NoL w p) : Calls Tryz.prog 271 #[.pointer p] w fun e w' => e = .returned (.tuple #[.int .i64 0, Rq.zero.v, .bool false]) ∧ Fr [] w w' := by
  have HT : Hid (Calls _ _ _ _ _) := ldoing_no p (h.keep (Fr.alloc [] w (.cells #[.int .u8 0, .int .i64 0, .int .i64 0, .string ⟨#[]⟩, .string ⟨#[]⟩, .bool false, .string ⟨#[]⟩, .string ⟨#[]⟩, .slice none 0 0] 278)) (by simp))
  clear h
  go_enter Tryz.func271, Tryz.ntmps271
  go_wp2_with fail
  refine Calls.mono HT.out ?_
  rintro e w1 ⟨rfl, rfl⟩
  go_wp2_with fail
  refine bodyPost_ret (v := .tuple #[.int .i64 0, Rq.zero.v, .bool false]) (by rw [results_tct rfl]; go_simp; rfl) rfl ⟨rfl, ?_⟩
  exact Fr.alloc _ _ _
theorem lnext_none (h : LnB w lb nm l s x q noV) : Calls Tryz.prog 271 #[.pointer (some ⟨lb, 0, none⟩)] w fun e w' => e = .returned (.tuple #[.int .i64 0, Rq.zero.v, .bool false]) ∧ Fr [] w w' := by
  have HT : Hid (Calls _ _ _ _ _) := ldoing_none (h.keep (Fr.alloc [] w (.cells #[.int .u8 0, .int .i64 0, .int .i64 0, .string ⟨#[]⟩, .string ⟨#[]⟩, .bool false, .string ⟨#[]⟩, .string ⟨#[]⟩, .slice none 0 0] 278)) (by simp))
  clear h
  go_enter Tryz.func271, Tryz.ntmps271
  go_wp2_with fail
  refine Calls.mono HT.out ?_
  rintro e w1 ⟨rfl, rfl⟩
  go_wp2_with fail
  refine bodyPost_ret (v := .tuple #[.int .i64 0, Rq.zero.v, .bool false]) (by rw [results_tct rfl]; go_simp; rfl) rfl ⟨rfl, ?_⟩
  exact Fr.alloc _ _ _
set_option maxHeartbeats 2000000 in
set_option maxRecDepth 100000 in
theorem lnext_nil {hl : Hl} (h : LnM w lb nm l s x q (some hl) S) (h0 : hl.l = []) : Calls Tryz.prog 271 #[.pointer (some ⟨lb, 0, none⟩)] w fun e w' => e = .returned (.tuple #[.int .i64 0, Rq.zero.v, .bool false]) ∧ Fr [] w w' := by
  have hF0 := Fr.alloc [] w (.cells #[.int .u8 0, .int .i64 0, .int .i64 0, .string ⟨#[]⟩, .string ⟨#[]⟩, .bool false, .string ⟨#[]⟩, .string ⟨#[]⟩, .slice none 0 0] 278)
  have hrow0 := heap_alloc_new w (.cells #[.int .u8 0, .int .i64 0, .int .i64 0, .string ⟨#[]⟩, .string ⟨#[]⟩, .bool false, .string ⟨#[]⟩, .string ⟨#[]⟩, .slice none 0 0] 278)
  have h1 := h.kept _ hF0
  obtain ⟨ub, ao, N, cp, hb, hu, _⟩ := h1
  rw [h0] at hu
  have HT : Hid (Calls _ _ _ _ _) := ldoing_some hb
  have HN : Hid (Calls Tryz.prog 432 #[.pointer (some ⟨ub, 0, none⟩)] (w.alloc (.cells #[.int .u8 0, .int .i64 0, .int .i64 0, .string ⟨#[]⟩, .string ⟨#[]⟩, .bool false, .string ⟨#[]⟩, .string ⟨#[]⟩, .slice none 0 0] 278)) fun e w' => e = .returned (.tuple #[.agg #[.string ⟨#[]⟩, .string ⟨#[]⟩, .bool false], .bool false]) ∧ Fr [] (w.alloc (.cells #[.int .u8 0, .int .i64 0, .int .i64 0, .string ⟨#[]⟩, .string ⟨#[]⟩, .bool false, .string ⟨#[]⟩, .string ⟨#[]⟩, .slice none 0 0] 278)) w') := uwnext_any hu
  have m1 := m_uwnext ub
  clear h hb hu h0
  go_enter Tryz.func271, Tryz.ntmps271
  go_wp2_with fail
  refine Calls.mono HT.out ?_
  rintro e w1 ⟨rfl, rfl⟩
  go_wp2_with fail
  refine Calls.mono HN.out ?_
  rintro e w2 ⟨rfl, hF2⟩
  have hrow2 := hF2.keep hrow0 (by simp)
  have HF2 : Hid (Fr [] w w2) := hF0.then hF2
  have hlt2 := lt_of_block hrow2
  have hrow3 := (Fr.alloc [] w2 (.cells #[.string ⟨#[]⟩, .string ⟨#[]⟩, .bool false] 56)).keep hrow2 (by simp)
  have hself := setRow_self _ _ _ _ _ hrow3
  have hld := run_loadVar_row (P := Tryz.prog) _ w.heap.size _ 278 _ _ (.struct (Tryz.prog.fieldsOf 278)) hrow3 (by kernel_rfl) rfl (by kernel_rfl)
  have HF3 : Hid (Fr [] w (w2.alloc (.cells #[.string ⟨#[]⟩, .string ⟨#[]⟩, .bool false] 56))) := HF2.out.then (Fr.alloc _ _ _)
  clear hF0 hrow0 hF2 hrow2
  go_upto_region 6 with fail
  go_wp2_with (first
    | (refine wpList_store_row rfl 278 _ _ rfl w.heap.size #[.int .u8 0, .int .i64 0, .int .i64 0, .string ⟨#[]⟩, .string ⟨#[]⟩, .bool false, .string ⟨#[]⟩, .string ⟨#[]⟩, .slice none 0 0] rfl rfl _ _ hrow3 (by kernel_rfl) rfl (rq_one _ _ _ _ _ _ _ _) ?_; rw [hself]; go_frame)
    | fail)
  refine bodyPost_ret (results_tct_row rfl _ _ _ _ _ rfl hld) rfl ?_
  exact ⟨rfl, HF3.out⟩
set_option maxHeartbeats 4000000 in
set_option maxRecDepth 100000 in
theorem lnext_some {n : Int} {y : Wt} {r : List Wt} {o : Nat} (h : LnM w lb nm l s x q (some ⟨n, y :: r, o⟩) S) : Calls Tryz.prog 271 #[.pointer (some ⟨lb, 0, none⟩)] w fun e w' => e = .returned (.tuple #[.int .i64 (Cf.shard ⟨l, s, x, q⟩ y.key).1, (Rq.mk 1 nm n y).v, .bool true]) ∧ Fr [] w w' := by
  have hF0 := Fr.alloc [] w (.cells #[.int .u8 0, .int .i64 0, .int .i64 0, .string ⟨#[]⟩, .string ⟨#[]⟩, .bool false, .string ⟨#[]⟩, .string ⟨#[]⟩, .slice none 0 0] 278)
  have hrow0 := heap_alloc_new w (.cells #[.int .u8 0, .int .i64 0, .int .i64 0, .string ⟨#[]⟩, .string ⟨#[]⟩, .bool false, .string ⟨#[]⟩, .string ⟨#[]⟩, .slice none 0 0] 278)
  have h1 := h.kept _ hF0
  have HM : Hid (∀ W, Fr [] w W → LnM W lb nm l s x q (some ⟨n, y :: r, o⟩) S) := h.kept
  obtain ⟨ub, ao, N, cp, hb, hu, _⟩ := h1
  have hks : y.key.size ≤ 9223372036854775807 := by have := (hu.rs.each y (by simp)).1; omega
  have HT : Hid (Calls _ _ _ _ _) := ldoing_some hb
  have HN : Hid (Calls _ _ _ _ _) := uwnext_any hu
  have m1 := m_uwnext ub
  have m2 := m_uwholds ub
  have HB : Hid (∀ W, Fr [] (w.alloc (.cells #[.int .u8 0, .int .i64 0, .int .i64 0, .string ⟨#[]⟩, .string ⟨#[]⟩, .bool false, .string ⟨#[]⟩, .string ⟨#[]⟩, .slice none 0 0] 278)) W → LnB W lb nm l s x q (uwV ub) ∧ (Calls Tryz.prog 431 #[.pointer (some ⟨ub, 0, none⟩)] W fun e w' => e = .returned (.int .i64 n) ∧ W = w')) := fun W hf => ⟨hb.keep hf (by simp), uwholds_any (hu.keep hf (by simp) (by simp))⟩
  have HS : ∀ W, Calls _ _ _ _ _ := fun W => shard_any l s x q y.key W hks
  obtain ⟨key, val, drop⟩ := y
  obtain ⟨sh, HSh⟩ : ∃ sh, Hid (Cf.shard ⟨l, s, x, q⟩ key = sh) := ⟨_, rfl⟩
  obtain ⟨s1, s2⟩ := sh
  simp only [HSh.out] at HS ⊢
  simp only [nxW, nxB, List.headD_cons, List.isEmpty_cons, Bool.not_false] at HN
  clear h hb hu HSh
  go_enter Tryz.func271, Tryz.ntmps271
  go_wp2_with fail
  refine Calls.mono HT.out ?_
  rintro e w1 ⟨rfl, rfl⟩
  go_wp2_with fail
  refine Calls.mono HN.out ?_
  rintro e w2 ⟨rfl, hF2⟩
  have fA : Fr [] w2 (w2.alloc (.cells #[.string key, .string val, .bool drop] 56)) := Fr.alloc _ _ _
  have hF3 := hF2.then fA
  have hrowW := heap_alloc_new w2 (.cells #[.string key, .string val, .bool drop] 56)
  obtain ⟨w3, HW3⟩ : ∃ w3, Hid (w2.alloc (.cells #[.string key, .string val, .bool drop] 56) = w3) := ⟨_, rfl⟩
  obtain ⟨B, HBb⟩ : ∃ B, Hid (w2.heap.size = B) := ⟨_, rfl⟩
  rw [HW3.out] at hF3 hrowW
  rw [HBb.out] at hrowW
  have hrow3 := hF3.keep hrow0 (by simp)
  obtain ⟨RB, HRb⟩ : ∃ RB, Hid (w.heap.size = RB) := ⟨_, rfl⟩
  rw [HRb.out] at hrow3
  have HG3 : Hid (Fr [] w w3) := hF0.then hF3
  have HB3 : Hid (∀ W, Fr [] w3 W → LnB W lb nm l s x q (uwV ub) ∧ (Calls Tryz.prog 431 #[.pointer (some ⟨ub, 0, none⟩)] W fun e w' => e = .returned (.int .i64 n) ∧ W = w')) := fun W hf => HB.out W (hF3.then hf)
  have HRow : Hid (∀ W, Fr [] w3 W → W.heap[RB]? = some (.cells #[.int .u8 0, .int .i64 0, .int .i64 0, .string ⟨#[]⟩, .string ⟨#[]⟩, .bool false, .string ⟨#[]⟩, .string ⟨#[]⟩, .slice none 0 0] 278 (0, 0))) := fun W hf => hf.keep hrow3 (by simp)
  have HRw : Hid (∀ W, Fr [] w3 W → W.cell? ⟨B, 0, none⟩ = some (.string key) ∧ W.cell? ⟨B, 1, none⟩ = some (.string val) ∧ W.cell? ⟨B, 2, none⟩ = some (.bool drop)) := fun W hf => by
    have := hf.keep hrowW (by simp)
    exact ⟨by rw [cell_of_row _ _ _ _ _ _ this]; rfl, by rw [cell_of_row _ _ _ _ _ _ this]; rfl, by rw [cell_of_row _ _ _ _ _ _ this]; rfl⟩
  have HRBw : Hid (w.heap.size ≤ RB) := by show _ ≤ _; rw [HRb.out]; omega
  have HBw : Hid (B < w3.heap.size) := by show _ < _; rw [← HW3.out, ← HBb.out]; simp
  have hlR : lb ≠ RB := by have := HM.out _ (Fr.refl _ _); have := this.lt; rw [← HRb.out]; omega
  have hBR : B ≠ RB := by have := hF2.size; rw [← HRb.out, ← HBb.out]; simp at this; omega
  clear hF0 hrow0 hF2 hF3 fA hrowW hrow3 HB HT HN
  go_upto_region 7 with fail
  rw [HW3.out, HBb.out, HRb.out]
  clear HW3 HBb HRb
  have f1 : ∀ y : Wd13 w3, y.W.cell? ⟨lb, 1, none⟩ = some (.int .i64 l) := fun y => (HB3.out _ y.h).1.c1
  have f2 : ∀ y : Wd13 w3, y.W.cell? ⟨lb, 2, none⟩ = some (.int .i64 s) := fun y => (HB3.out _ y.h).1.c2
  have f3 : ∀ y : Wd13 w3, y.W.cell? ⟨lb, 3, none⟩ = some (.int .i64 x) := fun y => (HB3.out _ y.h).1.c3
  have f4 : ∀ y : Wd13 w3, y.W.cell? ⟨lb, 4, none⟩ = some (.int .i64 q) := fun y => (HB3.out _ y.h).1.c4
  have g0 : ∀ y : Wd13 w3, y.W.cell? ⟨B, 0, none⟩ = some (.string key) := fun y => (HRw.out _ y.h).1
  refine wp_region_wd13 (w1 := w3) (by kernel_rfl) (by kernel_rfl) (Fr.refl _ _) ?_
  repeat (go_big_quiet_step (first
    | (go_at_call 140; with_reducible refine (HS _).mono ?_; exact fun e w3 hh => ⟨hh.1, ⟨_, Fr.then (Wd13.h _) hh.2⟩, rfl⟩)))
  refine wpQuiet_nil ?_
  rintro _ ⟨z, rfl⟩
  clear f1 f2 f3 f4 g0 HS
  obtain ⟨wy, hy⟩ := z
  simp only
  have c0 : wy.cell? ⟨lb, 0, none⟩ = some (.int .i64 nm) := (HB3.out _ hy).1.c0
  obtain ⟨b0, b1, b2⟩ := HRw.out _ hy
  have c0' : wy.drew.cell? ⟨lb, 0, none⟩ = some (.int .i64 nm) := c0
  obtain ⟨b0', b1', b2'⟩ : wy.drew.cell? ⟨B, 0, none⟩ = some (.string key) ∧ wy.drew.cell? ⟨B, 1, none⟩ = some (.string val) ∧ wy.drew.cell? ⟨B, 2, none⟩ = some (.bool drop) := ⟨b0, b1, b2⟩
  have HRy := (show Hid _ from HRow.out _ (hy.then (Fr.drew _ wy)))
  have HHy := (show Hid _ from (HB3.out _ (hy.then (Fr.drew _ wy))).2)
  have HBl : Hid (B < wy.heap.size) := Nat.lt_of_lt_of_le HBw.out hy.size
  have HRy0 := (show Hid _ from HRow.out _ hy)
  have zf : ∀ j, wy.drew.frozen? ⟨RB, j, none⟩ = false := fun j => by simp [World.frozen?, HRy.out]
  have r0 : wy.drew.cell? ⟨RB, 0, none⟩ = some (.int .u8 0) := by rw [cell_of_row _ _ _ _ _ _ HRy.out]; rfl
  have r1 : wy.drew.cell? ⟨RB, 1, none⟩ = some (.int .i64 0) := by rw [cell_of_row _ _ _ _ _ _ HRy.out]; rfl
  have r2 : wy.drew.cell? ⟨RB, 2, none⟩ = some (.int .i64 0) := by rw [cell_of_row _ _ _ _ _ _ HRy.out]; rfl
  have r3 : wy.drew.cell? ⟨RB, 3, none⟩ = some (.string ⟨#[]⟩) := by rw [cell_of_row _ _ _ _ _ _ HRy.out]; rfl
  have r4 : wy.drew.cell? ⟨RB, 4, none⟩ = some (.string ⟨#[]⟩) := by rw [cell_of_row _ _ _ _ _ _ HRy.out]; rfl
  have r5 : wy.drew.cell? ⟨RB, 5, none⟩ = some (.bool false) := by rw [cell_of_row _ _ _ _ _ _ HRy.out]; rfl
  have r6 : wy.drew.cell? ⟨RB, 6, none⟩ = some (.string ⟨#[]⟩) := by rw [cell_of_row _ _ _ _ _ _ HRy.out]; rfl
  have r7 : wy.drew.cell? ⟨RB, 7, none⟩ = some (.string ⟨#[]⟩) := by rw [cell_of_row _ _ _ _ _ _ HRy.out]; rfl
  have r8 : wy.drew.cell? ⟨RB, 8, none⟩ = some (.slice none 0 0) := by rw [cell_of_row _ _ _ _ _ _ HRy.out]; rfl
  have zf0 : ∀ j, wy.frozen? ⟨RB, j, none⟩ = false := fun j => by simp [World.frozen?, HRy0.out]
  have q0 : wy.cell? ⟨RB, 0, none⟩ = some (.int .u8 0) := by rw [cell_of_row _ _ _ _ _ _ HRy0.out]; rfl
  have q1 : wy.cell? ⟨RB, 1, none⟩ = some (.int .i64 0) := by rw [cell_of_row _ _ _ _ _ _ HRy0.out]; rfl
  have q2 : wy.cell? ⟨RB, 2, none⟩ = some (.int .i64 0) := by rw [cell_of_row _ _ _ _ _ _ HRy0.out]; rfl
  have q3 : wy.cell? ⟨RB, 3, none⟩ = some (.string ⟨#[]⟩) := by rw [cell_of_row _ _ _ _ _ _ HRy0.out]; rfl
  have q4 : wy.cell? ⟨RB, 4, none⟩ = some (.string ⟨#[]⟩) := by rw [cell_of_row _ _ _ _ _ _ HRy0.out]; rfl
  have q5 : wy.cell? ⟨RB, 5, none⟩ = some (.bool false) := by rw [cell_of_row _ _ _ _ _ _ HRy0.out]; rfl
  have q6 : wy.cell? ⟨RB, 6, none⟩ = some (.string ⟨#[]⟩) := by rw [cell_of_row _ _ _ _ _ _ HRy0.out]; rfl
  have q7 : wy.cell? ⟨RB, 7, none⟩ = some (.string ⟨#[]⟩) := by rw [cell_of_row _ _ _ _ _ _ HRy0.out]; rfl
  have q8 : wy.cell? ⟨RB, 8, none⟩ = some (.slice none 0 0) := by rw [cell_of_row _ _ _ _ _ _ HRy0.out]; rfl
  have hlR' : RB ≠ lb := fun e => hlR e.symm
  have hBR' : RB ≠ B := fun e => hBR e.symm
  have f9 := fr_drew ((HG3.out.then hy).on (sets9_fr wy RB (.int .u8 1) (.int .i64 nm) (.int .i64 n) (.string key) (.string val) (.bool drop) (.string ⟨#[]⟩) (.string ⟨#[]⟩) (.slice none 0 0)) (by intro k hk; simp at hk; have := HRBw.out; omega))
  have r9 := (drew_heap _ _).trans (sets9_row (b := RB) (.int .u8 1) (.int .i64 nm) (.int .i64 n) (.string key) (.string val) (.bool drop) (.string ⟨#[]⟩) (.string ⟨#[]⟩) (.slice none 0 0) HRy0.out)
  unfold sets9 at f9 r9
  have HF9 : Hid _ := f9
  have HR9 : Hid _ := r9
  clear f9 r9
  go_wp2_with fail
  go_region_held3 (fun W => W.cell? ⟨lb, 0, none⟩ = some (.int .i64 nm) ∧ W.cell? ⟨B, 0, none⟩ = some (.string key) ∧ W.cell? ⟨B, 1, none⟩ = some (.string val) ∧ W.cell? ⟨B, 2, none⟩ = some (.bool drop)) (go_keep)
    (first
      | (refine step_invoke (w := wy.drew) (by rfl) (.tmp 41) "towpath/lane.holds" (by rfl) 389 (.pointer (some ⟨ub, 0, none⟩)) (by rfl) 431 (.pointer (some ⟨ub, 0, none⟩)) (m2 _) (enter_uwholds ub _) (.int .i64 n) HHy.out ?_))
  all_goals (
    have hld := run_loadVar_row (P := Tryz.prog) _ RB _ 278 _ _ (.struct (Tryz.prog.fieldsOf 278)) HR9.out (by kernel_rfl) rfl (by kernel_rfl)
    go_wp2_with fail
    refine bodyPost_ret (results_tct_row rfl _ _ _ _ _ rfl hld) rfl ?_
    exact ⟨rfl, HF9.out⟩)
/-- What Next tells of a lane that is there. -/
theorem lnext_any (h : LnM w lb nm l s x q st S) : Calls Tryz.prog 271 #[.pointer (some ⟨lb, 0, none⟩)] w fun e w' => e = .returned (.tuple #[.int .i64 (nextS ⟨l, s, x, q⟩ st), (nextR nm st).v, .bool (nextB st)]) ∧ Fr [] w w' := by
  cases st with
  | none => exact lnext_none h
  | some hl =>
    obtain ⟨n, ws, o⟩ := hl
    cases ws with
    | nil => exact lnext_nil h rfl
    | cons y r => exact lnext_some h
end
end Go.Proofs.YtakbodlicfmkjaaGreat
