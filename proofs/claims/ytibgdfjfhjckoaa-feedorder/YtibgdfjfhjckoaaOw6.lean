/- Rows of writes and of transactions of one's own, for the document's source; append of nothing. Conditions as each names them. -/
import Derived.Test.YtibgdfjfhjckoaaSrc6
import Derived.Laws.AppendOwn
import Derived.Laws.ResultCell
namespace Go.Proofs.Ytibgdfjfhjckoaa
open Go.ChangeShapes Go.WideShapes Go.ChangeAt Go.RowKit Go.Lib
set_option linter.unusedVariables false
set_option linter.unusedSimpArgs false

theorem owns_keepB {S : List Nat} {w w' : World} {base : Nat} {e : TypeId} {size : Nat} {v : Value} {n : Nat} {xs : List Value} (h : w.ownsRow base e size v n xs) (hf : Fr S w w') (hn : ∀ k, v.ownBlock = some k → k ∉ S) : w'.ownsRow base e size v n xs := by
  refine ⟨h.1, ?_⟩
  rcases h.2 with h0 | ⟨g, cap, cur, hv, hb, hg, hr⟩
  · exact Or.inl h0
  · exact Or.inr ⟨g, cap, cur, hv, hb, hf.keep hg (hn g (by rw [hv]; rfl)), hr⟩
theorem owns_cells {w : World} {base : Nat} {e : TypeId} {size : Nat} {v : Value} {n : Nat} {xs : List Value} (h : w.ownsRow base e size v n xs) {k : Nat} (hk : v.ownBlock = some k) : base ≤ k ∧ ∃ cur, w.heap[k]? = some (.cells cur e (0, 0)) := by
  rcases h.2 with ⟨rfl, _⟩ | ⟨g, cap, cur, rfl, hb, hg, hr⟩
  · simp [Value.ownBlock] at hk
  · simp [Value.ownBlock] at hk
    subst hk
    exact ⟨hb, cur, hg⟩
theorem own_base {w : World} {base base' : Nat} {e : TypeId} {size : Nat} {v : Value} {n : Nat} {xs : List Value} (h : w.ownsRow base e size v n xs) (hb : base' ≤ base) : w.ownsRow base' e size v n xs := by
  refine ⟨h.1, ?_⟩
  rcases h.2 with h0 | ⟨g, cap, cur, hv, hg, hr⟩
  · exact Or.inl h0
  · exact Or.inr ⟨g, cap, cur, hv, by omega, hr⟩
/-- A row of writes of one's own, made since a world. -/
structure WOw (w0 w : World) (ro : Option Addr) (N rc : Nat) (ws : List Wt) : Prop where
  len : N = ws.length
  row : w.ownsRow w0.heap.size 89 3 (.slice ro N rc) N (wtsC ws)
theorem WOw.rs {w0 w : World} {ro : Option Addr} {N rc : Nat} {ws : List Wt} (h : WOw w0 w ro N rc ws) (hl : ws.length ≤ 140737488355328) (he : ∀ x ∈ ws, x.key.size ≤ 140737488355328 ∧ x.val.size ≤ 140737488355328) : WRs w ro ws := by
  rcases h.row.2 with ⟨_, h1⟩ | ⟨g, cap, cur, hv, _, hg, _, _, _, ht⟩
  · have : ws = [] := List.eq_nil_of_length_eq_zero (by have := h.len; omega)
    subst this
    exact WRs.nil _ _
  · cases hv
    refine ⟨fun h0 => ⟨g, 0, rfl, lt_of_block hg, fun i hi => ?_⟩, hl, he⟩
    have hN := h.len
    have key : ∀ c u, c < 3 → (wtC (ws.getD i Wt.zero))[c]? = some u → w.cell? ⟨g, 0 + i * 3 + c, none⟩ = some u := by
      intro c u hc hu
      rw [← wtsC_get ws i c hi hc] at hu
      rw [cell_of_row _ _ _ _ _ _ hg, Nat.zero_add, ← Array.getElem?_toList, ← hu, ← ht, List.getElem?_take_of_lt (by omega)]
    exact ⟨key 0 _ (by omega) rfl, key 1 _ (by omega) rfl, key 2 _ (by omega) rfl⟩
theorem WOw.keepS {S : List Nat} {w0 w w' : World} {ro : Option Addr} {N rc : Nat} {ws : List Wt} (h : WOw w0 w ro N rc ws) (hf : Fr S w w') (hn : ∀ k, (Value.slice ro N rc).ownBlock = some k → k ∉ S) : WOw w0 w' ro N rc ws := ⟨h.len, owns_keepB h.row hf hn⟩
theorem WOw.later {w0 w1 w : World} {ro : Option Addr} {N rc : Nat} {ws : List Wt} (h : WOw w1 w ro N rc ws) (hs : w0.heap.size ≤ w1.heap.size) : WOw w0 w ro N rc ws := ⟨h.len, own_base h.row hs⟩
theorem Try.undWs9 : Try.prog.underlying 40 = some (.slice 89) := by kernel_rfl
theorem Try.infoWt9 : (Try.prog.info? 89).map (fun i => (i.zero, i.size, i.bytes)) = some (some (.agg #[.string ⟨#[]⟩, .string ⟨#[]⟩, .bool false]), 3, 40) := by kernel_rfl
/-- A row of transactions of one's own, each with its writes in a row of its own. -/
structure TOw (w0 w : World) (ro : Option Addr) (N rc : Nat) (us : List Tm) : Prop where
  len : N = us.length
  row : w.ownsRow w0.heap.size 42 2 (.slice ro N rc) N (tmsC us)
  each : ∀ u ∈ us, WOw w0 w u.ao u.L u.cap u.ws
theorem TOw.keepS {S : List Nat} {w0 w w' : World} {ro : Option Addr} {N rc : Nat} {us : List Tm} (h : TOw w0 w ro N rc us) (hf : Fr S w w') (hS : ∀ k ∈ S, w.heap.size ≤ k) : TOw w0 w' ro N rc us := by
  refine ⟨h.len, owns_keepB h.row hf (fun k hk hm => ?_), fun u hu => (h.each u hu).keepS hf (fun k hk hm => ?_)⟩
  · obtain ⟨_, c, e⟩ := owns_cells h.row hk
    have := lt_of_block e
    have := hS k hm
    omega
  · obtain ⟨_, c, e⟩ := owns_cells (h.each u hu).row hk
    have := lt_of_block e
    have := hS k hm
    omega
theorem TOw.rs {w0 w : World} {ro : Option Addr} {N rc : Nat} {us : List Tm} (h : TOw w0 w ro N rc us) (hok : okL 1 (txs us)) (he : ∀ u ∈ us, ∀ x ∈ u.ws, x.key.size ≤ 140737488355328 ∧ x.val.size ≤ 140737488355328) (hl : N ≤ 1000000) : TRs w ro us := by
  refine ⟨fun h0 => ?_, by have := h.len; omega, fun u hu => ?_⟩
  · rcases h.row.2 with ⟨_, h1⟩ | ⟨g, cap, cur, hv, _, hg, _, _, _, ht⟩
    · have := h.len; omega
    · cases hv
      refine ⟨g, 0, rfl, lt_of_block hg, fun i hi => ?_⟩
      have hN := h.len
      have key : ∀ c u, c < 2 → (tmC (us.getD i Tm.zero))[c]? = some u → w.cell? ⟨g, 0 + i * 2 + c, none⟩ = some u := by
        intro c u hc hu
        rw [← tmsC_get us i c hi hc] at hu
        rw [cell_of_row _ _ _ _ _ _ hg, Nat.zero_add, ← Array.getElem?_toList, ← hu, ← ht, List.getElem?_take_of_lt (by omega)]
      exact ⟨key 0 _ (by omega) rfl, key 1 _ (by omega) rfl⟩
  · have ho : okT u.n u.ws := okL_mem hok u.tx (List.mem_map.2 ⟨u, hu, rfl⟩)
    have hw := h.each u hu
    exact ⟨hw.rs (by have := ho.2.2.1; omega) (he u hu), hw.len, by have := ho.1; omega, by have := ho.2.1; omega⟩
theorem Try.undTs9 : Try.prog.underlying 22 = some (.slice 42) := by kernel_rfl
theorem Try.infoT9 : (Try.prog.info? 42).map (fun i => (i.zero, i.size, i.bytes)) = some (some (.agg #[.int .i64 0, .slice none 0 0]), 2, 32) := by kernel_rfl
/-- One transaction more. -/
theorem wpList_appT (w0 w : World) {ops : Array Oper} {rest : List Oper} {o : Oper} {a : Act} {Q : Exit → Act → World → Prop} (hgd : o.guard = none) (s x : Operand)
    (ho : o.op = .call { callee := .builtin .append, args := #[s, x], argTypes := #[22, 22] })
    (so : Option Addr) (N c : Nat) (us : List Tm) (hs : a.eval s = .slice so N c) (hK : TOw w0 w so N c us) (hN : N < 1000000) (h0 : w0.heap.size ≤ w.heap.size) (p : Tm) (hp : WOw w0 w p.ao p.L p.cap p.ws) (hx : a.eval x = .slice (some ⟨w.heap.size, 0, none⟩) 1 1)
    (h : ∀ so' c' w', TOw w0 w' so' (N + 1) c' (us ++ [p]) → Fr (Value.slice so N c).ownBlock.toList w w' → wpList Try.prog ops Q rest (a.put o.dst (.slice so' (N + 1) c')) w') : wpList Try.prog ops Q (o :: rest) a (w.alloc (.cells #[.int .i64 p.n, .slice p.ao p.L p.cap] 42)) := by
  obtain ⟨i0, hi, hz0, hz1, hz2⟩ := info_parts Try.infoT9
  refine wpList_append_own (w.alloc (.cells #[.int .i64 p.n, .slice p.ao p.L p.cap] 42)) hgd s x 22 ho w0.heap.size 42 i0 _ 2 32 Try.undTs9 hi hz0 hz1 hz2 rfl (by decide) (.slice so N c) N (tmsC us) hs (owns_keepB hK.row (Fr.alloc [] w _) (by simp)) ⟨w.heap.size, 0, none⟩ 1 1 (tmC p) hx rfl ?_ (fun u hu => tmsC_oneCell [p] u (by simpa [tmsC] using hu)) (by unfold maxLen; omega) (by omega) (by simp; omega) ?_
  · intro j u hu
    have hr := heap_alloc_new w (.cells #[.int .i64 p.n, .slice p.ao p.L p.cap] 42)
    rw [Addr.add_lit, cell_of_row _ _ _ _ _ _ hr, Nat.zero_add]
    simpa [tmC] using hu
  · intro v' w' hown' hg' _
    obtain ⟨bo, cap', rfl⟩ : ∃ bo cap', v' = .slice bo (N + 1) cap' := by
      rcases hown'.2 with ⟨_, h1⟩ | ⟨g, cap, _, rfl, _⟩
      · omega
      · exact ⟨_, cap, rfl⟩
    have hst : tmsC (us ++ [p]) = tmsC us ++ tmC p := by rw [tmsC_append]; simp [tmsC]
    rw [← hst] at hown'
    have hF : Fr (Value.slice so N c).ownBlock.toList w w' := ((Fr.alloc [] w _).mono (by simp)).then (Fr.grown (S := (Value.slice so N c).ownBlock.toList) hg' (fun y hy _ => Option.mem_toList.2 hy))
    refine h bo cap' w' ⟨by rw [hK.len]; simp, hown', fun u hu => ?_⟩ hF
    have hu2 : WOw w0 w u.ao u.L u.cap u.ws := by
      rcases List.mem_append.1 hu with h1 | h1
      · exact hK.each u h1
      · simp at h1; subst h1; exact hp
    refine hu2.keepS hF (fun k hk hm => ?_)
    obtain ⟨_, c1, e1⟩ := owns_cells hu2.row hk
    obtain ⟨_, c2, e2⟩ := owns_cells hK.row (Option.mem_toList.1 hm)
    rw [e1] at e2
    simp only [Option.some.injEq, Obj.cells.injEq] at e2
    exact absurd e2.2.1 (by decide)
/-- Nothing behind nothing. -/
theorem wpList_append_zero {P : Program} {w : World} {ops : Array Oper} {rest : List Oper} {o : Oper} {a : Act} {Q : Exit → Act → World → Prop} (hgd : o.guard = none) (s x : Operand) (t : TypeId)
    (ho : o.op = .call { callee := .builtin .append, args := #[s, x], argTypes := #[t, t] })
    (e : TypeId) (i : TypeInfo) (ht : P.underlying t = some (.slice e)) (hi : P.info? e = some i)
    (hs : a.eval s = .slice none 0 0) (xo : Option Addr) (xc : Nat) (hx : a.eval x = .slice xo 0 xc)
    (h : wpList P ops Q rest (a.put o.dst (.slice none 0 0)) w) : wpList P ops Q (o :: rest) a w := by
  refine wpList_plain hgd fun K hK => ?_
  have hl : ∀ (x : Addr), (loadCells x 0).run P w = .ok #[] w := fun x => by simpa using run_loadCells_list (P := P) w x [] (by simp)
  have hrun : (Builtin.append_ #[t, t] o.type #[.slice none 0 0, .slice xo 0 xc]).run P w = .ok (.slice none 0 0) w := by
    cases xo <;> simp [Builtin.append_, run_underlying ht, sizeOf, typeInfo, hi, Builtin.lenOf, Builtin.firstCells, hl, storeCells]
  unfold Oper.wp
  simp [execOp, ho, resolve, invoke, builtin, hs, hx, hrun, Result.andThen]
  exact hK _ _ h
end Go.Proofs.Ytibgdfjfhjckoaa
