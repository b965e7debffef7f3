/- Rows of writes of one's own, one write more behind them. Conditions as each names them. -/
import Derived.Test.YtakbodlicfmkjaaGreatTm
import Derived.Laws.AppendOwn
import Derived.Laws.ResultCell
import Derived.Maps.AppendAt
import Derived.Maps.RangeWalk
import Derived.Deep.RegionLaw
import Derived.Deep.RegionWith
import Derived.Deep.RegionHeld3
import Derived.Deep.CutRange
namespace Go.Proofs.YtakbodlicfmkjaaGreat
open Go.ChangeShapes Go.WideShapes Go.ChangeAt Go.RowKit Go.Lib
set_option linter.unusedVariables false
set_option linter.unusedSimpArgs false

theorem owns_keepB {S : List Nat} {w w' : World} {base : Nat} {e : TypeId} {size : Nat} {v : Value} {n : Nat} {xs : List Value} (h : w.ownsRow base e size v n xs) (hf : Fr S w w') (hn : ∀ k, v.ownBlock = some k → k ∉ S) : w'.ownsRow base e size v n xs := by
  refine ⟨h.1, ?_⟩
  rcases h.2 with h0 | ⟨g, cap, cur, hv, hb, hg, hr⟩
  · exact Or.inl h0
  · exact Or.inr ⟨g, cap, cur, hv, hb, hf.keep hg (hn g (by rw [hv]; rfl)), hr⟩
theorem owns_cells {w : World} {base : Nat} {e : TypeId} {size : Nat} {v : Value} {n : Nat} {xs : List Value} (h : w.ownsRow base e size v n xs) {k : Nat} (hk : v.ownBlock = some k) : base ≤ k ∧ ∃ cur, w.heap[k]? = some (.cells cur e (0, 0)) := by
  rcases h.2 with ⟨rfl, _⟩ | ⟨g, cap, cur, rfl, hb, hg, hr⟩
  · simp [Value.ownBlock] at hk
  · simp [Value.ownBlock] at hk
    subst hk
    exact ⟨hb, cur, hg⟩
theorem own_base {w : World} {base base' : Nat} {e : TypeId} {size : Nat} {v : Value} {n : Nat} {xs : List Value} (h : w.ownsRow base e size v n xs) (hb : base' ≤ base) : w.ownsRow base' e size v n xs := by
  refine ⟨h.1, ?_⟩
  rcases h.2 with h0 | ⟨g, cap, cur, hv, hg, hr⟩
  · exact Or.inl h0
  · exact Or.inr ⟨g, cap, cur, hv, by omega, hr⟩
/-- A row of writes of one's own, made since a world. -/
structure WOw (w0 w : World) (ro : Option Addr) (N rc : Nat) (ws : List Wt) : Prop where
  len : N = ws.length
  row : w.ownsRow w0.heap.size 56 3 (.slice ro N rc) N (wtsC ws)
theorem WOw.rs {w0 w : World} {ro : Option Addr} {N rc : Nat} {ws : List Wt} (h : WOw w0 w ro N rc ws) (hl : ws.length ≤ 140737488355328) (he : ∀ x ∈ ws, x.key.size ≤ 140737488355328 ∧ x.val.size ≤ 140737488355328) : WRs w ro ws := by
  rcases h.row.2 with ⟨_, h1⟩ | ⟨g, cap, cur, hv, _, hg, _, _, _, ht⟩
  · have : ws = [] := List.eq_nil_of_length_eq_zero (by have := h.len; omega)
    subst this
    exact WRs.nil _ _
  · cases hv
    refine ⟨fun h0 => ⟨g, 0, rfl, lt_of_block hg, fun i hi => ?_⟩, hl, he⟩
    have hN := h.len
    have key : ∀ c u, c < 3 → (wtC (ws.getD i Wt.zero))[c]? = some u → w.cell? ⟨g, 0 + i * 3 + c, none⟩ = some u := by
      intro c u hc hu
      rw [← wtsC_get ws i c hi hc] at hu
      rw [cell_of_row _ _ _ _ _ _ hg, Nat.zero_add, ← Array.getElem?_toList, ← hu, ← ht, List.getElem?_take_of_lt (by omega)]
    exact ⟨key 0 _ (by omega) rfl, key 1 _ (by omega) rfl, key 2 _ (by omega) rfl⟩
theorem WOw.keepS {S : List Nat} {w0 w w' : World} {ro : Option Addr} {N rc : Nat} {ws : List Wt} (h : WOw w0 w ro N rc ws) (hf : Fr S w w') (hn : ∀ k, (Value.slice ro N rc).ownBlock = some k → k ∉ S) : WOw w0 w' ro N rc ws := ⟨h.len, owns_keepB h.row hf hn⟩
theorem WOw.later {w0 w1 w : World} {ro : Option Addr} {N rc : Nat} {ws : List Wt} (h : WOw w1 w ro N rc ws) (hs : w0.heap.size ≤ w1.heap.size) : WOw w0 w ro N rc ws := ⟨h.len, own_base h.row hs⟩
theorem Tryz.undWs9 : Tryz.prog.underlying 57 = some (.slice 56) := by kernel_rfl
theorem Tryz.infoWt9 : (Tryz.prog.info? 56).map (fun i => (i.zero, i.size, i.bytes)) = some (some (.agg #[.string ⟨#[]⟩, .string ⟨#[]⟩, .bool false]), 3, 40) := by kernel_rfl
/-- One write more, as one step of a region that draws its order. -/
theorem step_appW (w0 w : World) {ops : Array Oper} {o : Oper} {a : Act} {K : Act → World → Prop} {Q : Exit → Act → World → Prop} {E : Prop} (hg : o.guard = none) (s x : Operand)
    (ho : o.op = .call { callee := .builtin .append, args := #[s, x], argTypes := #[57, 57] })
    (ro : Option Addr) (N rc : Nat) (qs : List Wt) (hs : a.eval s = .slice ro N rc) (hO : WOw w0 w ro N rc qs)
    (ad : Addr) (c : Nat) (v : Wt) (hx : a.eval x = .slice (some ad) 1 c) (hnews : ∀ j u, (wtC v)[j]? = some u → w.cell? (ad.add j) = some u) (hb : N < 1000000) (hsz : w0.heap.size ≤ w.heap.size)
    (h : ∀ ro' rc' w', WOw w0 w' ro' (N + 1) rc' (qs ++ [v]) → Fr (Value.slice ro N rc).ownBlock.toList w w' → K (a.put o.dst (.slice ro' (N + 1) rc')) w') :
    if Region.wanted o (yielded ops a.tmps) = true then Oper.wp Tryz.prog o a w K Q else E := by
  have hw : Region.wanted o (yielded ops a.tmps) = true := by simp [Region.wanted, hg]
  rw [if_pos hw]
  obtain ⟨i0, hi, hz0, hz1, hz2⟩ := info_parts Tryz.infoWt9
  have h1c : ∀ u ∈ wtC v, u.oneCell' = true := fun u hu => wtsC_oneCell [v] u (by simpa [wtsC] using hu)
  obtain ⟨v', w', hr, h2, h3, _, _⟩ := run_append_own_at (P := Tryz.prog) w w0.heap.size 57 o.type 56 i0 _ 3 40 Tryz.undWs9 hi hz0 hz1 hz2 rfl (by decide) (.slice ro N rc) N (wtsC qs) hO.row ad 1 c (wtC v) rfl hnews h1c (by unfold maxLen; omega) (by omega) hsz
  obtain ⟨ro', rc', rfl⟩ : ∃ bo cap', v' = .slice bo (N + 1) cap' := by
    rcases h2.2 with ⟨_, h1⟩ | ⟨g, cap, _, rfl, _⟩
    · omega
    · exact ⟨_, cap, rfl⟩
  unfold Oper.wp execOp
  simp only [ho, resolve, invoke, builtin, Sem.run_bind, Sem.run_pure, Result.andThen_ok, List.map_toArray, List.map_cons, List.map_nil, hs, hx, hr]
  refine h ro' rc' w' ⟨by rw [hO.len]; simp, ?_⟩ (Fr.grown (S := (Value.slice ro N rc).ownBlock.toList) h3 (fun y hy _ => Option.mem_toList.2 hy))
  rw [show wtsC (qs ++ [v]) = wtsC qs ++ wtC v by rw [wtsC_append]; simp [wtsC]]
  exact h2
/-- One write more, laid in a block of its own ahead of it. -/
theorem wpList_appW (w0 w : World) {ops : Array Oper} {rest : List Oper} {o : Oper} {a : Act} {Q : Exit → Act → World → Prop} (hgd : o.guard = none) (s x : Operand)
    (ho : o.op = .call { callee := .builtin .append, args := #[s, x], argTypes := #[57, 57] })
    (so : Option Addr) (N c : Nat) (us : List Wt) (hs : a.eval s = .slice so N c) (hK : WOw w0 w so N c us) (hN : N < 1000000) (h0 : w0.heap.size ≤ w.heap.size) (p : Wt) (hx : a.eval x = .slice (some ⟨w.heap.size, 0, none⟩) 1 1)
    (h : ∀ so' c' w', WOw w0 w' so' (N + 1) c' (us ++ [p]) → Fr (Value.slice so N c).ownBlock.toList w w' → wpList Tryz.prog ops Q rest (a.put o.dst (.slice so' (N + 1) c')) w') : wpList Tryz.prog ops Q (o :: rest) a (w.alloc (.cells #[.string p.key, .string p.val, .bool p.drop] 56)) := by
  obtain ⟨i0, hi, hz0, hz1, hz2⟩ := info_parts Tryz.infoWt9
  refine wpList_append_own (w.alloc (.cells #[.string p.key, .string p.val, .bool p.drop] 56)) hgd s x 57 ho w0.heap.size 56 i0 _ 3 40 Tryz.undWs9 hi hz0 hz1 hz2 rfl (by decide) (.slice so N c) N (wtsC us) hs (owns_keepB hK.row (Fr.alloc [] w _) (by simp)) ⟨w.heap.size, 0, none⟩ 1 1 (wtC p) hx rfl ?_ (fun u hu => wtsC_oneCell [p] u (by simpa [wtsC] using hu)) (by unfold maxLen; omega) (by omega) (by simp; omega) ?_
  · intro j u hu
    have hr := heap_alloc_new w (.cells #[.string p.key, .string p.val, .bool p.drop] 56)
    rw [Addr.add_lit, cell_of_row _ _ _ _ _ _ hr, Nat.zero_add]
    simpa [wtC] using hu
  · intro v' w' hown' hg' _
    obtain ⟨bo, cap', rfl⟩ : ∃ bo cap', v' = .slice bo (N + 1) cap' := by
      rcases hown'.2 with ⟨_, h1⟩ | ⟨g, cap, _, rfl, _⟩
      · omega
      · exact ⟨_, cap, rfl⟩
    have hst : wtsC (us ++ [p]) = wtsC us ++ wtC p := by rw [wtsC_append]; simp [wtsC]
    rw [← hst] at hown'
    have hF : Fr (Value.slice so N c).ownBlock.toList w w' := ((Fr.alloc [] w _).mono (by simp)).then (Fr.grown (S := (Value.slice so N c).ownBlock.toList) hg' (fun y hy _ => Option.mem_toList.2 hy))
    exact h bo cap' w' ⟨by rw [hK.len]; simp, hown'⟩ hF
theorem WOw.cap {w0 w : World} {ro : Option Addr} {N rc : Nat} {ws : List Wt} (h : WOw w0 w ro N rc ws) : N ≤ rc := by
  rcases h.row.2 with ⟨h0, h1⟩ | ⟨g, cap, cur, hv, _, hg, hc, _, _, ht⟩
  · omega
  · cases hv; omega
theorem WOw.new {w0 w : World} {ro : Option Addr} {N rc : Nat} {ws : List Wt} (h : WOw w0 w ro N rc ws) : ∀ a, ro = some a → w0.heap.size ≤ a.block := by
  intro a ha
  rcases h.row.2 with ⟨h0, h1⟩ | ⟨g, cap, cur, hv, hb, hg, _⟩
  · cases h0; cases ha
  · cases hv
    cases ha
    exact hb
theorem WOw.old {w0 w : World} {ro : Option Addr} {N rc : Nat} {ws : List Wt} (h : WOw w0 w ro N rc ws) : ∀ a, ro = some a → a.block < w.heap.size := by
  intro a ha
  rcases h.row.2 with ⟨h0, h1⟩ | ⟨g, cap, cur, hv, hb, hg, _⟩
  · cases h0; cases ha
  · cases hv
    cases ha
    exact lt_of_block hg
end Go.Proofs.YtakbodlicfmkjaaGreat
