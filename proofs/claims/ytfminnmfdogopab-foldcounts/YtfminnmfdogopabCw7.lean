/- Transactions without the writes that later ones of their keys follow: mathematics; rows of writes and of transactions of one's own. Conditions as each names them. -/
import Derived.Test.YtfminnmfdogopabAmg7
import Derived.Maps.AppendAt
import Derived.Deep.RegionLaw
namespace Go.Proofs.Ytfminnmfdogopab
open Go.ChangeShapes Go.WideShapes Go.ChangeAt Go.RowKit Go.Lib Go.Maps Go.Sort
set_option linter.unusedVariables false
set_option linter.unusedSimpArgs false

def hasKey (ws : List Wt) (key : ByteArray) : Bool := ws.any fun y => decide (y.key = key)
theorem hasKey_iff (ws : List Wt) (key : ByteArray) : hasKey ws key = true ↔ ∃ y ∈ ws, y.key = key := by simp [hasKey]
/-- Without those that a later one of their key follows. -/
def dd : List Wt → List Wt
  | [] => []
  | x :: r => if hasKey r x.key = true then dd r else x :: dd r
theorem dd_sub : ∀ ws : List Wt, (dd ws).Sublist ws
  | [] => List.Sublist.refl _
  | x :: r => by
    unfold dd
    split
    · exact (dd_sub r).cons x
    · exact (dd_sub r).cons_cons x
theorem lastW_cons (x : Wt) (r : List Wt) (s : ByteArray) : lastW (x :: r) s = (lastW r s).or (lastW [x] s) := by
  rw [show x :: r = [x] ++ r from rfl, lastW_append]
theorem dd_last : ∀ (ws : List Wt) (s : ByteArray), lastW (dd ws) s = lastW ws s
  | [], s => rfl
  | x :: r, s => by
    have ih := dd_last r s
    unfold dd
    split
    · rename_i h
      rw [ih, lastW_cons, lastW_one]
      by_cases e : x.key = s
      · rw [if_pos e]
        cases hl : lastW r s with
        | some y => rfl
        | none =>
          obtain ⟨y, hy, e2⟩ := (hasKey_iff r x.key).1 h
          exact absurd (e2.trans e) ((lastW_none r s).1 hl y hy)
      · rw [if_neg e, Option.or_none]
    · rw [lastW_cons, lastW_cons x r, ih]
/-- A transaction so. -/
def ddT (t : Tx) : Tx := ⟨t.n, dd t.ws⟩
theorem ddT_zero : ddT Tx.zero = Tx.zero := rfl
theorem map_getD (l : List Tx) (i : Nat) : (l.map ddT).getD i Tx.zero = ddT (l.getD i Tx.zero) := by
  by_cases h : i < l.length
  · simp [List.getD, h]
  · simp [List.getD, h, ddT_zero]
theorem okL_dd : ∀ (l : List Tx) (k : Nat), okL k l → okL k (l.map ddT)
  | [], k, h => h
  | t :: r, k, h => by
    refine ⟨?_, h.2.1, okL_dd r (k + 1) h.2.2⟩
    obtain ⟨h1, h2, h3, h4⟩ := h.1
    exact ⟨h1, h2, Nat.le_trans (dd_sub t.ws).length_le h3, fun x hx => h4 x ((dd_sub t.ws).subset hx)⟩
theorem fo_dd (l : List Tx) (s : ByteArray) : ∀ n, n ≤ l.length → fo ((l.map ddT).take n) s = fo (l.take n) s
  | 0, _ => rfl
  | n + 1, h => by
    have ih := fo_dd l s n (by omega)
    rw [take_snoc_tx l n (by omega), take_snoc_tx (l.map ddT) n (by simp; omega), fo_step, fo_step, map_getD]
    show (match lastW (dd (l.getD n Tx.zero).ws) s with | none => _ | some x => _) = _
    rw [dd_last, ih]
    rfl
theorem wrt_dd (l : List Tx) (n : Nat) (s : ByteArray) : Wrt (l.map ddT) n s ↔ Wrt l n s := by
  rw [wrt_last, wrt_last, map_getD]
  show lastW (dd _) s ≠ none ↔ _
  rw [dd_last]
theorem nbr_dd (l : List Tx) (m n : Nat) : Nbr (l.map ddT) m n ↔ Nbr l m n := by
  unfold Nbr
  constructor
  · rintro ⟨s, h1, h2⟩; exact ⟨s, (wrt_dd l m s).1 h1, (wrt_dd l n s).1 h2⟩
  · rintro ⟨s, h1, h2⟩; exact ⟨s, (wrt_dd l m s).2 h1, (wrt_dd l n s).2 h2⟩
theorem rch_dd (l : List Tx) (i n : Nat) : Rch (l.map ddT) i n ↔ Rch l i n := by
  constructor
  · intro h
    induction h with
    | base => exact Rch.base
    | step _ h2 h3 ih => exact Rch.step ih h2 ((nbr_dd l _ _).1 h3)
  · intro h
    induction h with
    | base => exact Rch.base
    | step _ h2 h3 ih => exact Rch.step ih h2 ((nbr_dd l _ _).2 h3)
/-- A row of writes of one's own, made since a world. -/
structure WOw (w0 w : World) (ro : Option Addr) (N rc : Nat) (ws : List Wt) : Prop where
  len : N = ws.length
  row : w.ownsRow w0.heap.size 32 3 (.slice ro N rc) N (wtsC ws)
theorem WOw.rs {w0 w : World} {ro : Option Addr} {N rc : Nat} {ws : List Wt} (h : WOw w0 w ro N rc ws) (hl : ws.length ≤ 140737488355328) (he : ∀ x ∈ ws, x.key.size ≤ 140737488355328 ∧ x.val.size ≤ 140737488355328) : WRs w ro ws := by
  rcases h.row.2 with ⟨_, h1⟩ | ⟨g, cap, cur, hv, _, hg, _, _, _, ht⟩
  · have : ws = [] := List.eq_nil_of_length_eq_zero (by have := h.len; omega)
    subst this
    exact WRs.nil _ _
  · cases hv
    refine ⟨fun h0 => ⟨g, 0, rfl, lt_of_block hg, fun i hi => ?_⟩, hl, he⟩
    have hN := h.len
    have key : ∀ c u, c < 3 → (wtC (ws.getD i Wt.zero))[c]? = some u → w.cell? ⟨g, 0 + i * 3 + c, none⟩ = some u := by
      intro c u hc hu
      rw [← wtsC_get ws i c hi hc] at hu
      rw [cell_of_row _ _ _ _ _ _ hg, Nat.zero_add, ← Array.getElem?_toList, ← hu, ← ht, List.getElem?_take_of_lt (by omega)]
    exact ⟨key 0 _ (by omega) rfl, key 1 _ (by omega) rfl, key 2 _ (by omega) rfl⟩
theorem WOw.keepS {S : List Nat} {w0 w w' : World} {ro : Option Addr} {N rc : Nat} {ws : List Wt} (h : WOw w0 w ro N rc ws) (hf : Fr S w w') (hn : ∀ k, (Value.slice ro N rc).ownBlock = some k → k ∉ S) : WOw w0 w' ro N rc ws := ⟨h.len, owns_keepB h.row hf hn⟩
theorem WOw.later {w0 w1 w : World} {ro : Option Addr} {N rc : Nat} {ws : List Wt} (h : WOw w1 w ro N rc ws) (hs : w0.heap.size ≤ w1.heap.size) : WOw w0 w ro N rc ws := ⟨h.len, own_base h.row hs⟩
theorem Try.undWs9 : Try.prog.underlying 28 = some (.slice 32) := by kernel_rfl
theorem Try.infoWt9 : (Try.prog.info? 32).map (fun i => (i.zero, i.size, i.bytes)) = some (some (.agg #[.string ⟨#[]⟩, .string ⟨#[]⟩, .bool false]), 3, 40) := by kernel_rfl
/-- One write more, as one step of a region that draws its order. -/
theorem step_appW (w0 w : World) {ops : Array Oper} {o : Oper} {a : Act} {K : Act → World → Prop} {Q : Exit → Act → World → Prop} {E : Prop} (hg : o.guard = none) (s x : Operand)
    (ho : o.op = .call { callee := .builtin .append, args := #[s, x], argTypes := #[28, 28] })
    (ro : Option Addr) (N rc : Nat) (qs : List Wt) (hs : a.eval s = .slice ro N rc) (hO : WOw w0 w ro N rc qs)
    (ad : Addr) (c : Nat) (v : Wt) (hx : a.eval x = .slice (some ad) 1 c) (hnews : ∀ j u, (wtC v)[j]? = some u → w.cell? (ad.add j) = some u) (hb : N < 1000000) (hsz : w0.heap.size ≤ w.heap.size)
    (h : ∀ ro' rc' w', WOw w0 w' ro' (N + 1) rc' (qs ++ [v]) → Fr (Value.slice ro N rc).ownBlock.toList w w' → K (a.put o.dst (.slice ro' (N + 1) rc')) w') :
    if Region.wanted o (yielded ops a.tmps) = true then Oper.wp Try.prog o a w K Q else E := by
  have hw : Region.wanted o (yielded ops a.tmps) = true := by simp [Region.wanted, hg]
  rw [if_pos hw]
  obtain ⟨i0, hi, hz0, hz1, hz2⟩ := info_parts Try.infoWt9
  have h1c : ∀ u ∈ wtC v, u.oneCell' = true := fun u hu => wtsC_oneCell [v] u (by simpa [wtsC] using hu)
  obtain ⟨v', w', hr, h2, h3, _, _⟩ := run_append_own_at (P := Try.prog) w w0.heap.size 28 o.type 32 i0 _ 3 40 Try.undWs9 hi hz0 hz1 hz2 rfl (by decide) (.slice ro N rc) N (wtsC qs) hO.row ad 1 c (wtC v) rfl hnews h1c (by unfold maxLen; omega) (by omega) hsz
  obtain ⟨ro', rc', rfl⟩ : ∃ bo cap', v' = .slice bo (N + 1) cap' := by
    rcases h2.2 with ⟨_, h1⟩ | ⟨g, cap, _, rfl, _⟩
    · omega
    · exact ⟨_, cap, rfl⟩
  unfold Oper.wp execOp
  simp only [ho, resolve, invoke, builtin, Sem.run_bind, Sem.run_pure, Result.andThen_ok, List.map_toArray, List.map_cons, List.map_nil, hs, hx, hr]
  refine h ro' rc' w' ⟨by rw [hO.len]; simp, ?_⟩ (Fr.grown (S := (Value.slice ro N rc).ownBlock.toList) h3 (fun y hy _ => Option.mem_toList.2 hy))
  rw [show wtsC (qs ++ [v]) = wtsC qs ++ wtC v by rw [wtsC_append]; simp [wtsC]]
  exact h2
/-- A row of transactions of one's own, each with its writes in a row of its own. -/
structure TOw (w0 w : World) (ro : Option Addr) (N rc : Nat) (us : List Tm) : Prop where
  len : N = us.length
  row : w.ownsRow w0.heap.size 30 2 (.slice ro N rc) N (tmsC us)
  each : ∀ u ∈ us, WOw w0 w u.ao u.L u.cap u.ws
theorem TOw.keepS {S : List Nat} {w0 w w' : World} {ro : Option Addr} {N rc : Nat} {us : List Tm} (h : TOw w0 w ro N rc us) (hf : Fr S w w') (hS : ∀ k ∈ S, w.heap.size ≤ k) : TOw w0 w' ro N rc us := by
  refine ⟨h.len, owns_keepB h.row hf (fun k hk hm => ?_), fun u hu => (h.each u hu).keepS hf (fun k hk hm => ?_)⟩
  · obtain ⟨_, c, e⟩ := owns_cells h.row hk
    have := lt_of_block e
    have := hS k hm
    omega
  · obtain ⟨_, c, e⟩ := owns_cells (h.each u hu).row hk
    have := lt_of_block e
    have := hS k hm
    omega
theorem TOw.rs {w0 w : World} {ro : Option Addr} {N rc : Nat} {us : List Tm} (h : TOw w0 w ro N rc us) (hok : okL 1 (txs us)) (he : ∀ u ∈ us, ∀ x ∈ u.ws, x.key.size ≤ 140737488355328 ∧ x.val.size ≤ 140737488355328) (hl : N ≤ 1000000) : TRs w ro us := by
  refine ⟨fun h0 => ?_, by have := h.len; omega, fun u hu => ?_⟩
  · rcases h.row.2 with ⟨_, h1⟩ | ⟨g, cap, cur, hv, _, hg, _, _, _, ht⟩
    · have := h.len; omega
    · cases hv
      refine ⟨g, 0, rfl, lt_of_block hg, fun i hi => ?_⟩
      have hN := h.len
      have key : ∀ c u, c < 2 → (tmC (us.getD i Tm.zero))[c]? = some u → w.cell? ⟨g, 0 + i * 2 + c, none⟩ = some u := by
        intro c u hc hu
        rw [← tmsC_get us i c hi hc] at hu
        rw [cell_of_row _ _ _ _ _ _ hg, Nat.zero_add, ← Array.getElem?_toList, ← hu, ← ht, List.getElem?_take_of_lt (by omega)]
      exact ⟨key 0 _ (by omega) rfl, key 1 _ (by omega) rfl⟩
  · have ho : okT u.n u.ws := okL_mem hok u.tx (List.mem_map.2 ⟨u, hu, rfl⟩)
    have hw := h.each u hu
    exact ⟨hw.rs (by have := ho.2.2.1; omega) (he u hu), hw.len, by have := ho.1; omega, by have := ho.2.1; omega⟩
theorem Try.undTs9 : Try.prog.underlying 22 = some (.slice 30) := by kernel_rfl
theorem Try.infoT9 : (Try.prog.info? 30).map (fun i => (i.zero, i.size, i.bytes)) = some (some (.agg #[.int .i64 0, .slice none 0 0]), 2, 32) := by kernel_rfl
/-- One transaction more. -/
theorem wpList_appT (w0 w : World) {ops : Array Oper} {rest : List Oper} {o : Oper} {a : Act} {Q : Exit → Act → World → Prop} (hgd : o.guard = none) (s x : Operand)
    (ho : o.op = .call { callee := .builtin .append, args := #[s, x], argTypes := #[22, 22] })
    (so : Option Addr) (N c : Nat) (us : List Tm) (hs : a.eval s = .slice so N c) (hK : TOw w0 w so N c us) (hN : N < 1000000) (h0 : w0.heap.size ≤ w.heap.size) (p : Tm) (hp : WOw w0 w p.ao p.L p.cap p.ws) (hx : a.eval x = .slice (some ⟨w.heap.size, 0, none⟩) 1 1)
    (h : ∀ so' c' w', TOw w0 w' so' (N + 1) c' (us ++ [p]) → Fr (Value.slice so N c).ownBlock.toList w w' → wpList Try.prog ops Q rest (a.put o.dst (.slice so' (N + 1) c')) w') : wpList Try.prog ops Q (o :: rest) a (w.alloc (.cells #[.int .i64 p.n, .slice p.ao p.L p.cap] 30)) := by
  obtain ⟨i0, hi, hz0, hz1, hz2⟩ := info_parts Try.infoT9
  refine wpList_append_own (w.alloc (.cells #[.int .i64 p.n, .slice p.ao p.L p.cap] 30)) hgd s x 22 ho w0.heap.size 30 i0 _ 2 32 Try.undTs9 hi hz0 hz1 hz2 rfl (by decide) (.slice so N c) N (tmsC us) hs (owns_keepB hK.row (Fr.alloc [] w _) (by simp)) ⟨w.heap.size, 0, none⟩ 1 1 (tmC p) hx rfl ?_ (fun u hu => tmsC_oneCell [p] u (by simpa [tmsC] using hu)) (by unfold maxLen; omega) (by omega) (by simp; omega) ?_
  · intro j u hu
    have hr := heap_alloc_new w (.cells #[.int .i64 p.n, .slice p.ao p.L p.cap] 30)
    rw [Addr.add_lit, cell_of_row _ _ _ _ _ _ hr, Nat.zero_add]
    simpa [tmC] using hu
  · intro v' w' hown' hg' _
    obtain ⟨bo, cap', rfl⟩ : ∃ bo cap', v' = .slice bo (N + 1) cap' := by
      rcases hown'.2 with ⟨_, h1⟩ | ⟨g, cap, _, rfl, _⟩
      · omega
      · exact ⟨_, cap, rfl⟩
    have hst : tmsC (us ++ [p]) = tmsC us ++ tmC p := by rw [tmsC_append]; simp [tmsC]
    rw [← hst] at hown'
    have hF : Fr (Value.slice so N c).ownBlock.toList w w' := ((Fr.alloc [] w _).mono (by simp)).then (Fr.grown (S := (Value.slice so N c).ownBlock.toList) hg' (fun y hy _ => Option.mem_toList.2 hy))
    refine h bo cap' w' ⟨by rw [hK.len]; simp, hown', fun u hu => ?_⟩ hF
    have hu2 : WOw w0 w u.ao u.L u.cap u.ws := by
      rcases List.mem_append.1 hu with h1 | h1
      · exact hK.each u h1
      · simp at h1; subst h1; exact hp
    refine hu2.keepS hF (fun k hk hm => ?_)
    obtain ⟨_, c1, e1⟩ := owns_cells hu2.row hk
    obtain ⟨_, c2, e2⟩ := owns_cells hK.row (Option.mem_toList.1 hm)
    rw [e1] at e2
    simp only [Option.some.injEq, Obj.cells.injEq] at e2
    exact absurd e2.2.1 (by decide)
theorem row2_set1 {w : World} {b : Nat} {u v x : Value} {t : TypeId} (h : w.heap[b]? = some (.cells #[u, v] t (0, 0))) : (w.setCell ⟨b, 1, none⟩ x).heap[b]? = some (.cells #[u, x] t (0, 0)) := two_setCell1 h
end Go.Proofs.Ytfminnmfdogopab
