/- The statements' own helper txn: a transaction of a number and keys of one letter each. Conditions as it names them. -/
import Derived.Test.YtdcmjoildfofcaaTw11
import Derived.Test.YtdcmjoildfofcaaTm
namespace Go.Proofs.Ytdcmjoildfofcaa
open Go.ChangeShapes Go.WideShapes Go.ChangeAt Go.RowKit Go.Lib Go.Maps
set_option linter.unusedVariables false
set_option linter.unusedSimpArgs false

/-- A row of writes of one's own, made since a world. -/
structure WOw (w0 w : World) (ro : Option Addr) (N rc : Nat) (ws : List Wt) : Prop where
  len : N = ws.length
  row : w.ownsRow w0.heap.size 47 3 (.slice ro N rc) N (wtsC ws)
theorem WOw.rs {w0 w : World} {ro : Option Addr} {N rc : Nat} {ws : List Wt} (h : WOw w0 w ro N rc ws) (hl : ws.length ≤ 140737488355328) (he : ∀ x ∈ ws, x.key.size ≤ 140737488355328 ∧ x.val.size ≤ 140737488355328) : WRs w ro ws := by
  rcases h.row.2 with ⟨_, h1⟩ | ⟨g, cap, cur, hv, _, hg, _, _, _, ht⟩
  · have : ws = [] := List.eq_nil_of_length_eq_zero (by have := h.len; omega)
    subst this
    exact WRs.nil _ _
  · cases hv
    refine ⟨fun h0 => ⟨g, 0, rfl, lt_of_block hg, fun i hi => ?_⟩, hl, he⟩
    have hN := h.len
    have key : ∀ c u, c < 3 → (wtC (ws.getD i Wt.zero))[c]? = some u → w.cell? ⟨g, 0 + i * 3 + c, none⟩ = some u := by
      intro c u hc hu
      rw [← wtsC_get ws i c hi hc] at hu
      rw [cell_of_row _ _ _ _ _ _ hg, Nat.zero_add, ← Array.getElem?_toList, ← hu, ← ht, List.getElem?_take_of_lt (by omega)]
    exact ⟨key 0 _ (by omega) rfl, key 1 _ (by omega) rfl, key 2 _ (by omega) rfl⟩
theorem WOw.keepS {S : List Nat} {w0 w w' : World} {ro : Option Addr} {N rc : Nat} {ws : List Wt} (h : WOw w0 w ro N rc ws) (hf : Fr S w w') (hn : ∀ k, (Value.slice ro N rc).ownBlock = some k → k ∉ S) : WOw w0 w' ro N rc ws := ⟨h.len, owns_keepI h.row hf hn⟩
theorem WOw.blk {w0 w : World} {ro : Option Addr} {N rc : Nat} {ws : List Wt} (h : WOw w0 w ro N rc ws) {k : Nat} (hk : (Value.slice ro N rc).ownBlock = some k) : w0.heap.size ≤ k ∧ ∃ cur, w.heap[k]? = some (.cells cur 47 (0, 0)) := by
  rcases h.row.2 with ⟨hh, _⟩ | ⟨g, cap, cur, hh, hb, hgg, _⟩
  · rw [hh] at hk; simp [Value.ownBlock] at hk
  · rw [hh] at hk
    simp [Value.ownBlock] at hk
    subst hk
    exact ⟨hb, cur, hgg⟩
theorem Try.undWs9 : Try.prog.underlying 29 = some (.slice 47) := by kernel_rfl
theorem Try.infoWt9 : (Try.prog.info? 47).map (fun i => (i.zero, i.size, i.bytes)) = some (some (.agg #[.string ⟨#[]⟩, .string ⟨#[]⟩, .bool false]), 3, 40) := by kernel_rfl
theorem run_appW (w0 w : World) (ty : TypeId) (ro : Option Addr) (N rc : Nat) (qs : List Wt) (hO : WOw w0 w ro N rc qs) (ad : Addr) (c : Nat) (v : Wt) (hnews : ∀ j u, (wtC v)[j]? = some u → w.cell? (ad.add j) = some u) (hb : N < 1000000) (hsz : w0.heap.size ≤ w.heap.size) :
    ∃ ro' rc' w', (Builtin.append_ #[29, 29] ty #[.slice ro N rc, .slice (some ad) 1 c]).run Try.prog w = .ok (.slice ro' (N + 1) rc') w' ∧ WOw w0 w' ro' (N + 1) rc' (qs ++ [v]) ∧ Fr (Value.slice ro N rc).ownBlock.toList w w' := by
  obtain ⟨i0, hi, hz0, hz1, hz2⟩ : ∃ i, Try.prog.info? 47 = some i ∧ i.zero = some (.agg #[.string ⟨#[]⟩, .string ⟨#[]⟩, .bool false]) ∧ i.size = 3 ∧ i.bytes = 40 := by
    have h := Try.infoWt9
    cases hi : Try.prog.info? 47 with
    | none => rw [hi] at h; cases h
    | some i =>
      rw [hi] at h
      simp only [Option.map_some, Option.some.injEq, Prod.mk.injEq] at h
      exact ⟨i, rfl, h.1, h.2.1, h.2.2⟩
  have h1c : ∀ u ∈ wtC v, u.oneCell' = true := fun u hu => wtsC_oneCell [v] u (by simpa [wtsC] using hu)
  obtain ⟨v', w', hr, h2, h3, _, _⟩ := run_append_own_at (P := Try.prog) w w0.heap.size 29 ty 47 i0 _ 3 40 Try.undWs9 hi hz0 hz1 hz2 rfl (by decide) (.slice ro N rc) N (wtsC qs) hO.row ad 1 c (wtC v) rfl hnews h1c (by unfold maxLen; omega) (by omega) hsz
  obtain ⟨ro', rc', rfl⟩ : ∃ bo cap', v' = .slice bo (N + 1) cap' := by
    rcases h2.2 with ⟨_, h1⟩ | ⟨g, cap, _, rfl, _⟩
    · omega
    · exact ⟨_, cap, rfl⟩
  refine ⟨ro', rc', w', hr, ⟨by rw [hO.len]; simp, ?_⟩, Fr.grown (S := (Value.slice ro N rc).ownBlock.toList) h3 (fun y hy _ => Option.mem_toList.2 hy)⟩
  rw [show wtsC (qs ++ [v]) = wtsC qs ++ wtC v by rw [wtsC_append]; simp [wtsC]]
  exact h2
theorem results_cell1 {fn : Func} {p : Tmp} {ty : TypeId} (h : fn.results = #[.cell p ty]) (tmps : Array Value) (P : Program) (w : World) :
    (results fn tmps).run P w = ((asAddr (tmps.getD p undef)).run P w).andThen fun a w₁ => (loadVar ty a).run P w₁ := by
  simp only [results, h]
  simp [Sem.run_bind, Result.andThen]
theorem two_setCell0 {w : World} {b : Nat} {u v x : Value} {t : TypeId} (h : w.heap[b]? = some (.cells #[u, v] t (0, 0))) : (w.setCell ⟨b, 0, none⟩ x).heap[b]? = some (.cells #[x, v] t (0, 0)) := by
  have hlt := lt_of_block h
  have h' : w.heap[b] = .cells #[u, v] t (0, 0) := by simpa [Array.getElem?_eq_getElem hlt] using h
  show (w.heap.modify b _)[b]? = _
  rw [Array.getElem?_eq_getElem (by simpa using hlt), Array.getElem_modify_self, h']
  rfl
/-- The write of one letter. -/
def let1 (s : ByteArray) (i : Nat) : Wt := ⟨s.extract i (i + 1), noS, false⟩
def lets (s : ByteArray) (n : Nat) : List Wt := (List.range n).map (let1 s)
theorem lets_snoc (s : ByteArray) (n : Nat) : lets s (n + 1) = lets s n ++ [let1 s n] := by simp [lets, List.range_succ]
set_option maxHeartbeats 4000000 in
set_option maxRecDepth 100000 in
theorem txn_any (n : Int) (s : ByteArray) (w : World) (hn : i64 n) (hs : s.size ≤ 100) :
    Calls Try.prog 18 #[.int .i64 n, .string s] w fun e w' => ∃ ro rc, e = .returned (.agg #[.int .i64 n, .slice ro s.size rc]) ∧ WOw w w' ro s.size rc (lets s s.size) ∧ Fr [] w w' := by
  obtain ⟨L, hL⟩ : ∃ L, L = s.size := ⟨_, rfl⟩
  have HL : Hid (L = s.size) := hL
  obtain ⟨w1, HW1⟩ : ∃ w1, Hid ((w.alloc (.cells #[.int .i64 0, .slice none 0 0] 31)).alloc (.cells #[.int .i64 n, .slice none 0 0] 31) = w1) := ⟨_, rfl⟩
  have hF1 : Fr [] w w1 := by rw [← HW1.out]; exact (Fr.alloc _ _ _).then (Fr.alloc _ _ _)
  go_enter Try.func18, Try.ntmps18
  go_wp2_with fail
  rw [HW1.out]
  have hb1 : w1.heap[w.heap.size + 1]? = some (.cells #[.int .i64 n, .slice none 0 0] 31 (0, 0)) := by
    rw [← HW1.out, show w.heap.size + 1 = (w.alloc (.cells #[.int .i64 0, .slice none 0 0] 31)).heap.size from by simp]
    exact heap_alloc_new _ _
  have hb0 : w1.heap[w.heap.size]? = some (.cells #[.int .i64 0, .slice none 0 0] 31 (0, 0)) := by
    rw [← HW1.out]
    exact (Fr.alloc [] _ _).keep (heap_alloc_new w _) (by simp)
  have HB1 : Hid (_ ∧ _) := ⟨hb1, hb0⟩
  clear hb1 hb0 HW1
  go_loopw [6] (fun ii wr => ∃ (i : Nat) (ro : Option Addr) (rc : Nat), ii = .int .i64 i ∧ i ≤ L ∧ Hid (WOw w wr ro i rc (lets s i)) ∧ Hid (wr.heap[w.heap.size + 1]? = some (.cells #[.int .i64 n, .slice ro i rc] 31 (0, 0))) ∧ Hid (wr.heap[w.heap.size]? = some (.cells #[.int .i64 0, .slice none 0 0] 31 (0, 0))) ∧ Hid (Fr [] w wr)) (fun ii _ => L - (RowKit.intOf ii).toNat)
  case atStart => exact ⟨0, none, 0, rfl, Nat.zero_le _, ⟨rfl, rfl, .inl ⟨rfl, rfl⟩⟩, HB1.out.1, HB1.out.2, hF1⟩
  case round =>
    obtain ⟨i, ro, rc, rfl, hiL, HO, HBx, HB0, HF⟩ := hrel
    have t1 : wr.cell? ⟨w.heap.size + 1, 1, none⟩ = some (.slice ro i rc) := by rw [cell_of_row _ _ _ _ _ _ HBx.out]; rfl
    have t0 : wr.cell? ⟨w.heap.size + 1, 0, none⟩ = some (.int .i64 n) := by rw [cell_of_row _ _ _ _ _ _ HBx.out]; rfl
    by_cases hi : i < L
    · obtain ⟨V6, hV6⟩ : ∃ V6, V6 = (wr.alloc (.cells #[.string (s.extract i (i + 1)), .string ⟨#[]⟩, .bool false] 47)).drew := ⟨_, rfl⟩
      have hF6 : Fr [] wr V6 := by rw [hV6]; exact (Fr.alloc _ _ _).then (Fr.drew _ _)
      have hnew : V6.heap[wr.heap.size]? = some (.cells #[.string (s.extract i (i + 1)), .string ⟨#[]⟩, .bool false] 47 (0, 0)) := by rw [hV6]; exact heap_alloc_new wr _
      obtain ⟨ro', rc', V', hr, f1, f2⟩ := run_appW w V6 29 ro i rc _ (HO.out.keepS hF6 (by simp)) ⟨wr.heap.size, 0, none⟩ 1 (let1 s i) (fun j u hu => by
        rw [Addr.add_lit, cell_of_row _ _ _ _ _ _ hnew, Nat.zero_add]
        simpa [wtC, let1, noS] using hu) (by omega) (Nat.le_trans HF.out.size hF6.size)
      rw [← lets_snoc] at f1
      have hnb : ∀ b, (∃ cs, wr.heap[b]? = some (.cells cs 31 (0, 0))) → b ∉ (Value.slice ro i rc).ownBlock.toList := fun b hb hm => by
        obtain ⟨cs, hb⟩ := hb
        obtain ⟨_, cur, hc⟩ := HO.out.blk (Option.mem_toList.1 hm)
        rw [hb] at hc
        cases hc
      have hx' := f2.keep (hF6.keep HBx.out (by simp)) (hnb _ ⟨_, HBx.out⟩)
      have h0' := f2.keep (hF6.keep HB0.out (by simp)) (hnb _ ⟨_, HB0.out⟩)
      have b6 : V6.cell? ⟨w.heap.size + 1, 1, none⟩ = some (.slice ro i rc) := by rw [cell_of_row _ _ _ _ _ _ (hF6.keep HBx.out (by simp))]; rfl
      have k1 : V'.cell? ⟨w.heap.size + 1, 1, none⟩ = some (.slice ro i rc) := by rw [cell_of_row _ _ _ _ _ _ hx']; rfl
      have k2 : V'.frozen? ⟨w.heap.size + 1, 1, none⟩ = false := by unfold World.frozen?; rw [hx']; rfl
      have hst : Fr [w.heap.size + 1] V' (V'.setCell ⟨w.heap.size + 1, 1, none⟩ (.slice ro' (i + 1) rc')) := Fr.set _ _ _ (by simp)
      have HR : Hid (WOw w (V'.setCell ⟨w.heap.size + 1, 1, none⟩ (.slice ro' (i + 1) rc')) ro' (i + 1) rc' (lets s (i + 1)) ∧ (V'.setCell ⟨w.heap.size + 1, 1, none⟩ (.slice ro' (i + 1) rc')).heap[w.heap.size + 1]? = some (.cells #[.int .i64 n, .slice ro' (i + 1) rc'] 31 (0, 0)) ∧ (V'.setCell ⟨w.heap.size + 1, 1, none⟩ (.slice ro' (i + 1) rc')).heap[w.heap.size]? = some (.cells #[.int .i64 0, .slice none 0 0] 31 (0, 0)) ∧ Fr [] w (V'.setCell ⟨w.heap.size + 1, 1, none⟩ (.slice ro' (i + 1) rc'))) := by
        refine ⟨f1.keepS hst (fun k hk hm => ?_), two_setCell1 hx', hst.keep h0' (by simp), (((HF.out.then hF6).on f2 (fun x hx => (HO.out.blk (Option.mem_toList.1 hx)).1))).on hst (by simp)⟩
        obtain ⟨_, cur, hc⟩ := f1.blk hk
        simp at hm
        rw [hm, hx'] at hc
        cases hc
      obtain ⟨v7, hv7⟩ : ∃ v7, v7 = Value.slice ro i rc := ⟨_, rfl⟩
      rw [← hv7] at hr t1 b6 k1
      have HV7 : Hid (v7 = Value.slice ro i rc) := hv7
      rw [hV6] at hr b6
      clear hv7 hV6 hF6 hnew f1 f2 hnb hx' h0' hst HO HBx HB0
      simp [go_sem] at hr
      have hi2 : i < s.size := by rw [← HL.out]; exact hi
      go_upto_region 5 with fail
      go_region
      all_goals (go_wp2; exact ⟨⟨i + 1, ro', rc', by simp, by omega, HR.out.1, HR.out.2.1, HR.out.2.2.1, HR.out.2.2.2⟩, by simp [RowKit.intOf]; omega⟩)
    · obtain rfl : L = i := by omega
      have z0 : wr.cell? ⟨w.heap.size, 0, none⟩ = some (.int .i64 0) := by rw [cell_of_row _ _ _ _ _ _ HB0.out]; rfl
      have z1 : wr.cell? ⟨w.heap.size, 1, none⟩ = some (.slice none 0 0) := by rw [cell_of_row _ _ _ _ _ _ HB0.out]; rfl
      have y0 : wr.frozen? ⟨w.heap.size, 0, none⟩ = false := by unfold World.frozen?; rw [HB0.out]; rfl
      have y1 : wr.frozen? ⟨w.heap.size, 1, none⟩ = false := by unfold World.frozen?; rw [HB0.out]; rfl
      have hil : ¬ ((L : Int) < L) := by omega
      subst hL
      obtain ⟨W1, hW1⟩ : ∃ W1, W1 = wr.setCell ⟨w.heap.size, 0, none⟩ (.int .i64 n) := ⟨_, rfl⟩
      obtain ⟨Wf, hWf⟩ : ∃ Wf, Wf = W1.setCell ⟨w.heap.size, 1, none⟩ (.slice ro s.size rc) := ⟨_, rfl⟩
      have g1 : W1.heap[w.heap.size]? = some (.cells #[.int .i64 n, .slice none 0 0] 31 (0, 0)) := by rw [hW1]; exact two_setCell0 HB0.out
      have g2 : Wf.heap[w.heap.size]? = some (.cells #[.int .i64 n, .slice ro s.size rc] 31 (0, 0)) := by rw [hWf]; exact two_setCell1 g1
      have hFs : Fr [w.heap.size] wr Wf := by rw [hWf, hW1]; exact (Fr.set _ _ _ (by simp)).then (Fr.set _ _ _ (by simp))
      have HR : Hid (WOw w Wf ro s.size rc (lets s s.size) ∧ Fr [] w Wf) := by
        refine ⟨HO.out.keepS hFs (fun k hk hm => ?_), HF.out.on hFs (by simp)⟩
        obtain ⟨_, cur, hc⟩ := HO.out.blk hk
        simp at hm
        rw [hm, HB0.out] at hc
        cases hc
      have q0 : Wf.cell? ⟨w.heap.size, 0, none⟩ = some (.int .i64 n) := by rw [cell_of_row _ _ _ _ _ _ g2]; rfl
      have q1 : Wf.cell? ⟨w.heap.size, 1, none⟩ = some (.slice ro s.size rc) := by rw [cell_of_row _ _ _ _ _ _ g2]; rfl
      have HWf : Hid (W1 = wr.setCell ⟨w.heap.size, 0, none⟩ (.int .i64 n) ∧ Wf = W1.setCell ⟨w.heap.size, 1, none⟩ (.slice ro s.size rc)) := ⟨hW1, hWf⟩
      clear g1 g2 hFs hWf hW1
      go_wp2
      rw [← HWf.out.1, ← HWf.out.2]
      refine bodyPost_ret (v := (.agg #[.int .i64 n, .slice ro s.size rc])) (by rw [results_cell1 rfl]; go_simp) rfl ?_
      exact ⟨ro, rc, rfl, HR.out⟩
end Go.Proofs.Ytdcmjoildfofcaa
