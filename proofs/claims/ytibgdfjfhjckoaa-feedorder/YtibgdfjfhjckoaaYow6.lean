/- The document's source of records: contracts of Own, and how a source lies in memory; Last, Asked. Conditions as each names them. -/
import Derived.Test.YtibgdfjfhjckoaaOw6
import Derived.Test.YtibgdfjfhjckoaaNew6
namespace Go.Proofs.Ytibgdfjfhjckoaa
open Go.ChangeShapes Go.WideShapes Go.ChangeAt Go.RowKit Go.Lib
set_option linter.unusedVariables false
set_option linter.unusedSimpArgs false

theorem own_shapeB {w : World} {base : Nat} {e : TypeId} {size : Nat} {v : Value} {n : Nat} {xs : List Value} (h : w.ownsRow base e size v n xs) : ∃ bo cap, v = .slice bo n cap := by
  rcases h.2 with ⟨rfl, rfl⟩ | ⟨g, cap, _, rfl, _⟩
  · exact ⟨none, 0, rfl⟩
  · exact ⟨_, cap, rfl⟩

set_option maxHeartbeats 4000000 in
set_option maxRecDepth 100000 in
theorem yown_any (n : Int) (ao : Option Addr) (L cap : Nat) (ws : List Wt) (w : World) (ht : TArg w n ao L cap ws) (hL : L ≤ 32) :
    Calls Try.prog 51 #[.agg #[.int .i64 n, .slice ao L cap]] w fun e w' => ∃ bo rc, e = .returned (.agg #[.int .i64 n, .slice bo L rc]) ∧ WOw w w' bo L rc ws ∧ Fr [] w w' := by
  have HL : Hid (L = ws.length) := ht.len
  obtain ⟨i0, hi, hz0, hz1, hz2⟩ := info_parts Try.infoWt9
  obtain ⟨w0, HW0⟩ : ∃ w0, Hid ((w.alloc (.cells #[.int .i64 n, .slice ao L cap] 42)).alloc (.cells #[.int .i64 0, .slice none 0 0] 42) = w0) := ⟨_, rfl⟩
  have hF0 : Fr [] w w0 := by rw [← HW0.out]; exact (Fr.alloc [] w _).then (Fr.alloc [] _ _)
  have hP0 : B2 w0 w.heap.size (.int .i64 n) (.slice ao L cap) := ⟨by rw [← HW0.out]; exact (Below.heap_alloc _ _ _ (by simp)).trans (heap_alloc_new w _)⟩
  have hT0 : B2 w0 (w.heap.size + 1) (.int .i64 0) (.slice none 0 0) := ⟨by rw [← HW0.out]; have := heap_alloc_new (w.alloc (.cells #[.int .i64 n, .slice ao L cap] 42)) (.cells #[.int .i64 0, .slice none 0 0] 42); rw [World.size_alloc] at this; exact this⟩
  have hs0 : w.heap.size + 2 ≤ w0.heap.size := by rw [← HW0.out]; simp
  obtain ⟨p0, p1⟩ : _ ∧ _ := ⟨hP0.c0, hP0.c1⟩
  have hW0 := ht.rs.keep hF0
  go_enter Try.func51, Try.ntmps51
  go_upto_region 1 with fail
  rw [HW0.out]
  clear HW0
  by_cases h0 : 0 < L
  · obtain ⟨b, off, e1, _, _⟩ := hW0.lies (by have := HL.out; omega)
    subst e1
    have HS : Hid (∀ j u, (wtsC ws)[j]? = some u → w0.cell? ((⟨b, off, none⟩ : Addr).add j) = some u) := hW0.src (by have := HL.out; omega)
    go_wp2_with (at_builtin; refine wpList_append_own _ rfl (.tmp 4) (.tmp 6) 40 rfl w.heap.size 89 i0 _ 3 40 Try.undWs9 hi hz0 hz1 hz2 rfl (by decide) (.slice none 0 0) 0 [] rfl (World.ownsRow_nil _ _ _ _) ⟨b, off, none⟩ L cap (wtsC ws) rfl (by rw [wtsC_length, HL.out]) HS.out (wtsC_oneCell ws) ?c3 ?c4 ?c5 ?_)
    case c3 => unfold maxLen; omega
    case c4 => omega
    case c5 => omega
    intro v' w1 hown hgrow _
    obtain ⟨bo, rc, rfl⟩ := own_shapeB hown
    have hF1 : Fr [] w0 w1 := Fr.grown (S := []) hgrow (fun k hk => by simp [Value.ownBlock] at hk)
    have hO1 : WOw w w1 bo L rc ws := ⟨HL.out, hown⟩
    have hP1 := hP0.keep hF1
    have hT1 := hT0.keep hF1
    obtain ⟨r0, r1, s0, s1, s2, s3⟩ : _ ∧ _ ∧ _ ∧ _ ∧ _ ∧ _ := ⟨hP1.c0, hP1.c1, hT1.c0, hT1.c1, hT1.f0, hT1.f1⟩
    have hF3 := Fr.box2 w1 (w.heap.size + 1) (.int .i64 n) (.slice bo L rc)
    have HF : Hid (_ ∧ _) := ⟨hO1.keepS hF3 (fun k hk hm => by
      simp only [List.mem_singleton] at hm
      subst hm
      obtain ⟨_, c, e⟩ := owns_cells hown hk
      rw [hT1.box] at e
      simp at e), (hF0.then hF1).on hF3 (by intro x hx; simp at hx; omega)⟩
    clear hP1 hT1 hF3 hO1 hF1 hown hgrow hP0 hT0 hF0 hW0 HS
    go_wp2_with fail
    refine bodyPost_ret (v := .agg #[.int .i64 n, .slice bo L rc]) (by rw [res_cell1 rfl]; go_simp) rfl ⟨bo, rc, rfl, HF.out⟩
  · have hL0 : L = 0 := by omega
    subst hL0
    have hws : ws = [] := List.eq_nil_of_length_eq_zero HL.out.symm
    subst hws
    obtain ⟨s0, s1, s2, s3⟩ : _ ∧ _ ∧ _ ∧ _ := ⟨hT0.c0, hT0.c1, hT0.f0, hT0.f1⟩
    have hF3 := Fr.box2 w0 (w.heap.size + 1) (.int .i64 n) (.slice none 0 0)
    have HF : Hid (Fr [] w _) := hF0.on hF3 (by intro x hx; simp at hx; omega)
    clear hF3 hP0 hT0 hF0 hW0
    go_wp2_with (at_builtin; refine wpList_append_zero rfl (.tmp 4) (.tmp 6) 40 rfl 89 i0 Try.undWs9 hi rfl ao cap rfl ?_)
    go_wp2_with fail
    refine bodyPost_ret (v := .agg #[.int .i64 n, .slice none 0 0]) (by rw [res_cell1 rfl]; go_simp) rfl ⟨none, 0, rfl, ⟨rfl, World.ownsRow_nil _ _ _ _⟩, HF.out⟩

/-- The document's source: its struct lies in block g, its log is a row of its own, the numbers asked are qs. -/
structure YSrc (w0 w : World) (g L : Nat) (lo : Option Addr) (lc : Nat) (us : List Tm) (v : Value) (qs : List Nat) : Prop where
  box : w.heap[g]? = some (.cells #[.slice lo L lc, v] 87 (0, 0))
  log : TOw w0 w lo L lc us
  ok : okL 1 (txs us)
  few : L ≤ 65536
  row : w.ownsRow 0 3 1 v qs.length (ints qs)
  gn : w0.heap.size ≤ g
  rn : ∀ k, v.ownBlock = some k → w0.heap.size ≤ k
section
variable {w0 w w' : World} {g L lc : Nat} {lo : Option Addr} {us : List Tm} {v : Value} {qs : List Nat}
theorem YSrc.lt (h : YSrc w0 w g L lo lc us v qs) : g < w.heap.size := lt_of_block h.box
theorem YSrc.c0 (h : YSrc w0 w g L lo lc us v qs) : w.cell? ⟨g, 0, none⟩ = some (.slice lo L lc) := by simp [World.cell?, h.box]
theorem YSrc.c1 (h : YSrc w0 w g L lo lc us v qs) : w.cell? ⟨g, 1, none⟩ = some v := by simp [World.cell?, h.box]
theorem YSrc.f1 (h : YSrc w0 w g L lo lc us v qs) : w.frozen? ⟨g, 1, none⟩ = false := by simp [World.frozen?, h.box]
theorem YSrc.keep (h : YSrc w0 w g L lo lc us v qs) (hf : Fr [] w w') : YSrc w0 w' g L lo lc us v qs :=
  ⟨hf.keep h.box (by simp), h.log.keepS hf (by simp), h.ok, h.few, owns_keep h.row hf (by simp), h.gn, h.rn⟩
theorem YSrc.trs (h : YSrc w0 w g L lo lc us v qs) : TRs w lo us :=
  h.log.rs h.ok (fun u hu => (okT_few (okL_mem h.ok u.tx (List.mem_map.2 ⟨u, hu, rfl⟩))).2) (by have := h.few; omega)
theorem YSrc.rowAt (h : YSrc w0 w g L lo lc us v qs) {x : Nat} (hx : v.ownBlock = some x) : ∃ cur, w.heap[x]? = some (.cells cur 3 (0, 0)) := (owns_cells h.row hx).2
theorem YSrc.apart (h : YSrc w0 w g L lo lc us v qs) {k : Nat} {cs : Array Value} {t : TypeId} {f : Nat × Nat} (hk : w.heap[k]? = some (.cells cs t f)) (ht : t ≠ 3) : v.ownBlock ≠ some k := by
  intro hv
  obtain ⟨cur, hc⟩ := h.rowAt hv
  rw [hc] at hk
  simp only [Option.some.injEq, Obj.cells.injEq] at hk
  exact ht hk.2.1.symm
/-- It stays where none of its blocks is written. -/
theorem YSrc.keepS {S : List Nat} (h : YSrc w0 w g L lo lc us v qs) (hf : Fr S w w') (hS : ∀ k ∈ S, ∀ cs t, w.heap[k]? = some (.cells cs t (0, 0)) → (t = 3 → v.ownBlock ≠ some k) ∧ t ≠ 87 ∧ (t = 42 ∨ t = 89 → k < w0.heap.size)) : YSrc w0 w' g L lo lc us v qs := by
  have hr : ∀ k, v.ownBlock = some k → k ∉ S := fun k hk hm => by
    obtain ⟨cur, hc⟩ := h.rowAt hk
    exact (hS k hm _ _ hc).1 rfl hk
  refine ⟨hf.keep h.box (fun hm => (hS g hm _ _ h.box).2.1 rfl), ⟨h.log.len, owns_keepB h.log.row hf (fun k hk hm => ?_), fun u hu => (h.log.each u hu).keepS hf (fun k hk hm => ?_)⟩, h.ok, h.few, owns_keep h.row hf hr, h.gn, h.rn⟩
  · obtain ⟨hb, c, e⟩ := owns_cells h.log.row hk
    have := (hS k hm _ _ e).2.2 (Or.inl rfl)
    omega
  · obtain ⟨hb, c, e⟩ := owns_cells (h.log.each u hu).row hk
    have := (hS k hm _ _ e).2.2 (Or.inr rfl)
    omega
set_option maxHeartbeats 2000000 in
theorem yLast_any (h : YSrc w0 w g L lo lc us v qs) : Calls Try.prog 52 #[.pointer (some ⟨g, 0, none⟩)] w fun e w' => e = .returned (.int .i64 (L : Int)) ∧ w = w' := by
  have c0 := h.c0
  go_enter Try.func52, Try.ntmps52
  go_wp2
  go_ret
  exact ⟨rfl, rfl⟩
end
set_option maxHeartbeats 2000000 in
theorem yLast_nil (w : World) : Calls Try.prog 52 #[.pointer none] w fun e w' => e = .returned (.int .i64 0) ∧ w = w' := by
  go_enter Try.func52, Try.ntmps52
  go_wp2
  go_ret
  exact ⟨rfl, rfl⟩