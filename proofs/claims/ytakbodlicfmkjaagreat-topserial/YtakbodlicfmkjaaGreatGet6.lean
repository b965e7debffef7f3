/- A source of records: contracts of Get and Asked. Conditions as each names them. -/
import Derived.Test.YtakbodlicfmkjaaGreatNew6
import Derived.Test.YtakbodlicfmkjaaGreatPut
import Derived.Laws.ResultCell
namespace Go.Proofs.YtakbodlicfmkjaaGreat.F
open Go.ChangeShapes Go.WideShapes Go.ChangeAt Go.RowKit Go.Lib
set_option linter.unusedVariables false

theorem Tryz.infoI : (Tryz.prog.info? 3).map (fun i => (i.zero, i.size, i.bytes)) = some (some (.int .i64 0), 1, 8) := by kernel_rfl
theorem Tryz.undIs : Tryz.prog.underlying 25 = some (.slice 3) := by kernel_rfl
theorem Tryz.sizeI : (Tryz.prog.info? 3).map (·.size) = some 1 := by kernel_rfl
section
variable {w0 w w' : World} {g lb L : Nat} {ts : List Tm} {v : Value} {qs : List Nat}
theorem Src.apart (h : Src w0 w g lb L ts v qs) {k : Nat} {cs : Array Value} {t : TypeId} {f : Nat × Nat} (hk : w.heap[k]? = some (.cells cs t f)) (ht : t ≠ 3) : v.ownBlock ≠ some k := by
  intro hv
  obtain ⟨cur, hc⟩ := h.rowNe hv
  rw [hc] at hk
  simp only [Option.some.injEq, Obj.cells.injEq] at hk
  exact ht hk.2.1.symm
/-- What of a source an ask may write. -/
def Src.own (g : Nat) (v : Value) : List Nat := g :: v.ownBlock.toList
/-- Behind the append and the store of the new slice. -/
theorem Src.put {w1 : World} {v' : Value} {n N : Nat} {cs : List Value} (h : Src w0 w g lb L ts v qs) (hown : w1.ownsRow 0 3 1 v' N cs) (hN : N = (qs ++ [n]).length) (hcs : cs = ints (qs ++ [n])) (hg : w.grownBy w1 v.ownBlock) {k : Nat} (hm : Moved k v v') (hk : w0.heap.size ≤ k) :
    Src w0 (w1.setCell ⟨g, 2, none⟩ v') g lb L ts v' (qs ++ [n]) ∧ Fr (Src.own g v) w (w1.setCell ⟨g, 2, none⟩ v') := by
  subst hN
  subst hcs
  have hog := h.apart h.box (by decide)
  have hol := h.apart h.log (by decide)
  have hbox := (hg.block g h.lt (fun e => hog e.symm)).trans h.box
  have hlog := (hg.block lb (lt_of_block h.log) (fun e => hol e.symm)).trans h.log
  have hoth : v'.ownBlock ≠ some g := by
    intro hv
    rcases hown.2 with ⟨rfl, _⟩ | ⟨g', cap, cur, rfl, _, hgg, _⟩
    · simp [Value.ownBlock] at hv
    · simp [Value.ownBlock] at hv
      subst hv
      rw [hgg] at hbox
      simp at hbox
  have hlg : lb ≠ g := by
    intro e
    subst e
    have := h.box
    rw [h.log] at this
    simp at this
  have hF : Fr (Src.own g v) w (w1.setCell ⟨g, 2, none⟩ v') := (Fr.grown (S := Src.own g v) hg (by intro k hk _; simp [Src.own, hk])).then (Fr.set _ _ _ (by simp [Src.own]))
  refine ⟨⟨three_setCell2 hbox, (Fr.set (S := [g]) w1 ⟨g, 2, none⟩ v' (by simp)).keep hlog (by simpa using hlg), h.len, h.few, fun t ht => (h.each t ht).keepS hF ?_, ownsRow_setCell_other hown hoth _, h.gn, h.ln, hm.lt hk h.rn⟩, hF⟩
  intro j hj hh
  simp only [Src.own, List.mem_cons, Option.mem_toList] at hh
  rcases hh with rfl | hh
  · rw [h.box] at hj; simp at hj
  · exact h.apart hj (by decide) hh

set_option maxHeartbeats 4000000 in
set_option maxRecDepth 100000 in
theorem get_no (h : Src w0 w g lb L ts v qs) (n : Nat) (hn : n < 1 ∨ L < n) (hn2 : n < 2 ^ 40) :
    Calls Tryz.prog 52 #[.pointer (some ⟨g, 0, none⟩), .int .i64 (n : Int)] w fun e w' => e = .returned (.tuple #[.agg #[.int .i64 0, .slice none 0 0], .int .i64 1]) ∧ Fr [] w w' := by
  have hF0 : Fr [] w (w.alloc (.cells #[.int .i64 0, .slice none 0 0] 59)) := Fr.alloc _ _ _
  have h0 := h.keep hF0
  have c1 := h0.c1
  have hfew := h.few
  have hB : B2 (w.alloc (.cells #[.int .i64 0, .slice none 0 0] 59)) w.heap.size (.int .i64 0) (.slice none 0 0) := ⟨heap_alloc_new _ _⟩
  obtain ⟨s0, s1, s2, s3⟩ : _ ∧ _ ∧ _ ∧ _ := ⟨hB.c0, hB.c1, hB.f0, hB.f1⟩
  have hF1 := hF0.on (Fr.box2 (w.alloc (.cells #[.int .i64 0, .slice none 0 0] 59)) w.heap.size (.int .i64 0) (.slice none 0 0)) (by simp)
  obtain ⟨W, HW⟩ : ∃ W, Hid (w.alloc (.cells #[.int .i64 0, .slice none 0 0] 59) = W) := ⟨_, rfl⟩
  rw [HW.out] at h0 c1 s0 s1 s2 s3 hF1
  have HF : Hid (Fr [] w ((W.setCell ⟨w.heap.size, 0, none⟩ (.int .i64 0)).setCell ⟨w.heap.size, 1, none⟩ (.slice none 0 0))) := hF1
  clear hF0 hB hF1
  go_enter Tryz.func52, Tryz.ntmps52
  go_upto_region 1 with fail
  rw [HW.out]
  clear HW
  go_wp2_with fail
  refine (sThere_any h0).mono ?_
  rintro e w1 ⟨rfl, rfl⟩
  rcases hn with hn | hn
  · obtain rfl : n = 0 := by omega
    go_wp2
    refine bodyPost_ret (v := .tuple #[.agg #[.int .i64 0, .slice none 0 0], .int .i64 1]) (by rw [results_cell_tmp rfl]; go_simp) rfl ⟨rfl, HF.out⟩
  · have hn1 : ¬ n < 1 := by omega
    go_wp2
    refine bodyPost_ret (v := .tuple #[.agg #[.int .i64 0, .slice none 0 0], .int .i64 1]) (by rw [results_cell_tmp rfl]; go_simp) rfl ⟨rfl, HF.out⟩

set_option maxHeartbeats 8000000 in
set_option maxRecDepth 100000 in
theorem get_ok (h : Src w0 w g lb L ts v qs) (n : Nat) (hn : 1 ≤ n) (hnL : n ≤ L) (hq : qs.length < 2 ^ 40) (h00 : w0.heap.size ≤ w.heap.size) (t : Tm) (ht : t = ts.getD (n - 1) Tm.zero) :
    Calls Tryz.prog 52 #[.pointer (some ⟨g, 0, none⟩), .int .i64 (n : Int)] w fun e w' => ∃ k v', e = .returned (.tuple #[.agg #[.int .i64 t.n, .slice (some ⟨k, 0, none⟩) t.L t.L], .int .i64 0]) ∧ w.heap.size ≤ k ∧ w'.heap[k]? = some (.cells (wtsC t.ws).toArray 56 (0, 0)) ∧
      Src w0 w' g lb L ts v' (qs ++ [n]) ∧ Fr (Src.own g v) w w' ∧ Moved w.heap.size v v' := by
  obtain ⟨iI, hiI, hzI, hsI, hbI⟩ := info_parts Tryz.infoI
  have hfew := h.few
  have HN : Hid (n - 1 < ts.length) := by show _ < _; have := h.len; omega
  have HT : Hid (t = ts.getD (n - 1) Tm.zero) := ht
  obtain ⟨ao, cap, hv⟩ := own_shape w h.row
  obtain ⟨N, hN⟩ : ∃ N, N = qs.length := ⟨_, rfl⟩
  rw [← hN] at hv hq
  have HL : Hid (N = qs.length) := hN
  subst hv
  clear hN ht
  have hF0 : Fr [] w (w.alloc (.cells #[.int .i64 0, .slice none 0 0] 59)) := Fr.alloc _ _ _
  have h0 := h.keep hF0
  have hB : B2 (w.alloc (.cells #[.int .i64 0, .slice none 0 0] 59)) w.heap.size (.int .i64 0) (.slice none 0 0) := ⟨heap_alloc_new _ _⟩
  have hs0 : (w.alloc (.cells #[.int .i64 0, .slice none 0 0] 59)).heap.size = w.heap.size + 1 := by simp
  obtain ⟨W, HW⟩ : ∃ W, Hid (w.alloc (.cells #[.int .i64 0, .slice none 0 0] 59) = W) := ⟨_, rfl⟩
  rw [HW.out] at h0 hB hF0 hs0
  have HS0 : Hid (W.heap.size = w.heap.size + 1) := hs0
  clear hs0
  obtain ⟨c1, c2, f2⟩ : _ ∧ _ ∧ _ := ⟨h0.c1, h0.c2, h0.f2⟩
  have hgW := h0.lt
  have HR : Hid (W.ownsRow 0 3 1 (.slice ao N cap) N (ints qs)) := by show World.ownsRow _ _ _ _ _ _ _; have := h0.row; rw [← HL.out] at this; exact this
  have hn1 : ¬ n < 1 := by omega
  have hnL2 : ¬ L < n := by omega
  go_enter Tryz.func52, Tryz.ntmps52
  go_upto_region 1 with fail
  rw [HW.out]
  clear HW
  go_wp2_with fail
  refine (sThere_any h0).mono ?_
  rintro e w1 ⟨rfl, rfl⟩
  go_upto_region 5 with fail
  go_wp2_with (at_builtin; go_loud (refine wpList_app1 _ rfl (.tmp 28) (.tmp 30) 25 rfl 3 iI (.int .i64 0) 1 8 Tryz.undIs hiI hzI hsI hbI rfl (by decide) _ N _ rfl (HR.out.alloc _) ⟨W.heap.size, 0, none⟩ 1 [.int .i64 (n : Int)] rfl rfl ?c1 ?c2 ?c3 ?c4 ?_))
  case c1 => intro j u hj; match j, hj with | 0, hj => simp at hj; subst hj; simp [Addr.add]
  case c2 => intro u hu; simp at hu; subst hu; rfl
  case c3 => omega
  case c4 => unfold maxLen; omega
  intro g' cap' w1 hown hgrow hmov
  have hFa : Fr [] W (W.alloc (.cells #[.int .i64 (n : Int)] 3)) := Fr.alloc _ _ _
  have hSa := h0.keep hFa
  have hka : w.heap.size + 2 ≤ (W.alloc (.cells #[.int .i64 (n : Int)] 3)).heap.size := by have := HS0.out; simp; omega
  obtain ⟨hS1, hF1⟩ := hSa.put (n := n) hown (by simp [HL.out]) (by rw [ints_append]; rfl) hgrow hmov (by have := HS0.out; omega)
  have hbB : B2 (W.alloc (.cells #[.int .i64 (n : Int)] 3)) w.heap.size (.int .i64 0) (.slice none 0 0) := hB.keep hFa
  have hb1 := hSa.apart hbB.box (by decide)
  have hgw := h.lt
  have hlw := lt_of_block h.log
  have hB1 : B2 (w1.setCell ⟨g, 2, none⟩ (.slice (some ⟨g', 0, none⟩) (N + 1) cap')) w.heap.size (.int .i64 0) (.slice none 0 0) := ⟨hF1.keep hbB.box (by
    simp only [Src.own, List.mem_cons, Option.mem_toList, not_or]
    exact ⟨by omega, fun hh => hb1 hh⟩)⟩
  have c2' : w1.cell? ⟨g, 2, none⟩ = some (.slice ao N cap) := by
    have := hgrow.block g hSa.lt (fun e => hSa.apart hSa.box (by decide) e.symm)
    simp [World.cell?, this, hSa.box]
  have f2' : w1.frozen? ⟨g, 2, none⟩ = false := by
    have := hgrow.block g hSa.lt (fun e => hSa.apart hSa.box (by decide) e.symm)
    simp [World.frozen?, this, hSa.box]
  have hG1 : Fr (Src.own g (.slice ao N cap)) w (w1.setCell ⟨g, 2, none⟩ (.slice (some ⟨g', 0, none⟩) (N + 1) cap')) := ((hF0.then hFa).mono (by simp)).then hF1
  have hM1 : Moved w.heap.size (.slice ao N cap) (.slice (some ⟨g', 0, none⟩) (N + 1) cap') := (Moved.refl _ _).trans hmov (by have := HS0.out; omega)
  obtain ⟨w2, HW2⟩ : ∃ w2, Hid (w1.setCell ⟨g, 2, none⟩ (.slice (some ⟨g', 0, none⟩) (N + 1) cap') = w2) := ⟨_, rfl⟩
  rw [HW2.out] at hS1 hB1 hG1
  obtain ⟨v', hv'⟩ : ∃ v' : Value, v' = .slice (some ⟨g', 0, none⟩) (N + 1) cap' := ⟨_, rfl⟩
  have d1 := hS1.c1
  have hTR := hS1.trs
  have hx := hTR.each _ (tgetD_mem ts (n - 1) HN.out)
  have hokx := (hS1.each _ (tgetD_mem ts (n - 1) HN.out))
  obtain ⟨bb, off, e9, _, hc⟩ := hTR.lies (by have := HN.out; omega)
  cases e9
  have hcx := hc (n - 1) HN.out
  rw [← HT.out] at hx hokx hcx
  obtain ⟨tn, xo, M, cm, ws⟩ := t
  obtain ⟨x0, x1⟩ := hcx
  simp only at x0 x1
  have hxa : TArg w2 tn xo M cm ws := hx
  have hM32 : M ≤ 32 := by obtain ⟨_, _, _, e5, _, _, e6⟩ := hokx; have := e6.2.2.1; simp only at e5 this; omega
  have hnn : (n : Int) - 1 = ((n - 1 : Nat) : Int) := by omega
  obtain ⟨m, hm⟩ : ∃ m, n = m + 1 := ⟨n - 1, by omega⟩
  subst hm
  simp only [Nat.add_sub_cancel, Nat.zero_add] at x0 x1
  clear hown hgrow hmov hbB hb1 hSa hFa hF1 hB hF0 hc hnn hx hokx c1 c2 f2 HR h h0
  go_upto_region 6 with fail
  rw [HW2.out]
  clear HW2 c2' f2'
  go_wp2_with fail
  refine (copied_any tn xo M cm ws _ hxa hM32).mono ?_
  rintro e w4 ⟨k, rfl, hk, hrow4, hF4⟩
  have hB4 := hB1.keep hF4
  obtain ⟨s0, s1, s2, s3⟩ : _ ∧ _ ∧ _ ∧ _ := ⟨hB4.c0, hB4.c1, hB4.f0, hB4.f1⟩
  have hF5 := Fr.box2 w4 w.heap.size (.int .i64 tn) (.slice (some ⟨k, 0, none⟩) M M)
  have hwk : w.heap.size < k := by have := hB1.lt; omega
  have hS4 := hS1.keep hF4
  have hS5 : Src w0 ((w4.setCell ⟨w.heap.size, 0, none⟩ (.int .i64 tn)).setCell ⟨w.heap.size, 1, none⟩ (.slice (some ⟨k, 0, none⟩) M M)) g lb L ts (.slice (some ⟨g', 0, none⟩) (N + 1) cap') (qs ++ [m + 1]) := by
    have a1 := hS4.apart hB4.box (by decide)
    refine ⟨hF5.keep hS4.box (by simp; omega), hF5.keep hS4.log ?_, hS4.len, hS4.few, fun t ht => (hS4.each t ht).keepS hF5 ?_, owns_keep hS4.row hF5 ?_, hS4.gn, hS4.ln, hS4.rn⟩
    · simp; omega
    · intro j hj hh
      simp only [List.mem_singleton] at hh
      subst hh
      rw [hB4.box] at hj
      simp at hj
    · intro j hj hh
      simp only [List.mem_singleton] at hh
      subst hh
      exact a1 hj
  have HE : Hid (_ ∧ _ ∧ _) := ⟨hF5.keep hrow4 (by simp; omega), hS5, (hG1.then (hF4.mono (by simp))).trans hF5 (U := Src.own g (.slice ao N cap)) (fun _ x _ => x) (by intro x hx hl; simp at hx; omega)⟩
  clear hF5 hS5 hS4 hS1 hB4 hB1 hG1 hF4 hrow4
  go_wp2
  refine bodyPost_ret (v := .tuple #[.agg #[.int .i64 tn, .slice (some ⟨k, 0, none⟩) M M], .int .i64 0]) (by rw [results_cell_tmp rfl]; go_simp) rfl ⟨k, rfl, by omega, HE.out.1, _, HE.out.2.1, HE.out.2.2, hM1⟩
end
end Go.Proofs.YtakbodlicfmkjaaGreat.F
