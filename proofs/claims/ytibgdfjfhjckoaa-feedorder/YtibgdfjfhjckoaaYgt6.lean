/- The document's source of records: contracts of New and Get. Conditions as each names them. -/
import Derived.Test.YtibgdfjfhjckoaaNos6
import Derived.Test.YtibgdfjfhjckoaaChk7
namespace Go.Proofs.Ytibgdfjfhjckoaa
open Go.ChangeShapes Go.WideShapes Go.ChangeAt Go.RowKit Go.Lib
set_option linter.unusedVariables false
set_option linter.unusedSimpArgs false

theorem TOw.keepT {S : List Nat} {w0 w w' : World} {ro : Option Addr} {N rc : Nat} {us : List Tm} (h : TOw w0 w ro N rc us) (hf : Fr S w w') (hS : ∀ k ∈ S, ∀ cs t, w.heap[k]? = some (.cells cs t (0, 0)) → t ≠ 42 ∧ t ≠ 89) : TOw w0 w' ro N rc us := by
  refine ⟨h.len, owns_keepB h.row hf (fun k hk hm => ?_), fun u hu => (h.each u hu).keepS hf (fun k hk hm => ?_)⟩
  · obtain ⟨_, c, e⟩ := owns_cells h.row hk
    exact (hS k hm _ _ e).1 rfl
  · obtain ⟨_, c, e⟩ := owns_cells (h.each u hu).row hk
    exact (hS k hm _ _ e).2 rfl
theorem TOw.keepO {S : List Nat} {w0 w w1 w2 : World} {ro : Option Addr} {N rc : Nat} {us : List Tm} (ho : TOw w0 w ro N rc us) (h : TOw w0 w1 ro N rc us) (hf : Fr S w1 w2) (hS : ∀ k ∈ S, w.heap.size ≤ k) : TOw w0 w2 ro N rc us := by
  refine ⟨h.len, owns_keepB h.row hf (fun k hk hm => ?_), fun u hu => (h.each u hu).keepS hf (fun k hk hm => ?_)⟩
  · obtain ⟨_, c, e⟩ := owns_cells ho.row hk
    have := lt_of_block e
    have := hS k hm
    omega
  · obtain ⟨_, c, e⟩ := owns_cells (ho.each u hu).row hk
    have := lt_of_block e
    have := hS k hm
    omega
section
variable {w0 w w' : World} {g L lc : Nat} {lo : Option Addr} {us : List Tm} {v : Value} {qs : List Nat}
def YSrc.own (g : Nat) (v : Value) : List Nat := g :: v.ownBlock.toList
theorem YSrc.put {w1 : World} {v' : Value} {n N : Nat} {cs : List Value} (h : YSrc w0 w g L lo lc us v qs) (hown : w1.ownsRow 0 3 1 v' N cs) (hN : N = (qs ++ [n]).length) (hcs : cs = ints (qs ++ [n])) (hg : w.grownBy w1 v.ownBlock) {k : Nat} (hm : Moved k v v') (hk : w0.heap.size ≤ k) :
    YSrc w0 (w1.setCell ⟨g, 1, none⟩ v') g L lo lc us v' (qs ++ [n]) ∧ Fr (YSrc.own g v) w (w1.setCell ⟨g, 1, none⟩ v') := by
  subst hN
  subst hcs
  have hog := h.apart h.box (by decide)
  have hbox := (hg.block g h.lt (fun e => hog e.symm)).trans h.box
  have hoth : v'.ownBlock ≠ some g := by
    intro hv
    rcases hown.2 with ⟨rfl, _⟩ | ⟨g', cap, cur, rfl, _, hgg, _⟩
    · simp [Value.ownBlock] at hv
    · simp [Value.ownBlock] at hv
      subst hv
      rw [hgg] at hbox
      simp at hbox
  have hF : Fr (YSrc.own g v) w (w1.setCell ⟨g, 1, none⟩ v') := (Fr.grown (S := YSrc.own g v) hg (by intro k hk _; simp [YSrc.own, hk])).then (Fr.set _ _ _ (by simp [YSrc.own]))
  refine ⟨⟨two_setCell1 hbox, h.log.keepT hF ?_, h.ok, h.few, ownsRow_setCell_other hown hoth _, h.gn, hm.lt hk h.rn⟩, hF⟩
  intro j hj cs t ht
  simp only [YSrc.own, List.mem_cons, Option.mem_toList] at hj
  rcases hj with rfl | hj
  · rw [h.box] at ht
    simp only [Option.some.injEq, Obj.cells.injEq] at ht
    rw [← ht.2.1]
    exact ⟨by decide, by decide⟩
  · obtain ⟨cur, hc⟩ := h.rowAt hj
    rw [hc] at ht
    simp only [Option.some.injEq, Obj.cells.injEq] at ht
    rw [← ht.2.1]
    exact ⟨by decide, by decide⟩

set_option maxHeartbeats 4000000 in
set_option maxRecDepth 100000 in
theorem yGet_no (h : YSrc w0 w g L lo lc us v qs) (n : Int) (hn : n < 1 ∨ (L : Int) < n) :
    Calls Try.prog 55 #[.pointer (some ⟨g, 0, none⟩), .int .i64 n] w fun e w' => e = .returned (.tuple #[.agg #[.int .i64 0, .slice none 0 0], .int .i64 1]) ∧ Fr [] w w' := by
  have hF0 : Fr [] w (w.alloc (.cells #[.int .i64 0, .slice none 0 0] 42)) := Fr.alloc _ _ _
  have h0 := h.keep hF0
  have c0 := h0.c0
  have hfew := h.few
  have hB : B2 (w.alloc (.cells #[.int .i64 0, .slice none 0 0] 42)) w.heap.size (.int .i64 0) (.slice none 0 0) := ⟨heap_alloc_new _ _⟩
  obtain ⟨s0, s1, s2, s3⟩ : _ ∧ _ ∧ _ ∧ _ := ⟨hB.c0, hB.c1, hB.f0, hB.f1⟩
  have hF1 := hF0.on (Fr.box2 (w.alloc (.cells #[.int .i64 0, .slice none 0 0] 42)) w.heap.size (.int .i64 0) (.slice none 0 0)) (by simp)
  obtain ⟨W, HW⟩ : ∃ W, Hid (w.alloc (.cells #[.int .i64 0, .slice none 0 0] 42) = W) := ⟨_, rfl⟩
  rw [HW.out] at h0 c0 s0 s1 s2 s3 hF1
  have HF : Hid (Fr [] w ((W.setCell ⟨w.heap.size, 0, none⟩ (.int .i64 0)).setCell ⟨w.heap.size, 1, none⟩ (.slice none 0 0))) := hF1
  clear hF0 hB hF1
  go_enter Try.func55, Try.ntmps55
  go_upto_region 1 with fail
  rw [HW.out]
  clear HW
  by_cases hn1 : n < 1
  · go_wp2
    refine bodyPost_ret (v := .tuple #[.agg #[.int .i64 0, .slice none 0 0], .int .i64 1]) (by rw [results_cell_tmp rfl]; go_simp) rfl ⟨rfl, HF.out⟩
  · have hn2 : (L : Int) < n := by omega
    go_wp2
    refine bodyPost_ret (v := .tuple #[.agg #[.int .i64 0, .slice none 0 0], .int .i64 1]) (by rw [results_cell_tmp rfl]; go_simp) rfl ⟨rfl, HF.out⟩

set_option maxHeartbeats 8000000 in
set_option maxRecDepth 100000 in
theorem yGet_ok (h : YSrc w0 w g L lo lc us v qs) (n : Nat) (hn : 1 ≤ n) (hnL : n ≤ L) (hq : qs.length < 2 ^ 40) (h00 : w0.heap.size ≤ w.heap.size) (t : Tm) (ht : t = us.getD (n - 1) Tm.zero) :
    Calls Try.prog 55 #[.pointer (some ⟨g, 0, none⟩), .int .i64 (n : Int)] w fun e w' => ∃ bo rc v', e = .returned (.tuple #[.agg #[.int .i64 t.n, .slice bo t.L rc], .int .i64 0]) ∧ WOw w w' bo t.L rc t.ws ∧
      YSrc w0 w' g L lo lc us v' (qs ++ [n]) ∧ Fr (YSrc.own g v) w w' ∧ Moved w.heap.size v v' := by
  obtain ⟨iI, hiI, hzI, hsI, hbI⟩ := info_parts Try.infoI
  have hfew := h.few
  have HN : Hid (n - 1 < us.length) := by show _ < _; have := h.log.len; omega
  have HT : Hid (t = us.getD (n - 1) Tm.zero) := ht
  have HLo : Hid (TOw w0 w lo L lc us) := h.log
  obtain ⟨ao, cap, hv⟩ := own_shape w h.row
  obtain ⟨N, hN⟩ : ∃ N, N = qs.length := ⟨_, rfl⟩
  rw [← hN] at hv hq
  have HL : Hid (N = qs.length) := hN
  subst hv
  clear hN ht
  have hF0 : Fr [] w (w.alloc (.cells #[.int .i64 0, .slice none 0 0] 42)) := Fr.alloc _ _ _
  have h0 := h.keep hF0
  have hB : B2 (w.alloc (.cells #[.int .i64 0, .slice none 0 0] 42)) w.heap.size (.int .i64 0) (.slice none 0 0) := ⟨heap_alloc_new _ _⟩
  have hs0 : (w.alloc (.cells #[.int .i64 0, .slice none 0 0] 42)).heap.size = w.heap.size + 1 := by simp
  obtain ⟨W, HW⟩ : ∃ W, Hid (w.alloc (.cells #[.int .i64 0, .slice none 0 0] 42) = W) := ⟨_, rfl⟩
  rw [HW.out] at h0 hB hF0 hs0
  have HS0 : Hid (W.heap.size = w.heap.size + 1) := hs0
  clear hs0
  obtain ⟨c0, c1, f1⟩ : _ ∧ _ ∧ _ := ⟨h0.c0, h0.c1, h0.f1⟩
  have hgW := h0.lt
  have HR : Hid (W.ownsRow 0 3 1 (.slice ao N cap) N (ints qs)) := by show World.ownsRow _ _ _ _ _ _ _; have := h0.row; rw [← HL.out] at this; exact this
  have hn1 : ¬ n < 1 := by omega
  have hnL2 : ¬ L < n := by omega
  go_enter Try.func55, Try.ntmps55
  go_upto_region 1 with fail
  rw [HW.out]
  clear HW
  go_upto_region 5 with fail
  go_wp2_with (at_builtin; go_loud (refine wpList_app1 _ rfl (.tmp 25) (.tmp 27) 23 rfl 3 iI (.int .i64 0) 1 8 Try.undIs hiI hzI hsI hbI rfl (by decide) _ N _ rfl (HR.out.alloc _) ⟨W.heap.size, 0, none⟩ 1 [.int .i64 (n : Int)] rfl rfl ?c1 ?c2 ?c3 ?c4 ?_))
  case c1 => intro j u hj; match j, hj with | 0, hj => simp at hj; subst hj; simp [Addr.add]
  case c2 => intro u hu; simp at hu; subst hu; rfl
  case c3 => omega
  case c4 => unfold maxLen; omega
  intro g' cap' w1 hown hgrow hmov
  have hFa : Fr [] W (W.alloc (.cells #[.int .i64 (n : Int)] 3)) := Fr.alloc _ _ _
  have hSa := h0.keep hFa
  obtain ⟨hS1, hF1⟩ := hSa.put (n := n) hown (by simp [HL.out]) (by rw [ints_append]; rfl) hgrow hmov (by have := HS0.out; omega)
  have hbB : B2 (W.alloc (.cells #[.int .i64 (n : Int)] 3)) w.heap.size (.int .i64 0) (.slice none 0 0) := hB.keep hFa
  have hb1 := hSa.apart hbB.box (by decide)
  have hgw := h.lt
  have hB1 : B2 (w1.setCell ⟨g, 1, none⟩ (.slice (some ⟨g', 0, none⟩) (N + 1) cap')) w.heap.size (.int .i64 0) (.slice none 0 0) := ⟨hF1.keep hbB.box (by
    simp only [YSrc.own, List.mem_cons, Option.mem_toList, not_or]
    exact ⟨by omega, fun hh => hb1 hh⟩)⟩
  have c1' : w1.cell? ⟨g, 1, none⟩ = some (.slice ao N cap) := by
    have := hgrow.block g hSa.lt (fun e => hSa.apart hSa.box (by decide) e.symm)
    simp [World.cell?, this, hSa.box]
  have f1' : w1.frozen? ⟨g, 1, none⟩ = false := by
    have := hgrow.block g hSa.lt (fun e => hSa.apart hSa.box (by decide) e.symm)
    simp [World.frozen?, this, hSa.box]
  have hG1 : Fr (YSrc.own g (.slice ao N cap)) w (w1.setCell ⟨g, 1, none⟩ (.slice (some ⟨g', 0, none⟩) (N + 1) cap')) := ((hF0.then hFa).mono (by simp)).then hF1
  have hM1 : Moved w.heap.size (.slice ao N cap) (.slice (some ⟨g', 0, none⟩) (N + 1) cap') := (Moved.refl _ _).trans hmov (by have := HS0.out; omega)
  obtain ⟨w2, HW2⟩ : ∃ w2, Hid (w1.setCell ⟨g, 1, none⟩ (.slice (some ⟨g', 0, none⟩) (N + 1) cap') = w2) := ⟨_, rfl⟩
  rw [HW2.out] at hS1 hB1 hG1
  have d0 := hS1.c0
  have hTR := hS1.trs
  have hx := hTR.each _ (tgetD_mem us (n - 1) HN.out)
  have hokx := okL_mem hS1.ok (us.getD (n - 1) Tm.zero).tx (List.mem_map.2 ⟨_, tgetD_mem us (n - 1) HN.out, rfl⟩)
  obtain ⟨bb, off, e9, _, hc⟩ := hTR.lies (by have := HN.out; omega)
  subst e9
  have hcx := hc (n - 1) HN.out
  rw [← HT.out] at hx hokx hcx
  obtain ⟨tn, xo, M, cm, ws⟩ := t
  obtain ⟨x0, x1⟩ := hcx
  simp only at x0 x1
  have hxa : TArg w2 tn xo M cm ws := hx
  have hM32 : M ≤ 32 := by have e5 := hxa.len; have e6 := hokx.2.2.1; simp only [Tm.tx] at e6; omega
  obtain ⟨m, hm⟩ : ∃ m, n = m + 1 := ⟨n - 1, by omega⟩
  subst hm
  simp only [Nat.add_sub_cancel] at x0 x1
  clear hown hgrow hmov hbB hb1 hSa hFa hF1 hB hF0 hc hx hokx c0 c1 f1 HR h h0
  go_upto_region 6 with fail
  rw [HW2.out]
  clear HW2 c1' f1'
  go_wp2_with fail
  refine (yown_any tn xo M cm ws _ hxa hM32).mono ?_
  rintro e w4 ⟨bo, rc, rfl, hO4, hF4⟩
  have hB4 := hB1.keep hF4
  obtain ⟨s0, s1, s2, s3⟩ : _ ∧ _ ∧ _ ∧ _ := ⟨hB4.c0, hB4.c1, hB4.f0, hB4.f1⟩
  have hF5 := Fr.box2 w4 w.heap.size (.int .i64 tn) (.slice bo M rc)
  have hwk : w.heap.size < w2.heap.size := hB1.lt
  have hS4 := hS1.keep hF4
  have hS5 : YSrc w0 ((w4.setCell ⟨w.heap.size, 0, none⟩ (.int .i64 tn)).setCell ⟨w.heap.size, 1, none⟩ (.slice bo M rc)) g L (some ⟨bb, off, none⟩) lc us (.slice (some ⟨g', 0, none⟩) (N + 1) cap') (qs ++ [m + 1]) := by
    have a1 := hS4.apart hB4.box (by decide)
    refine ⟨hF5.keep hS4.box (by simp; omega), HLo.out.keepO hS4.log hF5 (by intro x hx; simp at hx; omega), hS4.ok, hS4.few, owns_keep hS4.row hF5 ?_, hS4.gn, hS4.rn⟩
    intro j hj hh
    simp only [List.mem_singleton] at hh
    subst hh
    exact a1 hj
  have HE : Hid (_ ∧ _ ∧ _) := ⟨(hO4.later (w0 := w) (by omega)).keepS hF5 (fun j hj hh => by
    simp only [List.mem_singleton] at hh
    have := (owns_cells hO4.row hj).1
    omega), hS5, (hG1.then (hF4.mono (by simp))).trans hF5 (U := YSrc.own g (.slice ao N cap)) (fun _ x _ => x) (by intro x hx hl; simp at hx; omega)⟩
  clear hF5 hS5 hS4 hS1 hB4 hB1 hG1 hF4 hO4 HLo
  go_wp2
  refine bodyPost_ret (v := .tuple #[.agg #[.int .i64 tn, .slice bo M rc], .int .i64 0]) (by rw [results_cell_tmp rfl]; go_simp) rfl ⟨bo, rc, rfl, HE.out.1, _, HE.out.2.1, HE.out.2.2, hM1⟩
end

set_option maxHeartbeats 4000000 in
set_option maxRecDepth 100000 in
theorem yNew_no (ao : Option Addr) (L cap c : Nat) (ts : List Tm) (w : World) (hT : TRs w ao ts) (hL : L = ts.length) (hc : Bad 1 (txs ts) c) (hc0 : c ≠ 0) :
    Calls Try.prog 25 #[.slice ao L cap] w fun e w' => e = .returned (.tuple #[.pointer none, .int .i64 (c : Int)]) ∧ Fr [] w w' := by
  have HC : Hid (Bad 1 (txs ts) c) := hc
  have HL : Hid (L = ts.length) := hL
  have hcb : ((c : Int) != 0) = true := by rw [bne_iff_ne]; omega
  clear hc hL hc0
  go_enter Try.func25, Try.ntmps25
  go_wp2_with fail
  refine (ycheck_any ao L cap c ts _ hT HL.out HC.out).mono ?_
  rintro e w1 ⟨rfl, hF1⟩
  go_wp2
  go_ret2
  exact ⟨rfl, hF1⟩

set_option maxHeartbeats 8000000 in
set_option maxRecDepth 100000 in
theorem yNew_ok (ao : Option Addr) (L cap : Nat) (ts : List Tm) (w : World) (hT : TRs w ao ts) (hL : L = ts.length) (hok : okL 1 (txs ts)) :
    Calls Try.prog 25 #[.slice ao L cap] w fun e w' => ∃ g lo lc us, e = .returned (.tuple #[.pointer (some ⟨g, 0, none⟩), .int .i64 0]) ∧ YSrc w w' g L lo lc us (.slice none 0 0) [] ∧ txs us = txs ts ∧ Fr [] w w' := by
  have HK : Hid (okL 1 (txs ts)) := hok
  have HL : Hid (L = ts.length) := hL
  have hL2 : L ≤ 65536 := by have := okL_few hok; rw [txs_length] at this; omega
  clear hok hL
  go_enter Try.func25, Try.ntmps25
  go_wp2_with fail
  refine (ycheck_any ao L cap 0 ts _ hT HL.out (okL_bad HK.out)).mono ?_
  rintro e w1 ⟨rfl, hF1⟩
  go_wp2_with fail
  go_loopw [5, 6] (fun vv ii wr => ∃ (i rc : Nat) (ro : Option Addr) (us : List Tm), vv = .slice ro i rc ∧ ii = .int .i64 i ∧ i ≤ L ∧ Hid (TOw w wr ro i rc us) ∧ Hid (txs us = (txs ts).take i) ∧ Fr [] w wr) (fun _ ii _ => L - (intOf ii).toNat)
  case atStart => exact ⟨0, 0, none, [], rfl, rfl, Nat.zero_le _, ⟨rfl, World.ownsRow_nil _ _ _ _, by simp⟩, rfl, hF1⟩
  case round =>
    obtain ⟨i, rc, ro, us, rfl, rfl, hiL, HTo, HUs, hFr⟩ := hrel
    by_cases hi : i < L
    · have hi' : i < ts.length := by rw [← HL.out]; exact hi
      obtain ⟨bb, off, e9, _, hc⟩ := (hT.keep hFr).lies (by omega)
      subst e9
      have hx := hc i hi'
      have hat := (hT.keep hFr).each _ (tgetD_mem ts i hi')
      have hokx := (okL_get HK.out i (by rw [txs_length]; exact hi')).1
      rw [txs_getD] at hokx
      have HTX2 : Hid (txs us ++ [(ts.getD i Tm.zero).tx] = (txs ts).take (i + 1)) := by
        show _ = _
        rw [txs_take, ttake_snoc ts i hi', txs_append, HUs.out, txs_take]
        rfl
      obtain ⟨x, hxx⟩ : ∃ x, x = ts.getD i Tm.zero := ⟨_, rfl⟩
      rw [← hxx] at hx hat hokx HTX2
      clear hxx hc
      obtain ⟨n, xo, M, cm, ws⟩ := x
      obtain ⟨c0, c1⟩ := hx
      simp only at c0 c1
      have hat3 : TArg wr n xo M cm ws := hat
      have hM32 : M ≤ 32 := by have e5 := hat3.len; have e6 := hokx.2.2.1; simp only [Tm.tx] at e6; omega
      clear hokx hat
      go_wp2_with fail
      refine (yown_any n xo M cm ws _ hat3 hM32).mono ?_
      rintro e w4 ⟨bo, bc, rfl, hO4, hF4⟩
      have hG4 := hFr.then hF4
      have HTk : Hid (TOw w w4 ro i rc us) := HTo.out.keepS hF4 (by simp)
      have HWk : Hid (WOw w w4 bo M bc ws) := hO4.later hFr.size
      have hsz : w.heap.size ≤ w4.heap.size := hG4.size
      have HOn : Hid (∀ w8, Fr (Value.slice ro i rc).ownBlock.toList w4 w8 → Fr [] w w8) := fun w8 hF8 => hG4.on hF8 (fun x hx => (owns_cells HTk.out.row (Option.mem_toList.1 hx)).1)
      clear hO4 hF4 hG4 hFr hat3 HTo c0 c1
      go_wp2_with (at_builtin; refine wpList_appT w w4 rfl _ _ rfl ro i rc us rfl HTk.out (by omega) hsz ⟨n, bo, M, bc, ws⟩ HWk.out rfl ?_)
      intro so3 c3 w8 hK8 hF8
      have HK8 : Hid (TOw w w8 so3 (i + 1) c3 (us ++ [⟨n, bo, M, bc, ws⟩])) := hK8
      have hG8 := HOn.out _ hF8
      have HU8 : Hid (txs (us ++ [(⟨n, bo, M, bc, ws⟩ : Tm)]) = (txs ts).take (i + 1)) := by show _ = _; rw [txs_append]; exact HTX2.out
      clear hK8 hF8 HTk HWk
      go_wp2
      go_roundw
      case rel => exact ⟨i + 1, c3, so3, _, rfl, by simp, by omega, HK8, HU8, hG8⟩
      case measure => simp [intOf]; omega
    · obtain rfl : i = L := by omega
      have HT2 : Hid (txs us = txs ts) := by show _ = _; rw [HUs.out, List.take_of_length_le (by rw [txs_length, ← HL.out]; omega)]
      have hFz : Fr [] wr (wr.alloc (.cells #[.slice ro i rc, .slice none 0 0] 87)) := Fr.alloc _ _ _
      have HE : Hid (YSrc w (wr.alloc (.cells #[.slice ro i rc, .slice none 0 0] 87)) wr.heap.size i ro rc us (.slice none 0 0) [] ∧ Fr [] w (wr.alloc (.cells #[.slice ro i rc, .slice none 0 0] 87))) :=
        ⟨⟨heap_alloc_new _ _, HTo.out.keepS hFz (by simp), by rw [HT2.out]; exact HK.out, hL2, ⟨rfl, .inl ⟨rfl, rfl⟩⟩, hFr.size, fun j hj => by simp [Value.ownBlock] at hj⟩, hFr.then hFz⟩
      clear hFz HTo hFr
      go_wp2
      go_ret2
      exact ⟨_, ro, rc, us, rfl, HE.out.1, HT2.out, HE.out.2⟩
end Go.Proofs.Ytibgdfjfhjckoaa
