/- Texts of this claim laid together, one behind the other: contracts and plain lemmas; conditions as each names them. -/
import Derived.Test.YtaefninikmaiiaaGreatDoorGp1
import Derived.Laws.StructEq
import Derived.Laws.ResultCell
import Derived.Deep.RegionLaw
import Derived.Deep.RegionWith
import Derived.Deep.RegionHeld3
import Derived.Deep.CutRange
import Derived.Deep.Quiet
import Derived.BigQuiet
import Derived.Shelf.Strconv.Itoa3
import Derived.Shelf.Lay
import Derived.Lib.ItoaLen
/- May a log be: the document's Check (stages 6 and 7), the program's check (stage 7). Conditions as each names them. -/
namespace Go.Proofs.YtaefninikmaiiaaGreatDoor
open Go.ChangeShapes Go.WideShapes Go.ChangeAt Go.RowKit Go.Lib
set_option linter.unusedVariables false
set_option linter.unusedSimpArgs false
theorem tdrop_cons7 (ts : List Tm) (i : Nat) (h : i < ts.length) : ts.drop i = ts.getD i Tm.zero :: ts.drop (i + 1) := by
  rw [List.drop_eq_getElem_cons h]
  simp [List.getD, h]

set_option maxHeartbeats 4000000 in
set_option maxRecDepth 100000 in
theorem ycheck_any (ao : Option Addr) (L cap c : Nat) (ts : List Tm) (w : World) (hT : TRs w ao ts) (hL : L = ts.length) (hc : Bad 1 (txs ts) c) :
    Calls Tryz.prog 44 #[.slice ao L cap] w fun e w' => e = .returned (.int .i64 (c : Int)) ∧ Fr [] w w' := by
  have HC : Hid (Bad 1 (txs ts) c) := hc
  have HL : Hid (L = ts.length) := hL
  have hLm : L ≤ 140737488355328 := by have := hT.few; omega
  clear hc hL
  go_enter Tryz.func44, Tryz.ntmps44
  go_wp2_with fail
  go_loopw [3] (fun ii wr => ∃ (i : Nat), ii = .int .i64 i ∧ i ≤ L ∧ Hid (Bad (1 + i) (txs (ts.drop i)) c) ∧ Fr [] w wr) (fun ii _ => L - (RowKit.intOf ii).toNat)
  case atStart => exact ⟨0, rfl, Nat.zero_le _, HC.out, Fr.refl _ _⟩
  case round =>
    obtain ⟨i, rfl, hiL, HE, hFr⟩ := hrel
    by_cases hi : i < L
    · have hi' : i < ts.length := by rw [← HL.out]; exact hi
      obtain ⟨bb, off, rfl, hbl, hc⟩ := (hT.keep hFr).lies (by omega)
      have hx := hc i hi'
      have hat := (hT.keep hFr).each _ (tgetD_mem ts i hi')
      obtain ⟨x, hxx⟩ : ∃ x, x = ts.getD i Tm.zero := ⟨_, rfl⟩
      rw [← hxx] at hx hat
      have HX : Hid (x = ts.getD i Tm.zero) := hxx
      clear hxx hc
      obtain ⟨n, xo, M, cm, ws⟩ := x
      obtain ⟨c0, c1⟩ := hx
      simp only at c0 c1
      have e1 := HE.out
      rw [tdrop_cons7 ts i hi', ← HX.out] at e1
      have hn0 := hat.n0
      have hn1 := hat.n1
      simp only at hn0 hn1
      have hG := hFr
      have hat1 : TArg wr n xo M cm ws := hat
      have HCe : Hid (∀ W, Fr [] wr W → W.cell? ⟨bb, off + i * 2, none⟩ = some (.int .i64 n)) := fun W hf => (World.cell?_of_block (hf.block bb hbl (by simp))).trans c0
      clear hat
      clear HE HC
      rcases e1 with ⟨h1, rfl⟩ | ⟨h1, h2, rfl⟩ | ⟨h1, h2, h3⟩
      · have HN : Hid (¬ okT n ws) := h1
        clear h1
        go_wp2_with fail
        refine (xCheck_any n xo M cm 1 ws _ hat1.rs hat1.len hn0 hn1 (Or.inr ⟨HN.out, rfl⟩)).mono ?_
        rintro e w2 ⟨rfl, hF2⟩
        have hG2 := hG.then hF2
        clear hG hF2 hat1
        go_wp2
        go_ret
        exact ⟨rfl, hG2⟩
      · have HN : Hid (okT n ws) := h1
        have hne : (n != (i : Int) + 1) = true := by rw [bne_iff_ne]; have h2' : n ≠ ((1 + i : Nat) : Int) := h2; omega
        clear h1 h2
        go_wp2_with fail
        refine (xCheck_any n xo M cm 0 ws _ hat1.rs hat1.len hn0 hn1 (Or.inl ⟨HN.out, rfl⟩)).mono ?_
        rintro e w2 ⟨rfl, hF2⟩
        have hG2 := hG.then hF2
        have k0 := HCe.out _ hF2
        clear hG hF2 hat1 c0 c1
        go_wp2
        go_ret
        exact ⟨rfl, hG2⟩
      · have HN : Hid (okT n ws ∧ Bad (1 + i + 1) (txs (ts.drop (i + 1))) c) := ⟨h1, h3⟩
        have hne : (n != (i : Int) + 1) = false := by rw [bne_eq_false_iff_eq]; have h2' : n = ((1 + i : Nat) : Int) := h2; omega
        clear h1 h2 h3
        go_wp2_with fail
        refine (xCheck_any n xo M cm 0 ws _ hat1.rs hat1.len hn0 hn1 (Or.inl ⟨HN.out.1, rfl⟩)).mono ?_
        rintro e w2 ⟨rfl, hF2⟩
        have hG2 := hG.then hF2
        have k0 := HCe.out _ hF2
        clear hG hF2 hat1 c0 c1
        go_wp2
        go_roundw
        case rel => exact ⟨i + 1, by simp, by omega, by show Bad _ _ _; rw [show 1 + (i + 1) = 1 + i + 1 by omega]; exact HN.out.2, hG2⟩
        case measure => simp [RowKit.intOf]; omega
    · have hc0 : c = 0 := by
        have e1 := HE.out
        rw [List.drop_eq_nil_of_le (by rw [← HL.out]; omega)] at e1
        exact e1
      subst hc0
      clear HC HE
      go_wp2
      go_ret
      exact ⟨rfl, hFr⟩

set_option maxHeartbeats 4000000 in
set_option maxRecDepth 100000 in
theorem zcheck_any (ao : Option Addr) (L cap c : Nat) (ts : List Tm) (w : World) (hT : TRs w ao ts) (hL : L = ts.length) (hc : Bad 1 (txs ts) c) :
    Calls Tryz.prog 98 #[.slice ao L cap] w fun e w' => e = .returned (.int .i64 (c : Int)) ∧ Fr [] w w' := by
  have HC : Hid (Bad 1 (txs ts) c) := hc
  have HL : Hid (L = ts.length) := hL
  have hLm : L ≤ 140737488355328 := by have := hT.few; omega
  clear hc hL
  go_enter Tryz.func98, Tryz.ntmps98
  go_wp2_with fail
  go_loopw [3] (fun ii wr => ∃ (i : Nat), ii = .int .i64 i ∧ i ≤ L ∧ Hid (Bad (1 + i) (txs (ts.drop i)) c) ∧ Fr [] w wr) (fun ii _ => L - (RowKit.intOf ii).toNat)
  case atStart => exact ⟨0, rfl, Nat.zero_le _, HC.out, Fr.refl _ _⟩
  case round =>
    obtain ⟨i, rfl, hiL, HE, hFr⟩ := hrel
    by_cases hi : i < L
    · have hi' : i < ts.length := by rw [← HL.out]; exact hi
      obtain ⟨bb, off, rfl, hbl, hc⟩ := (hT.keep hFr).lies (by omega)
      have hx := hc i hi'
      have hat := (hT.keep hFr).each _ (tgetD_mem ts i hi')
      obtain ⟨x, hxx⟩ : ∃ x, x = ts.getD i Tm.zero := ⟨_, rfl⟩
      rw [← hxx] at hx hat
      have HX : Hid (x = ts.getD i Tm.zero) := hxx
      clear hxx hc
      obtain ⟨n, xo, M, cm, ws⟩ := x
      obtain ⟨c0, c1⟩ := hx
      simp only at c0 c1
      have e1 := HE.out
      rw [tdrop_cons7 ts i hi', ← HX.out] at e1
      have hn0 := hat.n0
      have hn1 := hat.n1
      simp only at hn0 hn1
      have hG := hFr
      have hat1 : TArg wr n xo M cm ws := hat
      have HCe : Hid (∀ W, Fr [] wr W → W.cell? ⟨bb, off + i * 2, none⟩ = some (.int .i64 n)) := fun W hf => (World.cell?_of_block (hf.block bb hbl (by simp))).trans c0
      clear hat
      clear HE HC
      rcases e1 with ⟨h1, rfl⟩ | ⟨h1, h2, rfl⟩ | ⟨h1, h2, h3⟩
      · have HN : Hid (¬ okT n ws) := h1
        clear h1
        go_wp2_with fail
        refine (xCheck_any n xo M cm 1 ws _ hat1.rs hat1.len hn0 hn1 (Or.inr ⟨HN.out, rfl⟩)).mono ?_
        rintro e w2 ⟨rfl, hF2⟩
        have hG2 := hG.then hF2
        clear hG hF2 hat1
        go_wp2
        go_ret
        exact ⟨rfl, hG2⟩
      · have HN : Hid (okT n ws) := h1
        have hne : (n != (i : Int) + 1) = true := by rw [bne_iff_ne]; have h2' : n ≠ ((1 + i : Nat) : Int) := h2; omega
        clear h1 h2
        go_wp2_with fail
        refine (xCheck_any n xo M cm 0 ws _ hat1.rs hat1.len hn0 hn1 (Or.inl ⟨HN.out, rfl⟩)).mono ?_
        rintro e w2 ⟨rfl, hF2⟩
        have hG2 := hG.then hF2
        have k0 := HCe.out _ hF2
        clear hG hF2 hat1 c0 c1
        go_wp2
        go_ret
        exact ⟨rfl, hG2⟩
      · have HN : Hid (okT n ws ∧ Bad (1 + i + 1) (txs (ts.drop (i + 1))) c) := ⟨h1, h3⟩
        have hne : (n != (i : Int) + 1) = false := by rw [bne_eq_false_iff_eq]; have h2' : n = ((1 + i : Nat) : Int) := h2; omega
        clear h1 h2 h3
        go_wp2_with fail
        refine (xCheck_any n xo M cm 0 ws _ hat1.rs hat1.len hn0 hn1 (Or.inl ⟨HN.out.1, rfl⟩)).mono ?_
        rintro e w2 ⟨rfl, hF2⟩
        have hG2 := hG.then hF2
        have k0 := HCe.out _ hF2
        clear hG hF2 hat1 c0 c1
        go_wp2
        go_roundw
        case rel => exact ⟨i + 1, by simp, by omega, by show Bad _ _ _; rw [show 1 + (i + 1) = 1 + i + 1 by omega]; exact HN.out.2, hG2⟩
        case measure => simp [RowKit.intOf]; omega
    · have hc0 : c = 0 := by
        have e1 := HE.out
        rw [List.drop_eq_nil_of_le (by rw [← HL.out]; omega)] at e1
        exact e1
      subst hc0
      clear HC HE
      go_wp2
      go_ret
      exact ⟨rfl, hFr⟩

set_option maxHeartbeats 4000000 in
set_option maxRecDepth 100000 in
theorem fcheck_any (ao : Option Addr) (L cap c : Nat) (ts : List Tm) (w : World) (hT : TRs w ao ts) (hL : L = ts.length) (hc : Bad 1 (txs ts) c) :
    Calls Tryz.prog 169 #[.slice ao L cap] w fun e w' => e = .returned (.int .i64 (c : Int)) ∧ Fr [] w w' := by
  have HC : Hid (Bad 1 (txs ts) c) := hc
  have HL : Hid (L = ts.length) := hL
  have hLm : L ≤ 140737488355328 := by have := hT.few; omega
  clear hc hL
  go_enter Tryz.func169, Tryz.ntmps169
  go_wp2_with fail
  go_loopw [8] (fun ii wr => ∃ (i : Nat), ii = .int .i64 i ∧ i ≤ L ∧ Hid (Bad (1 + i) (txs (ts.drop i)) c) ∧ Fr [] w wr) (fun ii _ => L - (RowKit.intOf ii).toNat)
  case atStart => exact ⟨0, rfl, Nat.zero_le _, HC.out, Fr.refl _ _⟩
  case round =>
    obtain ⟨i, rfl, hiL, HE, hFr⟩ := hrel
    by_cases hi : i < L
    · have hi' : i < ts.length := by rw [← HL.out]; exact hi
      obtain ⟨bb, off, rfl, hbl, hc⟩ := (hT.keep hFr).lies (by omega)
      have hx := hc i hi'
      have hat := (hT.keep hFr).each _ (tgetD_mem ts i hi')
      obtain ⟨x, hxx⟩ : ∃ x, x = ts.getD i Tm.zero := ⟨_, rfl⟩
      rw [← hxx] at hx hat
      have HX : Hid (x = ts.getD i Tm.zero) := hxx
      clear hxx hc
      obtain ⟨n, xo, M, cm, ws⟩ := x
      obtain ⟨c0, c1⟩ := hx
      simp only at c0 c1
      have e1 := HE.out
      rw [tdrop_cons7 ts i hi', ← HX.out] at e1
      have hn0 := hat.n0
      have hn1 := hat.n1
      simp only at hn0 hn1
      have hF1 : Fr [] wr (wr.alloc (.cells #[.int .i64 n, .slice xo M cm] 63)) := Fr.alloc _ _ _
      have hbx : (wr.alloc (.cells #[.int .i64 n, .slice xo M cm] 63)).heap[wr.heap.size]? = some (.cells #[.int .i64 n, .slice xo M cm] 63 (0, 0)) := heap_alloc_new wr _
      have hG := hFr.then hF1
      obtain ⟨w1, HW1⟩ : ∃ w1, Hid (wr.alloc (.cells #[.int .i64 n, .slice xo M cm] 63) = w1) := ⟨_, rfl⟩
      rw [HW1.out] at hF1 hbx hG
      have hat1 : TArg w1 n xo M cm ws := TArg.keep hat hF1
      have HCe : Hid (∀ W, Fr [] w1 W → W.cell? ⟨wr.heap.size, 0, none⟩ = some (.int .i64 n)) := fun W hf => by
        have hb := hf.keep hbx (by simp)
        rw [cell_of_row _ _ _ _ _ _ hb]; rfl
      clear hat hF1 hbx
      clear HE HC
      rcases e1 with ⟨h1, rfl⟩ | ⟨h1, h2, rfl⟩ | ⟨h1, h2, h3⟩
      · have HN : Hid (¬ okT n ws) := h1
        clear h1
        go_wp2_with fail
        rw [HW1.out]
        refine (check_any n xo M cm 1 ws _ hat1.rs hat1.len hn0 hn1 (Or.inr ⟨HN.out, rfl⟩)).mono ?_
        rintro e w2 ⟨rfl, hF2⟩
        have hG2 := hG.then hF2
        clear hG hF2 hat1
        go_wp2
        go_ret
        exact ⟨rfl, hG2⟩
      · have HN : Hid (okT n ws) := h1
        have hne : (n != (i : Int) + 1) = true := by rw [bne_iff_ne]; have h2' : n ≠ ((1 + i : Nat) : Int) := h2; omega
        clear h1 h2
        go_wp2_with fail
        rw [HW1.out]
        refine (check_any n xo M cm 0 ws _ hat1.rs hat1.len hn0 hn1 (Or.inl ⟨HN.out, rfl⟩)).mono ?_
        rintro e w2 ⟨rfl, hF2⟩
        have hG2 := hG.then hF2
        have k0 := HCe.out _ hF2
        clear hG hF2 hat1 c0 c1
        go_wp2
        go_ret
        exact ⟨rfl, hG2⟩
      · have HN : Hid (okT n ws ∧ Bad (1 + i + 1) (txs (ts.drop (i + 1))) c) := ⟨h1, h3⟩
        have hne : (n != (i : Int) + 1) = false := by rw [bne_eq_false_iff_eq]; have h2' : n = ((1 + i : Nat) : Int) := h2; omega
        clear h1 h2 h3
        go_wp2_with fail
        rw [HW1.out]
        refine (check_any n xo M cm 0 ws _ hat1.rs hat1.len hn0 hn1 (Or.inl ⟨HN.out.1, rfl⟩)).mono ?_
        rintro e w2 ⟨rfl, hF2⟩
        have hG2 := hG.then hF2
        have k0 := HCe.out _ hF2
        clear hG hF2 hat1 c0 c1
        go_wp2
        go_roundw
        case rel => exact ⟨i + 1, by simp, by omega, by show Bad _ _ _; rw [show 1 + (i + 1) = 1 + i + 1 by omega]; exact HN.out.2, hG2⟩
        case measure => simp [RowKit.intOf]; omega
    · have hc0 : c = 0 := by
        have e1 := HE.out
        rw [List.drop_eq_nil_of_le (by rw [← HL.out]; omega)] at e1
        exact e1
      subst hc0
      clear HC HE
      go_wp2
      go_ret
      exact ⟨rfl, hFr⟩
end Go.Proofs.YtaefninikmaiiaaGreatDoor
/- The document's source of records: contracts of New and Get. Conditions as each names them. -/
namespace Go.Proofs.YtaefninikmaiiaaGreatDoor
open Go.ChangeShapes Go.WideShapes Go.ChangeAt Go.RowKit Go.Lib
set_option linter.unusedVariables false
set_option linter.unusedSimpArgs false

theorem TOw.keepT {S : List Nat} {w0 w w' : World} {ro : Option Addr} {N rc : Nat} {us : List Tm} (h : TOw w0 w ro N rc us) (hf : Fr S w w') (hS : ∀ k ∈ S, ∀ cs t, w.heap[k]? = some (.cells cs t (0, 0)) → t ≠ 63 ∧ t ≠ 124) : TOw w0 w' ro N rc us := by
  refine ⟨h.len, owns_keepB h.row hf (fun k hk hm => ?_), fun u hu => (h.each u hu).keepS hf (fun k hk hm => ?_)⟩
  · obtain ⟨_, c, e⟩ := owns_cells h.row hk
    exact (hS k hm _ _ e).1 rfl
  · obtain ⟨_, c, e⟩ := owns_cells (h.each u hu).row hk
    exact (hS k hm _ _ e).2 rfl
theorem TOw.keepO {S : List Nat} {w0 w w1 w2 : World} {ro : Option Addr} {N rc : Nat} {us : List Tm} (ho : TOw w0 w ro N rc us) (h : TOw w0 w1 ro N rc us) (hf : Fr S w1 w2) (hS : ∀ k ∈ S, w.heap.size ≤ k) : TOw w0 w2 ro N rc us := by
  refine ⟨h.len, owns_keepB h.row hf (fun k hk hm => ?_), fun u hu => (h.each u hu).keepS hf (fun k hk hm => ?_)⟩
  · obtain ⟨_, c, e⟩ := owns_cells ho.row hk
    have := lt_of_block e
    have := hS k hm
    omega
  · obtain ⟨_, c, e⟩ := owns_cells (ho.each u hu).row hk
    have := lt_of_block e
    have := hS k hm
    omega
section
variable {w0 w w' : World} {g L lc : Nat} {lo : Option Addr} {us : List Tm} {v : Value} {qs : List Nat}
def YSrc.own (g : Nat) (v : Value) : List Nat := g :: v.ownBlock.toList
theorem YSrc.put {w1 : World} {v' : Value} {n N : Nat} {cs : List Value} (h : YSrc w0 w g L lo lc us v qs) (hown : w1.ownsRow 0 3 1 v' N cs) (hN : N = (qs ++ [n]).length) (hcs : cs = ints (qs ++ [n])) (hg : w.grownBy w1 v.ownBlock) {k : Nat} (hm : Moved k v v') (hk : w0.heap.size ≤ k) :
    YSrc w0 (w1.setCell ⟨g, 1, none⟩ v') g L lo lc us v' (qs ++ [n]) ∧ Fr (YSrc.own g v) w (w1.setCell ⟨g, 1, none⟩ v') := by
  subst hN
  subst hcs
  have hog := h.apart h.box (by decide)
  have hbox := (hg.block g h.lt (fun e => hog e.symm)).trans h.box
  have hoth : v'.ownBlock ≠ some g := by
    intro hv
    rcases hown.2 with ⟨rfl, _⟩ | ⟨g', cap, cur, rfl, _, hgg, _⟩
    · simp [Value.ownBlock] at hv
    · simp [Value.ownBlock] at hv
      subst hv
      rw [hgg] at hbox
      simp at hbox
  have hF : Fr (YSrc.own g v) w (w1.setCell ⟨g, 1, none⟩ v') := (Fr.grown (S := YSrc.own g v) hg (by intro k hk _; simp [YSrc.own, hk])).then (Fr.set _ _ _ (by simp [YSrc.own]))
  refine ⟨⟨two_setCell1 hbox, h.log.keepT hF ?_, h.ok, h.few, ownsRow_setCell_other hown hoth _, h.gn, hm.lt hk h.rn⟩, hF⟩
  intro j hj cs t ht
  simp only [YSrc.own, List.mem_cons, Option.mem_toList] at hj
  rcases hj with rfl | hj
  · rw [h.box] at ht
    simp only [Option.some.injEq, Obj.cells.injEq] at ht
    rw [← ht.2.1]
    exact ⟨by decide, by decide⟩
  · obtain ⟨cur, hc⟩ := h.rowAt hj
    rw [hc] at ht
    simp only [Option.some.injEq, Obj.cells.injEq] at ht
    rw [← ht.2.1]
    exact ⟨by decide, by decide⟩

set_option maxHeartbeats 4000000 in
set_option maxRecDepth 100000 in
theorem yGet_no (h : YSrc w0 w g L lo lc us v qs) (n : Int) (hn : n < 1 ∨ (L : Int) < n) :
    Calls Tryz.prog 26 #[.pointer (some ⟨g, 0, none⟩), .int .i64 n] w fun e w' => e = .returned (.tuple #[.agg #[.int .i64 0, .slice none 0 0], .int .i64 1]) ∧ Fr [] w w' := by
  have hF0 : Fr [] w (w.alloc (.cells #[.int .i64 0, .slice none 0 0] 63)) := Fr.alloc _ _ _
  have h0 := h.keep hF0
  have c0 := h0.c0
  have hfew := h.few
  have hB : B2 (w.alloc (.cells #[.int .i64 0, .slice none 0 0] 63)) w.heap.size (.int .i64 0) (.slice none 0 0) := ⟨heap_alloc_new _ _⟩
  obtain ⟨s0, s1, s2, s3⟩ : _ ∧ _ ∧ _ ∧ _ := ⟨hB.c0, hB.c1, hB.f0, hB.f1⟩
  have hF1 := hF0.on (Fr.box2 (w.alloc (.cells #[.int .i64 0, .slice none 0 0] 63)) w.heap.size (.int .i64 0) (.slice none 0 0)) (by simp)
  obtain ⟨W, HW⟩ : ∃ W, Hid (w.alloc (.cells #[.int .i64 0, .slice none 0 0] 63) = W) := ⟨_, rfl⟩
  rw [HW.out] at h0 c0 s0 s1 s2 s3 hF1
  have HF : Hid (Fr [] w ((W.setCell ⟨w.heap.size, 0, none⟩ (.int .i64 0)).setCell ⟨w.heap.size, 1, none⟩ (.slice none 0 0))) := hF1
  clear hF0 hB hF1
  go_enter Tryz.func26, Tryz.ntmps26
  go_upto_region 1 with fail
  rw [HW.out]
  clear HW
  by_cases hn1 : n < 1
  · go_wp2
    refine bodyPost_ret (v := .tuple #[.agg #[.int .i64 0, .slice none 0 0], .int .i64 1]) (by rw [results_cell_tmp rfl]; go_simp) rfl ⟨rfl, HF.out⟩
  · have hn2 : (L : Int) < n := by omega
    go_wp2
    refine bodyPost_ret (v := .tuple #[.agg #[.int .i64 0, .slice none 0 0], .int .i64 1]) (by rw [results_cell_tmp rfl]; go_simp) rfl ⟨rfl, HF.out⟩

set_option maxHeartbeats 8000000 in
set_option maxRecDepth 100000 in
theorem yGet_ok (h : YSrc w0 w g L lo lc us v qs) (n : Nat) (hn : 1 ≤ n) (hnL : n ≤ L) (hq : qs.length < 2 ^ 40) (h00 : w0.heap.size ≤ w.heap.size) (t : Tm) (ht : t = us.getD (n - 1) Tm.zero) :
    Calls Tryz.prog 26 #[.pointer (some ⟨g, 0, none⟩), .int .i64 (n : Int)] w fun e w' => ∃ bo rc v', e = .returned (.tuple #[.agg #[.int .i64 t.n, .slice bo t.L rc], .int .i64 0]) ∧ WOw w w' bo t.L rc t.ws ∧
      YSrc w0 w' g L lo lc us v' (qs ++ [n]) ∧ Fr (YSrc.own g v) w w' ∧ Moved w.heap.size v v' := by
  obtain ⟨iI, hiI, hzI, hsI, hbI⟩ := info_parts Tryz.infoI
  have hfew := h.few
  have HN : Hid (n - 1 < us.length) := by show _ < _; have := h.log.len; omega
  have HT : Hid (t = us.getD (n - 1) Tm.zero) := ht
  have HLo : Hid (TOw w0 w lo L lc us) := h.log
  obtain ⟨ao, cap, hv⟩ := own_shape w h.row
  obtain ⟨N, hN⟩ : ∃ N, N = qs.length := ⟨_, rfl⟩
  rw [← hN] at hv hq
  have HL : Hid (N = qs.length) := hN
  subst hv
  clear hN ht
  have hF0 : Fr [] w (w.alloc (.cells #[.int .i64 0, .slice none 0 0] 63)) := Fr.alloc _ _ _
  have h0 := h.keep hF0
  have hB : B2 (w.alloc (.cells #[.int .i64 0, .slice none 0 0] 63)) w.heap.size (.int .i64 0) (.slice none 0 0) := ⟨heap_alloc_new _ _⟩
  have hs0 : (w.alloc (.cells #[.int .i64 0, .slice none 0 0] 63)).heap.size = w.heap.size + 1 := by simp
  obtain ⟨W, HW⟩ : ∃ W, Hid (w.alloc (.cells #[.int .i64 0, .slice none 0 0] 63) = W) := ⟨_, rfl⟩
  rw [HW.out] at h0 hB hF0 hs0
  have HS0 : Hid (W.heap.size = w.heap.size + 1) := hs0
  clear hs0
  obtain ⟨c0, c1, f1⟩ : _ ∧ _ ∧ _ := ⟨h0.c0, h0.c1, h0.f1⟩
  have hgW := h0.lt
  have HR : Hid (W.ownsRow 0 3 1 (.slice ao N cap) N (ints qs)) := by show World.ownsRow _ _ _ _ _ _ _; have := h0.row; rw [← HL.out] at this; exact this
  have hn1 : ¬ n < 1 := by omega
  have hnL2 : ¬ L < n := by omega
  go_enter Tryz.func26, Tryz.ntmps26
  go_upto_region 1 with fail
  rw [HW.out]
  clear HW
  go_upto_region 5 with fail
  go_wp2_with (at_builtin; go_loud (refine wpList_app1 _ rfl (.tmp 25) (.tmp 27) 54 rfl 3 iI (.int .i64 0) 1 8 Tryz.undIs hiI hzI hsI hbI rfl (by decide) _ N _ rfl (HR.out.alloc _) ⟨W.heap.size, 0, none⟩ 1 [.int .i64 (n : Int)] rfl rfl ?c1 ?c2 ?c3 ?c4 ?_))
  case c1 => intro j u hj; match j, hj with | 0, hj => simp at hj; subst hj; simp [Addr.add]
  case c2 => intro u hu; simp at hu; subst hu; rfl
  case c3 => omega
  case c4 => unfold maxLen; omega
  intro g' cap' w1 hown hgrow hmov
  have hFa : Fr [] W (W.alloc (.cells #[.int .i64 (n : Int)] 3)) := Fr.alloc _ _ _
  have hSa := h0.keep hFa
  obtain ⟨hS1, hF1⟩ := hSa.put (n := n) hown (by simp [HL.out]) (by rw [ints_append]; rfl) hgrow hmov (by have := HS0.out; omega)
  have hbB : B2 (W.alloc (.cells #[.int .i64 (n : Int)] 3)) w.heap.size (.int .i64 0) (.slice none 0 0) := hB.keep hFa
  have hb1 := hSa.apart hbB.box (by decide)
  have hgw := h.lt
  have hB1 : B2 (w1.setCell ⟨g, 1, none⟩ (.slice (some ⟨g', 0, none⟩) (N + 1) cap')) w.heap.size (.int .i64 0) (.slice none 0 0) := ⟨hF1.keep hbB.box (by
    simp only [YSrc.own, List.mem_cons, Option.mem_toList, not_or]
    exact ⟨by omega, fun hh => hb1 hh⟩)⟩
  have c1' : w1.cell? ⟨g, 1, none⟩ = some (.slice ao N cap) := by
    have := hgrow.block g hSa.lt (fun e => hSa.apart hSa.box (by decide) e.symm)
    simp [World.cell?, this, hSa.box]
  have f1' : w1.frozen? ⟨g, 1, none⟩ = false := by
    have := hgrow.block g hSa.lt (fun e => hSa.apart hSa.box (by decide) e.symm)
    simp [World.frozen?, this, hSa.box]
  have hG1 : Fr (YSrc.own g (.slice ao N cap)) w (w1.setCell ⟨g, 1, none⟩ (.slice (some ⟨g', 0, none⟩) (N + 1) cap')) := ((hF0.then hFa).mono (by simp)).then hF1
  have hM1 : Moved w.heap.size (.slice ao N cap) (.slice (some ⟨g', 0, none⟩) (N + 1) cap') := (Moved.refl _ _).trans hmov (by have := HS0.out; omega)
  obtain ⟨w2, HW2⟩ : ∃ w2, Hid (w1.setCell ⟨g, 1, none⟩ (.slice (some ⟨g', 0, none⟩) (N + 1) cap') = w2) := ⟨_, rfl⟩
  rw [HW2.out] at hS1 hB1 hG1
  have d0 := hS1.c0
  have hTR := hS1.trs
  have hx := hTR.each _ (tgetD_mem us (n - 1) HN.out)
  have hokx := okL_mem hS1.ok (us.getD (n - 1) Tm.zero).tx (List.mem_map.2 ⟨_, tgetD_mem us (n - 1) HN.out, rfl⟩)
  obtain ⟨bb, off, e9, _, hc⟩ := hTR.lies (by have := HN.out; omega)
  subst e9
  have hcx := hc (n - 1) HN.out
  rw [← HT.out] at hx hokx hcx
  obtain ⟨tn, xo, M, cm, ws⟩ := t
  obtain ⟨x0, x1⟩ := hcx
  simp only at x0 x1
  have hxa : TArg w2 tn xo M cm ws := hx
  have hM32 : M ≤ 32 := by have e5 := hxa.len; have e6 := hokx.2.2.1; simp only [Tm.tx] at e6; omega
  obtain ⟨m, hm⟩ : ∃ m, n = m + 1 := ⟨n - 1, by omega⟩
  subst hm
  simp only [Nat.add_sub_cancel] at x0 x1
  clear hown hgrow hmov hbB hb1 hSa hFa hF1 hB hF0 hc hx hokx c0 c1 f1 HR h h0
  go_upto_region 6 with fail
  rw [HW2.out]
  clear HW2 c1' f1'
  go_wp2_with fail
  refine (yown_any tn xo M cm ws _ hxa hM32).mono ?_
  rintro e w4 ⟨bo, rc, rfl, hO4, hF4⟩
  have hB4 := hB1.keep hF4
  obtain ⟨s0, s1, s2, s3⟩ : _ ∧ _ ∧ _ ∧ _ := ⟨hB4.c0, hB4.c1, hB4.f0, hB4.f1⟩
  have hF5 := Fr.box2 w4 w.heap.size (.int .i64 tn) (.slice bo M rc)
  have hwk : w.heap.size < w2.heap.size := hB1.lt
  have hS4 := hS1.keep hF4
  have hS5 : YSrc w0 ((w4.setCell ⟨w.heap.size, 0, none⟩ (.int .i64 tn)).setCell ⟨w.heap.size, 1, none⟩ (.slice bo M rc)) g L (some ⟨bb, off, none⟩) lc us (.slice (some ⟨g', 0, none⟩) (N + 1) cap') (qs ++ [m + 1]) := by
    have a1 := hS4.apart hB4.box (by decide)
    refine ⟨hF5.keep hS4.box (by simp; omega), HLo.out.keepO hS4.log hF5 (by intro x hx; simp at hx; omega), hS4.ok, hS4.few, owns_keep hS4.row hF5 ?_, hS4.gn, hS4.rn⟩
    intro j hj hh
    simp only [List.mem_singleton] at hh
    subst hh
    exact a1 hj
  have HE : Hid (_ ∧ _ ∧ _) := ⟨(hO4.later (w0 := w) (by omega)).keepS hF5 (fun j hj hh => by
    simp only [List.mem_singleton] at hh
    have := (owns_cells hO4.row hj).1
    omega), hS5, (hG1.then (hF4.mono (by simp))).trans hF5 (U := YSrc.own g (.slice ao N cap)) (fun _ x _ => x) (by intro x hx hl; simp at hx; omega)⟩
  clear hF5 hS5 hS4 hS1 hB4 hB1 hG1 hF4 hO4 HLo
  go_wp2
  refine bodyPost_ret (v := .tuple #[.agg #[.int .i64 tn, .slice bo M rc], .int .i64 0]) (by rw [results_cell_tmp rfl]; go_simp) rfl ⟨bo, rc, rfl, HE.out.1, _, HE.out.2.1, HE.out.2.2, hM1⟩
end

set_option maxHeartbeats 4000000 in
set_option maxRecDepth 100000 in
theorem yNew_no (ao : Option Addr) (L cap c : Nat) (ts : List Tm) (w : World) (hT : TRs w ao ts) (hL : L = ts.length) (hc : Bad 1 (txs ts) c) (hc0 : c ≠ 0) :
    Calls Tryz.prog 24 #[.slice ao L cap] w fun e w' => e = .returned (.tuple #[.pointer none, .int .i64 (c : Int)]) ∧ Fr [] w w' := by
  have HC : Hid (Bad 1 (txs ts) c) := hc
  have HL : Hid (L = ts.length) := hL
  have hcb : ((c : Int) != 0) = true := by rw [bne_iff_ne]; omega
  clear hc hL hc0
  go_enter Tryz.func24, Tryz.ntmps24
  go_wp2_with fail
  refine (ycheck_any ao L cap c ts _ hT HL.out HC.out).mono ?_
  rintro e w1 ⟨rfl, hF1⟩
  go_wp2
  go_ret2
  exact ⟨rfl, hF1⟩

set_option maxHeartbeats 8000000 in
set_option maxRecDepth 100000 in
theorem yNew_ok (ao : Option Addr) (L cap : Nat) (ts : List Tm) (w : World) (hT : TRs w ao ts) (hL : L = ts.length) (hok : okL 1 (txs ts)) :
    Calls Tryz.prog 24 #[.slice ao L cap] w fun e w' => ∃ g lo lc us, e = .returned (.tuple #[.pointer (some ⟨g, 0, none⟩), .int .i64 0]) ∧ YSrc w w' g L lo lc us (.slice none 0 0) [] ∧ txs us = txs ts ∧ Fr [] w w' := by
  have HK : Hid (okL 1 (txs ts)) := hok
  have HL : Hid (L = ts.length) := hL
  have hL2 : L ≤ 65536 := by have := okL_few hok; rw [txs_length] at this; omega
  clear hok hL
  go_enter Tryz.func24, Tryz.ntmps24
  go_wp2_with fail
  refine (ycheck_any ao L cap 0 ts _ hT HL.out (okL_bad HK.out)).mono ?_
  rintro e w1 ⟨rfl, hF1⟩
  go_wp2_with fail
  go_loopw [5, 6] (fun vv ii wr => ∃ (i rc : Nat) (ro : Option Addr) (us : List Tm), vv = .slice ro i rc ∧ ii = .int .i64 i ∧ i ≤ L ∧ Hid (TOw w wr ro i rc us) ∧ Hid (txs us = (txs ts).take i) ∧ Fr [] w wr) (fun _ ii _ => L - (RowKit.intOf ii).toNat)
  case atStart => exact ⟨0, 0, none, [], rfl, rfl, Nat.zero_le _, ⟨rfl, World.ownsRow_nil _ _ _ _, by simp⟩, rfl, hF1⟩
  case round =>
    obtain ⟨i, rc, ro, us, rfl, rfl, hiL, HTo, HUs, hFr⟩ := hrel
    by_cases hi : i < L
    · have hi' : i < ts.length := by rw [← HL.out]; exact hi
      obtain ⟨bb, off, e9, _, hc⟩ := (hT.keep hFr).lies (by omega)
      subst e9
      have hx := hc i hi'
      have hat := (hT.keep hFr).each _ (tgetD_mem ts i hi')
      have hokx := (okL_get HK.out i (by rw [txs_length]; exact hi')).1
      rw [txs_getD] at hokx
      have HTX2 : Hid (txs us ++ [(ts.getD i Tm.zero).tx] = (txs ts).take (i + 1)) := by
        show _ = _
        rw [txs_take, ttake_snoc ts i hi', txs_append, HUs.out, txs_take]
        rfl
      obtain ⟨x, hxx⟩ : ∃ x, x = ts.getD i Tm.zero := ⟨_, rfl⟩
      rw [← hxx] at hx hat hokx HTX2
      clear hxx hc
      obtain ⟨n, xo, M, cm, ws⟩ := x
      obtain ⟨c0, c1⟩ := hx
      simp only at c0 c1
      have hat3 : TArg wr n xo M cm ws := hat
      have hM32 : M ≤ 32 := by have e5 := hat3.len; have e6 := hokx.2.2.1; simp only [Tm.tx] at e6; omega
      clear hokx hat
      go_wp2_with fail
      refine (yown_any n xo M cm ws _ hat3 hM32).mono ?_
      rintro e w4 ⟨bo, bc, rfl, hO4, hF4⟩
      have hG4 := hFr.then hF4
      have HTk : Hid (TOw w w4 ro i rc us) := HTo.out.keepS hF4 (by simp)
      have HWk : Hid (WOw w w4 bo M bc ws) := hO4.later hFr.size
      have hsz : w.heap.size ≤ w4.heap.size := hG4.size
      have HOn : Hid (∀ w8, Fr (Value.slice ro i rc).ownBlock.toList w4 w8 → Fr [] w w8) := fun w8 hF8 => hG4.on hF8 (fun x hx => (owns_cells HTk.out.row (Option.mem_toList.1 hx)).1)
      clear hO4 hF4 hG4 hFr hat3 HTo c0 c1
      go_wp2_with (at_builtin; refine wpList_appT w w4 rfl _ _ rfl ro i rc us rfl HTk.out (by omega) hsz ⟨n, bo, M, bc, ws⟩ HWk.out rfl ?_)
      intro so3 c3 w8 hK8 hF8
      have HK8 : Hid (TOw w w8 so3 (i + 1) c3 (us ++ [⟨n, bo, M, bc, ws⟩])) := hK8
      have hG8 := HOn.out _ hF8
      have HU8 : Hid (txs (us ++ [(⟨n, bo, M, bc, ws⟩ : Tm)]) = (txs ts).take (i + 1)) := by show _ = _; rw [txs_append]; exact HTX2.out
      clear hK8 hF8 HTk HWk
      go_wp2
      go_roundw
      case rel => exact ⟨i + 1, c3, so3, _, rfl, by simp, by omega, HK8, HU8, hG8⟩
      case measure => simp [RowKit.intOf]; omega
    · obtain rfl : i = L := by omega
      have HT2 : Hid (txs us = txs ts) := by show _ = _; rw [HUs.out, List.take_of_length_le (by rw [txs_length, ← HL.out]; omega)]
      have hFz : Fr [] wr (wr.alloc (.cells #[.slice ro i rc, .slice none 0 0] 109)) := Fr.alloc _ _ _
      have HE : Hid (YSrc w (wr.alloc (.cells #[.slice ro i rc, .slice none 0 0] 109)) wr.heap.size i ro rc us (.slice none 0 0) [] ∧ Fr [] w (wr.alloc (.cells #[.slice ro i rc, .slice none 0 0] 109))) :=
        ⟨⟨heap_alloc_new _ _, HTo.out.keepS hFz (by simp), by rw [HT2.out]; exact HK.out, hL2, ⟨rfl, .inl ⟨rfl, rfl⟩⟩, hFr.size, fun j hj => by simp [Value.ownBlock] at hj⟩, hFr.then hFz⟩
      clear hFz HTo hFr
      go_wp2
      go_ret2
      exact ⟨_, ro, rc, us, rfl, HE.out.1, HT2.out, HE.out.2⟩
end Go.Proofs.YtaefninikmaiiaaGreatDoor
/- What was asked of a source, and the statements' own helper SameInts. Conditions: fewer than 2^40 numbers. -/
namespace Go.Proofs.YtaefninikmaiiaaGreatDoor
open Go.ChangeShapes Go.WideShapes Go.ChangeAt Go.RowKit Go.Lib
set_option linter.unusedVariables false

/-- The slice at ao reads as the numbers xs. -/
structure Is (w : World) (ao : Option Addr) (xs : List Nat) : Prop where
  lies : 0 < xs.length → ∃ b off, ao = some ⟨b, off, none⟩ ∧ ∀ j, j < xs.length → w.cell? ⟨b, off + j, none⟩ = some (.int .i64 ((xs.getD j 0 : Nat) : Int))
theorem Is.drewN {w : World} {ao : Option Addr} {xs : List Nat} (h : Is w ao xs) (q : Nat) : Is (w.drewN q) ao xs := ⟨h.lies⟩
theorem Is.keep {w w' : World} {ao : Option Addr} {xs : List Nat} (h : Is w ao xs) (hf : Fr [] w w') : Is w' ao xs := by
  refine ⟨fun h0 => ?_⟩
  obtain ⟨b, off, e, hc⟩ := h.lies h0
  refine ⟨b, off, e, fun j hj => ?_⟩
  have hlt := World.block_lt_of_cell? w _ (hc j hj)
  exact (World.cell?_of_block (hf.block b hlt (by simp))).trans (hc j hj)
theorem Is.of_row {w : World} {b : Nat} {xs : List Nat} (h : w.heap[b]? = some (.cells (ints xs).toArray 3 (0, 0))) : Is w (some ⟨b, 0, none⟩) xs :=
  ⟨fun _ => ⟨b, 0, rfl, fun j hj => by rw [cell_of_row _ _ _ _ _ _ h, Nat.zero_add]; simpa using ints_get xs j hj⟩⟩
theorem Is.of_own {w : World} {ao : Option Addr} {n cap : Nat} {xs : List Nat} (h : w.ownsRow 0 3 1 (.slice ao n cap) n (ints xs)) (hn : n = xs.length) : Is w ao xs := by
  rcases h.2 with ⟨hh, h0⟩ | ⟨g, cap', cur, hh, _, hg, hnc, _, hcs, ht⟩
  · cases hh
    exact ⟨fun h => by omega⟩
  · cases hh
    refine ⟨fun h0 => ⟨g, 0, rfl, fun j hj => ?_⟩⟩
    have := h.cells (g := g) rfl j _ (ints_get xs j (by omega))
    rw [show (⟨g, 0, none⟩ : Addr).add j = ⟨g, 0 + j, none⟩ from by simp [Addr.add]; omega] at this
    exact this
theorem Is.src {w : World} {b off : Nat} {xs : List Nat} (h : Is w (some ⟨b, off, none⟩) xs) : ∀ j u, (ints xs)[j]? = some u → w.cell? ((⟨b, off, none⟩ : Addr).add j) = some u := by
  intro j u hj
  have hlt : j < xs.length := by have := (List.getElem?_eq_some_iff.1 hj).1; rwa [ints_length] at this
  obtain ⟨b', off', e, hc⟩ := h.lies (by omega)
  cases e
  rw [ints_get xs j hlt] at hj
  rw [Addr.add_lit, hc j hlt, hj]

set_option maxHeartbeats 4000000 in
set_option maxRecDepth 100000 in
theorem asked_any {w0 w : World} {g lb L : Nat} {ts : List Tm} {v : Value} {qs : List Nat} (h : Src w0 w g lb L ts v qs) (hq : qs.length < 2 ^ 40) (N : Nat) (hN : N = qs.length) :
    Calls Tryz.prog 32 #[.pointer (some ⟨g, 0, none⟩)] w fun e w' => ∃ bo, e = .returned (.slice bo N N) ∧ Is w' bo qs ∧ Fr [] w w' := by
  obtain ⟨iI, hiI, hzI, hsI, hbI⟩ := info_parts Tryz.infoI
  obtain ⟨ao, cap, hv⟩ := own_shape w h.row
  have HL : Hid (N = qs.length) := hN
  rw [← hN] at hv hq
  subst hv
  clear hN
  have c2 := h.c2
  have HI : Hid (Is w ao qs) := Is.of_own (n := qs.length) (by have := h.row; rw [HL.out] at this; exact this) rfl
  by_cases h0 : 0 < N
  · obtain ⟨b, off, e1, _⟩ := HI.out.lies (by have := HL.out; omega)
    subst e1
    have hn0 : ((N : Int) == 0) = false := by rw [beq_eq_false_iff_ne]; omega
    go_enter Tryz.func32, Tryz.ntmps32
    go_wp2_with fail
    refine (sThere_any h).mono ?_
    rintro e w1 ⟨rfl, rfl⟩
    go_wp2_with (at_make; refine wpList_make_full _ rfl (.tmp 19) (.tmp 19) 54 rfl 0 3 iI (.int .i64 0) 1 Tryz.undIs hiI hzI hsI .i64 .i64 N N N rfl rfl rfl rfl ?b2 ?b3 ?b4 ?_)
    case b2 => rw [hbI]; omega
    case b3 => unfold maxLen; omega
    case b4 => exact Nat.zero_le _
    intro w1 hown hgrow
    obtain ⟨cur, hcur, hcs⟩ := own_lit hown
    have hF1 : Fr [] w w1 := Fr.grown (S := []) hgrow (by simp)
    have hcl : (ints qs).length = N := by rw [ints_length, HL.out]
    have hS1 := h.keep hF1
    have c2' := hS1.c2
    have hcp := run_copy_row (P := Tryz.prog) w1 54 54 3 3 w.heap.size 0 N N ⟨b, off, none⟩ N cap cur 3 (ints qs) Tryz.undIs Tryz.sizeI hcur (by rw [hcl]; exact (Nat.min_self N).symm) (HI.out.keep hF1).src (by omega) (ints_oneCell qs)
    rw [hcl] at hcp
    have hcur2 : cur.toList.drop (0 + N) = [] := by simp [hcs]
    rw [hcur2, List.take_zero, List.append_nil, List.nil_append] at hcp
    have HF : Hid (Is (w1.setRow w.heap.size (ints qs).toArray) (some ⟨w.heap.size, 0, none⟩) qs ∧ Fr [] w (w1.setRow w.heap.size (ints qs).toArray)) := ⟨Is.of_row (setRow_heap w1 _ _ _ _ _ hcur), hF1.on (Fr.setRow w1 _ _) (by simp)⟩
    clear hcur hown hgrow hF1 hS1 hcl hcs hcur2 h c2
    go_wp2
    go_ret
    exact ⟨_, rfl, HF.out.1, HF.out.2⟩
  · obtain rfl : N = 0 := by omega
    go_enter Tryz.func32, Tryz.ntmps32
    go_wp2_with fail
    refine (sThere_any h).mono ?_
    rintro e w1 ⟨rfl, rfl⟩
    go_wp2
    go_ret
    exact ⟨_, rfl, ⟨fun hh => by have := HL.out; omega⟩, Fr.refl _ _⟩

set_option maxHeartbeats 2000000 in
set_option maxRecDepth 100000 in
theorem sameInts_any (a b : Option Addr) (L ca cb : Nat) (xs : List Nat) (w : World) (ha : Is w a xs) (hb : Is w b xs) (hL : L = xs.length) (hLl : L < 2 ^ 40) :
    Calls Tryz.prog 33 #[.slice a L ca, .slice b L cb] w fun e w' => e = .returned (.bool true) ∧ ∃ q, w' = w.drewN q := by
  have HL : Hid (L = xs.length) := hL
  have hne : ((L : Int) != L) = false := by simp
  clear hL
  by_cases h0 : 0 < L
  · obtain ⟨ba, oa, rfl, hca⟩ := ha.lies (by rw [← HL.out]; exact h0)
    obtain ⟨bb, ob, rfl, hcb⟩ := hb.lies (by rw [← HL.out]; exact h0)
    rw [← HL.out] at hca hcb
    go_enter Tryz.func33, Tryz.ntmps33
    go_wp2_with fail
    go_loopw [5] (fun ii wr => ∃ (i q : Nat), ii = .int .i64 i ∧ i ≤ L ∧ wr = w.drewN q) (fun ii _ => L - (RowKit.intOf ii).toNat)
    case atStart => exact ⟨0, 0, rfl, Nat.zero_le _, rfl⟩
    case round =>
      obtain ⟨i, q, rfl, hiL, rfl⟩ := hrel
      by_cases hi : i < L
      · have hx := hca i hi
        have hy := hcb i hi
        obtain ⟨x, hxx⟩ : ∃ x, x = xs.getD i 0 := ⟨_, rfl⟩
        rw [← hxx] at hx hy
        clear hxx hca hcb
        have hb1 : ((x : Int) != x) = false := by simp
        go_wp2_with fail
        go_quiet (fail)
        go_wp2
        go_roundw
        case rel => exact ⟨i + 1, _, by simp, by omega, rfl⟩
        case measure => simp [RowKit.intOf]; omega
      · go_wp2
        go_ret
        exact ⟨rfl, _, rfl⟩
  · obtain rfl : L = 0 := by omega
    go_enter Tryz.func33, Tryz.ntmps33
    go_wp2_with fail
    refine wp_loop_rounds 1 ?_
    rw [rounds_succ]
    go_wp2
    go_ret
    exact ⟨rfl, 0, rfl⟩
end Go.Proofs.YtaefninikmaiiaaGreatDoor
/- What == and != say of two writes. No conditions. -/
namespace Go.Proofs.YtaefninikmaiiaaGreatDoor
open Go.ChangeShapes Go.WideShapes Go.ChangeAt Go.RowKit Go.Lib
set_option linter.unusedVariables false
theorem Tryz.undWt : Tryz.prog.underlying 124 = some (.struct (Tryz.prog.fieldsOf 124)) := by kernel_rfl
theorem Tryz.heldWt : Tryz.prog.stoodInHeld 124 = false := by kernel_rfl
theorem Tryz.guardWt : Tryz.prog.eqGuardType Tryz.prog.depth 124 = false := by kernel_rfl
theorem Tryz.fieldsWt : (Tryz.prog.fieldsOf 124).toList.map (fun f => (f.name == "_", f.type, f.offset)) = [(false, 9, 0), (false, 9, 1), (false, 4, 2)] := by kernel_rfl
theorem Tryz.undBool : Tryz.prog.underlying 4 = some .bool := by kernel_rfl
theorem Tryz.infoStr1 : (Tryz.prog.info? 9).map (fun i => i.size) = some 1 := by kernel_rfl
theorem Tryz.infoBool1 : (Tryz.prog.info? 4).map (fun i => i.size) = some 1 := by kernel_rfl
theorem part_str (w : World) (cs : Array Value) (off : Nat) (v : Value) (h : cs[off]? = some v) : (part 9 cs off).run Tryz.prog w = .ok v w := by
  simp [part, isAgg, run_underlying Tryz.undStr, h, Sem.run_bind]
theorem part_bool (w : World) (cs : Array Value) (off : Nat) (v : Value) (h : cs[off]? = some v) : (part 4 cs off).run Tryz.prog w = .ok v w := by
  simp [part, isAgg, run_underlying Tryz.undBool, h, Sem.run_bind]
theorem eq_str (w : World) (a b : ByteArray) : (Op.equalIn 9999 9 (.string a) (.string b)).run Tryz.prog w = .ok (a.toList == b.toList) w := run_equalIn_string w 9998 _ a b Tryz.undStr
theorem eq_bool (w : World) (a b : Bool) : (Op.equalIn 9999 4 (.bool a) (.bool b)).run Tryz.prog w = .ok (a == b) w := run_equalIn_bool w 9998 _ a b Tryz.undBool
theorem step_field {P : Program} {w : World} {A B : Sem Value} {E : Value → Value → Sem Bool} {K : Sem Bool} {a b : Value} {r : Bool} (hA : A.run P w = .ok a w) (hB : B.run P w = .ok b w) (hE : (E a b).run P w = .ok r w) :
    (do let a ← A; let b ← B; let r ← E a b; if (!r) = true then pure false else K : Sem Bool).run P w = if r = true then K.run P w else .ok false w := by
  simp only [Sem.run_bind, hA, hB, hE, Result.andThen_ok]
  cases r <;> simp
set_option maxRecDepth 100000 in
theorem wt_fields (w : World) (k1 v1 k2 v2 : ByteArray) (p1 p2 : Bool) : (Op.equalIn 10000 124 (.agg #[.string k1, .string v1, .bool p1]) (.agg #[.string k2, .string v2, .bool p2])).run Tryz.prog w = .ok (k1.toList == k2.toList && (v1.toList == v2.toList && p1 == p2)) w := by
  rw [run_equalIn_struct w 9999 _ _ _ Tryz.undWt Tryz.heldWt]
  have hF := Tryz.fieldsWt
  obtain ⟨l, hl⟩ : ∃ l, l = (Tryz.prog.fieldsOf 124).toList := ⟨_, rfl⟩
  rw [← hl] at hF ⊢
  match l, hF with
  | [f0, f1, f2], hF =>
    simp only [List.map_cons, List.map_nil, List.cons.injEq, Prod.mk.injEq, and_true] at hF
    obtain ⟨⟨n0, t0, o0⟩, ⟨n1, t1, o1⟩, ⟨n2, t2, o2⟩⟩ := hF
    have m0 : f0.name ≠ "_" := by simpa using n0
    have m1 : f1.name ≠ "_" := by simpa using n1
    have m2 : f2.name ≠ "_" := by simpa using n2
    simp only [Op.eqFields, if_pos m0, if_pos m1, if_pos m2, t0, t1, t2, o0, o1, o2]
    rw [step_field (part_str w _ 0 _ rfl) (part_str w _ 0 _ rfl) (eq_str w k1 k2)]
    rw [step_field (part_str w _ 1 _ rfl) (part_str w _ 1 _ rfl) (eq_str w v1 v2)]
    rw [step_field (part_bool w _ 2 _ rfl) (part_bool w _ 2 _ rfl) (eq_bool w p1 p2)]
    cases (k1.toList == k2.toList) <;> cases (v1.toList == v2.toList) <;> cases (p1 == p2) <;> simp
/-- Are two writes the same? -/
def sameW (x y : Wt) : Bool := x.key.toList == y.key.toList && (x.val.toList == y.val.toList && x.drop == y.drop)
theorem sameW_iff (x y : Wt) : sameW x y = true ↔ x = y := by
  obtain ⟨k1, v1, p1⟩ := x
  obtain ⟨k2, v2, p2⟩ := y
  simp only [sameW, Bool.and_eq_true, beq_iff_eq, tl_inj, Wt.mk.injEq]
theorem wt_in (w : World) (x y : Wt) : (Op.equalIn 10000 124 (.agg #[.string x.key, .string x.val, .bool x.drop]) (.agg #[.string y.key, .string y.val, .bool y.drop])).run Tryz.prog w = .ok (sameW x y) w := wt_fields w _ _ _ _ _ _
theorem wt_neq (w : World) (x y : Wt) : (binOp .neq 124 (.agg #[.string x.key, .string x.val, .bool x.drop]) (.agg #[.string y.key, .string y.val, .bool y.drop])).run Tryz.prog w = .ok (.bool (!sameW x y)) w := by
  rw [run_neq_struct, wt_fields]
  rfl
theorem wt_eql (w : World) (x y : Wt) : (binOp .eql 124 (.agg #[.string x.key, .string x.val, .bool x.drop]) (.agg #[.string y.key, .string y.val, .bool y.drop])).run Tryz.prog w = .ok (.bool (sameW x y)) w := by
  rw [run_eql_struct, wt_fields]
  rfl
end Go.Proofs.YtaefninikmaiiaaGreatDoor
/- The statements' own helpers: SameWrites, SameTxn, WritesSize, TxnSize, Beyond of two; a transaction that came in. Conditions as each names them. -/
namespace Go.Proofs.YtaefninikmaiiaaGreatDoor
open Go.ChangeShapes Go.WideShapes Go.ChangeAt Go.RowKit Go.Lib
set_option linter.unusedVariables false

theorem wsame_upto (xs ys : List Wt) (hl : xs.length = ys.length) (h : ∀ j, j < xs.length → xs.getD j Wt.zero = ys.getD j Wt.zero) : xs = ys := by
  apply List.ext_getElem hl
  intro i h1 h2
  have := h i h1
  simpa [List.getD, h1, h2] using this

set_option maxHeartbeats 4000000 in
set_option maxRecDepth 100000 in
theorem sameWs_any (a b : Option Addr) (L M ca cb : Nat) (R : Bool) (xs ys : List Wt) (w : World) (ha : WRs w a xs) (hb : WRs w b ys) (hL : L = xs.length) (hM : M = ys.length) (hR : R = true ↔ xs = ys) :
    Calls Tryz.prog 94 #[.slice a L ca, .slice b M cb] w fun e w' => e = .returned (.bool R) ∧ ∃ q, w' = w.drewN q := by
  have HR : Hid (R = true ↔ xs = ys) := hR
  have HL : Hid (L = xs.length) := hL
  have HM : Hid (M = ys.length) := hM
  have hLl : L ≤ 140737488355328 := by have := ha.few; omega
  have hMl : M ≤ 140737488355328 := by have := hb.few; omega
  clear hR hL hM
  by_cases hLM : L = M
  · subst hLM
    have hne : ((L : Int) != L) = false := by simp
    by_cases h0 : 0 < L
    · obtain ⟨ba, oa, rfl, _, hca⟩ := ha.lies (by rw [← HL.out]; exact h0)
      obtain ⟨bb, ob, rfl, _, hcb⟩ := hb.lies (by rw [← HM.out]; exact h0)
      rw [← HL.out] at hca
      rw [← HM.out] at hcb
      go_enter Tryz.func94, Tryz.ntmps94
      go_wp2_with fail
      go_loopw [5] (fun ii wr => ∃ (i q : Nat), ii = .int .i64 i ∧ i ≤ L ∧ Hid (∀ j, j < i → xs.getD j Wt.zero = ys.getD j Wt.zero) ∧ wr = w.drewN q) (fun ii _ => L - (RowKit.intOf ii).toNat)
      case atStart => exact ⟨0, 0, rfl, Nat.zero_le _, fun j hj => by omega, rfl⟩
      case round =>
        obtain ⟨i, q, rfl, hiL, HE, rfl⟩ := hrel
        by_cases hi : i < L
        · obtain ⟨c0, c1, c2⟩ := hca i hi
          obtain ⟨d0, d1, d2⟩ := hcb i hi
          obtain ⟨x, hxx⟩ : ∃ x, x = xs.getD i Wt.zero := ⟨_, rfl⟩
          obtain ⟨y, hyy⟩ : ∃ y, y = ys.getD i Wt.zero := ⟨_, rfl⟩
          rw [← hxx] at c0 c1 c2
          rw [← hyy] at d0 d1 d2
          have HX : Hid (x = xs.getD i Wt.zero) := hxx
          have HY : Hid (y = ys.getD i Wt.zero) := hyy
          clear hxx hyy hca hcb
          have hq : ∀ w', (Op.equalIn 10000 124 (.agg #[.string x.key, .string x.val, .bool x.drop]) (.agg #[.string y.key, .string y.val, .bool y.drop])).run Tryz.prog w' = .ok (sameW x y) w' := fun w' => wt_in w' x y
          have hgd := Tryz.guardWt
          obtain ⟨B, hB⟩ : ∃ B, B = sameW x y := ⟨_, rfl⟩
          rw [← hB] at hq
          have HB : Hid (B = true ↔ x = y) := by rw [hB]; exact sameW_iff x y
          clear hB
          cases B with
          | true =>
            have hxy : x = y := HB.out.1 rfl
            have HE2 : Hid (∀ j, j < i + 1 → xs.getD j Wt.zero = ys.getD j Wt.zero) := by
              intro j hj
              by_cases hji : j = i
              · subst hji; exact HX.out.symm.trans (hxy.trans HY.out)
              · exact HE.out j (by omega)
            clear HB hxy
            go_wp2_with fail
            go_quiet (fail)
            go_wp2
            go_roundw
            case rel => exact ⟨i + 1, _, by simp, by omega, HE2, rfl⟩
            case measure => simp [RowKit.intOf]; omega
          | false =>
            have HR' : Hid (R = false) := by
              show R = false
              have : ¬ R = true := fun h => by
                have hxy : x = y := by rw [HX.out, HY.out, HR.out.1 h]
                exact absurd (HB.out.2 hxy) (by simp)
              simpa using this
            clear HB
            go_wp2_with fail
            go_quiet (fail)
            go_wp2
            go_ret
            rw [HR'.out]
            exact ⟨rfl, q + nq, by simp⟩
        · have HR' : Hid (R = true) := by
            show R = true
            exact HR.out.2 (wsame_upto xs ys (HL.out.symm.trans HM.out) (fun j hj => HE.out j (by rw [← HL.out] at hj; omega)))
          go_wp2
          go_ret
          rw [HR'.out]
          exact ⟨rfl, _, rfl⟩
    · obtain rfl : L = 0 := by omega
      have HR' : Hid (R = true) := by
        show R = true
        rw [HR.out, List.eq_nil_of_length_eq_zero HL.out.symm, List.eq_nil_of_length_eq_zero HM.out.symm]
      go_enter Tryz.func94, Tryz.ntmps94
      go_wp2_with fail
      refine wp_loop_rounds 1 ?_
      rw [rounds_succ]
      go_wp2
      go_ret
      rw [HR'.out]
      exact ⟨rfl, 0, rfl⟩
  · have hne : ((L : Int) != M) = true := by rw [bne_iff_ne]; omega
    have HR' : Hid (R = false) := by
      show R = false
      have : ¬ R = true := fun h => hLM (by rw [HL.out, HM.out, HR.out.1 h])
      simpa using this
    clear hLM
    go_enter Tryz.func94, Tryz.ntmps94
    go_wp2
    go_ret
    rw [HR'.out]
    exact ⟨rfl, 0, rfl⟩

set_option maxHeartbeats 2000000 in
set_option maxRecDepth 100000 in
theorem sameTxn_any (m n : Int) (a b : Option Addr) (L M ca cb : Nat) (R : Bool) (xs ys : List Wt) (w : World) (ha : WRs w a xs) (hb : WRs w b ys) (hL : L = xs.length) (hM : M = ys.length) (hR : R = true ↔ m = n ∧ xs = ys) :
    Calls Tryz.prog 27 #[.agg #[.int .i64 m, .slice a L ca], .agg #[.int .i64 n, .slice b M cb]] w fun e w' => e = .returned (.bool R) ∧ Fr [] w w' := by
  have HR : Hid (R = true ↔ m = n ∧ xs = ys) := hR
  have HL : Hid (L = xs.length) := hL
  have HM : Hid (M = ys.length) := hM
  clear hR hL hM
  have hF0 : Fr [] w ((w.alloc (.cells #[.int .i64 m, .slice a L ca] 63)).alloc (.cells #[.int .i64 n, .slice b M cb] 63)) := (Fr.alloc [] w _).then (Fr.alloc [] _ _)
  have ha0 := ha.keep hF0
  have hb0 := hb.keep hF0
  by_cases h : m = n
  · subst h
    have hbb : (m == m) = true := by simp
    have HR' : Hid (R = true ↔ xs = ys) := by show _ ↔ _; rw [HR.out]; simp
    clear HR
    go_enter Tryz.func27, Tryz.ntmps27
    go_wp2_with fail
    refine (sameWs_any a b L M ca cb R xs ys _ ha0 hb0 HL.out HM.out HR'.out).mono ?_
    rintro e w1 ⟨rfl, q, rfl⟩
    go_wp2
    go_ret
    exact ⟨rfl, hF0.then (Fr.drewN _ _ _)⟩
  · have hbb : (m == n) = false := by rw [beq_eq_false_iff_ne]; exact h
    have HR' : Hid (R = false) := by
      show R = false
      have : ¬ R = true := fun hh => h (HR.out.1 hh).1
      simpa using this
    clear h
    go_enter Tryz.func27, Tryz.ntmps27
    go_wp2
    go_ret
    rw [HR'.out]
    exact ⟨rfl, hF0⟩

/-! ### How great a transaction is -/
def wsum : List Wt → Nat
  | [] => 0
  | x :: r => x.key.size + x.val.size + wsum r
theorem wsum_snoc (l : List Wt) (x : Wt) : wsum (l ++ [x]) = wsum l + x.key.size + x.val.size := by
  induction l with
  | nil => simp [wsum]
  | cons a r ih => simp only [List.cons_append, wsum, ih]; omega
/-- The statements' size of some writes: at least 1048577 if they are more. -/
def Wide (N : Nat) (ws : List Wt) : Prop := ws.length ≤ N ∧ N ≤ 2^50 ∧ (N ≤ 1048576 → ∀ x ∈ ws, x.key.size ≤ 1048576 ∧ x.val.size ≤ 1048576)

set_option maxHeartbeats 4000000 in
set_option maxRecDepth 100000 in
theorem wsSize_any (a : Option Addr) (L ca : Nat) (xs : List Wt) (w : World) (ha : WRs w a xs) (hL : L = xs.length) :
    Calls Tryz.prog 101 #[.slice a L ca] w fun e w' => ∃ N : Nat, e = .returned (.int .i64 (N : Int)) ∧ Wide N xs ∧ ∃ q, w' = w.drewN q := by
  have HL : Hid (L = xs.length) := hL
  have hLl : L ≤ 140737488355328 := by have := ha.few; omega
  clear hL
  by_cases h0 : 0 < L
  · obtain ⟨ba, oa, rfl, _, hca⟩ := ha.lies (by rw [← HL.out]; exact h0)
    rw [← HL.out] at hca
    go_enter Tryz.func101, Tryz.ntmps101
    go_wp2_with fail
    go_loopw [3, 4] (fun vv ii wr => ∃ (n i q : Nat), vv = .int .i64 n ∧ ii = .int .i64 i ∧ i ≤ L ∧ L ≤ n ∧ n ≤ 422212465065984 ∧ Hid (∀ j, j < i → n ≤ 1048576 → (xs.getD j Wt.zero).key.size ≤ 1048576 ∧ (xs.getD j Wt.zero).val.size ≤ 1048576) ∧ wr = w.drewN q) (fun _ ii _ => L - (RowKit.intOf ii).toNat)
    case atStart => exact ⟨L, 0, 0, rfl, rfl, Nat.zero_le _, Nat.le_refl _, by omega, fun j hj => by omega, rfl⟩
    case round =>
      obtain ⟨n, i, q, rfl, rfl, hiL, hLn, hn, HE, rfl⟩ := hrel
      by_cases hi : i < L
      · by_cases hbig : 1048576 < n
        · have hb' : (1048576 : Int) < n := by omega
          have hi' : (i : Int) < L := by omega
          go_wp2
          go_ret
          exact ⟨n, rfl, ⟨by rw [← HL.out]; omega, by omega, fun h => by omega⟩, q, rfl⟩
        · have hb' : (n : Int) ≤ 1048576 := by omega
          obtain ⟨c0, c1, c2⟩ := hca i hi
          have hm := ha.each _ (wgetD_mem xs i (by rw [← HL.out]; exact hi))
          obtain ⟨x, hxx⟩ : ∃ x, x = xs.getD i Wt.zero := ⟨_, rfl⟩
          rw [← hxx] at c0 c1 c2 hm
          have HX : Hid (x = xs.getD i Wt.zero) := hxx
          clear hxx hca
          obtain ⟨key, val, drop⟩ := x
          simp only at c0 c1 c2 hm
          have HE2 : Hid (∀ j, j < i + 1 → n + key.size + val.size ≤ 1048576 → (xs.getD j Wt.zero).key.size ≤ 1048576 ∧ (xs.getD j Wt.zero).val.size ≤ 1048576) := by
            intro j hj hle
            by_cases hji : j = i
            · subst hji
              rw [← HX.out]
              exact ⟨by simp only; omega, by simp only; omega⟩
            · exact HE.out j (by omega) (by omega)
          obtain ⟨K, hK⟩ : ∃ K, K = key.size := ⟨_, rfl⟩
          obtain ⟨V, hV⟩ : ∃ V, V = val.size := ⟨_, rfl⟩
          have hk1 := hm.1
          have hv1 := hm.2
          clear hm
          go_wp2_with fail
          go_quiet (fail)
          go_wp2
          go_roundw
          case rel => exact ⟨n + key.size + val.size, i + 1, _, by simp, by simp, by omega, by omega, by omega, HE2, rfl⟩
          case measure => simp [RowKit.intOf]; omega
      · go_wp2
        go_ret
        refine ⟨n, rfl, ⟨by rw [← HL.out]; omega, by omega, fun h x hx => ?_⟩, q, rfl⟩
        obtain ⟨j, hj, rfl⟩ := List.getElem_of_mem hx
        have := HE.out j (by have := HL.out; omega) h
        simpa [List.getD, hj] using this
  · obtain rfl : L = 0 := by omega
    have : xs = [] := List.eq_nil_of_length_eq_zero HL.out.symm
    subst this
    go_enter Tryz.func101, Tryz.ntmps101
    go_wp2_with fail
    refine wp_loop_rounds 1 ?_
    rw [rounds_succ]
    go_wp2
    go_ret
    exact ⟨0, rfl, ⟨by simp, by omega, by simp⟩, 0, rfl⟩
set_option maxHeartbeats 2000000 in
set_option maxRecDepth 100000 in
theorem txSize_any (m : Int) (a : Option Addr) (L ca : Nat) (xs : List Wt) (w : World) (ha : WRs w a xs) (hL : L = xs.length) :
    Calls Tryz.prog 39 #[.agg #[.int .i64 m, .slice a L ca]] w fun e w' => ∃ N : Nat, e = .returned (.int .i64 ((N + 1 : Nat) : Int)) ∧ Wide N xs ∧ Fr [] w w' := by
  have HL : Hid (L = xs.length) := hL
  clear hL
  have hF0 : Fr [] w (w.alloc (.cells #[.int .i64 m, .slice a L ca] 63)) := Fr.alloc [] w _
  have ha0 := ha.keep hF0
  go_enter Tryz.func39, Tryz.ntmps39
  go_wp2_with fail
  refine (wsSize_any a L ca xs _ ha0 HL.out).mono ?_
  rintro e w1 ⟨N, rfl, hN, q, rfl⟩
  have hN2 := hN.2.1
  have HN : Hid (Wide N xs) := hN
  clear hN
  go_wp2
  go_ret
  exact ⟨N, by simp; omega, HN.out, hF0.then (Fr.drewN _ _ _)⟩
end Go.Proofs.YtaefninikmaiiaaGreatDoor
/- What the statements' helpers TwinWrites, TwinTxn, LeftWrites and LeftTxn answer. Conditions: fewer than 2^21 writes. -/
namespace Go.Proofs.YtaefninikmaiiaaGreatDoor
open Go.ChangeShapes Go.WideShapes Go.ChangeAt Go.RowKit Go.Lib
set_option linter.unusedVariables false
set_option linter.unusedSimpArgs false

/-- The write that stands in a twin's spare room. -/
def spW : Wt := ⟨⟨#[115, 112, 97, 114, 101]⟩, ⟨#[]⟩, false⟩
theorem Tryz.infoWtW : (Tryz.prog.info? 124).map (fun i => (i.zero, i.size, i.bytes)) = some (some (.agg #[.string ⟨#[]⟩, .string ⟨#[]⟩, .bool false]), 3, 40) := by kernel_rfl
theorem Tryz.undWsW : Tryz.prog.underlying 61 = some (.slice 124) := by kernel_rfl
theorem results_cW {fn : Func} {p : Tmp} {ty : TypeId} (h : fn.results = #[.cell p ty]) (tmps : Array Value) (P : Program) (w : World) :
    (results fn tmps).run P w = ((asAddr (tmps.getD p undef)).run P w).andThen fun a w₁ => (loadVar ty a).run P w₁ := by
  simp only [results, h]
  simp [Sem.run_bind, Result.andThen]
theorem wown_full {w : World} {g n : Nat} {xs : List Value} (h : w.ownsRow 0 124 3 (.slice (some ⟨g, 0, none⟩) n n) n xs) : w.heap[g]? = some (.cells xs.toArray 124 (0, 0)) := by
  have hl := h.1
  rcases h.2 with ⟨hh, _⟩ | ⟨g', cap', cur, hh, _, hg, _, _, hcs, ht⟩
  · cases hh
  · cases hh
    rw [hg]
    congr 2
    rw [← Array.toList_inj]
    simp only
    rw [← ht, List.take_of_length_le (by simp [hcs])]

set_option maxHeartbeats 4000000 in
set_option maxRecDepth 100000 in
theorem twinWs_any (ao : Option Addr) (L cap : Nat) (ws : List Wt) (w : World) (h : WRs w ao ws) (hLe : L = ws.length) (hL : L < 2^21) :
    Calls Tryz.prog 102 #[.slice ao L cap] w fun e w' => ∃ b, e = .returned (.slice (some ⟨b, 0, none⟩) L (L + 1)) ∧ w.heap.size ≤ b ∧ w'.heap[b]? = some (.cells (wtsC (ws ++ [spW])).toArray 124 (0, 0)) ∧ Fr [] w w' := by
  obtain ⟨i0, hi, hz0, hz1, hz2⟩ := info_parts Tryz.infoWtW
  have HL : Hid (L = ws.length) := hLe
  clear hLe
  go_enter Tryz.func102, Tryz.ntmps102
  go_wp2_with (at_make; refine wpList_make_own _ rfl (.const (.int .i64 0)) (.tmp 7) 61 rfl 0 124 i0 _ 3 Tryz.undWsW hi hz0 hz1 .i64 .i64 ((L : Int) + 1) (L + 1) rfl rfl ?bC ?b2 ?b3 ?b4 ?_)
  case bC => simp
  case b2 => rw [hz2]; omega
  case b3 => unfold maxLen; omega
  case b4 => exact Nat.zero_le _
  intro w1 hown hgrow
  obtain ⟨g, hg⟩ : ∃ g, g = w.heap.size := ⟨_, rfl⟩
  have hgw : w.heap.size ≤ g := by omega
  rw [← hg] at hown ⊢
  have h01 : Fr [] w w1 := Fr.grown (S := []) hgrow (by simp)
  clear hgrow hg
  go_wp2_with fail
  go_loopw [3, 4] (fun vv ii wr => ∃ i : Nat, vv = .slice (some ⟨g, 0, none⟩) i (L + 1) ∧ ii = .int .i64 i ∧ i ≤ L ∧ wr.ownsRow 0 124 3 (.slice (some ⟨g, 0, none⟩) i (L + 1)) i (wtsC (ws.take i)) ∧ Fr [] w wr) (fun _ ii _ => L - (RowKit.intOf ii).toNat)
  case atStart => exact ⟨0, rfl, rfl, Nat.zero_le _, hown, h01⟩
  case round =>
    obtain ⟨i, rfl, rfl, hiL, hO, hF⟩ := hrel
    have hsz := (hO.lt g rfl).2
    by_cases hil : i < L
    · have hi' : i < ws.length := by rw [← HL.out]; exact hil
      obtain ⟨b, off, e, _, hc⟩ := (h.keep hF).lies (by omega)
      subst e
      obtain ⟨d0, d1, d2⟩ := hc i hi'
      obtain ⟨x, hx⟩ : ∃ x, x = ws.getD i Wt.zero := ⟨_, rfl⟩
      rw [← hx] at d0 d1 d2
      have HE : Hid (wtsC (ws.take (i + 1)) = wtsC (ws.take i) ++ [.string x.key, .string x.val, .bool x.drop]) := by
        show _ = _
        rw [wtake_snoc ws i hi', wtsC_append, ← hx]; rfl
      clear hc hx
      obtain ⟨key, val, drop⟩ := x
      simp only at d0 d1 d2 HE
      go_wp2_with (at_builtin; refine wpList_append_fits _ rfl (.tmp 15) (.tmp 20) 61 rfl 0 124 i0 3 Tryz.undWsW hi hz1 g i (L + 1) _ rfl (hO.alloc _) ⟨wr.heap.size, 0, none⟩ 1 1 [.string key, .string val, .bool drop] rfl rfl ?c1 ?c2 ?c3 ?_)
      case c1 => intro j u hj; match j, hj with | 0, hj => simp at hj; subst hj; simp [Addr.add] | 1, hj => simp at hj; subst hj; simp [Addr.add] | 2, hj => simp at hj; subst hj; simp [Addr.add]
      case c2 => intro u hu; simp at hu; rcases hu with rfl | rfl | rfl <;> rfl
      case c3 => omega
      intro w2 hO2 hg2
      rw [← HE.out] at hO2
      have hF2 : Fr [] w w2 := (hF.then (Fr.alloc [] wr _)).on (Fr.grown (S := [g]) hg2 (by intro k hk _; cases hk; simp)) (by intro y hy; simp at hy; omega)
      clear hO hg2 hF d0 d1 d2
      go_wp2
      go_roundw
      case rel => exact ⟨i + 1, rfl, by simp, by omega, hO2, hF2⟩
      case measure => simp [RowKit.intOf]; omega
    · have hiL' : L ≤ i := by omega
      obtain rfl : i = L := by omega
      have HE : Hid (wtsC (ws ++ [spW]) = wtsC (ws.take i) ++ [.string ⟨#[115, 112, 97, 114, 101]⟩, .string ⟨#[]⟩, .bool false]) := by
        show _ = _
        rw [List.take_of_length_le (by rw [← HL.out]; omega), wtsC_append]; rfl
      go_wp2_with (at_builtin; refine wpList_append_fits _ rfl (.tmp 22) (.tmp 24) 61 rfl 0 124 i0 3 Tryz.undWsW hi hz1 g i (i + 1) _ rfl (hO.alloc _) ⟨wr.heap.size, 0, none⟩ 1 1 [.string ⟨#[115, 112, 97, 114, 101]⟩, .string ⟨#[]⟩, .bool false] rfl rfl ?c1 ?c2 ?c3 ?_)
      case c1 => intro j u hj; match j, hj with | 0, hj => simp at hj; subst hj; simp [Addr.add] | 1, hj => simp at hj; subst hj; simp [Addr.add] | 2, hj => simp at hj; subst hj; simp [Addr.add]
      case c2 => intro u hu; simp at hu; rcases hu with rfl | rfl | rfl <;> rfl
      case c3 => omega
      intro w2 hO2 hg2
      rw [← HE.out] at hO2
      have hF2 : Fr [] w w2 := (hF.then (Fr.alloc [] wr _)).on (Fr.grown (S := [g]) hg2 (by intro k hk _; cases hk; simp)) (by intro y hy; simp at hy; omega)
      have HRow : Hid (w2.heap[g]? = some (.cells (wtsC (ws ++ [spW])).toArray 124 (0, 0))) := wown_full hO2
      clear hO hg2 hF hO2
      go_wp2
      go_ret
      exact ⟨g, rfl, hgw, HRow.out, hF2⟩

set_option maxHeartbeats 4000000 in
set_option maxRecDepth 100000 in
theorem twinTxn_any (n : Int) (ao : Option Addr) (L cap : Nat) (ws : List Wt) (w : World) (h : WRs w ao ws) (hLe : L = ws.length) (hL : L < 2^21) :
    Calls Tryz.prog 40 #[.agg #[.int .i64 n, .slice ao L cap]] w fun e w' => ∃ b, e = .returned (.agg #[.int .i64 n, .slice (some ⟨b, 0, none⟩) L (L + 1)]) ∧ w.heap.size ≤ b ∧ w'.heap[b]? = some (.cells (wtsC (ws ++ [spW])).toArray 124 (0, 0)) ∧ Fr [] w w' := by
  have HLe : Hid (L = ws.length) := hLe
  clear hLe
  obtain ⟨w0, HW0⟩ : ∃ w0, Hid ((w.alloc (.cells #[.int .i64 n, .slice ao L cap] 63)).alloc (.cells #[.int .i64 0, .slice none 0 0] 63) = w0) := ⟨_, rfl⟩
  have hF0 : Fr [] w w0 := by rw [← HW0.out]; exact (Fr.alloc [] w _).then (Fr.alloc [] _ _)
  have hb0 : w0.heap[w.heap.size]? = some (.cells #[.int .i64 n, .slice ao L cap] 63 (0, 0)) := by rw [← HW0.out]; exact (Fr.alloc [] _ _).keep (heap_alloc_new w _) (by simp)
  have hb1 : w0.heap[w.heap.size + 1]? = some (.cells #[.int .i64 0, .slice none 0 0] 63 (0, 0)) := by
    rw [← HW0.out]
    have := heap_alloc_new (w.alloc (.cells #[.int .i64 n, .slice ao L cap] 63)) (.cells #[.int .i64 0, .slice none 0 0] 63)
    simpa using this
  have HB : Hid (∀ W, Fr [] w0 W → W.heap[w.heap.size]? = some (.cells #[.int .i64 n, .slice ao L cap] 63 (0, 0)) ∧ W.heap[w.heap.size + 1]? = some (.cells #[.int .i64 0, .slice none 0 0] 63 (0, 0))) := fun W hf => ⟨hf.keep hb0 (by simp), hf.keep hb1 (by simp)⟩
  have hcell : ∀ W, Fr [] w0 W → W.cell? ⟨w.heap.size, 0, none⟩ = some (.int .i64 n) ∧ W.cell? ⟨w.heap.size, 1, none⟩ = some (.slice ao L cap) ∧ W.cell? ⟨w.heap.size + 1, 0, none⟩ = some (.int .i64 0) ∧ W.cell? ⟨w.heap.size + 1, 1, none⟩ = some (.slice none 0 0) ∧ W.frozen? ⟨w.heap.size + 1, 0, none⟩ = false ∧ W.frozen? ⟨w.heap.size + 1, 1, none⟩ = false := by
    intro W hf
    obtain ⟨a, b⟩ := HB.out W hf
    refine ⟨?_, ?_, ?_, ?_, ?_, ?_⟩
    · rw [cell_of_row _ _ _ _ _ _ a]; rfl
    · rw [cell_of_row _ _ _ _ _ _ a]; rfl
    · rw [cell_of_row _ _ _ _ _ _ b]; rfl
    · rw [cell_of_row _ _ _ _ _ _ b]; rfl
    · simp [World.frozen?, b]
    · simp [World.frozen?, b]
  have HCe : Hid (∀ W, Fr [] w0 W → _) := hcell
  obtain ⟨k0, k1, k2, k3, k4, k5⟩ := hcell _ (Fr.drew [] w0)
  have hT := twinWs_any ao L cap ws w0.drew (h.keep (hF0.then (Fr.drew [] w0))) HLe.out hL
  clear hcell hb0 hb1
  have hs0 : w0.heap.size = w.heap.size + 2 := by rw [← HW0.out]; simp
  go_enter Tryz.func40, Tryz.ntmps40
  go_upto_region 1 with fail
  rw [HW0.out]
  first
    | go_loud (go_region_held3 (fun W => W.cell? ⟨w.heap.size, 0, none⟩ = some (.int .i64 n) ∧ W.cell? ⟨w.heap.size, 1, none⟩ = some (.slice ao L cap)) (go_keep)
        (first
        | (go_at_call 102; with_reducible refine hT.mono ?_; rintro e w1 ⟨b, rfl, hb, hrow, hF1⟩; have hG1 := (Fr.drew [] w0).then hF1; obtain ⟨j0, j1, j2, j3, j4, j5⟩ := HCe.out _ hG1)))
    | fail
  have hbb : b ≠ w.heap.size + 1 := by have : w0.drew.heap.size = w0.heap.size := rfl; omega
  have hFs : Fr [w.heap.size + 1] w1 ((w1.setCell ⟨w.heap.size + 1, 0, none⟩ (.int .i64 n)).setCell ⟨w.heap.size + 1, 1, none⟩ (.slice (some ⟨b, 0, none⟩) L (L + 1))) := (Fr.set w1 ⟨w.heap.size + 1, 0, none⟩ _ (by simp)).then (Fr.set _ ⟨w.heap.size + 1, 1, none⟩ _ (by simp))
  have HR : Hid (_ ∧ _) := ⟨hFs.keep hrow (by simp; exact hbb), (hF0.then hG1).on hFs (by intro x hx; simp at hx; omega)⟩
  have hbw : w.heap.size ≤ b := by have : w0.drew.heap.size = w0.heap.size := rfl; omega
  clear hFs hrow hF1 hG1 hT
  go_wp2
  refine bodyPost_ret (v := (.agg #[.int .i64 n, .slice (some ⟨b, 0, none⟩) L (L + 1)])) (by rw [results_cW rfl]; go_simp) rfl ⟨b, rfl, hbw, HR.out.1, HR.out.2⟩

set_option maxHeartbeats 4000000 in
set_option maxRecDepth 100000 in
theorem leftWs_any (t : Nat) (ao : Option Addr) (L cap : Nat) (ws : List Wt) (w : World) (h : WRs w ao ws) (hLe : L = ws.length) (hL : L < 2^21) (hrow : w.heap[t]? = some (.cells (wtsC (ws ++ [spW])).toArray 124 (0, 0))) :
    Calls Tryz.prog 114 #[.slice (some ⟨t, 0, none⟩) L (L + 1), .slice ao L cap] w fun e w' => e = .returned (.bool true) ∧ Fr [] w w' := by
  have HL : Hid (L = ws.length) := hLe
  clear hLe
  have hct : ∀ j, j < L → WAt w t (j * 3) (ws.getD j Wt.zero) := by
    intro j hj
    have key : ∀ c, c < 3 → w.cell? ⟨t, j * 3 + c, none⟩ = (wtC (ws.getD j Wt.zero))[c]? := by
      intro c hc
      rw [cell_of_row _ _ _ _ _ _ hrow]
      have := wtsC_get (ws ++ [spW]) j c (by rw [List.length_append, ← HL.out]; simp; omega) hc
      have e : (ws ++ [spW]).getD j Wt.zero = ws.getD j Wt.zero := by simp [List.getD, List.getElem?_append_left (show j < ws.length by rw [← HL.out]; exact hj)]
      rw [e] at this
      simpa using this
    exact ⟨key 0 (by omega), key 1 (by omega), key 2 (by omega)⟩
  have hsp : WAt w t (L * 3) spW := by
    have key : ∀ c, c < 3 → w.cell? ⟨t, L * 3 + c, none⟩ = (wtC spW)[c]? := by
      intro c hc
      rw [cell_of_row _ _ _ _ _ _ hrow]
      have := wtsC_get (ws ++ [spW]) L c (by rw [List.length_append, ← HL.out]; simp) hc
      have e : (ws ++ [spW]).getD L Wt.zero = spW := by simp [List.getD, HL.out]
      rw [e] at this
      simpa using this
    exact ⟨key 0 (by omega), key 1 (by omega), key 2 (by omega)⟩
  have hne : ((L : Int) != L) = false := by simp
  have hgd := Tryz.guardWt
  clear hrow
  go_enter Tryz.func114, Tryz.ntmps114
  go_wp2_with fail
  go_loopw [5] (fun ii wr => ∃ (i q : Nat), ii = .int .i64 i ∧ i ≤ L ∧ Hid (wr = w.drewN q)) (fun ii _ => L - (RowKit.intOf ii).toNat)
  case atStart => exact ⟨0, 0, rfl, Nat.zero_le _, rfl⟩
  case round =>
    obtain ⟨i, q, rfl, hiL, HQ⟩ := hrel
    have hce : ∀ a, wr.cell? a = w.cell? a := fun a => by rw [HQ.out]; rfl
    by_cases hi : i < L
    · have hi' : i < ws.length := by rw [← HL.out]; exact hi
      obtain ⟨b, off, e, _, hc⟩ := h.lies (by omega)
      subst e
      obtain ⟨c0, c1, c2⟩ := hct i hi
      obtain ⟨d0, d1, d2⟩ := hc i hi'
      obtain ⟨x, hxx⟩ : ∃ x, x = ws.getD i Wt.zero := ⟨_, rfl⟩
      rw [← hxx, ← hce] at c0 c1 c2 d0 d1 d2
      clear hxx hct hc hsp hce
      have hq : ∀ w', (Op.equalIn 10000 124 (.agg #[.string x.key, .string x.val, .bool x.drop]) (.agg #[.string x.key, .string x.val, .bool x.drop])).run Tryz.prog w' = .ok true w' := fun w' => by rw [wt_in w' x x, (sameW_iff x x).2 rfl]
      go_wp2_with fail
      go_quiet (fail)
      go_wp2
      go_roundw
      case rel => exact ⟨i + 1, q + nq, by simp, by omega, by show _ = _; rw [HQ.out]; simp⟩
      case measure => simp [RowKit.intOf]; omega
    · have hiL' : L ≤ i := by omega
      obtain ⟨c0, c1, c2⟩ := hsp
      rw [← hce] at c0 c1 c2
      have hFq : Fr [] w wr := by rw [HQ.out]; exact Fr.drewN _ _ _
      clear hct hce
      have hq : ∀ w', (Op.equalIn 10000 124 (.agg #[.string ⟨#[115, 112, 97, 114, 101]⟩, .string ⟨#[]⟩, .bool false]) (.agg #[.string ⟨#[115, 112, 97, 114, 101]⟩, .string ⟨#[]⟩, .bool false])).run Tryz.prog w' = .ok true w' := fun w' => by
        have := wt_in w' spW spW
        rw [(sameW_iff spW spW).2 rfl] at this
        exact this
      simp only [spW] at c0 c1 c2
      go_wp2
      go_ret
      exact ⟨by simp, hFq.then (Fr.alloc [] _ _)⟩
set_option maxHeartbeats 2000000 in
set_option maxRecDepth 100000 in
theorem leftTxn_any (n : Int) (t : Nat) (ao : Option Addr) (L cap : Nat) (ws : List Wt) (w : World) (h : WRs w ao ws) (hLe : L = ws.length) (hL : L < 2^21) (hrow : w.heap[t]? = some (.cells (wtsC (ws ++ [spW])).toArray 124 (0, 0))) :
    Calls Tryz.prog 50 #[.agg #[.int .i64 n, .slice (some ⟨t, 0, none⟩) L (L + 1)], .agg #[.int .i64 n, .slice ao L cap]] w fun e w' => e = .returned (.bool true) ∧ Fr [] w w' := by
  have HL : Hid (L = ws.length) := hLe
  clear hLe
  have hF0 : Fr [] w ((w.alloc (.cells #[.int .i64 n, .slice (some ⟨t, 0, none⟩) L (L + 1)] 63)).alloc (.cells #[.int .i64 n, .slice ao L cap] 63)) := (Fr.alloc [] w _).then (Fr.alloc [] _ _)
  have hX := leftWs_any t ao L cap ws _ (h.keep hF0) HL.out hL (hF0.keep hrow (by simp))
  have hnn : (n == n) = true := by simp
  go_enter Tryz.func50, Tryz.ntmps50
  go_wp2_with fail
  refine hX.mono ?_
  rintro e w1 ⟨rfl, hF1⟩
  have HG : Hid (Fr [] w w1) := hF0.then hF1
  clear hX hF1
  go_wp2
  go_ret
  exact ⟨by simp, HG.out⟩
end Go.Proofs.YtaefninikmaiiaaGreatDoor
/- What the statements' helpers TwinTxns and LeftTxns answer. Conditions: fewer than 2^21 transactions, of fewer than 2^21 writes each. -/
namespace Go.Proofs.YtaefninikmaiiaaGreatDoor
open Go.ChangeShapes Go.WideShapes Go.ChangeAt Go.RowKit Go.Lib
set_option linter.unusedVariables false
set_option linter.unusedSimpArgs false

/-- The transaction that stands in a twin's spare room. -/
def spT : Tm := ⟨7777, none, 0, 0, []⟩
/-- The twin of a transaction, its writes in block b. -/
def twT (t : Tm) (b : Nat) : Tm := ⟨t.n, some ⟨b, 0, none⟩, t.L, t.L + 1, t.ws⟩
def twTs (ts : List Tm) (ks : List Nat) : List Tm := List.zipWith twT ts ks
theorem twTs_length (ts : List Tm) (ks : List Nat) (h : ks.length = ts.length) : (twTs ts ks).length = ts.length := by simp [twTs, h]
theorem twTs_snoc (ts : List Tm) (ks : List Nat) (t : Tm) (k : Nat) (h : ks.length = ts.length) : twTs (ts ++ [t]) (ks ++ [k]) = twTs ts ks ++ [twT t k] := by
  unfold twTs
  rw [List.zipWith_append h.symm]
  rfl
theorem twTs_get {ts : List Tm} {ks : List Nat} {i : Nat} {u : Tm} (h : (twTs ts ks)[i]? = some u) : ∃ t k, ts[i]? = some t ∧ ks[i]? = some k ∧ u = twT t k := by
  unfold twTs at h
  rw [List.getElem?_zipWith] at h
  cases ht : ts[i]? with
  | none => simp [ht] at h
  | some t =>
    cases hk : ks[i]? with
    | none => simp [ht, hk] at h
    | some k => simp [ht, hk] at h; exact ⟨t, k, rfl, rfl, h.symm⟩
theorem txs_twTs (ts : List Tm) (ks : List Nat) (h : ks.length = ts.length) : txs (twTs ts ks) = txs ts := by
  apply List.ext_getElem?
  intro i
  unfold txs
  rw [List.getElem?_map, List.getElem?_map]
  by_cases hi : i < ts.length
  · have h1 : i < (twTs ts ks).length := by rw [twTs_length ts ks h]; exact hi
    obtain ⟨u, hu⟩ : ∃ u, (twTs ts ks)[i]? = some u := ⟨_, List.getElem?_eq_getElem h1⟩
    obtain ⟨t, k, ht, hk, rfl⟩ := twTs_get hu
    rw [hu, ht]
    rfl
  · rw [List.getElem?_eq_none (by rw [twTs_length ts ks h]; omega), List.getElem?_eq_none (by omega)]
/-- The twins' writes lie in blocks of their own, made since w. -/
structure Twd (w w' : World) (ts : List Tm) (ks : List Nat) : Prop where
  len : ks.length = ts.length
  new : ∀ k ∈ ks, w.heap.size ≤ k
  row : ∀ (i : Nat) (t : Tm) (k : Nat), ts[i]? = some t → ks[i]? = some k → w'.heap[k]? = some (.cells (wtsC (t.ws ++ [spW])).toArray 124 (0, 0))
  apart : ks.Nodup
theorem Twd.nil (w w' : World) : Twd w w' [] [] := ⟨rfl, by simp, by simp, by simp⟩
theorem Twd.keep {S : List Nat} {w w1 w2 : World} {ts : List Tm} {ks : List Nat} (h : Twd w w1 ts ks) (hf : Fr S w1 w2) (hn : ∀ k ∈ ks, k ∉ S) : Twd w w2 ts ks :=
  ⟨h.len, h.new, fun i t k ht hk => hf.keep (h.row i t k ht hk) (hn k (List.mem_of_getElem? hk)), h.apart⟩
theorem Twd.lt {w w' : World} {ts : List Tm} {ks : List Nat} (h : Twd w w' ts ks) : ∀ k ∈ ks, k < w'.heap.size := by
  intro k hk
  obtain ⟨i, hi⟩ := List.getElem?_of_mem hk
  have hl : i < ts.length := by rw [← h.len]; exact (List.getElem?_eq_some_iff.1 hi).1
  exact lt_of_block (h.row i _ k (List.getElem?_eq_getElem hl) hi)
theorem Twd.snoc {w w1 w2 : World} {ts : List Tm} {ks : List Nat} (h : Twd w w1 ts ks) (hf : Fr [] w1 w2) (hw : w.heap.size ≤ w1.heap.size) (t : Tm) (k : Nat) (hk : w1.heap.size ≤ k) (hr : w2.heap[k]? = some (.cells (wtsC (t.ws ++ [spW])).toArray 124 (0, 0))) : Twd w w2 (ts ++ [t]) (ks ++ [k]) := by
  have hl := h.len
  refine ⟨by simp [hl], ?_, ?_, ?_⟩
  · intro j hj
    rcases List.mem_append.1 hj with hj | hj
    · exact h.new j hj
    · simp at hj; omega
  · intro i u j hu hj
    by_cases hi : i < ts.length
    · rw [List.getElem?_append_left hi] at hu
      rw [List.getElem?_append_left (by omega)] at hj
      exact hf.keep (h.row i u j hu hj) (by simp)
    · have hi2 : i = ts.length := by have := (List.getElem?_eq_some_iff.1 hu).1; simp at this; omega
      subst hi2
      rw [List.getElem?_append_right (Nat.le_refl _)] at hu
      rw [← hl, List.getElem?_append_right (Nat.le_refl _)] at hj
      simp at hu hj
      subst hu hj
      exact hr
  · rw [List.nodup_append]
    refine ⟨h.apart, by simp, ?_⟩
    intro a ha b hb
    simp at hb
    have := h.lt a ha
    omega
/-- All writes of a row are few. -/
def Few (ts : List Tm) : Prop := ∀ t ∈ ts, t.L < 2^21
theorem tms_full {w : World} {g n : Nat} {xs : List Value} (h : w.ownsRow 0 63 2 (.slice (some ⟨g, 0, none⟩) n n) n xs) : w.heap[g]? = some (.cells xs.toArray 63 (0, 0)) := by
  have hl := h.1
  rcases h.2 with ⟨hh, _⟩ | ⟨g', cap', cur, hh, _, hg, _, _, hcs, ht⟩
  · cases hh
  · cases hh
    rw [hg]
    congr 2
    rw [← Array.toList_inj]
    simp only
    rw [← ht, List.take_of_length_le (by simp [hcs])]
theorem own_typeT {w : World} {e : TypeId} {size : Nat} {v : Value} {n : Nat} {vs : List Value} (h : w.ownsRow 0 e size v n vs) : ∀ k, v.ownBlock = some k → ∃ cs, w.heap[k]? = some (.cells cs e (0, 0)) := by
  intro k hk
  rcases h.2 with ⟨rfl, _⟩ | ⟨g, cap, cur, rfl, _, hg, _⟩
  · simp [Value.ownBlock] at hk
  · simp [Value.ownBlock] at hk
    subst hk
    exact ⟨_, hg⟩
theorem Tryz.infoTW : (Tryz.prog.info? 63).map (fun i => (i.zero, i.size, i.bytes)) = some (some (.agg #[.int .i64 0, .slice none 0 0]), 2, 32) := by kernel_rfl
theorem Tryz.undTsW : Tryz.prog.underlying 22 = some (.slice 63) := by kernel_rfl

set_option maxHeartbeats 8000000 in
set_option maxRecDepth 100000 in
theorem twinTs_any (ao : Option Addr) (L cap : Nat) (ts : List Tm) (w : World) (h : TRs w ao ts) (hLe : L = ts.length) (hL : L < 2^21) (hfew : Few ts) :
    Calls Tryz.prog 9 #[.slice ao L cap] w fun e w' => ∃ b ks, e = .returned (.slice (some ⟨b, 0, none⟩) L (L + 1)) ∧ w.heap.size ≤ b ∧ w'.heap[b]? = some (.cells (tmsC (twTs ts ks ++ [spT])).toArray 63 (0, 0)) ∧ Twd w w' ts ks ∧ Fr [] w w' := by
  obtain ⟨i0, hi, hz0, hz1, hz2⟩ := info_parts Tryz.infoTW
  have HL : Hid (L = ts.length) := hLe
  have HFew : Hid (Few ts) := hfew
  clear hLe hfew
  go_enter Tryz.func9, Tryz.ntmps9
  go_wp2_with (at_make; refine wpList_make_own _ rfl (.const (.int .i64 0)) (.tmp 7) 22 rfl 0 63 i0 _ 2 Tryz.undTsW hi hz0 hz1 .i64 .i64 ((L : Int) + 1) (L + 1) rfl rfl ?bC ?b2 ?b3 ?b4 ?_)
  case bC => simp
  case b2 => rw [hz2]; omega
  case b3 => unfold maxLen; omega
  case b4 => exact Nat.zero_le _
  intro w1 hown hgrow
  obtain ⟨g, hg⟩ : ∃ g, g = w.heap.size := ⟨_, rfl⟩
  have hgw : w.heap.size ≤ g := by omega
  rw [← hg] at hown ⊢
  have h01 : Fr [] w w1 := Fr.grown (S := []) hgrow (by simp)
  clear hgrow hg
  go_wp2_with fail
  go_loopw [3, 4] (fun vv ii wr => ∃ (i : Nat) (ks : List Nat), vv = .slice (some ⟨g, 0, none⟩) i (L + 1) ∧ ii = .int .i64 i ∧ i ≤ L ∧ wr.ownsRow 0 63 2 (.slice (some ⟨g, 0, none⟩) i (L + 1)) i (tmsC (twTs (ts.take i) ks)) ∧ Hid (Twd w wr (ts.take i) ks) ∧ Fr [] w wr) (fun _ ii _ => L - (RowKit.intOf ii).toNat)
  case atStart => exact ⟨0, [], rfl, rfl, Nat.zero_le _, by simpa [twTs, tmsC] using hown, Twd.nil _ _, h01⟩
  case round =>
    obtain ⟨i, ks, rfl, rfl, hiL, hO, HW, hF⟩ := hrel
    have hsz := (hO.lt g rfl).2
    by_cases hil : i < L
    · have hi' : i < ts.length := by rw [← HL.out]; exact hil
      obtain ⟨b, off, e, _, hc⟩ := (h.keep hF).lies (by omega)
      subst e
      obtain ⟨d0, d1⟩ := hc i hi'
      have hat := (h.keep hF).each _ (tgetD_mem ts i hi')
      have hfw := HFew.out _ (tgetD_mem ts i hi')
      obtain ⟨x, hx⟩ : ∃ x, x = ts.getD i Tm.zero := ⟨_, rfl⟩
      rw [← hx] at d0 d1 hat hfw
      have HTK : Hid (ts.take (i + 1) = ts.take i ++ [x]) := by show _ = _; rw [ttake_snoc ts i hi', hx]
      clear hc hx
      obtain ⟨n, xo, M, cm, ws⟩ := x
      simp only at d0 d1 hfw
      have hat' : TArg wr n xo M cm ws := hat
      go_wp2_with fail
      refine (twinTxn_any n xo M cm ws _ hat'.rs hat'.len hfw).mono ?_
      rintro e w2 ⟨k, rfl, hk, hrow2, hF2⟩
      have hO2 := owns_keep hO hF2 (by simp)
      have HW2 : Hid (Twd w w2 (ts.take (i + 1)) (ks ++ [k])) := by
        show Twd _ _ _ _
        rw [HTK.out]
        exact HW.out.snoc hF2 hF.size ⟨n, xo, M, cm, ws⟩ k hk hrow2
      have HE : Hid (tmsC (twTs (ts.take (i + 1)) (ks ++ [k])) = tmsC (twTs (ts.take i) ks) ++ [.int .i64 n, .slice (some ⟨k, 0, none⟩) M (M + 1)]) := by
        show _ = _
        rw [HTK.out, twTs_snoc _ _ _ _ HW.out.len, tmsC_append]
        rfl
      have hG2 := hF.then hF2
      have hs2 := hF2.size
      have hgk : g ∉ (ks ++ [k]) := by
        intro hm
        obtain ⟨j, hj⟩ := List.getElem?_of_mem hm
        have hl : j < (ts.take (i + 1)).length := by rw [← HW2.out.len]; exact (List.getElem?_eq_some_iff.1 hj).1
        have h1 := HW2.out.row j _ g (List.getElem?_eq_getElem hl) hj
        obtain ⟨cs, h2⟩ := own_typeT hO2 g rfl
        rw [h1] at h2
        simp at h2
      clear hat hat' hO hrow2 hF2 d0 d1 hF HW
      go_wp2_with (at_builtin; refine wpList_append_fits _ rfl (.tmp 15) (.tmp 21) 22 rfl 0 63 i0 2 Tryz.undTsW hi hz1 g i (L + 1) _ rfl (hO2.alloc _) ⟨w2.heap.size, 0, none⟩ 1 1 [.int .i64 n, .slice (some ⟨k, 0, none⟩) M (M + 1)] rfl rfl ?c1 ?c2 ?c3 ?_)
      case c1 => intro j u hj; match j, hj with | 0, hj => simp at hj; subst hj; simp [Addr.add] | 1, hj => simp at hj; subst hj; simp [Addr.add]
      case c2 => intro u hu; simp at hu; rcases hu with rfl | rfl <;> rfl
      case c3 => omega
      intro w3 hO3 hg3
      rw [← HE.out] at hO3
      have hF3 : Fr [g] w2 w3 := ((Fr.alloc [] w2 _).mono (by simp)).then (Fr.grown (S := [g]) hg3 (by intro k hk _; cases hk; simp))
      have HW3 : Hid (Twd w w3 (ts.take (i + 1)) (ks ++ [k])) := HW2.out.keep hF3 (fun j hj => by intro hh; simp at hh; subst hh; exact hgk hj)
      have hG3 : Fr [] w w3 := hG2.on hF3 (by intro y hy; simp at hy; omega)
      clear hO2 hg3 hF3 hG2 HW2 hgk
      go_wp2
      go_roundw
      case rel => exact ⟨i + 1, ks ++ [k], rfl, by simp, by omega, hO3, HW3, hG3⟩
      case measure => simp [RowKit.intOf]; omega
    · have hiL' : L ≤ i := by omega
      obtain rfl : i = L := by omega
      have HTK : Hid (ts.take i = ts) := List.take_of_length_le (by rw [← HL.out]; omega)
      have HE : Hid (tmsC (twTs ts ks ++ [spT]) = tmsC (twTs (ts.take i) ks) ++ [.int .i64 7777, .slice none 0 0]) := by
        show _ = _
        rw [HTK.out, tmsC_append]; rfl
      have hgk : g ∉ ks := by
        intro hm
        obtain ⟨j, hj⟩ := List.getElem?_of_mem hm
        have hl : j < (ts.take i).length := by rw [← HW.out.len]; exact (List.getElem?_eq_some_iff.1 hj).1
        have h1 := HW.out.row j _ g (List.getElem?_eq_getElem hl) hj
        obtain ⟨cs, h2⟩ := own_typeT hO g rfl
        rw [h1] at h2
        simp at h2
      go_wp2_with (at_builtin; refine wpList_append_fits _ rfl (.tmp 23) (.tmp 25) 22 rfl 0 63 i0 2 Tryz.undTsW hi hz1 g i (i + 1) _ rfl (hO.alloc _) ⟨wr.heap.size, 0, none⟩ 1 1 [.int .i64 7777, .slice none 0 0] rfl rfl ?c1 ?c2 ?c3 ?_)
      case c1 => intro j u hj; match j, hj with | 0, hj => simp at hj; subst hj; simp [Addr.add] | 1, hj => simp at hj; subst hj; simp [Addr.add]
      case c2 => intro u hu; simp at hu; rcases hu with rfl | rfl <;> rfl
      case c3 => omega
      intro w2 hO2 hg2
      rw [← HE.out] at hO2
      have hF1 : Fr [g] wr w2 := ((Fr.alloc [] wr _).mono (by simp)).then (Fr.grown (S := [g]) hg2 (by intro k hk _; cases hk; simp))
      have hF2 : Fr [] w w2 := hF.on hF1 (by intro y hy; simp at hy; omega)
      have HRow : Hid (w2.heap[g]? = some (.cells (tmsC (twTs ts ks ++ [spT])).toArray 63 (0, 0))) := tms_full hO2
      have HW2 : Hid (Twd w w2 ts ks) := by
        have := HW.out.keep hF1 (fun j hj => by intro hh; simp at hh; subst hh; exact hgk hj)
        rw [HTK.out] at this
        exact this
      clear hO hg2 hF hO2 hF1 HW hgk
      go_wp2
      go_ret
      exact ⟨g, ks, rfl, hgw, HRow.out, HW2.out, hF2⟩
end Go.Proofs.YtaefninikmaiiaaGreatDoor
/- What the statements' helper LeftTxns answers of twins; a stronger word on TxnsSize; twins read as what they were made of. Conditions as each names them. -/
namespace Go.Proofs.YtaefninikmaiiaaGreatDoor
open Go.ChangeShapes Go.WideShapes Go.ChangeAt Go.RowKit Go.Lib
set_option linter.unusedVariables false
set_option linter.unusedSimpArgs false

set_option maxHeartbeats 4000000 in
set_option maxRecDepth 100000 in
theorem txnsSizeB_any (ao : Option Addr) (L cap : Nat) (ts : List Tm) (w : World) (hT : TRs w ao ts) (hL : L = ts.length) :
    Calls Tryz.prog 8 #[.slice ao L cap] w fun e w' => ∃ N : Nat, e = .returned (.int .i64 (N : Int)) ∧ N ≤ 9007199254740992 ∧ L ≤ N ∧ (N ≤ 1048576 → Few ts) ∧ Fr [] w w' := by
  have HL : Hid (L = ts.length) := hL
  have hLm : L ≤ 140737488355328 := by have := hT.few; omega
  clear hL
  go_enter Tryz.func8, Tryz.ntmps8
  go_wp2_with fail
  go_loopw [3, 4] (fun nn ii wr => ∃ (n i : Nat), nn = .int .i64 n ∧ ii = .int .i64 i ∧ i ≤ L ∧ n ≤ 9007199254740992 ∧ L ≤ n ∧ Hid (∀ j, j < i → (ts.getD j Tm.zero).L < n) ∧ Fr [] w wr) (fun _ ii _ => L - (RowKit.intOf ii).toNat)
  case atStart => exact ⟨L, 0, rfl, rfl, Nat.zero_le _, by omega, Nat.le_refl _, fun j hj => by omega, Fr.refl _ _⟩
  case round =>
    obtain ⟨n, i, rfl, rfl, hiL, hn, hLn, HE, hFr⟩ := hrel
    by_cases hi : i < L
    · by_cases hbig : n ≤ 1048576
      · have hi' : i < ts.length := by rw [← HL.out]; exact hi
        have hb' : (n : Int) ≤ 1048576 := by omega
        obtain ⟨bb, off, rfl, _, hc⟩ := (hT.keep hFr).lies (by omega)
        have hx := hc i hi'
        have hat := (hT.keep hFr).each _ (tgetD_mem ts i hi')
        obtain ⟨x, hxx⟩ : ∃ x, x = ts.getD i Tm.zero := ⟨_, rfl⟩
        rw [← hxx] at hx hat
        have HX : Hid (x = ts.getD i Tm.zero) := hxx
        clear hxx hc
        obtain ⟨nn, xo, M, cm, ws⟩ := x
        obtain ⟨c0, c1⟩ := hx
        simp only at c0 c1
        have hat' : TArg wr nn xo M cm ws := hat
        have hML := hat'.len
        have HML : Hid (M = ws.length) := hML
        clear hML
        go_wp2_with fail
        refine (txSize_any nn xo M cm ws _ hat'.rs hat'.len).mono ?_
        rintro e w2 ⟨K, rfl, hW, hF2⟩
        have hK : K ≤ 1125899906842624 := hW.2.1
        have hKM : M ≤ K := by have := hW.1; rw [HML.out]; exact this
        have HE2 : Hid (∀ j, j < i + 1 → (ts.getD j Tm.zero).L < n + (K + 1)) := by
          intro j hj
          by_cases hji : j = i
          · subst hji
            rw [← HX.out]
            show M < _
            omega
          · have := HE.out j (by omega); omega
        have hG2 := hFr.then hF2
        clear hat hat' hW hF2 hFr
        go_wp2
        go_roundw
        case rel => exact ⟨n + (K + 1), i + 1, by simp, by simp, by omega, by omega, by omega, HE2, hG2⟩
        case measure => simp [RowKit.intOf]; omega
      · have hb' : (1048576 : Int) < n := by omega
        have hb2 : ¬ ((n : Int) ≤ 1048576) := by omega
        go_wp2
        go_ret
        exact ⟨n, rfl, hn, hLn, fun h => absurd h hbig, hFr⟩
    · go_wp2
      go_ret
      refine ⟨n, rfl, hn, hLn, fun h t ht => ?_, hFr⟩
      obtain ⟨j, hj, rfl⟩ := List.getElem_of_mem ht
      have := HE.out j (by have := HL.out; omega)
      simp only [List.getD, List.getElem?_eq_getElem hj, Option.getD_some] at this
      omega
set_option maxHeartbeats 8000000 in
set_option maxRecDepth 100000 in
theorem leftTs_any (b : Nat) (ks : List Nat) (w0 : World) (ao : Option Addr) (L cap : Nat) (ts : List Tm) (w : World) (h : TRs w ao ts) (hLe : L = ts.length) (hL : L < 2^21) (hfew : Few ts) (hT : Twd w0 w ts ks) (hrow : w.heap[b]? = some (.cells (tmsC (twTs ts ks ++ [spT])).toArray 63 (0, 0))) :
    Calls Tryz.prog 14 #[.slice (some ⟨b, 0, none⟩) L (L + 1), .slice ao L cap] w fun e w' => e = .returned (.bool true) ∧ Fr [] w w' := by
  have HL : Hid (L = ts.length) := hLe
  have HFew : Hid (Few ts) := hfew
  have HT : Hid (Twd w0 w ts ks) := hT
  have hcl : ∀ j c, j < L + 1 → c < 2 → w.cell? ⟨b, j * 2 + c, none⟩ = (tmC ((twTs ts ks ++ [spT]).getD j Tm.zero))[c]? := by
    intro j c hj hc
    rw [cell_of_row _ _ _ _ _ _ hrow]
    have := tmsC_get (twTs ts ks ++ [spT]) j c (by rw [List.length_append, twTs_length ts ks hT.len, ← hLe]; simpa using hj) hc
    simpa using this
  have hlb := lt_of_block hrow
  have hct : ∀ j t k, ts[j]? = some t → ks[j]? = some k → w.cell? ⟨b, j * 2, none⟩ = some (.int .i64 t.n) ∧ w.cell? ⟨b, j * 2 + 1, none⟩ = some (.slice (some ⟨k, 0, none⟩) t.L (t.L + 1)) := by
    intro j t k ht hk
    have hj : j < ts.length := (List.getElem?_eq_some_iff.1 ht).1
    have hu : (twTs ts ks)[j]? = some (twT t k) := by
      unfold twTs
      rw [List.getElem?_zipWith, ht, hk]
    have e : (twTs ts ks ++ [spT]).getD j Tm.zero = twT t k := by
      rw [List.getD, List.getElem?_append_left (by rw [twTs_length ts ks hT.len]; exact hj), hu]
      rfl
    have a := hcl j 0 (by omega) (by omega)
    have c := hcl j 1 (by omega) (by omega)
    rw [e] at a c
    exact ⟨a, c⟩
  have hsp : w.cell? ⟨b, L * 2, none⟩ = some (.int .i64 7777) ∧ w.cell? ⟨b, L * 2 + 1, none⟩ = some (.slice none 0 0) := by
    have e : (twTs ts ks ++ [spT]).getD L Tm.zero = spT := by
      rw [List.getD, List.getElem?_append_right (by rw [twTs_length ts ks hT.len]; omega), twTs_length ts ks hT.len, hLe]
      simp
    have a := hcl L 0 (by omega) (by omega)
    have c := hcl L 1 (by omega) (by omega)
    rw [e] at a c
    exact ⟨a, c⟩
  have HCT : Hid (∀ j t k, ts[j]? = some t → ks[j]? = some k → _) := hct
  have hne : ((L : Int) != L) = false := by simp
  clear hLe hfew hT hrow hcl hct
  go_enter Tryz.func14, Tryz.ntmps14
  go_wp2_with fail
  go_loopw [5] (fun ii wr => ∃ (i : Nat), ii = .int .i64 i ∧ i ≤ L ∧ Fr [] w wr) (fun ii _ => L - (RowKit.intOf ii).toNat)
  case atStart => exact ⟨0, rfl, Nat.zero_le _, Fr.refl _ _⟩
  case round =>
    obtain ⟨i, rfl, hiL, hFr⟩ := hrel
    by_cases hi : i < L
    · have hix : i < ts.length := by rw [← HL.out]; exact hi
      have hik : i < ks.length := by rw [HT.out.len]; exact hix
      obtain ⟨b2, o2, rfl, hlt2, hc2⟩ := (h.keep hFr).lies (by omega)
      have hy := hc2 i hix
      have haty := (h.keep hFr).each _ (tgetD_mem ts i hix)
      have hfw := HFew.out _ (tgetD_mem ts i hix)
      have hty : ts[i]? = some (ts.getD i Tm.zero) := by simp [List.getD, hix]
      obtain ⟨k, hk⟩ : ∃ k, ks[i]? = some k := ⟨_, List.getElem?_eq_getElem hik⟩
      obtain ⟨c0, c1⟩ := HCT.out i _ k hty hk
      have hrowk := HT.out.row i _ k hty hk
      obtain ⟨y, hyy⟩ : ∃ y, y = ts.getD i Tm.zero := ⟨_, rfl⟩
      rw [← hyy] at hy haty c0 c1 hrowk hfw
      clear hyy hc2 hty hk
      obtain ⟨n2, x2, m2, k2, ws2⟩ := y
      obtain ⟨d0, d1⟩ := hy
      simp only at c0 c1 d0 d1 hrowk hfw
      have hay : TArg wr n2 x2 m2 k2 ws2 := haty
      have hST := leftTxn_any n2 k x2 m2 k2 ws2 wr.drew (hay.rs.keep (Fr.drew [] wr)) hay.len hfw ((hFr.then (Fr.drew [] wr)).keep hrowk (by simp))
      have p0 : wr.drew.cell? ⟨b, i * 2, none⟩ = some (.int .i64 n2) := (World.cell?_of_block ((hFr.then (Fr.drew [] wr)).block b hlb (by simp))).trans c0
      have p1 : wr.drew.cell? ⟨b, i * 2 + 1, none⟩ = some (.slice (some ⟨k, 0, none⟩) m2 (m2 + 1)) := (World.cell?_of_block ((hFr.then (Fr.drew [] wr)).block b hlb (by simp))).trans c1
      have g0 : wr.drew.cell? ⟨b2, o2 + i * 2, none⟩ = some (.int .i64 n2) := d0
      have g1 : wr.drew.cell? ⟨b2, o2 + i * 2 + 1, none⟩ = some (.slice x2 m2 k2) := d1
      have hq1 : b < wr.drew.heap.size := by have := (hFr.then (Fr.drew [] wr)).size; omega
      have hq2 : b2 < wr.drew.heap.size := hlt2
      have r0 : wr.cell? ⟨b, i * 2, none⟩ = some (.int .i64 n2) := p0
      have r1 : wr.cell? ⟨b, i * 2 + 1, none⟩ = some (.slice (some ⟨k, 0, none⟩) m2 (m2 + 1)) := p1
      clear haty hay hlt2 c0 c1 hrowk
      go_wp2_with fail
      go_region_held3 (fun W => W.cell? ⟨b, i * 2, none⟩ = some (.int .i64 n2) ∧ W.cell? ⟨b, i * 2 + 1, none⟩ = some (.slice (some ⟨k, 0, none⟩) m2 (m2 + 1)) ∧ W.cell? ⟨b2, o2 + i * 2, none⟩ = some (.int .i64 n2) ∧ W.cell? ⟨b2, o2 + i * 2 + 1, none⟩ = some (.slice x2 m2 k2)) (go_keep)
        (with_reducible refine hST.mono ?_; rintro e w2 ⟨rfl, hF2⟩; have z0 := (World.cell?_of_block (hF2.block b hq1 (by simp))).trans p0; have z1 := (World.cell?_of_block (hF2.block b hq1 (by simp))).trans p1; have z2 := (World.cell?_of_block (hF2.block b2 hq2 (by simp))).trans g0; have z3 := (World.cell?_of_block (hF2.block b2 hq2 (by simp))).trans g1)
      have hG2 := hFr.then ((Fr.drew [] wr).then hF2)
      clear hST hF2 d0 d1 p0 p1 g0 g1 r0 r1 z0 z1 z2 z3
      go_wp2
      go_roundw
      case rel => exact ⟨i + 1, by simp, by omega, hG2⟩
      case measure => simp [RowKit.intOf]; omega
    · obtain rfl : i = L := by omega
      have c0 : wr.cell? ⟨b, i * 2, none⟩ = some (.int .i64 7777) := (World.cell?_of_block (hFr.block b hlb (by simp))).trans hsp.1
      have c1 : wr.cell? ⟨b, i * 2 + 1, none⟩ = some (.slice none 0 0) := (World.cell?_of_block (hFr.block b hlb (by simp))).trans hsp.2
      go_wp2
      go_ret
      exact ⟨by simp, hFr.then (Fr.alloc [] _ _)⟩
/-- A twin reads as what it was made of. -/
theorem twin_at {w w' : World} {t : Tm} {k : Nat} (h : t.at w) (hr : w'.heap[k]? = some (.cells (wtsC (t.ws ++ [spW])).toArray 124 (0, 0))) : (twT t k).at w' :=
  ⟨WRs.of_row (rest := wtsC [spW]) (t := 124) (f := (0, 0)) (by rw [← wtsC_append]; exact hr) h.rs.few h.rs.each, h.len, h.n0, h.n1⟩
theorem twins_trs {w0 w w' : World} {ts : List Tm} {ks : List Nat} {b : Nat} {ao : Option Addr} (h : TRs w0 ao ts) (hT : Twd w w' ts ks) (hb : w'.heap[b]? = some (.cells (tmsC (twTs ts ks ++ [spT])).toArray 63 (0, 0))) : TRs w' (some ⟨b, 0, none⟩) (twTs ts ks) := by
  refine TRs.of_row (rest := tmsC [spT]) (t := 63) (f := (0, 0)) (by rw [← tmsC_append]; exact hb) (by rw [twTs_length ts ks hT.len]; exact h.few) ?_
  intro u hu
  obtain ⟨i, hi⟩ := List.getElem?_of_mem hu
  obtain ⟨t, k, ht, hk, rfl⟩ := twTs_get hi
  exact twin_at (h.each t (List.mem_of_getElem? ht)) (hT.row i t k ht hk)
end Go.Proofs.YtaefninikmaiiaaGreatDoor
/- An append to a row of one's own, told sharply; rows of one's own (for the Book). Conditions as each lemma names them. -/
namespace Go.Proofs.YtaefninikmaiiaaGreatDoor.Bq
open Go.ChangeShapes Go.WideShapes Go.ChangeAt Go.RowKit Go.Lib

/-- Where a row of one's own lies behind an append: where it lay (its block alone may differ), or in a new block (no old one differs). -/
def Went (w : World) (v : Value) (g : Nat) (w' : World) : Prop := (v.ownBlock = some g ∧ w.grownBy w' (some g)) ∨ (w.heap.size ≤ g ∧ w.grownBy w' none)
theorem Went.fr {w w' : World} {v : Value} {g : Nat} (h : Went w v g w') : Fr v.ownBlock.toList w w' := by
  rcases h with ⟨h1, h2⟩ | ⟨_, h2⟩
  · refine Fr.grown h2 ?_
    intro k hk _
    cases hk
    simp [h1]
  · exact Fr.grown h2 (by simp)
theorem Went.moved {w w' : World} {v : Value} {g n cap : Nat} (h : Went w v g w') : Moved w.heap.size v (.slice (some ⟨g, 0, none⟩) n cap) := by
  rcases h with ⟨h1, _⟩ | ⟨h1, _⟩
  · exact Or.inl (by rw [h1]; rfl)
  · exact Or.inr ⟨g, rfl, h1⟩

section
variable {P : Program} (w : World)
theorem run_app_sharp (t ty e : TypeId) (i : TypeInfo) (z : Value) (size bytes : Nat) (ht : P.underlying t = some (.slice e)) (hi : P.info? e = some i) (hz : i.zero = some z)
    (hsize : i.size = size) (hby : i.bytes = bytes) (hzs : z.cells.size = size) (hsz : 0 < size)
    (v : Value) (n : Nat) (xs : List Value) (hown : w.ownsRow 0 e size v n xs)
    (a : Addr) (m c : Nat) (news : List Value) (hm : 0 < m) (hl : news.length = m * size) (hnews : ∀ j u, news[j]? = some u → w.cell? (a.add j) = some u) (h1 : ∀ u ∈ news, u.oneCell' = true)
    (h63 : n + m ≤ maxLen) (hbytes : (n + m) * bytes ≤ 140737488355328) :
    ∃ g cap w', (Builtin.append_ #[t, t] ty #[v, .slice (some a) m c]).run P w = .ok (.slice (some ⟨g, 0, none⟩) (n + m) cap) w' ∧ w'.ownsRow 0 e size (.slice (some ⟨g, 0, none⟩) (n + m) cap) (n + m) (xs ++ news) ∧ Went w v g w' := by
  obtain ⟨v', w', hr, h2, h3, h4⟩ := run_append_own (P := P) w 0 t ty e i z size bytes ht hi hz hsize hby hzs hsz v n xs hown a m c news hl hnews h1 h63 hbytes (Nat.zero_le _)
  obtain ⟨g, cap, rfl⟩ : ∃ g cap, v' = .slice (some ⟨g, 0, none⟩) (n + m) cap := by
    rcases h2.2 with ⟨_, hh⟩ | ⟨g, cap', _, hh, _⟩
    · omega
    · exact ⟨g, cap', hh⟩
  refine ⟨g, cap, w', hr, h2, ?_⟩
  subst hsize
  subst hby
  have hsmall : n + m ≤ 9223372036854775807 := by simp only [maxLen] at h63; omega
  rcases hown.2 with ⟨rfl, rfl⟩ | ⟨g0, cap0, cur, rfl, hbg, hg, hnc, hcm, hcs, htake⟩
  · have hr2 := run_append_nil (P := P) w t ty e i z ht hi hz a m c news hl hnews (by omega) (by omega) (by have hb := hbytes; simp only [Nat.zero_add] at hb; omega)
    rw [hr] at hr2
    injection hr2 with e1 e2
    simp only [Value.slice.injEq, Option.some.injEq, Addr.mk.injEq] at e1
    obtain ⟨⟨rfl, _⟩, _⟩ := e1
    subst e2
    exact Or.inr ⟨Nat.le_refl _, ⟨rfl, rfl, rfl, by simp, fun k hk _ => Below.heap_alloc w.drew _ _ hk⟩⟩
  · by_cases hroom : n + m ≤ cap0
    · have hfit : n * i.size + news.length ≤ cur.size := by rw [hl, hcs, ← Nat.add_mul]; exact Nat.mul_le_mul_right _ hroom
      have hr2 := run_append_room (P := P) w t ty e i ht hi g0 n cap0 cur hg a m c news hl hnews h1 hroom hfit
      rw [hr] at hr2
      cases hr2
      exact Or.inl ⟨rfl, h3⟩
    · have holds : ∀ j u, xs[j]? = some u → w.cell? ((⟨g0, 0, none⟩ : Addr).add j) = some u := hown.cells (g := g0) rfl
      have hr2 := run_append_grow (P := P) w t ty e i z ht hi hz ⟨g0, 0, none⟩ n cap0 xs hown.1 holds a m c news hl hnews (by omega) (by omega) (growslice_fits (by omega) hbytes)
      rw [hr] at hr2
      cases hr2
      exact Or.inr ⟨Nat.le_refl _, ⟨rfl, rfl, rfl, by simp, fun k hk _ => Below.heap_alloc w.drew _ _ hk⟩⟩

/-- One more element behind a row of one's own. -/
theorem wpList_app {ops : Array Oper} {rest : List Oper} {o : Oper} {a : Act} {Q : Exit → Act → World → Prop} (hgd : o.guard = none) (s x : Operand) (t : TypeId)
    (ho : o.op = .call { callee := .builtin .append, args := #[s, x], argTypes := #[t, t] })
    (e : TypeId) (i : TypeInfo) (z : Value) (size bytes : Nat) (ht : P.underlying t = some (.slice e)) (hi : P.info? e = some i) (hz : i.zero = some z)
    (hsize : i.size = size) (hby : i.bytes = bytes) (hzs : z.cells.size = size) (hsz : 0 < size)
    (v : Value) (n : Nat) (xs : List Value) (hs : a.eval s = v) (hown : w.ownsRow 0 e size v n xs)
    (ad : Addr) (c : Nat) (news : List Value) (hx : a.eval x = .slice (some ad) 1 c) (hl : news.length = size) (hnews : ∀ j u, news[j]? = some u → w.cell? (ad.add j) = some u) (h1 : ∀ u ∈ news, u.oneCell' = true)
    (hbytes : (n + 1) * bytes ≤ 140737488355328) (h63 : n + 1 ≤ maxLen)
    (h : ∀ g cap w', w'.ownsRow 0 e size (.slice (some ⟨g, 0, none⟩) (n + 1) cap) (n + 1) (xs ++ news) → Went w v g w' → wpList P ops Q rest (a.put o.dst (.slice (some ⟨g, 0, none⟩) (n + 1) cap)) w') : wpList P ops Q (o :: rest) a w := by
  refine wpList_plain hgd fun K hK => ?_
  obtain ⟨g, cap, w', hr, h2, h3⟩ := run_app_sharp (P := P) w t o.type e i z size bytes ht hi hz hsize hby hzs hsz v n xs hown ad 1 c news (by omega) (by omega) hnews h1 h63 hbytes
  unfold Oper.wp execOp
  simp only [ho, resolve, invoke, builtin, Sem.run_bind, Sem.run_pure, Result.andThen_ok, List.map_toArray, List.map_cons, List.map_nil, hs, hx, hr]
  exact hK _ _ (h g cap w' h2 h3)

/-- The same as one step of a region that draws its order. -/
theorem step_app {ops : Array Oper} {o : Oper} {a : Act} {K : Act → World → Prop} {Q : Exit → Act → World → Prop} {E : Prop} (hg : o.guard = none) (s x : Operand) (t : TypeId)
    (ho : o.op = .call { callee := .builtin .append, args := #[s, x], argTypes := #[t, t] })
    (e : TypeId) (i : TypeInfo) (z : Value) (size bytes : Nat) (ht : P.underlying t = some (.slice e)) (hi : P.info? e = some i) (hz : i.zero = some z)
    (hsize : i.size = size) (hby : i.bytes = bytes) (hzs : z.cells.size = size) (hsz : 0 < size)
    (v : Value) (n : Nat) (xs : List Value) (hs : a.eval s = v) (hown : w.ownsRow 0 e size v n xs)
    (ad : Addr) (c : Nat) (news : List Value) (hx : a.eval x = .slice (some ad) 1 c) (hl : news.length = size) (hnews : ∀ j u, news[j]? = some u → w.cell? (ad.add j) = some u) (h1 : ∀ u ∈ news, u.oneCell' = true)
    (hbytes : (n + 1) * bytes ≤ 140737488355328) (h63 : n + 1 ≤ maxLen)
    (h : ∀ g cap w', w'.ownsRow 0 e size (.slice (some ⟨g, 0, none⟩) (n + 1) cap) (n + 1) (xs ++ news) → Went w v g w' → K (a.put o.dst (.slice (some ⟨g, 0, none⟩) (n + 1) cap)) w') :
    if Region.wanted o (yielded ops a.tmps) = true then Oper.wp P o a w K Q else E := by
  have hw : Region.wanted o (yielded ops a.tmps) = true := by simp [Region.wanted, hg]
  rw [if_pos hw]
  obtain ⟨g, cap, w', hr, h2, h3⟩ := run_app_sharp (P := P) w t o.type e i z size bytes ht hi hz hsize hby hzs hsz v n xs hown ad 1 c news (by omega) (by omega) hnews h1 h63 hbytes
  unfold Oper.wp execOp
  simp only [ho, resolve, invoke, builtin, Sem.run_bind, Sem.run_pure, Result.andThen_ok, List.map_toArray, List.map_cons, List.map_nil, hs, hx, hr]
  exact h g cap w' h2 h3
end

/-- A row's cell is put. -/
theorem row_setCell {w : World} {b j : Nat} {cs : Array Value} {t : TypeId} (x : Value) (h : w.heap[b]? = some (.cells cs t (0, 0))) : (w.setCell ⟨b, j, none⟩ x).heap[b]? = some (.cells (cs.setIfInBounds j x) t (0, 0)) := by
  have hlt := lt_of_block h
  have h' : w.heap[b] = .cells cs t (0, 0) := by simpa [Array.getElem?_eq_getElem hlt] using h
  show (w.heap.modify b _)[b]? = _
  rw [Array.getElem?_eq_getElem (by simpa using hlt), Array.getElem_modify_self, h']
  rfl
theorem own_put {w : World} {e : TypeId} {g n cap size : Nat} {vs : List Value} (h : w.ownsRow 0 e size (.slice (some ⟨g, 0, none⟩) n cap) n vs) (j : Nat) (x : Value) :
    (w.setCell ⟨g, j, none⟩ x).ownsRow 0 e size (.slice (some ⟨g, 0, none⟩) n cap) n (vs.set j x) := by
  have hl := h.1
  rcases h.2 with ⟨hh, _⟩ | ⟨g', cap', cur, hh, hb, hg, hnc, hcm, hcs, ht⟩
  · cases hh
  · cases hh
    refine ⟨by rw [List.length_set]; exact hl, .inr ⟨g, cap, cur.setIfInBounds j x, rfl, hb, row_setCell x hg, hnc, hcm, by simpa using hcs, ?_⟩⟩
    rw [Array.toList_setIfInBounds, List.take_set, ht]
theorem own_free {w : World} {e : TypeId} {g n cap size : Nat} {vs : List Value} (h : w.ownsRow 0 e size (.slice (some ⟨g, 0, none⟩) n cap) n vs) (j : Nat) : w.frozen? ⟨g, j, none⟩ = false := by
  rcases h.2 with ⟨hh, _⟩ | ⟨g', cap', cur, hh, hb, hg, _⟩
  · cases hh
  · cases hh
    simp [World.frozen?, hg]
theorem own_type {w : World} {e : TypeId} {size : Nat} {v : Value} {n : Nat} {vs : List Value} (h : w.ownsRow 0 e size v n vs) : ∀ k, v.ownBlock = some k → ∃ cs, w.heap[k]? = some (.cells cs e (0, 0)) := by
  intro k hk
  rcases h.2 with ⟨rfl, _⟩ | ⟨g', cap', cur, rfl, hb, hg, _⟩
  · simp [Value.ownBlock] at hk
  · simp [Value.ownBlock] at hk
    subst hk
    exact ⟨cur, hg⟩
theorem own_form {w : World} {e : TypeId} {size : Nat} {v : Value} {n : Nat} {vs : List Value} (h : w.ownsRow 0 e size v n vs) (h0 : 0 < n) : ∃ g cap, v = .slice (some ⟨g, 0, none⟩) n cap ∧ n ≤ cap := by
  rcases h.2 with ⟨_, hh⟩ | ⟨g', cap', cur, rfl, hb, hg, hn, _⟩
  · omega
  · exact ⟨g', cap', rfl, hn⟩
theorem own_slice {w : World} {e : TypeId} {size : Nat} {v : Value} {n : Nat} {vs : List Value} (h : w.ownsRow 0 e size v n vs) : ∃ ao cap, v = .slice ao n cap := by
  rcases h.2 with ⟨rfl, rfl⟩ | ⟨g', cap', cur, rfl, _⟩
  · exact ⟨none, 0, rfl⟩
  · exact ⟨_, _, rfl⟩
end Go.Proofs.YtaefninikmaiiaaGreatDoor.Bq
/- A Book of many lists of many kinds (the statements' own check that lists share no memory): how it lies in memory, for any kind of elements. Conditions as each lemma names them. -/
namespace Go.Proofs.YtaefninikmaiiaaGreatDoor.Bq
open Go.ChangeShapes Go.WideShapes Go.ChangeAt Go.RowKit Go.Lib
set_option linter.unusedVariables false

/-- A list that the Book holds, what it is when more was put behind it, its number. -/
structure HB where
  l : Value
  long : Value
  n : Nat
def HB.cells (h : HB) : List Value := [h.l, h.long, .int .i64 (h.n : Int)]
def rowOf (hs : List HB) : List Value := hs.flatMap HB.cells
theorem rowOf_length (hs : List HB) : (rowOf hs).length = hs.length * 3 := by
  induction hs with
  | nil => rfl
  | cons h r ih => simp only [rowOf, List.flatMap_cons, List.length_append, HB.cells, List.length_cons, List.length_nil] at ih ⊢; omega
theorem rowOf_snoc (hs : List HB) (h : HB) : rowOf (hs ++ [h]) = rowOf hs ++ h.cells := by simp [rowOf]
theorem rowOf_get (hs : List HB) (i : Nat) (h : HB) (hi : hs[i]? = some h) (j : Nat) (hj : j < 3) : (rowOf hs)[i * 3 + j]? = h.cells[j]? := by
  induction hs generalizing i with
  | nil => simp at hi
  | cons a r ih =>
    have e : rowOf (a :: r) = a.cells ++ rowOf r := by simp [rowOf]
    have hl : a.cells.length = 3 := rfl
    cases i with
    | zero =>
      simp at hi
      subst hi
      rw [e, List.getElem?_append_left (by omega)]
      simp
    | succ i =>
      rw [e, List.getElem?_append_right (by omega), hl, show (i + 1) * 3 + j - 3 = i * 3 + j from by omega]
      exact ih i (by simpa using hi)
theorem rowOf_set (hs : List HB) (i : Nat) (h : HB) (hi : hs[i]? = some h) (x : Value) : rowOf (hs.set i { h with long := x }) = (rowOf hs).set (i * 3 + 1) x := by
  induction hs generalizing i with
  | nil => simp at hi
  | cons a r ih =>
    have e : ∀ b : HB, rowOf (b :: r) = b.cells ++ rowOf r := fun b => by simp [rowOf]
    have hl : a.cells.length = 3 := rfl
    cases i with
    | zero =>
      simp at hi
      subst hi
      rw [List.set_cons_zero, e, e, List.set_append_left _ _ (by omega)]
      rfl
    | succ i =>
      rw [List.set_cons_succ, show rowOf (a :: r.set i { h with long := x }) = a.cells ++ rowOf (r.set i { h with long := x }) from by simp [rowOf], ih i (by simpa using hi), e, List.set_append_right _ _ (by omega), hl, show (i + 1) * 3 + 1 - 3 = i * 3 + 1 from by omega]

/-- A kind of lists: the type of what is held, of an element, how many cells an element has, the mark of a number, the Book's cell. -/
structure Kd where
  tH : TypeId
  tE : TypeId
  S : Nat
  mark : Nat → List Value
  col : Nat
  pos : 0 < S
  len : ∀ n, (mark n).length = S
  hE : tH ≠ tE
  hB : tH ≠ 45
  eB : tE ≠ 45
/-- A mark, so many times. -/
def marks (x : List Value) (n : Nat) : List Value := (List.replicate n x).flatten
theorem marks_length (x : List Value) (n : Nat) : (marks x n).length = n * x.length := by simp [marks]
theorem marks_succ (x : List Value) (n : Nat) : marks x (n + 1) = marks x n ++ x := by simp [marks, List.replicate_succ']
theorem marks_cons (x : List Value) (n : Nat) : marks x (n + 1) = x ++ marks x n := by simp [marks, List.replicate_succ]
theorem marks_get (x : List Value) (n j i : Nat) (hj : j < n) (hi : i < x.length) : (marks x n)[j * x.length + i]? = x[i]? := by
  induction n generalizing j with
  | zero => omega
  | succ n ih =>
    rw [marks_cons]
    cases j with
    | zero => rw [Nat.zero_mul, Nat.zero_add, List.getElem?_append_left hi]
    | succ j =>
      have e : (j + 1) * x.length + i = x.length + (j * x.length + i) := by rw [Nat.add_mul]; omega
      rw [e, List.getElem?_append_right (by omega), Nat.add_sub_cancel_left]
      exact ih j (by omega)

section
variable {K : Kd}
/-- The Book's part of one kind: its struct in block bk, its row of held lists at rv. -/
structure Bl (K : Kd) (w : World) (bk : Nat) (rv : Value) (hs : List HB) : Prop where
  box : ∃ cs, w.heap[bk]? = some (.cells cs 45 (0, 0)) ∧ cs[K.col]? = some rv
  row : w.ownsRow 0 K.tH 3 rv hs.length (rowOf hs)
  few : hs.length < 2097152
  num : ∀ (j : Nat) (h : HB), hs[j]? = some h → h.n < 4194304
theorem Bl.keep {S : List Nat} {w w' : World} {bk : Nat} {rv : Value} {hs : List HB} (h : Bl K w bk rv hs) (hf : Fr S w w') (hb : bk ∉ S) (hr : ∀ k, rv.ownBlock = some k → k ∉ S) : Bl K w' bk rv hs := by
  obtain ⟨cs, h1, h2⟩ := h.box
  exact ⟨⟨cs, hf.keep h1 hb, h2⟩, owns_keep h.row hf hr, h.few, h.num⟩
theorem Bl.other {w : World} {bk : Nat} {rv : Value} {hs : List HB} (h : Bl K w bk rv hs) : rv.ownBlock ≠ some bk := by
  intro e
  obtain ⟨cs, hc⟩ := own_type h.row bk e
  obtain ⟨cs', h1, _⟩ := h.box
  rw [h1] at hc
  simp only [Option.some.injEq, Obj.cells.injEq] at hc
  exact K.hB hc.2.1.symm
theorem Bl.c1 {w : World} {bk : Nat} {rv : Value} {hs : List HB} (h : Bl K w bk rv hs) : w.cell? ⟨bk, K.col, none⟩ = some rv := by
  obtain ⟨cs, h1, h2⟩ := h.box
  rw [cell_of_row _ _ _ _ _ _ h1, h2]
/-- An entry of the row, cell by cell. -/
theorem Bl.at {w : World} {bk : Nat} {rv : Value} {hs : List HB} (h : Bl K w bk rv hs) (i : Nat) (e : HB) (hi : hs[i]? = some e) :
    ∃ rb cap, rv = .slice (some ⟨rb, 0, none⟩) hs.length cap ∧ hs.length ≤ cap ∧ w.cell? ⟨rb, i * 3, none⟩ = some e.l ∧ w.cell? ⟨rb, i * 3 + 1, none⟩ = some e.long ∧ w.cell? ⟨rb, i * 3 + 2, none⟩ = some (.int .i64 (e.n : Int)) := by
  have hlt : i < hs.length := (List.getElem?_eq_some_iff.1 hi).1
  obtain ⟨rb, cap, rfl, hc⟩ := own_form h.row (by omega)
  have hr := h.row
  have hat : ∀ j, j < 3 → w.cell? ⟨rb, i * 3 + j, none⟩ = e.cells[j]? := fun j hj => by rw [hr.cellAt (i * 3 + j) (by omega), rowOf_get hs i e hi j hj]
  exact ⟨rb, cap, rfl, hc, hat 0 (by omega), hat 1 (by omega), hat 2 (by omega)⟩
/-- A held list as it was handed in; with its marks; and with more behind it. -/
def P0 (K : Kd) (w : World) (h : HB) : Prop := ∃ n vs, w.ownsRow 0 K.tE K.S h.l n vs ∧ n < 17179869184
def P1 (K : Kd) (w : World) (h : HB) : Prop := ∃ n, w.ownsRow 0 K.tE K.S h.l n (marks (K.mark h.n) n) ∧ n < 17179869184
/-- A slice reads as n times a mark. -/
structure Rdm (K : Kd) (w : World) (v : Value) (n : Nat) (x : List Value) : Prop where
  shape : ∃ ao cap, v = .slice ao n cap ∧ n ≤ cap ∧ (0 < n → ∃ b, ao = some ⟨b, 0, none⟩ ∧ ∀ j i, j < n → i < K.S → w.cell? ⟨b, j * K.S + i, none⟩ = x[i]?)
  type : ∀ k, v.ownBlock = some k → ∃ cs, w.heap[k]? = some (.cells cs K.tE (0, 0))
theorem own_marks {w : World} {g m n cap : Nat} {x : List Value} (hx : x.length = K.S) (h : w.ownsRow 0 K.tE K.S (.slice (some ⟨g, 0, none⟩) m cap) m (marks x m)) (j i : Nat) (hj : j < m) (hi : i < K.S) : w.cell? ⟨g, j * K.S + i, none⟩ = x[i]? := by
  have h1 : j * K.S + i < m * K.S := by
    have : (j + 1) * K.S ≤ m * K.S := Nat.mul_le_mul_right _ hj
    rw [Nat.add_mul] at this
    omega
  rw [h.cellAt (j * K.S + i) h1]
  have := marks_get x m j i hj (by omega)
  rw [hx] at this
  exact this
theorem Rdm.of_own {w : World} {v : Value} {n m : Nat} {x : List Value} {cap : Nat} {ao : Option Addr} (hx : x.length = K.S) (h : w.ownsRow 0 K.tE K.S v n (marks x n)) (hm : m ≤ n) (he : (Value.slice ao m cap).ownBlock = v.ownBlock) (hc : m ≤ cap) (ho : ∀ a, ao = some a → a.off = 0 ∧ a.spot = none) : Rdm K w (.slice ao m cap) m x := by
  refine ⟨⟨ao, cap, rfl, hc, fun h0 => ?_⟩, fun k hk => own_type h k (by rw [← he]; exact hk)⟩
  obtain ⟨g, c, rfl, _⟩ := own_form h (by omega)
  cases ao with
  | none => simp [Value.ownBlock] at he
  | some a =>
    obtain ⟨b, off, spot⟩ := a
    obtain ⟨rfl, rfl⟩ : off = 0 ∧ spot = none := ho _ rfl
    simp [Value.ownBlock] at he
    subst he
    exact ⟨b, rfl, fun j i hj hi => own_marks (n := 0) hx h j i (by omega) hi⟩
theorem Rdm.keep {S : List Nat} {w w' : World} {v : Value} {n : Nat} {x : List Value} (h : Rdm K w v n x) (hf : Fr S w w') (hn : ∀ k, v.ownBlock = some k → k ∉ S) : Rdm K w' v n x := by
  obtain ⟨ao, cap, rfl, hc, hr⟩ := h.shape
  refine ⟨⟨ao, cap, rfl, hc, fun h0 => ?_⟩, fun k hk => ?_⟩
  · obtain ⟨b, rfl, hb⟩ := hr h0
    refine ⟨b, rfl, fun j i hj hi => ?_⟩
    obtain ⟨cs, hcs⟩ := h.type b rfl
    exact (World.cell?_of_block (hf.block b (lt_of_block hcs) (hn b rfl))).trans (hb j i hj hi)
  · obtain ⟨cs, hcs⟩ := h.type k hk
    exact ⟨cs, hf.keep hcs (hn k hk)⟩
def P2 (K : Kd) (w : World) (h : HB) : Prop := ∃ n, Rdm K w h.l n (K.mark h.n) ∧ w.ownsRow 0 K.tE K.S h.long (n + 70) (marks (K.mark h.n) (n + 70)) ∧ n < 17179869184
theorem P0.keep {S : List Nat} {w w' : World} {h : HB} (p : P0 K w h) (hf : Fr S w w') (hn : ∀ k, h.l.ownBlock = some k → k ∉ S) : P0 K w' h := by
  obtain ⟨n, vs, h1, h2⟩ := p
  exact ⟨n, vs, owns_keep h1 hf hn, h2⟩
theorem P1.keep {S : List Nat} {w w' : World} {h : HB} (p : P1 K w h) (hf : Fr S w w') (hn : ∀ k, h.l.ownBlock = some k → k ∉ S) : P1 K w' h := by
  obtain ⟨n, h1, h2⟩ := p
  exact ⟨n, owns_keep h1 hf hn, h2⟩
theorem P2.keep {S : List Nat} {w w' : World} {h : HB} (p : P2 K w h) (hf : Fr S w w') (hn : ∀ k, h.l.ownBlock = some k → k ∉ S) (hn2 : ∀ k, h.long.ownBlock = some k → k ∉ S) : P2 K w' h := by
  obtain ⟨n, h1, h2, h3⟩ := p
  exact ⟨n, h1.keep hf hn, owns_keep h2 hf hn2, h3⟩
theorem P0.type {w : World} {h : HB} (p : P0 K w h) : ∀ k, h.l.ownBlock = some k → ∃ cs, w.heap[k]? = some (.cells cs K.tE (0, 0)) := by
  obtain ⟨n, vs, h1, h2⟩ := p
  exact own_type h1
theorem P1.type {w : World} {h : HB} (p : P1 K w h) : ∀ k, h.l.ownBlock = some k → ∃ cs, w.heap[k]? = some (.cells cs K.tE (0, 0)) := by
  obtain ⟨n, h1, h2⟩ := p
  exact own_type h1
/-- Blocks of elements are none of the Book's own. -/
theorem Bl.apart {w : World} {bk : Nat} {rv : Value} {hs : List HB} (h : Bl K w bk rv hs) {k : Nat} {cs : Array Value} (hk : w.heap[k]? = some (.cells cs K.tE (0, 0))) : k ≠ bk ∧ rv.ownBlock ≠ some k := by
  refine ⟨fun e => ?_, fun e => ?_⟩
  · subst e
    obtain ⟨cs', h1, _⟩ := h.box
    rw [h1] at hk
    simp only [Option.some.injEq, Obj.cells.injEq] at hk
    exact K.eB hk.2.1.symm
  · obtain ⟨cs', hc⟩ := own_type h.row k e
    rw [hk] at hc
    simp only [Option.some.injEq, Obj.cells.injEq] at hc
    exact K.hE hc.2.1.symm
end
/-- The blocks of the lists as they were handed in. -/
def lbs (hs : List HB) : List Nat := hs.flatMap fun h => h.l.ownBlock.toList
theorem mem_lbs {hs : List HB} {k : Nat} : k ∈ lbs hs ↔ ∃ h ∈ hs, h.l.ownBlock = some k := by simp [lbs]
/-- No two of them share one. -/
def Alone (hs : List HB) : Prop := ∀ (i j : Nat) (a b : HB), hs[i]? = some a → hs[j]? = some b → i ≠ j → ∀ k, a.l.ownBlock = some k → b.l.ownBlock ≠ some k
/-- Nothing was put behind them yet. -/
def Fresh (hs : List HB) : Prop := ∀ (j : Nat) (h : HB), hs[j]? = some h → h.long = .slice none 0 0
end Go.Proofs.YtaefninikmaiiaaGreatDoor.Bq
/- A Book of many lists of many kinds: what filling and growing keep. Conditions: no two held lists share a block. -/
namespace Go.Proofs.YtaefninikmaiiaaGreatDoor.Bq
open Go.ChangeShapes Go.WideShapes Go.ChangeAt Go.RowKit Go.Lib
set_option linter.unusedVariables false
variable {K : Kd}

structure FillInv (K : Kd) (w0 : World) (bk : Nat) (rv : Value) (hs : List HB) (i : Nat) (w : World) : Prop where
  bk : Bl K w bk rv hs
  done : ∀ (j : Nat) (h : HB), hs[j]? = some h → j < i → P1 K w h
  left : ∀ (j : Nat) (h : HB), hs[j]? = some h → i ≤ j → P0 K w h
  fr : Fr (lbs hs) w0 w
theorem FillInv.next {w0 w w1 w2 : World} {bk : Nat} {rv : Value} {hs : List HB} {i : Nat} {e : HB} (h : FillInv K w0 bk rv hs i w) (ha : Alone hs) (hi : hs[i]? = some e) (hf1 : Fr [] w w1) (hf2 : Fr e.l.ownBlock.toList w1 w2) (hp : P1 K w2 e) : FillInv K w0 bk rv hs (i + 1) w2 := by
  have hf : Fr e.l.ownBlock.toList w w2 := hf1.trans hf2 (by simp) (fun x hx _ => hx)
  have hte := (h.left i e hi (Nat.le_refl _)).type
  have hoth : ∀ (j : Nat) (b : HB), hs[j]? = some b → j ≠ i → ∀ k, b.l.ownBlock = some k → k ∉ e.l.ownBlock.toList := by
    intro j b hb hne k hk hm
    exact ha j i b e hb hi hne k hk (by simpa using hm)
  refine ⟨h.bk.keep hf ?_ ?_, ?_, ?_, h.fr.trans hf (fun x hx _ => hx) ?_⟩
  · intro hm
    obtain ⟨cs, hc⟩ := hte bk (by simpa using hm)
    exact (h.bk.apart hc).1 rfl
  · intro k hk hm
    obtain ⟨cs, hc⟩ := hte k (by simpa using hm)
    exact (h.bk.apart hc).2 hk
  · intro j b hb hj
    by_cases hji : j = i
    · subst hji
      rw [hi] at hb
      cases hb
      exact hp
    · exact (h.done j b hb (by omega)).keep hf (hoth j b hb hji)
  · intro j b hb hj
    exact (h.left j b hb (by omega)).keep hf (hoth j b hb (by omega))
  · intro x hx _
    exact mem_lbs.2 ⟨e, List.mem_of_getElem? hi, by simpa using hx⟩
structure GIn (K : Kd) (w1 : World) (l : Value) (n M k : Nat) (v : Value) (w : World) : Prop where
  own : w.ownsRow 0 K.tE K.S v (n + k) (marks (K.mark M) (n + k))
  rds : Rdm K w l n (K.mark M)
  fr : Fr l.ownBlock.toList w1 w
  plc : v.ownBlock = l.ownBlock ∨ ∃ g, v.ownBlock = some g ∧ w1.heap.size ≤ g
theorem Rdm.own0 {w : World} {l v : Value} {n m : Nat} {x : List Value} (hx : x.length = K.S) (h : w.ownsRow 0 K.tE K.S v m (marks x m)) (hm : n ≤ m) (he : v.ownBlock = l.ownBlock) {w0 : World} (r : Rdm K w0 l n x) : Rdm K w l n x := by
  obtain ⟨ao, cap, rfl, hc, hr⟩ := r.shape
  refine ⟨⟨ao, cap, rfl, hc, fun h0 => ?_⟩, fun k hk => own_type h k (by rw [he]; exact hk)⟩
  obtain ⟨b, rfl, _⟩ := hr h0
  obtain ⟨g, c, rfl, _⟩ := own_form h (by omega)
  simp [Value.ownBlock] at he
  subst he
  exact ⟨g, rfl, fun j i hj hi => own_marks (n := 0) hx h j i (by omega) hi⟩
theorem GIn.next {w1 w w' : World} {l v : Value} {n M k g cap : Nat} (h : GIn K w1 l n M k v w) (o : Obj) (hO : w'.ownsRow 0 K.tE K.S (.slice (some ⟨g, 0, none⟩) (n + k + 1) cap) (n + k + 1) (marks (K.mark M) (n + k) ++ K.mark M)) (hW : Went (w.alloc o) v g w') (hl : ∀ k, l.ownBlock = some k → k < w1.heap.size) :
    GIn K w1 l n M (k + 1) (.slice (some ⟨g, 0, none⟩) (n + k + 1) cap) w' := by
  have e : marks (K.mark M) (n + k) ++ K.mark M = marks (K.mark M) (n + k + 1) := (marks_succ _ _).symm
  rw [e] at hO
  have hFa : Fr [] w (w.alloc o) := Fr.alloc [] _ _
  have hs1 := h.fr.size
  have hs2 := hFa.size
  rcases hW with ⟨hv, hg⟩ | ⟨hv, hg⟩
  · have hFg : Fr [g] (w.alloc o) w' := Fr.grown hg (by intro k hk _; cases hk; simp)
    rcases h.plc with hp | ⟨g', hp, hge⟩
    · have hlg : l.ownBlock = some g := by rw [← hp, hv]
      refine ⟨hO, Rdm.own0 (K.len M) hO (by omega) hlg.symm h.rds, ?_, Or.inl hlg.symm⟩
      rw [hlg]
      have := h.fr
      rw [hlg] at this
      exact this.trans (hFa.trans hFg (by simp) (fun x hx _ => hx)) (fun x hx _ => hx) (fun x hx _ => by simpa using hx)
    · rw [hv] at hp
      cases hp
      have hne : ∀ k, l.ownBlock = some k → k ≠ g := by intro k hk; have := hl k hk; omega
      have hF : Fr [g] w w' := hFa.trans hFg (by simp) (fun x hx _ => hx)
      refine ⟨hO, h.rds.keep hF (by intro k hk hm; exact hne k hk (by simpa using hm)), h.fr.trans hF (fun x hx _ => hx) ?_, Or.inr ⟨g, rfl, hge⟩⟩
      intro x hx hxl
      simp at hx
      omega
  · have hFg : Fr [] (w.alloc o) w' := Fr.grown hg (by simp)
    have hF := hFa.then hFg
    refine ⟨hO, h.rds.keep hF (by simp), h.fr.trans hF (fun x hx _ => hx) (by simp), Or.inr ⟨g, rfl, by omega⟩⟩

structure GrowInv (K : Kd) (w0 : World) (bk : Nat) (rv : Value) (hs0 : List HB) (i : Nat) (hs : List HB) (w : World) : Prop where
  bk : Bl K w bk rv hs
  len : hs.length = hs0.length
  same : ∀ (j : Nat) (a : HB), hs[j]? = some a → ∃ b, hs0[j]? = some b ∧ a.l = b.l ∧ a.n = b.n
  done : ∀ (j : Nat) (a : HB), hs[j]? = some a → j < i → P2 K w a
  left : ∀ (j : Nat) (a : HB), hs[j]? = some a → i ≤ j → P1 K w a ∧ a.long = .slice none 0 0
  sep : ∀ (j : Nat) (a : HB), hs[j]? = some a → ∀ k, a.long.ownBlock = some k → a.l.ownBlock = some k ∨ w0.heap.size ≤ k
  apart : ∀ (j j' : Nat) (a b : HB), hs[j]? = some a → hs[j']? = some b → j ≠ j' → ∀ k, a.long.ownBlock = some k → b.long.ownBlock ≠ some k
  fr : Fr (rv.ownBlock.toList ++ lbs hs0) w0 w
theorem GrowInv.next {w0 w w1 w2 : World} {bk rb cap : Nat} {N : Nat} {hs0 hs : List HB} {i : Nat} {e : HB} {v : Value} {n : Nat} (h : GrowInv K w0 bk (.slice (some ⟨rb, 0, none⟩) N cap) hs0 i hs w) (ha : Alone hs0) (hold : ∀ (j : Nat) (a : HB), hs0[j]? = some a → ∀ k, a.l.ownBlock = some k → k < w0.heap.size)
    (hi : hs[i]? = some e) (hN : N = hs.length) (hf1 : Fr [] w w1) (hG : GIn K w1 e.l n e.n 70 v w2) (hn : n < 17179869184) :
    GrowInv K w0 bk (.slice (some ⟨rb, 0, none⟩) N cap) hs0 (i + 1) (hs.set i { e with long := v }) (w2.setCell ⟨rb, i * 3 + 1, none⟩ v) := by
  have hlt : i < hs.length := (List.getElem?_eq_some_iff.1 hi).1
  have hf : Fr e.l.ownBlock.toList w w2 := hf1.trans hG.fr (by simp) (fun x hx _ => hx)
  obtain ⟨hP1e, _⟩ := h.left i e hi (Nat.le_refl _)
  have hte := hP1e.type
  have hw0 := h.fr.size
  have hw1 := hf1.size
  have hw2 := hG.fr.size
  obtain ⟨e0, he0, hel, hen⟩ := h.same i e hi
  -- the old blocks of the others are none of e's
  have hoth : ∀ (j : Nat) (b : HB), hs[j]? = some b → j ≠ i → ∀ k, b.l.ownBlock = some k → k ∉ e.l.ownBlock.toList := by
    intro j b hb hne k hk hm
    obtain ⟨b0, hb0, hbl, _⟩ := h.same j b hb
    exact ha j i b0 e0 hb0 he0 hne k (by rw [← hbl]; exact hk) (by rw [← hel]; simpa using hm)
  have hothl : ∀ (j : Nat) (b : HB), hs[j]? = some b → j ≠ i → ∀ k, b.long.ownBlock = some k → k ∉ e.l.ownBlock.toList := by
    intro j b hb hne k hk hm
    have hek : e.l.ownBlock = some k := by simpa using hm
    rcases h.sep j b hb k hk with hs' | hge
    · exact hoth j b hb hne k hs' hm
    · have := hold i e0 he0 k (by rw [← hel]; exact hek)
      omega
  have hbk2 : Bl K w2 bk (.slice (some ⟨rb, 0, none⟩) N cap) hs := by
    refine h.bk.keep hf ?_ ?_
    · intro hm
      obtain ⟨cs, hc⟩ := hte bk (by simpa using hm)
      exact (h.bk.apart hc).1 rfl
    · intro k hk hm
      obtain ⟨cs, hc⟩ := hte k (by simpa using hm)
      exact (h.bk.apart hc).2 hk
  have hrow2 := hbk2.row
  rw [← hN] at hrow2
  have hput := own_put hrow2 (i * 3 + 1) v
  rw [← rowOf_set hs i e hi v] at hput
  have hfs : Fr [rb] w2 (w2.setCell ⟨rb, i * 3 + 1, none⟩ v) := Fr.set _ _ _ (by simp)
  have hrb : ∀ k cs, w2.heap[k]? = some (.cells cs K.tE (0, 0)) → k ∉ [rb] := by
    intro k cs hk hm
    exact (hbk2.apart hk).2 (by simp at hm; rw [hm]; rfl)
  have hset : ∀ (j : Nat) (a : HB), (hs.set i { e with long := v })[j]? = some a → (j = i ∧ a = { e with long := v }) ∨ (j ≠ i ∧ hs[j]? = some a) := by
    intro j a ha'
    by_cases hji : j = i
    · subst hji
      rw [List.getElem?_set_self hlt] at ha'
      exact Or.inl ⟨rfl, by cases ha'; rfl⟩
    · rw [List.getElem?_set_ne (fun e => hji e.symm)] at ha'
      exact Or.inr ⟨hji, ha'⟩
  have hlg := hG.own.lt
  refine ⟨⟨?_, ?_, ?_, ?_⟩, ?_, ?_, ?_, ?_, ?_, ?_, ?_⟩
  · obtain ⟨cs, b1, b2⟩ := hbk2.box
    exact ⟨cs, hfs.keep b1 (by intro hm; simp at hm; exact hbk2.other (by rw [hm]; rfl)), b2⟩
  · rw [List.length_set, ← hN]
    exact hput
  · rw [List.length_set]; exact hbk2.few
  · intro j a haj
    rcases hset j a haj with ⟨rfl, rfl⟩ | ⟨_, haj⟩
    · exact hbk2.num j e hi
    · exact hbk2.num j a haj
  · rw [List.length_set, h.len]
  · intro j a haj
    rcases hset j a haj with ⟨rfl, rfl⟩ | ⟨_, haj⟩
    · exact ⟨e0, he0, hel, hen⟩
    · exact h.same j a haj
  · intro j a haj hj
    rcases hset j a haj with ⟨rfl, rfl⟩ | ⟨hne, haj⟩
    · refine P2.keep (S := [rb]) ⟨n, hG.rds, hG.own, hn⟩ hfs ?_ ?_
      · intro k hk
        obtain ⟨cs, hc⟩ := hG.rds.type k hk
        exact hrb k cs hc
      · intro k hk
        obtain ⟨cs, hc⟩ := own_type hG.own k hk
        exact hrb k cs hc
    · have hp := (h.done j a haj (by omega)).keep hf (hoth j a haj hne) (hothl j a haj hne)
      obtain ⟨m, q1, q2, q3⟩ := hp
      refine P2.keep (S := [rb]) ⟨m, q1, q2, q3⟩ hfs ?_ ?_
      · intro k hk
        obtain ⟨cs, hc⟩ := q1.type k hk
        exact hrb k cs hc
      · intro k hk
        obtain ⟨cs, hc⟩ := own_type q2 k hk
        exact hrb k cs hc
  · intro j a haj hj
    rcases hset j a haj with ⟨rfl, rfl⟩ | ⟨hne, haj⟩
    · omega
    · obtain ⟨hp, hnil⟩ := h.left j a haj (by omega)
      have hp2 := hp.keep hf (hoth j a haj hne)
      exact ⟨hp2.keep hfs (by intro k hk; obtain ⟨cs, hc⟩ := hp2.type k hk; exact hrb k cs hc), hnil⟩
  · intro j a haj k hk
    rcases hset j a haj with ⟨rfl, rfl⟩ | ⟨hne, haj⟩
    · rcases hG.plc with hp | ⟨g, hp, hge⟩
      · exact Or.inl (by rw [← hp]; exact hk)
      · rw [hp] at hk
        cases hk
        exact Or.inr (by omega)
    · exact h.sep j a haj k hk
  · have key : ∀ (j : Nat) (b : HB), hs[j]? = some b → j ≠ i → ∀ k, v.ownBlock = some k → b.long.ownBlock ≠ some k := by
      intro j b hb hne k hk hbk
      rcases hG.plc with hp | ⟨g, hp, hge⟩
      · rw [hp] at hk
        exact hothl j b hb hne k hbk (by simpa using hk)
      · rw [hp] at hk
        cases hk
        by_cases hji : j < i
        · obtain ⟨m, _, q2, _⟩ := h.done j b hb hji
          have := (q2.lt k hbk).2
          omega
        · obtain ⟨_, hnil⟩ := h.left j b hb (by omega)
          rw [hnil] at hbk
          simp [Value.ownBlock] at hbk
    intro j j' a b haj hbj hne k hk hk'
    rcases hset j a haj with ⟨hj, ea⟩ | ⟨hnj, haj2⟩
    · rcases hset j' b hbj with ⟨hj', _⟩ | ⟨hnj', hbj2⟩
      · exact hne (hj.trans hj'.symm)
      · rw [ea] at hk
        exact key j' b hbj2 hnj' k hk hk'
    · rcases hset j' b hbj with ⟨_, eb⟩ | ⟨hnj', hbj2⟩
      · rw [eb] at hk'
        exact key j a haj2 hnj k hk' hk
      · exact h.apart j j' a b haj2 hbj2 hne k hk hk'
  · refine (h.fr.trans hf (fun x hx _ => hx) ?_).trans hfs (fun x hx _ => hx) ?_
    · intro x hx _
      refine List.mem_append_right _ (mem_lbs.2 ⟨e0, List.mem_of_getElem? he0, ?_⟩)
      rw [← hel]
      simpa using hx
    · intro x hx _
      simp at hx
      subst hx
      simp [Value.ownBlock]

end Go.Proofs.YtaefninikmaiiaaGreatDoor.Bq
/- Marks laid into a row one by one; kinds of lists. Conditions as each lemma names them. -/
namespace Go.Proofs.YtaefninikmaiiaaGreatDoor.Bq
open Go.ChangeShapes Go.WideShapes Go.ChangeAt Go.RowKit Go.Lib
set_option linter.unusedVariables false

theorem fstep1 (X a : Value) (R : List Value) (k : Nat) : (marks [X] k ++ a :: R).set k X = marks [X] (k + 1) ++ R := by
  have hl : (marks [X] k).length = k := by rw [marks_length]; simp
  rw [List.set_append_right _ _ (by omega), hl, Nat.sub_self, marks_succ]
  simp
theorem fstep2 (X Y a b : Value) (R : List Value) (k : Nat) : ((marks [X, Y] k ++ a :: b :: R).set (k * 2) X).set (k * 2 + 1) Y = marks [X, Y] (k + 1) ++ R := by
  have hl : (marks [X, Y] k).length = k * 2 := by rw [marks_length]; rfl
  rw [List.set_append_right _ _ (by omega), hl, Nat.sub_self, List.set_append_right _ _ (by omega), hl, show k * 2 + 1 - k * 2 = 1 by omega, marks_succ]
  simp
theorem fstep3 (X Y Z a b c : Value) (R : List Value) (k : Nat) : (((marks [X, Y, Z] k ++ a :: b :: c :: R).set (k * 3) X).set (k * 3 + 1) Y).set (k * 3 + 2) Z = marks [X, Y, Z] (k + 1) ++ R := by
  have hl : (marks [X, Y, Z] k).length = k * 3 := by rw [marks_length]; rfl
  rw [List.set_append_right _ _ (by omega), hl, Nat.sub_self, List.set_append_right _ _ (by omega), hl, show k * 3 + 1 - k * 3 = 1 by omega, List.set_append_right _ _ (by omega), hl, show k * 3 + 2 - k * 3 = 2 by omega, marks_succ]
  simp
theorem fmore1 {R : List Value} {n k : Nat} (hk : k < n) (h : R.length = (n - k) * 1) : ∃ a S, R = a :: S ∧ S.length = (n - (k + 1)) * 1 := by
  match R, h with
  | a :: S, h => exact ⟨a, S, rfl, by simp at h ⊢; omega⟩
  | [], h => simp at h; omega
theorem fmore2 {R : List Value} {n k : Nat} (hk : k < n) (h : R.length = (n - k) * 2) : ∃ a b S, R = a :: b :: S ∧ S.length = (n - (k + 1)) * 2 := by
  match R, h with
  | a :: b :: S, h => exact ⟨a, b, S, rfl, by simp at h ⊢; omega⟩
  | [], h => simp at h; omega
  | [_], h => simp at h; omega
theorem fmore3 {R : List Value} {n k : Nat} (hk : k < n) (h : R.length = (n - k) * 3) : ∃ a b c S, R = a :: b :: c :: S ∧ S.length = (n - (k + 1)) * 3 := by
  match R, h with
  | a :: b :: c :: S, h => exact ⟨a, b, c, S, rfl, by simp at h ⊢; omega⟩
  | [], h => simp at h; omega
  | [_], h => simp at h; omega
  | [_, _], h => simp at h; omega
/-- What lies behind the marks, cell by cell. -/
theorem behind {w : World} {e : TypeId} {t n cap size k : Nat} {x R : List Value} (hx : x.length = size) (hO : w.ownsRow 0 e size (.slice (some ⟨t, 0, none⟩) n cap) n (marks x k ++ R)) (j : Nat) (u : Value) (hj : R[j]? = some u) : w.cell? ⟨t, k * size + j, none⟩ = some u := by
  have hl : (marks x k).length = k * size := by rw [marks_length, hx]
  have hlen := hO.1
  have hjl := (List.getElem?_eq_some_iff.1 hj).1
  rw [List.length_append, hl] at hlen
  rw [hO.cellAt (k * size + j) (by omega), List.getElem?_append_right (by omega), hl, Nat.add_sub_cancel_left]
  exact hj
theorem res_c1 {fn : Func} {p : Tmp} {t : TypeId} (h : fn.results = #[.cell p t]) (tmps : Array Value) (P : Program) (w : World) :
    (results fn tmps).run P w = ((asAddr (tmps.getD p undef)).run P w).andThen fun a w₁ => (loadVar t a).run P w₁ := by
  simp only [results, h]
  simp [Sem.run_bind, Result.andThen]

theorem GIn.keep {K : Kd} {w1 w w' : World} {l v : Value} {n M k : Nat} (h : GIn K w1 l n M k v w) (hf : Fr [] w w') : GIn K w1 l n M k v w' :=
  ⟨owns_keep h.own hf (by simp), h.rds.keep hf (by simp), h.fr.trans hf (fun x hx _ => hx) (by simp), h.plc⟩
/-- The kinds of lists. -/
def mByte (n : Nat) : Nat := 1 + n % 255
def mInt (n : Nat) : Int := -1000 - (n : Int)
abbrev kByte : Kd := { tH := 130, tE := 5, S := 1, mark := fun n => [.int .u8 (mByte n : Int)], col := 1, pos := by decide, len := fun _ => rfl, hE := by decide, hB := by decide, eB := by decide }
abbrev kInt : Kd := { tH := 133, tE := 3, S := 1, mark := fun n => [.int .i64 (mInt n)], col := 2, pos := by decide, len := fun _ => rfl, hE := by decide, hB := by decide, eB := by decide }
abbrev kTxn : Kd := { tH := 128, tE := 63, S := 2, mark := fun n => [.int .i64 (mInt n), .slice none 0 0], col := 7, pos := by decide, len := fun _ => rfl, hE := by decide, hB := by decide, eB := by decide }
set_option maxHeartbeats 1000000 in
theorem markByte_at (n B : Nat) (w : World) (hn : n < 4194304) (hB : mByte n = B) : Calls Tryz.prog 115 #[.int .i64 (n : Int)] w fun e w' => e = .returned (.int .u8 (B : Int)) ∧ Fr [] w w' := by
  have h1 : (1 + (n : Int) % 255) % 256 = ((1 + n % 255 : Nat) : Int) := by omega
  have HM : Hid ((1 + n % 255 : Nat) = B) := hB
  clear hB
  go_enter Tryz.func115, Tryz.ntmps115
  go_wp2
  go_ret
  rw [← HM.out]
  exact ⟨rfl, Fr.refl _ _⟩
set_option maxHeartbeats 1000000 in
theorem markInt_at (n : Nat) (B : Int) (w : World) (hn : n < 4194304) (hB : mInt n = B) : Calls Tryz.prog 116 #[.int .i64 (n : Int)] w fun e w' => e = .returned (.int .i64 B) ∧ Fr [] w w' := by
  have HM : Hid (-1000 - (n : Int) = B) := hB
  clear hB
  go_enter Tryz.func116, Tryz.ntmps116
  go_wp2
  go_ret
  rw [← HM.out]
  exact ⟨rfl, Fr.refl _ _⟩
set_option maxHeartbeats 1000000 in
theorem markTxn_at (n : Nat) (B : Int) (w : World) (hn : n < 4194304) (hB : mInt n = B) : Calls Tryz.prog 121 #[.int .i64 (n : Int)] w fun e w' => e = .returned (.agg #[.int .i64 B, .slice none 0 0]) ∧ Fr [] w w' := by
  have HM : Hid (-1000 - (n : Int) = B) := hB
  clear hB
  go_enter Tryz.func121, Tryz.ntmps121
  go_wp2
  refine bodyPost_ret (v := (.agg #[.int .i64 B, .slice none 0 0])) (by rw [res_c1 rfl, ← HM.out]; go_simp) rfl ⟨rfl, ?_⟩
  exact Fr.alloc [] w _
end Go.Proofs.YtaefninikmaiiaaGreatDoor.Bq
/- What the Book's own tests of a mark answer: true. Conditions: numbers below 2^22. -/
namespace Go.Proofs.YtaefninikmaiiaaGreatDoor.Bq
open BigFrame Go.ChangeShapes Go.WideShapes Go.ChangeAt Go.RowKit Go.Lib
set_option linter.unusedVariables false

/-- A world that keeps all that w1 held. -/
structure Wd (w1 : World) where
  W : World
  h : Fr [] w1 W
instance (w1 : World) : Nonempty (Wd w1) := ⟨⟨w1, Fr.refl _ _⟩⟩
theorem wp_region_wd {P : Program} {w1 wr : World} {id : Nat} {Q : Exit → Act → World → Prop} {a : Act} {l : List Oper} (hm : P.follows .mixedOrders = true) (hB : Region.lexB .any l.toArray = true) (hf : Fr [] w1 wr)
    (h : wpQuiet P l.toArray (fun w' => ∃ x : Wd w1, w' = x.W) (fun a' => ∀ w', (∃ x : Wd w1, w' = x.W) → Q .normal a' w') l a) : (Code.region id l.toArray true).wp P Q a wr :=
  wp_region_quiet (C := fun w' => ∃ x : Wd w1, w' = x.W) hm hB ⟨⟨_, hf.then (Fr.drew [] wr)⟩, rfl⟩ (by simpa using h)
set_option maxHeartbeats 1000000 in
theorem isByte_at (n B : Nat) (w : World) (hn : n < 4194304) (hB : mByte n = B) : Calls Tryz.prog 126 #[.int .u8 (B : Int), .int .i64 (n : Int)] w fun e w' => e = .returned (.bool true) ∧ Fr [] w w' := by
  have h1 : (1 + (n : Int) % 255) % 256 = ((1 + n % 255 : Nat) : Int) := by omega
  subst hB
  unfold mByte
  go_enter Tryz.func126, Tryz.ntmps126
  go_wp2
  go_ret
  exact ⟨rfl, Fr.refl _ _⟩
set_option maxHeartbeats 1000000 in
theorem isInt_at (n : Nat) (B : Int) (w : World) (hn : n < 4194304) (hB : mInt n = B) : Calls Tryz.prog 127 #[.int .i64 B, .int .i64 (n : Int)] w fun e w' => e = .returned (.bool true) ∧ Fr [] w w' := by
  subst hB
  unfold mInt
  go_enter Tryz.func127, Tryz.ntmps127
  go_wp2
  go_ret
  exact ⟨by simp, Fr.refl _ _⟩
set_option maxHeartbeats 1000000 in
theorem isTxn_at (n : Nat) (B : Int) (w : World) (hn : n < 4194304) (hB : mInt n = B) : Calls Tryz.prog 132 #[.agg #[.int .i64 B, .slice none 0 0], .int .i64 (n : Int)] w fun e w' => e = .returned (.bool true) ∧ Fr [] w w' := by
  subst hB
  unfold mInt
  go_enter Tryz.func132, Tryz.ntmps132
  go_wp2
  go_ret
  exact ⟨by simp, Fr.alloc _ _ _⟩
end Go.Proofs.YtaefninikmaiiaaGreatDoor.Bq
/- What == says of two writes (for the Book); a number as a text with a mark ahead of it. Conditions: the table of powers of ten reads as the library lays it. -/
namespace Go.Proofs
open Go.Shelf
shelf_lay LaysM.n171 Nm 171 at Tryz as Tryz.laysItoa
end Go.Proofs
namespace Go.Proofs.YtaefninikmaiiaaGreatDoor.Bq
open BigFrame Go.ChangeShapes Go.WideShapes Go.ChangeAt Go.RowKit Go.Lib Go.Shelf
set_option linter.unusedVariables false
theorem Tryz.undStr : Tryz.prog.underlying 9 = some .string := by kernel_rfl
theorem Tryz.undWt : Tryz.prog.underlying 124 = some (.struct (Tryz.prog.fieldsOf 124)) := by kernel_rfl
theorem Tryz.heldWt : Tryz.prog.stoodInHeld 124 = false := by kernel_rfl
theorem Tryz.guardWt : Tryz.prog.eqGuardType Tryz.prog.depth 124 = false := by kernel_rfl
theorem Tryz.fieldsWt : (Tryz.prog.fieldsOf 124).toList.map (fun f => (f.name == "_", f.type, f.offset)) = [(false, 9, 0), (false, 9, 1), (false, 4, 2)] := by kernel_rfl
theorem Tryz.undBool : Tryz.prog.underlying 4 = some .bool := by kernel_rfl
theorem Tryz.infoStr1 : (Tryz.prog.info? 9).map (fun i => i.size) = some 1 := by kernel_rfl
theorem Tryz.infoBool1 : (Tryz.prog.info? 4).map (fun i => i.size) = some 1 := by kernel_rfl
theorem part_str (w : World) (cs : Array Value) (off : Nat) (v : Value) (h : cs[off]? = some v) : (part 9 cs off).run Tryz.prog w = .ok v w := by
  simp [part, isAgg, run_underlying Tryz.undStr, h, Sem.run_bind]
theorem part_bool (w : World) (cs : Array Value) (off : Nat) (v : Value) (h : cs[off]? = some v) : (part 4 cs off).run Tryz.prog w = .ok v w := by
  simp [part, isAgg, run_underlying Tryz.undBool, h, Sem.run_bind]
theorem eq_str (w : World) (a b : ByteArray) : (Op.equalIn 9999 9 (.string a) (.string b)).run Tryz.prog w = .ok (a.toList == b.toList) w := run_equalIn_string w 9998 _ a b Tryz.undStr
theorem eq_bool (w : World) (a b : Bool) : (Op.equalIn 9999 4 (.bool a) (.bool b)).run Tryz.prog w = .ok (a == b) w := run_equalIn_bool w 9998 _ a b Tryz.undBool
theorem step_field {P : Program} {w : World} {A B : Sem Value} {E : Value → Value → Sem Bool} {K : Sem Bool} {a b : Value} {r : Bool} (hA : A.run P w = .ok a w) (hB : B.run P w = .ok b w) (hE : (E a b).run P w = .ok r w) :
    (do let a ← A; let b ← B; let r ← E a b; if (!r) = true then pure false else K : Sem Bool).run P w = if r = true then K.run P w else .ok false w := by
  simp only [Sem.run_bind, hA, hB, hE, Result.andThen_ok]
  cases r <;> simp
set_option maxRecDepth 100000 in
theorem wt_fields (w : World) (k1 v1 k2 v2 : ByteArray) (p1 p2 : Bool) : (Op.equalIn 10000 124 (.agg #[.string k1, .string v1, .bool p1]) (.agg #[.string k2, .string v2, .bool p2])).run Tryz.prog w = .ok (k1.toList == k2.toList && (v1.toList == v2.toList && p1 == p2)) w := by
  rw [run_equalIn_struct w 9999 _ _ _ Tryz.undWt Tryz.heldWt]
  have hF := Tryz.fieldsWt
  obtain ⟨l, hl⟩ : ∃ l, l = (Tryz.prog.fieldsOf 124).toList := ⟨_, rfl⟩
  rw [← hl] at hF ⊢
  match l, hF with
  | [f0, f1, f2], hF =>
    simp only [List.map_cons, List.map_nil, List.cons.injEq, Prod.mk.injEq, and_true] at hF
    obtain ⟨⟨n0, t0, o0⟩, ⟨n1, t1, o1⟩, ⟨n2, t2, o2⟩⟩ := hF
    have m0 : f0.name ≠ "_" := by simpa using n0
    have m1 : f1.name ≠ "_" := by simpa using n1
    have m2 : f2.name ≠ "_" := by simpa using n2
    simp only [Op.eqFields, if_pos m0, if_pos m1, if_pos m2, t0, t1, t2, o0, o1, o2]
    rw [step_field (part_str w _ 0 _ rfl) (part_str w _ 0 _ rfl) (eq_str w k1 k2)]
    rw [step_field (part_str w _ 1 _ rfl) (part_str w _ 1 _ rfl) (eq_str w v1 v2)]
    rw [step_field (part_bool w _ 2 _ rfl) (part_bool w _ 2 _ rfl) (eq_bool w p1 p2)]
    cases (k1.toList == k2.toList) <;> cases (v1.toList == v2.toList) <;> cases (p1 == p2) <;> simp

/-- The table of powers of ten reads as the library lays it. -/
def Tab (w : World) : Prop := Lib.TabIs Tryz.prog w "internal/strconv.uint64pow10" .u64 Lib.pow10Tab
noncomputable def gTab : Nat := (Tryz.prog.globalNamed "internal/strconv.uint64pow10").getD 0
theorem gTab_is : Tryz.prog.globalNamed "internal/strconv.uint64pow10" = some gTab := by kernel_rfl
theorem Tab.lt {w : World} (h : Tab w) : gTab < w.heap.size := by
  have h' : w.var? Tryz.prog "internal/strconv.uint64pow10" = some (Lib.pow10Tab.map fun z => Value.int .u64 z).toArray := h
  unfold World.var? at h'
  rw [gTab_is] at h'
  simp only [Option.bind_some] at h'
  by_cases hg : gTab < w.heap.size
  · exact hg
  · rw [Array.getElem?_eq_none (by omega)] at h'
    simp at h'
theorem Tab.keep {S : List Nat} {w w' : World} (h : Tab w) (hf : Fr S w w') (hn : gTab ∉ S) : Tab w' := by
  have hlt := h.lt
  have h' : w.var? Tryz.prog "internal/strconv.uint64pow10" = some (Lib.pow10Tab.map fun z => Value.int .u64 z).toArray := h
  show w'.var? Tryz.prog "internal/strconv.uint64pow10" = _
  rw [← h']
  unfold World.var?
  rw [gTab_is]
  simp only [Option.bind_some]
  rw [hf.block gTab hlt hn]
theorem itoa_any (n : Nat) (hn : n < 4194304) (w : World) (ht : Tab w) : Calls Tryz.prog 180 #[.int .i64 (n : Int)] w fun e w' => e = .returned (.string ⟨(Lib.itoa (n : Int)).toArray⟩) ∧ Fr [] w w' := by
  refine (Any.strconv_Itoa Tryz.laysItoa (n : Int) (by omega) (by omega) w ht).mono ?_
  rintro e w' ⟨rfl, k, os, rfl⟩
  refine ⟨rfl, rfl, rfl, rfl, by simp [Sort.grow], fun i hi _ => ?_⟩
  exact Array.getElem?_append_left hi
/-- A mark as a text. -/
def mWord (n : Nat) : ByteArray := (⟨#[35]⟩ : ByteArray) ++ (⟨(Lib.itoa (n : Int)).toArray⟩ : ByteArray)
set_option maxHeartbeats 1000000 in
theorem word_any (n : Nat) (B : ByteArray) (hn : n < 4194304) (hB : mWord n = B) (w : World) (ht : Tab w) : Calls Tryz.prog 160 #[.int .i64 (n : Int)] w fun e w' => e = .returned (.string B) ∧ Fr [] w w' := by
  have HB : Hid ((⟨#[35]⟩ : ByteArray) ++ (⟨(Lib.itoa (n : Int)).toArray⟩ : ByteArray) = B) := hB
  clear hB
  obtain ⟨T, HT⟩ : ∃ T : ByteArray, Hid (T = ⟨(Lib.itoa (n : Int)).toArray⟩) := ⟨_, rfl⟩
  have hTs : T.size ≤ 21 := by
    rw [HT.out]
    show (Lib.itoa (n : Int)).toArray.size ≤ 21
    have := Lib.itoa_length_le (n : Int) (by omega) (by omega)
    simpa using this
  go_enter Tryz.func160, Tryz.ntmps160
  go_wp2_with fail
  refine (itoa_any n hn _ ht).mono ?_
  rintro e w1 ⟨rfl, hF⟩
  rw [← HT.out]
  go_wp2
  go_ret
  rw [← HB.out, ← HT.out]
  exact ⟨rfl, hF⟩
set_option maxHeartbeats 1000000 in
theorem markWrite_at (n : Nat) (B : ByteArray) (w : World) (hn : n < 4194304) (hB : mWord n = B) (ht : Tab w) : Calls Tryz.prog 118 #[.int .i64 (n : Int)] w fun e w' => e = .returned (.agg #[.string B, .string ⟨#[]⟩, .bool false]) ∧ Fr [] w w' := by
  have HB : Hid (mWord n = B) := hB
  have hz : (w.alloc (Obj.cells #[.string ⟨#[]⟩, .string ⟨#[]⟩, .bool false] 124)).heap[w.heap.size]? = some (Obj.cells #[.string ⟨#[]⟩, .string ⟨#[]⟩, .bool false] 124) := heap_alloc_new _ _
  clear hB
  go_enter Tryz.func118, Tryz.ntmps118
  go_wp2_with fail
  refine (word_any n B hn HB.out _ (ht.keep (Fr.alloc [] w _) (by simp))).mono ?_
  rintro e w1 ⟨rfl, hF⟩
  have hz1 := hF.keep hz (by simp)
  have z0 : w1.cell? ⟨w.heap.size, 0, none⟩ = some (.string ⟨#[]⟩) := by rw [cell_of_row _ _ _ _ _ _ hz1]; rfl
  have z1 : w1.cell? ⟨w.heap.size, 1, none⟩ = some (.string ⟨#[]⟩) := by rw [cell_of_row _ _ _ _ _ _ hz1]; rfl
  have z2 : w1.cell? ⟨w.heap.size, 2, none⟩ = some (.bool false) := by rw [cell_of_row _ _ _ _ _ _ hz1]; rfl
  have q0 : w1.frozen? ⟨w.heap.size, 0, none⟩ = false := by simp [World.frozen?, hz1]
  have q1 : w1.frozen? ⟨w.heap.size, 1, none⟩ = false := by simp [World.frozen?, hz1]
  have q2 : w1.frozen? ⟨w.heap.size, 2, none⟩ = false := by simp [World.frozen?, hz1]
  have hF0 : Fr [] w w1 := (Fr.alloc [] w _).then hF
  clear hz hz1 hF
  go_wp2
  refine bodyPost_ret (v := (.agg #[.string B, .string ⟨#[]⟩, .bool false])) (by rw [res_c1 rfl]; go_simp) rfl ⟨rfl, ?_⟩
  exact hF0.on (((Fr.set (S := [w.heap.size]) w1 ⟨w.heap.size, 0, none⟩ _ (by simp)).then (Fr.set _ ⟨w.heap.size, 1, none⟩ _ (by simp))).then (Fr.set _ ⟨w.heap.size, 2, none⟩ _ (by simp))) (by simp)
theorem wt_same (w : World) (k v : ByteArray) (d : Bool) : (Op.equalIn 10000 124 (.agg #[.string k, .string v, .bool d]) (.agg #[.string k, .string v, .bool d])).run Tryz.prog w = .ok true w := by
  rw [wt_fields]
  simp
abbrev kWrite : Kd := { tH := 140, tE := 124, S := 3, mark := fun n => [.string (mWord n), .string ⟨#[]⟩, .bool false], col := 4, pos := by decide, len := fun _ => rfl, hE := by decide, hB := by decide, eB := by decide }
set_option maxHeartbeats 1000000 in
theorem isWrite_at (n : Nat) (B : ByteArray) (w : World) (hn : n < 4194304) (hB : mWord n = B) (ht : Tab w) : Calls Tryz.prog 129 #[.agg #[.string B, .string ⟨#[]⟩, .bool false], .int .i64 (n : Int)] w fun e w' => e = .returned (.bool true) ∧ Fr [] w w' := by
  have HB : Hid (mWord n = B) := hB
  clear hB
  have hgd := Tryz.guardWt
  have hq : ∀ w', (Op.equalIn 10000 124 (.agg #[.string B, .string ⟨#[]⟩, .bool false]) (.agg #[.string B, .string ⟨#[]⟩, .bool false])).run Tryz.prog w' = .ok true w' := fun w' => wt_same w' _ _ _
  obtain ⟨w0, HW0⟩ : ∃ w0, Hid (w.alloc (.cells #[.string B, .string ⟨#[]⟩, .bool false] 124) = w0) := ⟨_, rfl⟩
  have hb0 : w0.heap[w.heap.size]? = some (.cells #[.string B, .string ⟨#[]⟩, .bool false] 124 (0, 0)) := by rw [← HW0.out]; exact heap_alloc_new w _
  have hF0 : Fr [] w w0 := by rw [← HW0.out]; exact Fr.alloc [] _ _
  have HT0 : Hid (Tab w0) := ht.keep hF0 (by simp)
  have f0 : ∀ x : Wd w0, x.W.cell? ⟨w.heap.size, 0, none⟩ = some (.string B) := fun x => by rw [cell_of_row _ _ _ _ _ _ (x.h.keep hb0 (by simp))]; rfl
  have f1 : ∀ x : Wd w0, x.W.cell? ⟨w.heap.size, 1, none⟩ = some (.string ⟨#[]⟩) := fun x => by rw [cell_of_row _ _ _ _ _ _ (x.h.keep hb0 (by simp))]; rfl
  have f2 : ∀ x : Wd w0, x.W.cell? ⟨w.heap.size, 2, none⟩ = some (.bool false) := fun x => by rw [cell_of_row _ _ _ _ _ _ (x.h.keep hb0 (by simp))]; rfl
  clear hb0 ht
  go_enter Tryz.func129, Tryz.ntmps129
  go_upto_region 1 with fail
  rw [HW0.out]
  clear HW0
  refine wp_region_wd (w1 := w0) (by kernel_rfl) (by kernel_rfl) (Fr.refl _ _) ?_
  repeat (go_big_quiet_step (exact (word_any n B hn HB.out _ (HT0.out.keep (Wd.h _) (by simp))).mono fun e w3 hh => ⟨hh.1, ⟨_, Fr.then (Wd.h _) hh.2⟩, rfl⟩))
  refine wpQuiet_nil ?_
  rintro _ ⟨x, rfl⟩
  go_wp2
  go_ret
  exact ⟨by simp, hF0.then x.h⟩
end Go.Proofs.YtaefninikmaiiaaGreatDoor.Bq
/- A Book's kinds side by side: what one kind's calls write is none of another's. Plain lemmas. -/
namespace Go.Proofs.YtaefninikmaiiaaGreatDoor.Bq
open Go.ChangeShapes Go.WideShapes Go.ChangeAt Go.RowKit Go.Lib
set_option linter.unusedVariables false

/-- Blocks that are none of a kind's, nor the Book's own. -/
def Off (K : Kd) (S : List Nat) (w : World) : Prop := ∀ k ∈ S, ∃ cs t, w.heap[k]? = some (.cells cs t (0, 0)) ∧ t ≠ 45 ∧ t ≠ K.tH ∧ t ≠ K.tE
/-- Two kinds have no type in common. -/
def Kd.off (K J : Kd) : Prop := J.tH ≠ K.tH ∧ J.tH ≠ K.tE ∧ J.tE ≠ K.tH ∧ J.tE ≠ K.tE
theorem off_lbs {K J : Kd} (hKJ : K.off J) {w : World} {hs : List HB} (h : ∀ (j : Nat) (h : HB), hs[j]? = some h → ∀ k, h.l.ownBlock = some k → ∃ cs, w.heap[k]? = some (.cells cs J.tE (0, 0))) : Off K (lbs hs) w := by
  intro k hk
  obtain ⟨b, hb, hbk⟩ := mem_lbs.1 hk
  obtain ⟨j, hj⟩ := List.getElem?_of_mem hb
  obtain ⟨cs, hc⟩ := h j b hj k hbk
  exact ⟨cs, J.tE, hc, J.eB, hKJ.2.2.1, hKJ.2.2.2⟩
theorem off_row {K J : Kd} (hKJ : K.off J) {w : World} {bk : Nat} {rv : Value} {hs : List HB} (h : Bl J w bk rv hs) : Off K rv.ownBlock.toList w := by
  intro k hk
  obtain ⟨cs, hc⟩ := own_type h.row k (by simpa using hk)
  exact ⟨cs, J.tH, hc, J.hB, hKJ.1, hKJ.2.1⟩
theorem Off.append {K : Kd} {S T : List Nat} {w : World} (h : Off K S w) (k : Off K T w) : Off K (S ++ T) w := by
  intro x hx
  rcases List.mem_append.1 hx with hx | hx
  · exact h x hx
  · exact k x hx
theorem Off.nil (K : Kd) (w : World) : Off K [] w := by intro x hx; simp at hx
section
variable {K : Kd} {S : List Nat} {w w' : World} {bk : Nat} {rv : Value} {hs : List HB}
theorem Off.notE (h : Off K S w) {k : Nat} {cs : Array Value} (hk : w.heap[k]? = some (.cells cs K.tE (0, 0))) : k ∉ S := by
  intro hm
  obtain ⟨cs', t, hc, _, _, h3⟩ := h k hm
  rw [hc] at hk
  simp only [Option.some.injEq, Obj.cells.injEq] at hk
  exact h3 hk.2.1
theorem Off.notH (h : Off K S w) {k : Nat} {cs : Array Value} (hk : w.heap[k]? = some (.cells cs K.tH (0, 0))) : k ∉ S := by
  intro hm
  obtain ⟨cs', t, hc, _, h2, _⟩ := h k hm
  rw [hc] at hk
  simp only [Option.some.injEq, Obj.cells.injEq] at hk
  exact h2 hk.2.1
theorem Off.notB (h : Off K S w) {k : Nat} {cs : Array Value} (hk : w.heap[k]? = some (.cells cs 45 (0, 0))) : k ∉ S := by
  intro hm
  obtain ⟨cs', t, hc, h1, _, _⟩ := h k hm
  rw [hc] at hk
  simp only [Option.some.injEq, Obj.cells.injEq] at hk
  exact h1 hk.2.1
/-- A kind's part of the Book: as it was handed in; marked; grown. -/
structure S0 (K : Kd) (w : World) (bk : Nat) (rv : Value) (hs : List HB) : Prop where
  bl : Bl K w bk rv hs
  each : ∀ (j : Nat) (h : HB), hs[j]? = some h → P0 K w h
  alone : Alone hs
  fresh : Fresh hs
structure S1 (K : Kd) (w : World) (bk : Nat) (rv : Value) (hs : List HB) : Prop where
  bl : Bl K w bk rv hs
  each : ∀ (j : Nat) (h : HB), hs[j]? = some h → P1 K w h
  alone : Alone hs
  fresh : Fresh hs
structure S2 (K : Kd) (w : World) (bk : Nat) (rv : Value) (hs : List HB) : Prop where
  bl : Bl K w bk rv hs
  each : ∀ (j : Nat) (h : HB), hs[j]? = some h → P2 K w h
theorem Bl.stay (h : Bl K w bk rv hs) (hf : Fr S w w') (ho : Off K S w) : Bl K w' bk rv hs := by
  obtain ⟨cs, h1, _⟩ := h.box
  exact h.keep hf (ho.notB h1) (fun k hk => by obtain ⟨cs, hc⟩ := own_type h.row k hk; exact ho.notH hc)
theorem S0.stay (h : S0 K w bk rv hs) (hf : Fr S w w') (ho : Off K S w) : S0 K w' bk rv hs :=
  ⟨h.bl.stay hf ho, fun j b hb => (h.each j b hb).keep hf (fun k hk => by obtain ⟨cs, hc⟩ := (h.each j b hb).type k hk; exact ho.notE hc), h.alone, h.fresh⟩
theorem S1.stay (h : S1 K w bk rv hs) (hf : Fr S w w') (ho : Off K S w) : S1 K w' bk rv hs :=
  ⟨h.bl.stay hf ho, fun j b hb => (h.each j b hb).keep hf (fun k hk => by obtain ⟨cs, hc⟩ := (h.each j b hb).type k hk; exact ho.notE hc), h.alone, h.fresh⟩
theorem S2.stay (h : S2 K w bk rv hs) (hf : Fr S w w') (ho : Off K S w) : S2 K w' bk rv hs := by
  refine ⟨h.bl.stay hf ho, fun j b hb => ?_⟩
  obtain ⟨n, q1, q2, q3⟩ := h.each j b hb
  exact P2.keep ⟨n, q1, q2, q3⟩ hf (fun k hk => by obtain ⟨cs, hc⟩ := q1.type k hk; exact ho.notE hc) (fun k hk => by obtain ⟨cs, hc⟩ := own_type q2 k hk; exact ho.notE hc)
theorem S0.filled (h : S0 K w bk rv hs) (hF : FillInv K w bk rv hs hs.length w') : S1 K w' bk rv hs :=
  ⟨hF.bk, fun j b hb => hF.done j b hb (List.getElem?_eq_some_iff.1 hb).1, h.alone, h.fresh⟩
theorem S1.grown {hs' : List HB} (h : S1 K w bk rv hs) (hG : GrowInv K w bk rv hs hs.length hs' w') : S2 K w' bk rv hs' :=
  ⟨hG.bk, fun j b hb => hG.done j b hb (by rw [← hG.len]; exact (List.getElem?_eq_some_iff.1 hb).1)⟩
theorem S0.offs {J : Kd} (hKJ : J.off K) (h : S0 K w bk rv hs) : Off J (lbs hs) w := off_lbs hKJ fun j b hb => (h.each j b hb).type
theorem S1.offs {J : Kd} (hKJ : J.off K) (h : S1 K w bk rv hs) : Off J (rv.ownBlock.toList ++ lbs hs) w := (off_row hKJ h.bl).append (off_lbs hKJ fun j b hb => (h.each j b hb).type)
end
/-- The Book's block, of which the cells of other kinds than these hold no list. -/
structure Bx (w : World) (bk : Nat) (cs : Array Value) : Prop where
  box : w.heap[bk]? = some (.cells cs 45 (0, 0))
  size : cs.size = 12
  rest : ∀ c, c = 3 ∨ c = 5 ∨ c = 6 ∨ c = 8 ∨ c = 9 ∨ c = 10 ∨ c = 11 → cs[c]? = some (.slice none 0 0)
theorem Bx.c {w : World} {bk : Nat} {cs : Array Value} (h : Bx w bk cs) (c : Nat) (hc : c = 3 ∨ c = 5 ∨ c = 6 ∨ c = 8 ∨ c = 9 ∨ c = 10 ∨ c = 11) : w.cell? ⟨bk, c, none⟩ = some (.slice none 0 0) := by
  rw [cell_of_row _ _ _ _ _ _ h.box, h.rest c hc]
theorem Bx.keep {S : List Nat} {w w' : World} {bk : Nat} {cs : Array Value} (h : Bx w bk cs) (hf : Fr S w w') (hb : bk ∉ S) : Bx w' bk cs := ⟨hf.keep h.box hb, h.size, h.rest⟩
theorem off_BI : kByte.off kInt := by refine ⟨?_, ?_, ?_, ?_⟩ <;> decide
theorem off_BW : kByte.off kWrite := by refine ⟨?_, ?_, ?_, ?_⟩ <;> decide
theorem off_BT : kByte.off kTxn := by refine ⟨?_, ?_, ?_, ?_⟩ <;> decide
theorem off_IB : kInt.off kByte := by refine ⟨?_, ?_, ?_, ?_⟩ <;> decide
theorem off_IW : kInt.off kWrite := by refine ⟨?_, ?_, ?_, ?_⟩ <;> decide
theorem off_IT : kInt.off kTxn := by refine ⟨?_, ?_, ?_, ?_⟩ <;> decide
theorem off_WB : kWrite.off kByte := by refine ⟨?_, ?_, ?_, ?_⟩ <;> decide
theorem off_WI : kWrite.off kInt := by refine ⟨?_, ?_, ?_, ?_⟩ <;> decide
theorem off_WT : kWrite.off kTxn := by refine ⟨?_, ?_, ?_, ?_⟩ <;> decide
theorem off_TB : kTxn.off kByte := by refine ⟨?_, ?_, ?_, ?_⟩ <;> decide
theorem off_TI : kTxn.off kInt := by refine ⟨?_, ?_, ?_, ?_⟩ <;> decide
theorem off_TW : kTxn.off kWrite := by refine ⟨?_, ?_, ?_, ?_⟩ <;> decide
end Go.Proofs.YtaefninikmaiiaaGreatDoor.Bq
