/- Texts of this claim laid together, one behind the other: contracts and plain lemmas; conditions as each names them. -/
import Derived.Test.YtdojhkgnnbdfkaaGreatGp14
/- Lists that the taker takes: of numbers; a key with its versions, and lists of those. Conditions as each names them. -/
namespace Go.Proofs.YtdojhkgnnbdfkaaGreat
open Go.ChangeShapes Go.WideShapes Go.ChangeAt Go.RowKit Go.Lib Go.Maps
set_option linter.unusedVariables false
set_option linter.unusedSimpArgs false

theorem dI_ok {xs ys : List Nat} {n : Nat} (h : dN xs = .ok (n, ys)) : dI xs = .ok ((n : Int), ys) := by unfold dI; rw [h]
theorem dI_no {xs : List Nat} {c : Nat} (h : dN xs = .error c) : dI xs = .error c := by unfold dI; rw [h]
/-- What the loop over numbers keeps. -/
structure LiI (w wr : World) (t g r : Nat) (so : Option Addr) (N c : Nat) (vs : List Int) (ys : List Nat) : Prop where
  tl : Tl wr t g r ys
  ow : IOw w.heap.size wr so N c vs
  fr : Fr [t, g] w wr
theorem LiI.app {w wr w2 w3 w4 : World} {t g r : Nat} {so so' : Option Addr} {N c c' : Nat} {vs : List Int} {ys zs : List Nat} {p : Int} (h : LiI w wr t g r so N c vs ys) (hr : r < w.heap.size) (hF2 : Fr [t, g] wr w2) (hT2 : Tl w2 t g r zs) (hF3 : Fr [] w2 w3) (hrow : IOw w.heap.size w4 so' (N + 1) c' (vs ++ [p])) (hF4 : Fr (Value.slice so N c).ownBlock.toList w3 w4) :
    LiI w w4 t g r so' (N + 1) c' (vs ++ [p]) zs := by
  have hown2 := owns_keepB h.ow.row hF2 (h.tl.noOwn h.ow.row (by decide) (by decide))
  have hown3 := owns_keepB hown2 hF3 (by simp)
  have hT3 := hT2.keep0 hF3
  obtain ⟨a1, a2, a3⟩ := hT3.noOwnR w hr hown3 (by decide) (by decide)
  exact ⟨hT3.keep hF4 a1 a2 a3, hrow, ((h.fr.then hF2).then (hF3.mono (by simp))).trans hF4 (fun _ x _ => x) (fun x hx hl => by have := (owns_cells hown3 (Option.mem_toList.1 hx)).1; omega)⟩
/-- What a list of numbers is taken to. -/
def LiP (t g r : Nat) (xs : List Nat) (w : World) (e : Ending) (w' : World) : Prop :=
  (∃ c, dL dI xs = .error c ∧ e = .returned (.slice none 0 0) ∧ Td w' t g c ∧ Fr [t, g] w w') ∨ (∃ ro N rc vs ys, dL dI xs = .ok (vs, ys) ∧ e = .returned (.slice ro N rc) ∧ IOw w.heap.size w' ro N rc vs ∧ Tl w' t g r ys ∧ Fr [t, g] w w')
set_option maxHeartbeats 8000000 in
set_option maxRecDepth 100000 in
theorem listI_any (t g r : Nat) (xs : List Nat) (w : World) (h : Tl w t g r xs) :
    Calls Tryz.prog 107 #[.pointer (some ⟨t, 0, none⟩), .func (Fn.func 106) #[.pointer (some ⟨t, 0, none⟩)] #[]] w fun e w' => LiP t g r xs w e w' := by
  have hrl : r < w.heap.size := by obtain ⟨ao, cap, hR⟩ := h.rd; exact hR.sl.blk
  have HC : Hid (Calls _ _ _ _ _) := number_any t g r xs w h
  have HRl : Hid (r < w.heap.size) := hrl
  clear h hrl
  go_enter Tryz.func107, Tryz.ntmps107
  go_wp2_with fail
  refine Calls.mono HC.out ?_
  rintro e w1 (⟨c, h1, rfl, hT1, hF1⟩ | ⟨n, zs, h1, rfl, hT1, hF1⟩)
  · have HR : Hid (LiP t g r xs w (.returned (.slice none 0 0)) w1) := Or.inl ⟨c, dL_no h1, rfl, hT1, hF1⟩
    clear h1 hT1 hF1 HC HRl
    go_wp2_with fail
    go_loopw [5, 9] (fun ll ii wr => ll = .slice none 0 0 ∧ ii = .int .i64 0 ∧ w1 = wr) (fun _ ii _ => 0)
    case atStart => exact ⟨rfl, rfl, rfl⟩
    case round =>
      obtain ⟨rfl, rfl, rfl⟩ := hrel
      go_wp2
      go_ret
      exact HR.out
  · have hn := dN_few h1
    have HD : Hid (dL dI xs = dR dI n zs) := dL_of h1
    have HI0 : Hid (LiI w w1 t g r none 0 0 [] zs) := ⟨hT1, IOw.nil _ _, hF1⟩
    clear h1 hT1 hF1 HC
    go_wp2_with fail
    go_loopw [5, 9] (fun ll ii wr => ∃ (so : Option Addr) (N c : Nat) (vs : List Int) (ys : List Nat), ll = .slice so N c ∧ ii = .int .i64 N ∧ N ≤ n ∧ Hid (dR dI n zs = gl vs (dR dI (n - N) ys)) ∧ Hid (LiI w wr t g r so N c vs ys)) (fun _ ii _ => n - (RowKit.intOf ii).toNat)
    case atStart => exact ⟨none, 0, 0, [], zs, rfl, rfl, Nat.zero_le _, by show _ = _; rw [gl_nil]; rfl, HI0⟩
    case round =>
      obtain ⟨so, N, c, vs, ys, rfl, rfl, hNn, HG, HI⟩ := hrel
      by_cases hi : N < n
      · obtain ⟨m, hm⟩ : ∃ m, n - N = m + 1 := ⟨n - N - 1, by omega⟩
        have hlt : (N : Int) < n := by omega
        have HV : Hid (Calls _ _ _ _ _) := number_any t g r ys wr HI.out.tl
        have HM : Hid (n - N = m + 1) := hm
        clear hm
        go_wp2_with fail
        refine Calls.mono HV.out ?_
        rintro e w2 (⟨cc, h2, rfl, hT2, hF2⟩ | ⟨v, us, h2, rfl, hT2, hF2⟩)
        · have HR : Hid (LiP t g r xs w (.returned (.slice none 0 0)) w2) := Or.inl ⟨cc, by rw [HD.out, HG.out, HM.out, gl_err (dI_no h2)], rfl, hT2, HI.out.fr.then hF2⟩
          have hcb : ((cc : Int) != 0) = true := by rw [bne_iff_ne]; have := hT2.bad; omega
          have d1 := hT2.tb.c1
          clear h2 hT2 hF2 HV HI HG
          go_wp2
          go_ret
          exact HR.out
        · have HG2 : Hid (dR dI n zs = gl (vs ++ [(v : Int)]) (dR dI (n - (N + 1)) us)) := by
            show _ = _
            rw [HG.out, HM.out, gl_ok (dI_ok h2)]
            have := HM.out
            rw [show n - (N + 1) = m by omega]
          have d1 := hT2.tb.c1
          obtain ⟨w3, HW3⟩ : ∃ w3, Hid (w2.alloc (.cells #[.int .i64 (v : Int)] 3) = w3) := ⟨_, rfl⟩
          have hF3 : Fr [] w2 w3 := by rw [← HW3.out]; exact Fr.alloc [] w2 _
          have hx3 : w3.cell? ⟨w2.heap.size, 0, none⟩ = some (.int .i64 (v : Int)) := by rw [← HW3.out]; exact cell_new1 w2 _ _
          have HO3 : Hid (IOw w.heap.size w3 so N c vs) := ⟨HI.out.ow.len, owns_keepB (owns_keepB HI.out.ow.row hF2 (HI.out.tl.noOwn HI.out.ow.row (by decide) (by decide))) hF3 (by simp)⟩
          have hsz3 : w.heap.size ≤ w3.heap.size := Nat.le_trans HI.out.fr.size (Nat.le_trans hF2.size hF3.size)
          have HY : Hid (∀ so' c' w4, IOw w.heap.size w4 so' (N + 1) c' (vs ++ [(v : Int)]) → Fr (Value.slice so N c).ownBlock.toList w3 w4 → LiI w w4 t g r so' (N + 1) c' (vs ++ [(v : Int)]) us) := fun so' c' w4 e1 e2 => HI.out.app HRl.out hF2 hT2 hF3 e1 e2
          have hN1 : N < 1099511627776 := by omega
          have HX3 : Hid (w3.cell? ⟨w2.heap.size, 0, none⟩ = some (.int .i64 (v : Int))) := hx3
          clear h2 hT2 hF2 HV HG HM hx3 HI hF3
          go_wp2_with (first
            | (at_builtin; rw [HW3.out]; refine wpList_appI w.heap.size w3 rfl _ _ rfl so N c vs rfl HO3.out ⟨w2.heap.size, 0, none⟩ 1 (v : Int) rfl HX3.out hN1 hsz3 ?_
               intro so' c' w4 e1 e2 _
               have HR2 : Hid (LiI w w4 t g r so' (N + 1) c' (vs ++ [(v : Int)]) us) := HY.out so' c' w4 e1 e2
               clear e1 e2
               go_frame)
            | fail)
          go_roundw
          case rel => exact ⟨so', N + 1, c', _, us, rfl, by simp, by omega, HG2, HR2⟩
          case measure => simp [RowKit.intOf]; omega
      · have hN2 : n - N = 0 := by omega
        have HR : Hid (LiP t g r xs w (.returned (.slice so N c)) wr) := Or.inr ⟨so, N, c, vs, ys, by rw [HD.out, HG.out, hN2, gl_end], rfl, HI.out.ow, HI.out.tl, HI.out.fr⟩
        have hlt : ¬ (N : Int) < n := by omega
        clear hN2 HI HG
        go_wp2
        go_ret
        exact HR.out
/-! ### A key with its versions -/
theorem dK_t {xs : List Nat} {c : Nat} (h : dT 64 xs = .error c) : dK xs = .error c := by unfold dK; rw [h]
theorem dK_l {xs ys : List Nat} {k : ByteArray} {c : Nat} (h : dT 64 xs = .ok (k, ys)) (h2 : dL dX ys = .error c) : dK xs = .error c := by unfold dK; rw [h]; simp only; rw [h2]
theorem dK_ok {xs ys zs : List Nat} {k : ByteArray} {vs : List Vn} (h : dT 64 xs = .ok (k, ys)) (h2 : dL dX ys = .ok (vs, zs)) : dK xs = .ok ((k, vs), zs) := by unfold dK; rw [h]; simp only; rw [h2]
def HeP (t g r : Nat) (xs : List Nat) (w : World) (e : Ending) (w' : World) : Prop :=
  (∃ c s, dK xs = .error c ∧ e = .returned (.agg #[.string s, .slice none 0 0]) ∧ Td w' t g c ∧ Fr [t, g] w w') ∨ (∃ k ro N rc vs ys, dK xs = .ok ((k, vs), ys) ∧ e = .returned (.agg #[.string k, .slice ro N rc]) ∧ VOut w w' ro N rc vs ∧ Tl w' t g r ys ∧ Fr [t, g] w w')
theorem two_set {w : World} {b : Nat} {u v x y : Value} {t : TypeId} (h : w.heap[b]? = some (.cells #[u, v] t (0, 0))) : ((w.setCell ⟨b, 0, none⟩ x).setCell ⟨b, 1, none⟩ y).heap[b]? = some (.cells #[x, y] t (0, 0)) := by
  refine two_setCell1 (u := x) (v := v) ?_
  obtain ⟨hlt, hk⟩ := Array.getElem?_eq_some_iff.1 h
  show (w.heap.modify b _)[b]? = _
  rw [Array.getElem?_eq_getElem (by rw [Array.size_modify]; exact hlt), Array.getElem_modify_self, hk]
  rfl
/-- Behind a store of a key with its versions in a box that is neither the taker's nor the reader's. -/
theorem held_set {w w0 W : World} {t g b0 : Nat} (h0 : Fr [] w w0) (hb0 : w0.heap[b0]? = some (.cells #[.string ⟨#[]⟩, .slice none 0 0] 58 (0, 0))) (hn : w.heap.size ≤ b0) (hbt : b0 ≠ t) (hbg : b0 ≠ g) (hW : Fr [t, g] w0 W) (a : ByteArray) (b : Value) (W3 : World) (e : (W.setCell ⟨b0, 0, none⟩ (.string a)).setCell ⟨b0, 1, none⟩ b = W3) :
    W3.cell? ⟨b0, 0, none⟩ = some (.string a) ∧ W3.cell? ⟨b0, 1, none⟩ = some b ∧ Fr [b0] W W3 ∧ Fr [t, g] w W3 := by
  have hr := two_set (x := .string a) (y := b) (hW.keep hb0 (by simp; exact ⟨hbt, hbg⟩))
  rw [e] at hr
  have hFs : Fr [b0] W W3 := by rw [← e]; exact (Fr.set _ _ _ (by simp)).then (Fr.set _ _ _ (by simp))
  refine ⟨?_, ?_, hFs, (((h0.mono (T := [t, g]) (by simp)).then hW).trans hFs (fun _ x _ => x) (fun x hx hl => by simp at hx; omega))⟩
  · rw [cell_of_row _ _ _ _ _ _ hr]; rfl
  · rw [cell_of_row _ _ _ _ _ _ hr]; rfl
theorem held_cells {w0 W : World} {t g b0 : Nat} (hb0 : w0.heap[b0]? = some (.cells #[.string ⟨#[]⟩, .slice none 0 0] 58 (0, 0))) (hbt : b0 ≠ t) (hbg : b0 ≠ g) (hW : Fr [t, g] w0 W) :
    W.cell? ⟨b0, 0, none⟩ = some (.string ⟨#[]⟩) ∧ W.cell? ⟨b0, 1, none⟩ = some (.slice none 0 0) ∧ W.frozen? ⟨b0, 0, none⟩ = false ∧ W.frozen? ⟨b0, 1, none⟩ = false := by
  have hb2 := hW.keep hb0 (by simp; exact ⟨hbt, hbg⟩)
  exact ⟨by rw [cell_of_row _ _ _ _ _ _ hb2]; rfl, by rw [cell_of_row _ _ _ _ _ _ hb2]; rfl, vfrozen hb2 0, vfrozen hb2 1⟩
theorem VOut.offBox {w w1 w' : World} {ro : Option Addr} {N rc b : Nat} {vs : List Vn} (h : VOut w w1 ro N rc vs) (hf : Fr [b] w1 w') (hb : b < w.heap.size) : VOut w w' ro N rc vs := h.keepS hf (fun j hj hm => by have := (h.blk j hj).1; simp at hm; omega)
set_option maxHeartbeats 8000000 in
set_option maxRecDepth 100000 in
theorem held_any (t g r : Nat) (xs : List Nat) (w : World) (h : Tl w t g r xs) :
    Calls Tryz.prog 109 #[.pointer (some ⟨t, 0, none⟩)] w fun e w' => HeP t g r xs w e w' := by
  have htl := h.tb.lt
  obtain ⟨hgl, hrl⟩ : g < w.heap.size ∧ r < w.heap.size := by obtain ⟨ao, cap, hR⟩ := h.rd; exact ⟨hR.lt, hR.sl.blk⟩
  obtain ⟨w0, HW0⟩ : ∃ w0, Hid ((w.alloc (.cells #[.pointer (some ⟨t, 0, none⟩)] 164)).alloc (.cells #[.string ⟨#[]⟩, .slice none 0 0] 58) = w0) := ⟨_, rfl⟩
  have hF0 : Fr [] w w0 := by rw [← HW0.out]; exact (Fr.alloc [] w _).then (Fr.alloc [] _ _)
  have e1 : (w.alloc (.cells #[.pointer (some ⟨t, 0, none⟩)] 164)).heap.size = w.heap.size + 1 := by simp
  have hbx : w0.cell? ⟨w.heap.size, 0, none⟩ = some (.pointer (some ⟨t, 0, none⟩)) := by
    rw [← HW0.out]
    exact far_cell (Fr.alloc [] _ _) (cell_of_row _ _ _ _ _ _ (heap_alloc_new w _)) (by simp) (by simp)
  have hb0 : w0.heap[w.heap.size + 1]? = some (.cells #[.string ⟨#[]⟩, .slice none 0 0] 58 (0, 0)) := by rw [← HW0.out, ← e1]; exact heap_alloc_new _ _
  have hs0 : w0.heap.size = w.heap.size + 2 := by rw [← HW0.out]; simp
  have hT0 := h.keep0 hF0
  have HX : Hid (∀ W, Fr [t, g] w0 W → W.cell? ⟨w.heap.size, 0, none⟩ = some (.pointer (some ⟨t, 0, none⟩)) ∧ w.heap.size < W.heap.size ∧ w.heap.size + 1 < W.heap.size) := fun W hf => ⟨far_cell hf hbx (by omega) (by simp; omega), by have := hf.size; omega, by have := hf.size; omega⟩
  have HZ : Hid (∀ W, Fr [t, g] w0 W → W.cell? ⟨w.heap.size + 1, 0, none⟩ = some (.string ⟨#[]⟩) ∧ W.cell? ⟨w.heap.size + 1, 1, none⟩ = some (.slice none 0 0) ∧ W.frozen? ⟨w.heap.size + 1, 0, none⟩ = false ∧ W.frozen? ⟨w.heap.size + 1, 1, none⟩ = false) := fun W hf => held_cells hb0 (by omega) (by omega) hf
  have HS : Hid (∀ W, Fr [t, g] w0 W → ∀ (a : ByteArray) (b : Value) (W3 : World), (W.setCell ⟨w.heap.size + 1, 0, none⟩ (.string a)).setCell ⟨w.heap.size + 1, 1, none⟩ b = W3 →
      W3.cell? ⟨w.heap.size + 1, 0, none⟩ = some (.string a) ∧ W3.cell? ⟨w.heap.size + 1, 1, none⟩ = some b ∧ Fr [w.heap.size + 1] W W3 ∧ Fr [t, g] w W3) := fun W hW a b W3 e => held_set hF0 hb0 (Nat.le_succ _) (by omega) (by omega) hW a b W3 e
  have HN : Hid (w.heap.size + 1 ≠ t ∧ w.heap.size + 1 ≠ g ∧ w.heap.size + 1 ≠ r ∧ w.heap.size ≠ t ∧ w.heap.size ≠ g ∧ w.heap.size ≤ w0.heap.size) := ⟨by omega, by omega, by omega, by omega, by omega, by omega⟩
  have HC : Hid (Calls _ _ _ _ _) := ttext_any t g r 64 xs w0 hT0 (by decide)
  have cx := (HX.out w0 (Fr.refl _ _)).1
  clear h hT0 hb0 htl hgl hrl hbx hF0 hs0 e1
  go_enter Tryz.func109, Tryz.ntmps109
  go_upto_region 1 with fail
  rw [HW0.out]
  go_wp2_with fail
  refine Calls.mono HC.out ?_
  rintro e w1 (⟨c, h1, rfl, hT1, hF1⟩ | ⟨k, ys, h1, rfl, hT1, hF1⟩)
  · have H1 : Hid (dK xs = .error c) := dK_t h1
    have cx := (HX.out _ hF1).1
    have HF1 : Hid (Fr [t, g] w0 w1) := hF1
    have HT1 : Hid (Td w1 t g c) := hT1
    have HC2 : Hid (Calls _ _ _ _ _) := listV_dead (.func (Fn.func 120) #[] #[.pointer (some ⟨w.heap.size, 0, none⟩)]) t g c w1 hT1
    clear hT1 hF1 h1 HC
    go_wp2_with fail
    refine Calls.mono HC2.out ?_
    rintro e w2 ⟨rfl, rfl⟩
    obtain ⟨z0, z1, y0, y1⟩ := HZ.out _ HF1.out
    clear HX HC2
    go_wp2
    have hS := HS.out _ HF1.out ⟨#[]⟩ (.slice none 0 0)
    obtain ⟨W3, HW3⟩ : ∃ W3, Hid ((w1.setCell ⟨w.heap.size + 1, 0, none⟩ (.string ⟨#[]⟩)).setCell ⟨w.heap.size + 1, 1, none⟩ (.slice none 0 0) = W3) := ⟨_, rfl⟩
    obtain ⟨q0, q1, hfs, hfin⟩ := hS _ HW3.out
    rw [HW3.out]
    have HRR : Hid (Fr [w.heap.size + 1] w1 W3 ∧ Fr [t, g] w W3) := ⟨hfs, hfin⟩
    clear hS HS HZ hfs hfin z0 z1
    refine bodyPost_ret (v := .agg #[.string ⟨#[]⟩, .slice none 0 0]) (by rw [results_cell1 rfl]; go_simp) rfl ?_
    exact Or.inl ⟨c, _, H1.out, rfl, HT1.out.off HRR.out.1 HN.out.1, HRR.out.2⟩
  · have H1 : Hid (dT 64 xs = .ok (k, ys)) := h1
    obtain ⟨cx, cl, _⟩ := HX.out _ hF1
    have HF1 : Hid (Fr [t, g] w0 w1) := hF1
    have HC2 : Hid (Calls _ _ _ _ _) := listV_any t g r w.heap.size ys w1 hT1 cx HN.out.2.2.2.1 HN.out.2.2.2.2.1 cl
    clear hT1 hF1 h1 HC cl
    go_wp2_with fail
    refine Calls.mono HC2.out ?_
    rintro e w2 (⟨c, h2, rfl, hT2, hF2⟩ | ⟨ro, N, rc, vs, us, h2, rfl, hV2, hT2, hF2⟩)
    · have H2 : Hid (dK xs = .error c) := dK_l H1.out h2
      have HT : Hid (Td w2 t g c) := hT2
      have HF2 : Hid (Fr [t, g] w0 w2) := HF1.out.then hF2
      obtain ⟨z0, z1, y0, y1⟩ := HZ.out _ HF2.out
      clear HX HC2 hT2 hF2 HF1 h2 H1
      go_wp2
      have hS := HS.out _ HF2.out k (.slice none 0 0)
      obtain ⟨W3, HW3⟩ : ∃ W3, Hid ((w2.setCell ⟨w.heap.size + 1, 0, none⟩ (.string k)).setCell ⟨w.heap.size + 1, 1, none⟩ (.slice none 0 0) = W3) := ⟨_, rfl⟩
      obtain ⟨q0, q1, hfs, hfin⟩ := hS _ HW3.out
      rw [HW3.out]
      have HRR : Hid (Fr [w.heap.size + 1] w2 W3 ∧ Fr [t, g] w W3) := ⟨hfs, hfin⟩
      clear hS HS HZ hfs hfin z0 z1
      refine bodyPost_ret (v := .agg #[.string k, .slice none 0 0]) (by rw [results_cell1 rfl]; go_simp) rfl ?_
      exact Or.inl ⟨c, _, H2.out, rfl, HT.out.off HRR.out.1 HN.out.1, HRR.out.2⟩
    · have H2 : Hid (dK xs = .ok ((k, vs), us)) := dK_ok H1.out h2
      have HT : Hid (Tl w2 t g r us) := hT2
      have HV : Hid (VOut w1 w2 ro N rc vs) := hV2
      have HL : Hid (w.heap.size ≤ w1.heap.size ∧ w.heap.size + 1 < w1.heap.size) := ⟨Nat.le_trans HN.out.2.2.2.2.2 HF1.out.size, (HX.out _ HF1.out).2.2⟩
      have HF2 : Hid (Fr [t, g] w0 w2) := HF1.out.then hF2
      obtain ⟨z0, z1, y0, y1⟩ := HZ.out _ HF2.out
      clear HX HC2 hT2 hF2 HF1 h2 H1 hV2
      go_wp2
      have hS := HS.out _ HF2.out k (.slice ro N rc)
      obtain ⟨W3, HW3⟩ : ∃ W3, Hid ((w2.setCell ⟨w.heap.size + 1, 0, none⟩ (.string k)).setCell ⟨w.heap.size + 1, 1, none⟩ (.slice ro N rc) = W3) := ⟨_, rfl⟩
      obtain ⟨q0, q1, hfs, hfin⟩ := hS _ HW3.out
      rw [HW3.out]
      have HRR : Hid (Fr [w.heap.size + 1] w2 W3 ∧ Fr [t, g] w W3) := ⟨hfs, hfin⟩
      clear hS HS HZ hfs hfin z0 z1
      refine bodyPost_ret (v := .agg #[.string k, .slice ro N rc]) (by rw [results_cell1 rfl]; go_simp) rfl ?_
      exact Or.inr ⟨k, ro, N, rc, vs, us, H2.out, rfl, ((HV.out.offBox HRR.out.1 HL.out.2).later HL.out.1), HT.out.off HRR.out.1 HN.out.1 HN.out.2.1 HN.out.2.2.1, HRR.out.2⟩
end Go.Proofs.YtdojhkgnnbdfkaaGreat
/- Lists of keys with their versions that the taker takes. Conditions as each names them. -/
namespace Go.Proofs.YtdojhkgnnbdfkaaGreat
open Go.ChangeShapes Go.WideShapes Go.ChangeAt Go.RowKit Go.Lib Go.Maps
set_option linter.unusedVariables false
set_option linter.unusedSimpArgs false

theorem HOut.keepS {S : List Nat} {w w1 w2 : World} {ro : Option Addr} {N rc : Nat} {hs : List Hd} (h : HOut w w1 ro N rc hs) (hf : Fr S w1 w2) (hrow : ∀ k, (Value.slice ro N rc).ownBlock = some k → k ∉ S) (hv : ∀ j cur, w1.heap[j]? = some (.cells cur 74 (0, 0)) → j ∉ S) : HOut w w2 ro N rc hs :=
  ⟨h.len, owns_keepB h.row hf hrow, fun x hx => (h.each x hx).keepS hf (fun j hj => by obtain ⟨_, cur, hc⟩ := (h.each x hx).blk j hj; exact hv j cur hc), h.apart⟩
theorem HOut.keepT {w w1 w2 : World} {t g r : Nat} {ys : List Nat} {ro : Option Addr} {N rc : Nat} {hs : List Hd} (h : HOut w w1 ro N rc hs) (hT : Tl w1 t g r ys) (hf : Fr [t, g] w1 w2) : HOut w w2 ro N rc hs :=
  h.keepS hf (hT.noOwn h.row (by decide) (by decide)) (fun j cur hc hm => hT.ntype (by decide) (by decide) j hm cur hc)
/-- What the loop over keys keeps. -/
structure LhI (w wr : World) (t g r : Nat) (so : Option Addr) (N c : Nat) (hs : List Hd) (ys : List Nat) : Prop where
  tl : Tl wr t g r ys
  ho : HOut w wr so N c hs
  fr : Fr [t, g] w wr
theorem LhI.app {w wr w2 w3 w4 : World} {t g r : Nat} {so so' : Option Addr} {N c c' : Nat} {hs : List Hd} {ys zs : List Nat} {p : Hd} (h : LhI w wr t g r so N c hs ys) (hr : r < w.heap.size) (hF2 : Fr [t, g] wr w2) (hT2 : Tl w2 t g r zs) (hF3 : Fr [] w2 w3) (hrow : HOut w w4 so' (N + 1) c' (hs ++ [p])) (hF4 : Fr (Value.slice so N c).ownBlock.toList w3 w4) :
    LhI w w4 t g r so' (N + 1) c' (hs ++ [p]) zs := by
  have hown2 := owns_keepB h.ho.row hF2 (h.tl.noOwn h.ho.row (by decide) (by decide))
  have hown3 := owns_keepB hown2 hF3 (by simp)
  have hT3 := hT2.keep0 hF3
  obtain ⟨a1, a2, a3⟩ := hT3.noOwnR w hr hown3 (by decide) (by decide)
  exact ⟨hT3.keep hF4 a1 a2 a3, hrow, ((h.fr.then hF2).then (hF3.mono (by simp))).trans hF4 (fun _ x _ => x) (fun x hx hl => by have := (owns_cells hown3 (Option.mem_toList.1 hx)).1; omega)⟩
/-- What a list of keys is taken to. -/
def LhP (t g r : Nat) (xs : List Nat) (w : World) (e : Ending) (w' : World) : Prop :=
  (∃ c, dL dK xs = .error c ∧ e = .returned (.slice none 0 0) ∧ Td w' t g c ∧ Fr [t, g] w w') ∨ (∃ ro N rc hs ys, dL dK xs = .ok (hs.map Hd.kv, ys) ∧ N ≤ 65536 ∧ e = .returned (.slice ro N rc) ∧ HOut w w' ro N rc hs ∧ Tl w' t g r ys ∧ Fr [t, g] w w')
set_option maxHeartbeats 8000000 in
set_option maxRecDepth 100000 in
theorem listH_any (t g r : Nat) (xs : List Nat) (w : World) (h : Tl w t g r xs) :
    Calls Tryz.prog 108 #[.pointer (some ⟨t, 0, none⟩), .func (Fn.func 109) #[.pointer (some ⟨t, 0, none⟩)] #[]] w fun e w' => LhP t g r xs w e w' := by
  have hrl : r < w.heap.size := by obtain ⟨ao, cap, hR⟩ := h.rd; exact hR.sl.blk
  have HC : Hid (Calls _ _ _ _ _) := number_any t g r xs w h
  have HRl : Hid (r < w.heap.size) := hrl
  clear h hrl
  go_enter Tryz.func108, Tryz.ntmps108
  go_wp2_with fail
  refine Calls.mono HC.out ?_
  rintro e w1 (⟨c, h1, rfl, hT1, hF1⟩ | ⟨n, zs, h1, rfl, hT1, hF1⟩)
  · have HR : Hid (LhP t g r xs w (.returned (.slice none 0 0)) w1) := Or.inl ⟨c, dL_no h1, rfl, hT1, hF1⟩
    clear h1 hT1 hF1 HC HRl
    go_wp2_with fail
    go_loopw [5, 9] (fun ll ii wr => ll = .slice none 0 0 ∧ ii = .int .i64 0 ∧ w1 = wr) (fun _ ii _ => 0)
    case atStart => exact ⟨rfl, rfl, rfl⟩
    case round =>
      obtain ⟨rfl, rfl, rfl⟩ := hrel
      go_wp2
      go_ret
      exact HR.out
  · have hn := dN_few h1
    have HD : Hid (dL dK xs = dR dK n zs) := dL_of h1
    have HI0 : Hid (LhI w w1 t g r none 0 0 [] zs) := ⟨hT1, ⟨rfl, ⟨rfl, .inl ⟨rfl, rfl⟩⟩, by simp, List.Pairwise.nil⟩, hF1⟩
    clear h1 hT1 hF1 HC
    go_wp2_with fail
    go_loopw [5, 9] (fun ll ii wr => ∃ (so : Option Addr) (N c : Nat) (hs : List Hd) (ys : List Nat), ll = .slice so N c ∧ ii = .int .i64 N ∧ N ≤ n ∧ Hid (dR dK n zs = gl (hs.map Hd.kv) (dR dK (n - N) ys)) ∧ Hid (LhI w wr t g r so N c hs ys)) (fun _ ii _ => n - (RowKit.intOf ii).toNat)
    case atStart => exact ⟨none, 0, 0, [], zs, rfl, rfl, Nat.zero_le _, by show _ = _; rw [List.map_nil, gl_nil]; rfl, HI0⟩
    case round =>
      obtain ⟨so, N, c, hs, ys, rfl, rfl, hNn, HG, HI⟩ := hrel
      by_cases hi : N < n
      · obtain ⟨m, hm⟩ : ∃ m, n - N = m + 1 := ⟨n - N - 1, by omega⟩
        have hlt : (N : Int) < n := by omega
        have HV : Hid (Calls _ _ _ _ _) := held_any t g r ys wr HI.out.tl
        have HM : Hid (n - N = m + 1) := hm
        clear hm
        go_wp2_with fail
        refine Calls.mono HV.out ?_
        rintro e w2 (⟨cc, s, h2, rfl, hT2, hF2⟩ | ⟨k, vo, Lv, cv, vs, us, h2, rfl, hV2, hT2, hF2⟩)
        · have HR : Hid (∀ w3, Fr [] w2 w3 → LhP t g r xs w (.returned (.slice none 0 0)) w3) := fun w3 hf => Or.inl ⟨cc, by rw [HD.out, HG.out, HM.out, gl_err h2], rfl, hT2.keep0 hf, (HI.out.fr.then hF2).then (hf.mono (by simp))⟩
          have hcb : ((cc : Int) != 0) = true := by rw [bne_iff_ne]; have := hT2.bad; omega
          have d1 := (hT2.keep0 (Fr.alloc [] w2 (.cells #[.string s, .slice none 0 0] 58))).tb.c1
          clear h2 hT2 hF2 HV HI HG
          go_wp2
          go_ret
          exact HR.out _ (Fr.alloc [] _ _)
        · have HG2 : Hid (dR dK n zs = gl ((hs ++ [(⟨k, vo, Lv, cv, vs⟩ : Hd)]).map Hd.kv) (dR dK (n - (N + 1)) us)) := by
            show _ = _
            rw [HG.out, HM.out, gl_ok h2]
            have := HM.out
            rw [show n - (N + 1) = m by omega, List.map_append]
            rfl
          obtain ⟨w3, HW3⟩ : ∃ w3, Hid (w2.alloc (.cells #[.string k, .slice vo Lv cv] 58) = w3) := ⟨_, rfl⟩
          have hF3 : Fr [] w2 w3 := by rw [← HW3.out]; exact Fr.alloc [] w2 _
          have hb3 : w3.heap[w2.heap.size]? = some (.cells #[.string k, .slice vo Lv cv] 58 (0, 0)) := by rw [← HW3.out]; exact heap_alloc_new w2 _
          have x0 : w3.cell? ⟨w2.heap.size, 0, none⟩ = some (.string k) := by rw [cell_of_row _ _ _ _ _ _ hb3]; rfl
          have x1 : w3.cell? ⟨w2.heap.size, 1, none⟩ = some (.slice vo Lv cv) := by rw [cell_of_row _ _ _ _ _ _ hb3]; rfl
          have d1 := (hT2.keep0 hF3).tb.c1
          have HO3 : Hid (HOut w w3 so N c hs) := (HI.out.ho.keepT HI.out.tl hF2).keep hF3
          have hsz3 : w.heap.size ≤ w3.heap.size := Nat.le_trans HI.out.fr.size (Nat.le_trans hF2.size hF3.size)
          have HV3 : Hid (VOut w w3 vo Lv cv vs) := (hV2.keepS hF3 (by simp)).later HI.out.fr.size
          have HAp : Hid (∀ x ∈ hs, Apa x.vo vo) := HI.out.ho.newApart hV2
          have HY : Hid (∀ so' c' w4, HOut w w4 so' (N + 1) c' (hs ++ [⟨k, vo, Lv, cv, vs⟩]) → Fr (Value.slice so N c).ownBlock.toList w3 w4 → LhI w w4 t g r so' (N + 1) c' (hs ++ [⟨k, vo, Lv, cv, vs⟩]) us) := fun so' c' w4 e1 e2 => HI.out.app HRl.out hF2 hT2 hF3 e1 e2
          have hN1 : N < 3518437208883 := by omega
          clear h2 hT2 hF2 HV HG HM hb3 HI hF3 hV2
          go_upto_region 5 with fail
          rw [HW3.out]
          go_wp2_with (first
            | (at_builtin; refine wpList_appH w w3 rfl _ _ rfl so N c hs rfl HO3.out hN1 hsz3 ⟨k, vo, Lv, cv, vs⟩ HV3.out HAp.out rfl ?_
               intro so' c' w4 e1 e2
               have HR2 : Hid (LhI w w4 t g r so' (N + 1) c' (hs ++ [⟨k, vo, Lv, cv, vs⟩]) us) := HY.out so' c' w4 e1 e2
               clear e1 e2
               go_frame)
            | fail)
          go_roundw
          case rel => exact ⟨so', N + 1, c', _, us, rfl, by simp, by omega, HG2, HR2⟩
          case measure => simp [RowKit.intOf]; omega
      · have hN2 : n - N = 0 := by omega
        have HR : Hid (LhP t g r xs w (.returned (.slice so N c)) wr) := Or.inr ⟨so, N, c, hs, ys, by rw [HD.out, HG.out, hN2, gl_end], by omega, rfl, HI.out.ho, HI.out.tl, HI.out.fr⟩
        have hlt : ¬ (N : Int) < n := by omega
        clear hN2 HI HG
        go_wp2
        go_ret
        exact HR.out
end Go.Proofs.YtdojhkgnnbdfkaaGreat
