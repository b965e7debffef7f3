/- The document's feed: contract of New. Conditions as each names them. -/
import Derived.Test.YtibgdfjfhjckoaaYr16
namespace Go.Proofs.Ytibgdfjfhjckoaa
open Go.ChangeShapes Go.WideShapes Go.ChangeAt Go.RowKit Go.Lib Go.Maps
set_option linter.unusedVariables false
set_option linter.unusedSimpArgs false

set_option maxHeartbeats 2000000 in
theorem yfNew_nil (mark : Int) (x : Value) (win : Int) (w : World) :
    Calls Try.prog 27 #[.pointer none, .int .i64 mark, x, .int .i64 win] w fun e w' => e = .returned (.tuple #[.pointer none, .int .i64 2]) ∧ w = w' := by
  go_enter Try.func27, Try.ntmps27
  go_wp2
  go_ret2
  exact ⟨rfl, rfl⟩
theorem IRs.srcT {w : World} {b off : Nat} {xs : List Int} (h : IRs w (some ⟨b, off, none⟩) xs) : ∀ j u, (intsT xs)[j]? = some u → w.cell? ((⟨b, off, none⟩ : Addr).add j) = some u := by
  intro j u hj
  have hlt : j < xs.length := by have := (List.getElem?_eq_some_iff.1 hj).1; rwa [intsT_length] at this
  obtain ⟨b', off', e, _, hc⟩ := h.lies (by omega)
  cases e
  rw [intsT_get xs j hlt] at hj
  rw [Addr.add_lit, hc j hlt, hj]
theorem intsT_one (xs : List Int) : ∀ u ∈ intsT xs, u.oneCell' = true := by
  intro u hu
  obtain ⟨_, _, rfl⟩ := List.mem_map.1 hu
  rfl
theorem IRs.of_ownT {w : World} {base : Nat} {ro : Option Addr} {N rc : Nat} {ns : List Int} (h : w.ownsRow base 3 1 (.slice ro N rc) N (intsT ns)) (hN : N = ns.length) (hl : ns.length ≤ 17592186044416) : IRs w ro ns := by
  rcases h.2 with ⟨hh, h0⟩ | ⟨g, cap', cur, hh, _, hg, hnc, _, hcs, ht⟩
  · cases hh
    exact ⟨fun h => by omega, hl⟩
  · cases hh
    refine ⟨fun h0 => ⟨g, 0, rfl, lt_of_block hg, fun j hj => ?_⟩, hl⟩
    have := h.cells (g := g) rfl j _ (intsT_get ns j hj)
    rw [Addr.add_lit] at this
    exact this
section
variable {w0 w : World} {g L lc : Nat} {lo : Option Addr} {us : List Tm} {v : Value} {qs : List Nat}
/-- What the document's New leaves. -/
def NewY (w0 w : World) (g L : Nat) (lo : Option Addr) (lc : Nat) (us : List Tm) (v : Value) (qs : List Nat) (mark : Int) (M : Nat) (bs : List Int) (win : Int) (c : Nat) (e : Ending) (w' : World) : Prop :=
  (c ≠ 0 ∧ e = .returned (.tuple #[.pointer none, .int .i64 (c : Int)]) ∧ Fr [] w w') ∨ (c = 0 ∧ ∃ f yo yc, e = .returned (.tuple #[.pointer (some ⟨f, 0, none⟩), .int .i64 0]) ∧ YfM w0 w' f g L lo lc us v qs yo M yc bs ⟨mark.toNat, mark.toNat, win.toNat, false, false⟩ 0 (.slice none 0 0) ∧ (∀ a, yo = some a → w.heap.size ≤ a.block) ∧ Fr [] w w')
set_option maxHeartbeats 8000000 in
set_option maxRecDepth 100000 in
theorem yfNew_any (mark : Int) (bo : Option Addr) (M bc : Nat) (bs : List Int) (win : Int) (h : YSrc w0 w g L lo lc us v qs) (hR : IRs w bo bs) (hM : M = bs.length) (hi : ∀ x ∈ bs, i64 x) (hm : i64 mark) (c : Nat) (hc : newC mark bs win L = c) :
    Calls Try.prog 27 #[.pointer (some ⟨g, 0, none⟩), .int .i64 mark, .slice bo M bc, .int .i64 win] w fun e w' => NewY w0 w g L lo lc us v qs mark M bs win c e w' := by
  obtain ⟨m1, m2⟩ := hm
  have hfew := h.few
  have hfM : M ≤ 17592186044416 := by rw [hM]; exact hR.few
  have HM : Hid (M = bs.length) := hM
  have HI : Hid (∀ x ∈ bs, i64 x) := hi
  have HR : Hid (∀ W, Fr [] w W → IRs W bo bs) := fun W hf => hR.keep hf
  have HS : Hid (∀ W, Fr [] w W → YSrc w0 W g L lo lc us v qs) := fun W hf => h.keep hf
  have HL : Hid (∀ W, Fr [] w W → Calls Try.prog 52 #[.pointer (some ⟨g, 0, none⟩)] W fun e w' => e = .returned (.int .i64 (L : Int)) ∧ W = w') := fun W hf => yLast_any (h.keep hf)
  have HC : Hid (newC mark bs win L = c) := hc
  have HW0 : Hid (w0.heap.size ≤ w.heap.size) := by have := h.gn; have := h.lt; show _ ≤ _; omega
  clear hR hM hi h hc
  by_cases h1 : mark < 0
  · obtain rfl : c = 1 := by rw [← HC.out]; simp [newC, h1]
    go_enter Try.func27, Try.ntmps27
    go_wp2
    go_ret2
    exact Or.inl ⟨by omega, rfl, Fr.refl _ _⟩
  have hd1 : decide (mark < 0) = false := by simpa using h1
  by_cases h3 : win < 1
  · obtain rfl : c = 1 := by rw [← HC.out]; simp [newC, h3]
    go_enter Try.func27, Try.ntmps27
    go_wp2
    go_ret2
    exact Or.inl ⟨by omega, rfl, Fr.refl _ _⟩
  have hd3 : decide (win < 1) = false := by simpa using h3
  by_cases h4 : 64 < win
  · obtain rfl : c = 1 := by rw [← HC.out]; simp [newC, h4]
    go_enter Try.func27, Try.ntmps27
    go_wp2
    go_ret2
    exact Or.inl ⟨by omega, rfl, Fr.refl _ _⟩
  have hd4 : decide (64 < win) = false := by simpa using h4
  have HNo : Hid (¬ MayB mark bs → c = 1) := fun hh => by rw [← HC.out]; simp [newC, hh]
  have HYe : Hid (MayB mark bs → c = if (L : Int) < grB mark bs then 6 else 0) := fun hh => by rw [← HC.out]; simp [newC, hh, h1, h3, h4]
  go_enter Try.func27, Try.ntmps27
  go_wp2_with fail
  go_loopw [10] (fun ii wr => ∃ i : Nat, ii = .int .i64 i ∧ i ≤ M ∧ Hid (∀ j, j < i → ahB mark bs j < bs.getD j 0) ∧ Hid (0 < i → mark + 1 < bs.getD 0 0) ∧ Hid (Fr [] w wr)) (fun ii _ => M - (RowKit.intOf ii).toNat)
  case atStart => exact ⟨0, rfl, Nat.zero_le _, fun j hj => by omega, fun hh => by omega, Fr.refl _ _⟩
  case round =>
    obtain ⟨i, rfl, hiM, HU, H0, HF⟩ := hrel
    by_cases hil : i < M
    · have hi' : i < bs.length := by rw [← HM.out]; exact hil
      obtain ⟨k, off, e, _, hcc⟩ := (HR.out _ HF.out).lies (by omega)
      subst e
      have d0 := hcc i hi'
      have hxi : i64 (bs.getD i 0) := HI.out _ (by simp [List.getD, hi'])
      obtain ⟨x, hx⟩ : ∃ x, x = bs.getD i 0 := ⟨_, rfl⟩
      rw [← hx] at d0 hxi
      have HX : Hid (x = bs.getD i 0) := hx
      obtain ⟨x1, x2⟩ := hxi
      clear hx
      by_cases hi0 : i = 0
      · subst hi0
        clear hcc
        rw [Nat.add_zero] at d0
        have hz0 : (((0 : Nat) : Int) == 0) = true := by decide
        have hg0 : decide ((0 : Int) < ((0 : Nat) : Int)) = false := by decide
        by_cases hle : x ≤ mark
        · have HN : Hid (c = 1) := HNo.out (fun hh => by have := hh.up 0 hi'; rw [← HX.out] at this; simp only [ahB, if_true] at this; omega)
          have hd : decide (x ≤ mark) = true := by simpa using hle
          clear HX
          go_wp2_with fail
          go_quiet (fail)
          go_wp2
          go_ret2
          rw [HN.out]
          exact Or.inl ⟨by omega, rfl, HF.out.then (Fr.drewN _ _ _)⟩
        · have hd : decide (x ≤ mark) = false := by simpa using hle
          by_cases hl2 : x - 1 ≤ mark
          · have HN : Hid (c = 1) := HNo.out (fun hh => by have := hh.first (by omega); rw [← HX.out] at this; omega)
            have hd2 : decide (x - 1 ≤ mark) = true := by simpa using hl2
            clear HX
            go_wp2_with fail
            go_quiet (fail)
            go_wp2
            go_ret2
            rw [HN.out]
            exact Or.inl ⟨by omega, rfl, HF.out.then (Fr.drewN _ _ _)⟩
          · have hd2 : decide (x - 1 ≤ mark) = false := by simp; omega
            have HU2 : Hid (∀ j, j < 0 + 1 → ahB mark bs j < bs.getD j 0) := fun j hj => by
              obtain rfl : j = 0 := by omega
              rw [← HX.out]; simp only [ahB, if_true]; omega
            have H02 : Hid (0 < 0 + 1 → mark + 1 < bs.getD 0 0) := fun _ => by rw [← HX.out]; omega
            clear HX HU H0
            go_wp2_with fail
            go_quiet (fail)
            go_wp2
            go_roundw
            case rel => exact ⟨0 + 1, by simp, by omega, HU2, H02, HF.out.then (Fr.drewN _ _ _)⟩
            case measure => simp [RowKit.intOf]; omega
      · have d1 := hcc (i - 1) (by omega)
        have HAh : Hid (ahB mark bs i = bs.getD (i - 1) 0) := by show _ = _; simp [ahB, hi0]
        obtain ⟨y, hy⟩ : ∃ y, y = bs.getD (i - 1) 0 := ⟨_, rfl⟩
        rw [← hy] at d1 HAh
        clear hy hcc
        obtain ⟨n, rfl⟩ : ∃ n, i = n + 1 := ⟨i - 1, by omega⟩
        simp only [Nat.add_sub_cancel] at d1
        have hz0 : (((n + 1 : Nat) : Int) == 0) = false := by rw [beq_eq_false_iff_ne]; omega
        have hg0 : decide ((0 : Int) < ((n + 1 : Nat) : Int)) = true := by rw [decide_eq_true_iff]; omega
        have hz1 : (((n : Int) + 1) == 0) = false := by rw [beq_eq_false_iff_ne]; omega
        have hg1 : decide ((0 : Int) < (n : Int) + 1) = true := by rw [decide_eq_true_iff]; omega
        have hz2 : ¬ ((n : Int) + 1 = 0) := by omega
        have hg2 : (0 : Int) < (n : Int) + 1 := by omega
        by_cases hle : x ≤ y
        · have HN : Hid (c = 1) := HNo.out (fun hh => by have := hh.up (n + 1) hi'; rw [← HX.out, HAh.out] at this; omega)
          have hd : decide (x ≤ y) = true := by simpa using hle
          clear HX HAh
          go_wp2_with fail
          go_quiet (fail)
          go_wp2
          go_ret2
          rw [HN.out]
          exact Or.inl ⟨by omega, rfl, HF.out.then (Fr.drewN _ _ _)⟩
        · have hd : decide (x ≤ y) = false := by simpa using hle
          have HU2 : Hid (∀ j, j < n + 1 + 1 → ahB mark bs j < bs.getD j 0) := fun j hj => by
            by_cases e : j = n + 1
            · rw [e, ← HX.out, HAh.out]; omega
            · exact HU.out j (by omega)
          have H02 : Hid (0 < n + 1 + 1 → mark + 1 < bs.getD 0 0) := fun _ => H0.out (by omega)
          clear HX HAh HU H0
          go_wp2_with fail
          go_quiet (fail)
          go_wp2
          go_roundw
          case rel => exact ⟨n + 1 + 1, by simp, by omega, HU2, H02, HF.out.then (Fr.drewN _ _ _)⟩
          case measure => simp [RowKit.intOf]; omega
    · obtain rfl : i = M := by omega
      have hmay : MayB mark bs := ⟨fun j hj => HU.out j (by rw [HM.out]; exact hj), fun hh => H0.out (by rw [HM.out]; exact hh)⟩
      have HMy : Hid (MayB mark bs) := hmay
      have hcv := HYe.out hmay
      have hgr := hmay.gr.1
      have HLa : Hid (Calls _ _ _ _ _) := HL.out _ HF.out
      obtain ⟨iI, hiI, hzI, hsI, hbI⟩ := info_parts Try.infoIW
      clear HU H0 hmay
      by_cases h0 : 0 < i
      · have h0' : 0 < bs.length := by rw [← HM.out]; exact h0
        have hRr := HR.out _ HF.out
        obtain ⟨k, off, e, _, hcc⟩ := hRr.lies h0'
        subst e
        have d0 := hcc (i - 1) (by rw [← HM.out]; omega)
        have HGr : Hid (grB mark bs = bs.getD (i - 1) 0) := by show _ = _; unfold grB; rw [if_neg (by omega), HM.out]
        obtain ⟨x, hx⟩ : ∃ x, x = bs.getD (i - 1) 0 := ⟨_, rfl⟩
        rw [← hx] at d0 HGr
        rw [HGr.out] at hcv hgr
        clear hx hcc
        obtain ⟨n, rfl⟩ : ∃ n, i = n + 1 := ⟨i - 1, by omega⟩
        simp only [Nat.add_sub_cancel] at d0
        have hg0 : decide ((0 : Int) < ((n + 1 : Nat) : Int)) = true := by rw [decide_eq_true_iff]; omega
        have HRr : Hid (∀ W, Fr [] wr W → IRs W (some ⟨k, off, none⟩) bs) := fun W hf => hRr.keep hf
        clear hRr
        by_cases h6 : (L : Int) < x
        · rw [if_pos h6] at hcv
          subst hcv
          have hd6 : decide ((L : Int) < x) = true := by simpa using h6
          by_cases h7 : (L : Int) < mark
          · have hd7 : decide ((L : Int) < mark) = true := by simpa using h7
            go_wp2_with fail
            refine Calls.mono HLa.out ?_
            rintro e w1 ⟨rfl, rfl⟩
            go_wp2
            go_ret2
            exact Or.inl ⟨by omega, rfl, HF.out⟩
          · have hd7 : decide ((L : Int) < mark) = false := by simpa using h7
            go_wp2_with fail
            refine Calls.mono HLa.out ?_
            rintro e w1 ⟨rfl, rfl⟩
            go_wp2
            go_ret2
            exact Or.inl ⟨by omega, rfl, HF.out⟩
        · rw [if_neg h6] at hcv
          subst hcv
          have hd6 : decide ((L : Int) < x) = false := by simpa using h6
          have hd7 : decide ((L : Int) < mark) = false := by simp; omega
          have HSr : Hid (∀ j u, (intsT bs)[j]? = some u → wr.cell? ((⟨k, off, none⟩ : Addr).add j) = some u) := (HRr.out _ (Fr.refl _ _)).srcT
          go_wp2_with fail
          refine Calls.mono HLa.out ?_
          rintro e w1 ⟨rfl, rfl⟩
          go_wp2_with (at_builtin; refine wpList_append_own _ rfl _ (.tmp 85) 23 rfl wr.heap.size 3 iI _ 1 8 Try.undIsW hiI hzI hsI hbI rfl (by decide) (.slice none 0 0) 0 [] rfl (World.ownsRow_nil _ _ _ _) ⟨k, off, none⟩ (n + 1) bc (intsT bs) rfl (by rw [intsT_length, HM.out]; omega) HSr.out (intsT_one bs) ?c3 ?c4 ?c5 ?_)
          case c3 => unfold maxLen; omega
          case c4 => omega
          case c5 => omega
          intro v' w2 hown hgrow _
          obtain ⟨yo, yc, rfl⟩ := own_shapeB hown
          have hF2 : Fr [] wr w2 := Fr.grown (S := []) hgrow (fun k hk => by simp [Value.ownBlock] at hk)
          obtain ⟨m, rfl⟩ : ∃ m : Nat, mark = m := ⟨mark.toNat, by omega⟩
          obtain ⟨q, rfl⟩ : ∃ q : Nat, win = q := ⟨win.toNat, by omega⟩
          have hFa : Fr [] w2 (w2.alloc (.cells #[.pointer (some ⟨g, 0, none⟩), .int .i64 (m : Int), .slice yo (n + 1) yc, .int .i64 (m : Int), .int .i64 (q : Int), .bool false, .int .i64 0, .slice none 0 0, .bool false] 72)) := Fr.alloc _ _ _
          have hS2 := HS.out _ (HF.out.then (hF2.then hFa))
          have HE : Hid (YfM w0 (w2.alloc (.cells #[.pointer (some ⟨g, 0, none⟩), .int .i64 (m : Int), .slice yo (n + 1) yc, .int .i64 (m : Int), .int .i64 (q : Int), .bool false, .int .i64 0, .slice none 0 0, .bool false] 72)) w2.heap.size g L lo lc us v qs yo (n + 1) yc bs ⟨(m : Int).toNat, (m : Int).toNat, (q : Int).toNat, false, false⟩ 0 (.slice none 0 0) ∧ Fr [] w (w2.alloc (.cells #[.pointer (some ⟨g, 0, none⟩), .int .i64 (m : Int), .slice yo (n + 1) yc, .int .i64 (m : Int), .int .i64 (q : Int), .bool false, .int .i64 0, .slice none 0 0, .bool false] 72))) := by
            simp only [Int.toNat_natCast]
            refine ⟨⟨HS.out _ (HF.out.then (hF2.then (Fr.alloc _ _ _))), heap_alloc_new _ _, ((IRs.of_ownT hown HM.out (by rw [← HM.out]; exact hfM)).keep (Fr.alloc _ _ _)), HM.out, fun a e ha => ?_, Nat.le_refl _, by show m ≤ L; omega, ⟨by show 1 ≤ q; omega, by show q ≤ 64; omega⟩, (fun e => by cases e), ⟨_, _, _, rfl⟩, by have := HW0.out; have := HF.out.size; have := hF2.size; omega⟩, HF.out.then (hF2.then (Fr.alloc _ _ _))⟩
            rcases hown.2 with ⟨hh, hz⟩ | ⟨g', cap', cur, hh, hb, hg', _⟩
            · omega
            · cases hh
              cases e
              refine ⟨fun hx => ?_, cur, (Fr.alloc [] w2 _).keep hg' (by simp)⟩
              obtain ⟨cur', hc'⟩ := (HS.out _ HF.out).rowAt hx
              have := lt_of_block hc'
              simp only at this
              omega
          have HYo : Hid (∀ a, yo = some a → w.heap.size ≤ a.block) := fun a e => by
            rcases hown.2 with ⟨hh, hz⟩ | ⟨g', cap', cur, hh, hb, _⟩
            · omega
            · cases hh
              cases e
              have := HF.out.size
              show w.heap.size ≤ g'
              omega
          clear hown hgrow hFa hS2
          go_wp2
          go_ret2
          exact Or.inr ⟨rfl, _, yo, yc, rfl, HE.out.1, HYo.out, HE.out.2⟩
      · obtain rfl : i = 0 := by omega
        have HGr : Hid (grB mark bs = mark) := by show _ = _; unfold grB; rw [if_pos (by rw [← HM.out])]
        rw [HGr.out] at hcv
        by_cases h7 : (L : Int) < mark
        · rw [if_pos h7] at hcv
          subst hcv
          have hd7 : decide ((L : Int) < mark) = true := by simpa using h7
          go_wp2_with fail
          refine Calls.mono HLa.out ?_
          rintro e w1 ⟨rfl, rfl⟩
          go_wp2
          go_ret2
          exact Or.inl ⟨by omega, rfl, HF.out⟩
        · rw [if_neg h7] at hcv
          subst hcv
          have hd7 : decide ((L : Int) < mark) = false := by simpa using h7
          obtain ⟨m, rfl⟩ : ∃ m : Nat, mark = m := ⟨mark.toNat, by omega⟩
          obtain ⟨q, rfl⟩ : ∃ q : Nat, win = q := ⟨win.toNat, by omega⟩
          have hFa : Fr [] wr (wr.alloc (.cells #[.pointer (some ⟨g, 0, none⟩), .int .i64 (m : Int), .slice none 0 0, .int .i64 (m : Int), .int .i64 (q : Int), .bool false, .int .i64 0, .slice none 0 0, .bool false] 72)) := Fr.alloc _ _ _
          have HE : Hid (YfM w0 (wr.alloc (.cells #[.pointer (some ⟨g, 0, none⟩), .int .i64 (m : Int), .slice none 0 0, .int .i64 (m : Int), .int .i64 (q : Int), .bool false, .int .i64 0, .slice none 0 0, .bool false] 72)) wr.heap.size g L lo lc us v qs none 0 0 bs ⟨(m : Int).toNat, (m : Int).toNat, (q : Int).toNat, false, false⟩ 0 (.slice none 0 0) ∧ Fr [] w (wr.alloc (.cells #[.pointer (some ⟨g, 0, none⟩), .int .i64 (m : Int), .slice none 0 0, .int .i64 (m : Int), .int .i64 (q : Int), .bool false, .int .i64 0, .slice none 0 0, .bool false] 72))) := by
            simp only [Int.toNat_natCast]
            exact ⟨⟨HS.out _ (HF.out.then hFa), heap_alloc_new _ _, ⟨fun hh => by have := HM.out; omega, by rw [← HM.out]; omega⟩, HM.out, (fun a e => by cases e), Nat.le_refl _, by show m ≤ L; omega, ⟨by show 1 ≤ q; omega, by show q ≤ 64; omega⟩, (fun e => by cases e), ⟨_, _, _, rfl⟩, by have := HW0.out; have := HF.out.size; omega⟩, HF.out.then hFa⟩
          clear hFa
          go_wp2_with fail
          refine Calls.mono HLa.out ?_
          rintro e w1 ⟨rfl, rfl⟩
          go_wp2_with (at_builtin; refine wpList_append_zero rfl _ (.tmp 85) 23 rfl 3 iI Try.undIsW hiI rfl bo bc rfl ?_)
          go_wp2
          go_ret2
          exact Or.inr ⟨rfl, _, none, 0, rfl, HE.out.1, (fun a e => by cases e), HE.out.2⟩
end
end Go.Proofs.Ytibgdfjfhjckoaa
