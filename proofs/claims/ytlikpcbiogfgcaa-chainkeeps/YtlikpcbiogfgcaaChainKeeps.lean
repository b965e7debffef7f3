/- For every list of versions and all numbers the law ChainKeeps returns true, and the list reads as it did. No conditions. -/
import Derived.Test.YtlikpcbiogfgcaaVl
import Derived.Test.YtlikpcbiogfgcaaVh
import Derived.Test.YtlikpcbiogfgcaaVz
namespace Go.Proofs.Ytlikpcbiogfgcaa.chainKeeps
open Go.ChangeShapes Go.WideShapes Go.ChangeAt Go.RowKit Go.Lib
set_option linter.unusedVariables false
set_option linter.unusedSimpArgs false

set_option maxHeartbeats 16000000 in
set_option maxRecDepth 100000 in
theorem walk (ao : Option Addr) (L cap : Nat) (vs : List Vn) (k : Nat) (hk : k < 65536) (r : Nat) (hr : r < 256) (w : World) (hV : VRs w ao vs) (hL : L = vs.length) (hC : L ≤ cap) :
    Calls Try.prog 5 #[.slice ao L cap, .int .u16 (k : Int), .int .u8 (r : Int)] w fun e w' => e = .returned (.bool true) ∧ Fr [] w w' := by
  have HL : Hid (L = vs.length) := hL
  have HV : Hid (∀ W, Fr [] w W → VRs W ao vs) := fun W hf => hV.keep hf
  have hLL : L ≤ 4398046511104 := by have := hV.few; omega
  clear hV hL
  go_enter Try.func5, Try.ntmps5
  go_wp2_with fail
  refine (alive8_any _).mono ?_
  rintro e w1 ⟨rfl, hF1⟩
  obtain ⟨c, hck⟩ := CkT.ex vs
  have HC : Hid (Calls _ _ _ _ _) := vcheck_any ao L cap c vs w1 (HV.out _ hF1) HL.out hck
  rcases hck with ⟨rfl, hok⟩ | ⟨rfl, hok⟩
  rotate_left
  · clear hok
    go_wp2_with fail
    refine Calls.mono HC.out ?_
    rintro e w2 ⟨rfl, hF2⟩
    go_wp2_with fail
    refine (alive8_any _).mono ?_
    rintro e w3 ⟨rfl, hF3⟩
    go_wp2
    go_ret
    exact ⟨rfl, hF1.then (hF2.then hF3)⟩
  have HO : Hid (okV vs) := hok
  have hL2 : L ≤ 65536 := by have := okV_few hok; have := HL.out; omega
  clear hok
  go_wp2_with fail
  refine Calls.mono HC.out ?_
  rintro e w2 ⟨rfl, hF2⟩
  have hG2 := hF1.then hF2
  clear HC hF1 hF2
  go_wp2_with fail
  refine (vsize_any ao L cap vs _ (HV.out _ hG2) HL.out).mono ?_
  rintro e w3 ⟨N0, rfl, hLN, hN0, rfl⟩
  go_wp2_with fail
  refine (beyond_any w2.heap.size N0 _ (by omega) (by simp)).mono ?_
  rintro e w3 ⟨rfl, rfl⟩
  have hG3 := hG2.then (Fr.alloc [] w2 (.cells #[.int .i64 (N0 : Int)] 3))
  obtain ⟨w3, HW3⟩ : ∃ w3, Hid (w2.alloc (.cells #[.int .i64 (N0 : Int)] 3) = w3) := ⟨_, rfl⟩
  rw [HW3.out] at hG3 ⊢
  clear HW3 hG2
  obtain ⟨Bq, hBq⟩ : ∃ Bq, Bq = decide (1048576 < N0) := ⟨_, rfl⟩
  rw [← hBq]
  clear hBq
  cases Bq with
  | true =>
    go_wp2_with fail
    refine (alive8_any _).mono ?_
    rintro e w4 ⟨rfl, hF4⟩
    go_wp2
    go_ret
    exact ⟨rfl, hG3.then hF4⟩
  | false =>
    obtain ⟨i0, hi0, hz0, hz1, hz2⟩ := infoInt_parts
    go_wp2_with fail
    go_loopw [7, 8, 9] (fun s7 s8 s9 wr => ∃ (bo : Option Addr) (bn bc p : Nat) (last : Int) (ns : List Int), s7 = .slice bo bn bc ∧ s8 = .int .i64 last ∧ s9 = .int .i64 ((p : Int) - 1) ∧ p ≤ L ∧ bn + p ≤ L ∧ (k : Int) ≤ last ∧ last ≤ 65536 ∧ Hid (K1 w wr bo bn bc vs ns (k : Int) (r : Int) last p)) (fun _ _ s9 _ => (intOf s9 + 1).toNat)
    case atStart => exact ⟨none, 0, 0, L, (k : Int), [], rfl, rfl, rfl, Nat.le_refl _, by omega, Int.le_refl _, by omega, ⟨hG3, ⟨rfl, .inl ⟨rfl, rfl⟩⟩, rfl, fun q hq => by simp [Value.ownBlock] at hq, fun n => ⟨fun h => by simp at h, fun ⟨j, h1, h2, _⟩ => by have := HL.out; omega⟩, Or.inl rfl⟩⟩
    case round =>
      obtain ⟨bo, bn, bc, p, last, ns, rfl, rfl, rfl, hpL, hbnp, hkl, hl6, HI⟩ := hrel
      by_cases hp : 0 < p
      · obtain ⟨q, rfl⟩ : ∃ q, p = q + 1 := ⟨p - 1, by omega⟩
        have hid : ((q + 1 : Nat) : Int) - 1 = (q : Int) := by omega
        rw [hid]
        have hq' : q < vs.length := by have := HL.out; omega
        have hqL : q < L := by omega
        obtain ⟨b, off, rfl, hbl, hat⟩ := (HV.out _ HI.out.fr).lies (by omega)
        obtain ⟨c0, _, _⟩ := hat q hq'
        obtain ⟨x, hx⟩ : ∃ x, (vs.getD q Vn.zero).num = x := ⟨_, rfl⟩
        rw [hx] at c0
        have hx6 : x ≤ 65536 := by rw [← hx]; exact (HO.out.1 _ (vgetD_mem vs q hq')).2.1
        have HXe : Hid ((vs.getD q Vn.zero).num = x) := hx
        clear hat hx hid
        by_cases h1 : (k : Int) < x
        · by_cases h2 : x ≤ (k : Int) + (r : Int)
          · have HOw : Hid ((wr.alloc (.cells #[.int .i64 x] 3)).ownsRow 0 3 1 (.slice bo bn bc) bn (ints ns)) := owns_keep HI.out.own (Fr.alloc [] _ _) (by simp)
            have HNe : Hid (∀ j u, ([Value.int .i64 x] : List Value)[j]? = some u → (wr.alloc (.cells #[.int .i64 x] 3)).cell? ((⟨wr.heap.size, 0, none⟩ : Addr).add j) = some u) := by
              intro j u hu
              rw [Addr.add_lit, World.cell?_alloc_at _ _ _ _ (by simp)]
              simpa using hu
            have HKc : Hid (∀ W, Fr [] w W → W.cell? ⟨b, off + q * 3, none⟩ = some (.int .i64 x)) := fun W hf => by
              obtain ⟨b', off', e, _, hat'⟩ := (HV.out W hf).lies (by omega)
              cases e
              rw [← HXe.out]
              exact (hat' q hq').c0
            have HMo : Hid (∀ g cap' W' last', W'.ownsRow 0 3 1 (.slice (some ⟨g, 0, none⟩) (bn + 1) cap') (bn + 1) (ints ns ++ [.int .i64 x]) → (wr.alloc (.cells #[.int .i64 x] 3)).grownBy W' (Value.slice bo bn bc).ownBlock → Moved (wr.alloc (.cells #[.int .i64 x] 3)).heap.size (.slice bo bn bc) (.slice (some ⟨g, 0, none⟩) (bn + 1) cap') → (last' = last ∨ last' = x) → K1 w W' (some ⟨g, 0, none⟩) (bn + 1) cap' vs (ns ++ [x]) (k : Int) (r : Int) last' q) := fun g cap' W' last' ha hb hc hd => HI.out.more HXe.out hq' ⟨h1, h2⟩ (Fr.alloc [] wr _) ha hb hc hd
            clear HI
            go_upto_region 9 with fail
            go_wp2_with (at_builtin; refine wpList_app1 _ rfl _ _ 40 rfl 3 i0 _ 1 8 Try.undInts hi0 hz0 hz1 hz2 rfl (by decide) (.slice bo bn bc) bn (ints ns) rfl HOw.out ⟨wr.heap.size, 0, none⟩ 1 [.int .i64 x] rfl rfl HNe.out (by intro u hu; rw [List.mem_singleton] at hu; rw [hu]; rfl) (by omega) (by unfold maxLen; omega) ?_
                         intro g cap' W' ha hb hc
                         have HM2 : Hid (∀ last', (last' = last ∨ last' = x) → K1 w W' (some ⟨g, 0, none⟩) (bn + 1) cap' vs (ns ++ [x]) (k : Int) (r : Int) last' q) := fun last' hd => HMo.out g cap' W' last' ha hb hc hd
                         have d0 := HKc.out _ (HM2.out last (Or.inl rfl)).fr
                         clear ha hb hc c0
                         go_frame)
            · exact ⟨⟨some ⟨g, 0, none⟩, bn + 1, cap', q, x, ns ++ [x], rfl, rfl, rfl, by omega, by omega, by omega, hx6, HM2.out x (Or.inr rfl)⟩, by simp [intOf]⟩
            · exact ⟨⟨some ⟨g, 0, none⟩, bn + 1, cap', q, last, ns ++ [x], rfl, rfl, rfl, by omega, by omega, hkl, hl6, HM2.out last (Or.inl rfl)⟩, by simp [intOf]⟩
          · have HI5 : Hid (K1 w wr bo bn bc vs ns (k : Int) (r : Int) last q) := HI.out.skip (fun h => by rw [HXe.out] at h; exact h2 h.2)
            have h2' : (k : Int) + (r : Int) < x := by omega
            clear HI h2
            go_wp2
            exact ⟨⟨bo, bn, bc, q, last, ns, rfl, rfl, rfl, by omega, by omega, hkl, hl6, HI5⟩, by simp [intOf]⟩
        · have HI5 : Hid (K1 w wr bo bn bc vs ns (k : Int) (r : Int) last q) := HI.out.skip (fun h => by rw [HXe.out] at h; exact h1 h.1)
          have h1' : x ≤ (k : Int) := by omega
          clear HI h1
          go_wp2
          exact ⟨⟨bo, bn, bc, q, last, ns, rfl, rfl, rfl, by omega, by omega, hkl, hl6, HI5⟩, by simp [intOf]⟩
      · obtain rfl : p = 0 := by omega
        have HDu : Hid (Calls _ _ _ _ _) := dump_any ao L cap (k : Int) vs bo bn bc ns wr (HV.out _ HI.out.fr) HL.out hC (IRs.of_own HI.out.own HI.out.bnl (by have := HI.out.bnl; omega)) HI.out.bnl
        have HT : Hid (last = (k : Int) ∨ last ∈ ns) := HI.out.top
        have HMm : Hid (∀ n ∈ ns, (k : Int) < n ∧ ∃ v ∈ vs, v.num = n) := fun n hn => by
          obtain ⟨j, _, h2, h3, h4⟩ := (HI.out.mem n).1 hn
          exact ⟨h4.1, _, vgetD_mem vs j h2, h3⟩
        have hGr : Fr [] w wr := HI.out.fr
        clear HI hpL hbnp hp
        go_wp2_with fail
        refine Calls.mono HDu.out ?_
        rintro e w4 ⟨ro, N, rc, us, c, rfl, hT4, hO4, hF4⟩
        have hG4 := hGr.then hF4
        rcases hT4 with ⟨_, h, _⟩ | ⟨rfl, _, d, hU, hus⟩
        · exact absurd HO.out h
        have hus2 : us = dumpL vs d ns := hus
        have hoku : okV us := by rw [hus2]; exact okV_sub HO.out (dump_sub ns hU.le)
        have hR4 := hO4.rs (by have := okV_few hoku; omega) (fun x hx => okX_each (hoku.1 x hx))
        have HR4 : Hid (∀ W, Fr [] w4 W → VRs W ro us) := fun W hf => hR4.keep hf
        have HN : Hid (N = us.length) := hO4.len
        have hN2 : N ≤ 65536 := by have := okV_few hoku; have := hO4.len; omega
        have HAl : Hid (∀ a : Int, (a = (k : Int) ∨ a = last) → Alike vs us a) := by
          intro a ha
          rw [hus2]
          by_cases hak : a = (k : Int)
          · rw [hak]; exact alike_mark ns HO.out hU
          · have ha2 : a = last := by
              rcases ha with h | h
              · exact absurd h hak
              · exact h
            have hin : a ∈ ns := by
              rcases HT.out with h | h
              · exact absurd (ha2.trans h) hak
              · rw [ha2]; exact h
            obtain ⟨h1, h2⟩ := HMm.out a hin
            exact alike_last HO.out hU h1 hin h2
        have HLow : Hid (∀ i, i < us.length → (us.getD i Vn.zero).num ≤ (k : Int) → i = 0 ∧ (us.getD i Vn.zero).drop = false) := by
          intro i hi h
          rw [hus2] at hi h ⊢
          exact dump_low ns hU hi h
        have HC4 : Hid (Calls _ _ _ _ _) := vcheck_any ro N rc 0 us w4 (HR4.out _ (Fr.refl _ _)) HN.out (CkT.of hoku)
        clear HDu hO4 hF4 hU hus hus2 hoku hR4 HT HMm
        go_wp2_with fail
        refine Calls.mono HC4.out ?_
        rintro e w5 ⟨rfl, hF5⟩
        have hG5 := hG4.then hF5
        have HR5 : Hid (∀ W, Fr [] w5 W → VRs W ro us) := fun W hf => HR4.out W (hF5.then hf)
        clear HC4 HR4 hF5
        have hgu := Try.guardVn
        go_wp2_with fail
        go_loopw [12] (fun s12 wz => ∃ (a : Int), s12 = .int .i64 a ∧ (a = (k : Int) ∨ a = last ∨ last < a) ∧ (k : Int) ≤ a ∧ a ≤ 200000 ∧ Fr [] w5 wz) (fun s12 _ => (last + 1 - intOf s12).toNat)
        case atStart => exact ⟨(k : Int), rfl, Or.inl rfl, Int.le_refl _, by omega, Fr.refl _ _⟩
        case round =>
          obtain ⟨a, rfl, haa, hka, ha2, hFz⟩ := hrel
          by_cases hal : a ≤ last
          · have HAk : Hid (Alike vs us a) := HAl.out a (by omega)
            have HAa : Hid (a = (k : Int) ∨ a = last) := by
              rcases haa with h | h | h
              · exact Or.inl h
              · exact Or.inr h
              · omega
            have HA : Hid (Calls _ _ _ _ _) := at_any ao L cap a vs wr (HV.out _ (hG5.then hFz)) HL.out
            clear haa
            go_wp2_with fail
            refine Calls.mono HA.out ?_
            rintro e w6 ⟨x, ok, c, rfl, hT6, hF6⟩
            obtain ⟨W6, HW6⟩ : ∃ W6, Hid (w6.alloc (.cells #[.int .i64 x.num, .string x.val, .bool x.drop] 30) = W6) := ⟨_, rfl⟩
            have hF6' : Fr [] w6 W6 := by rw [← HW6.out]; exact Fr.alloc [] w6 _
            have hb6 : W6.heap[w6.heap.size]? = some (.cells #[.int .i64 x.num, .string x.val, .bool x.drop] 30 (0, 0)) := by rw [← HW6.out]; exact heap_alloc_new w6 _
            have hG6 : Fr [] w5 W6 := hFz.then (hF6.then hF6')
            have HA2 : Hid (Calls _ _ _ _ _) := at_any ro N rc a us W6 (HR5.out _ hG6) HN.out
            have HT6 : Hid (AtTold vs a x ok c) := hT6
            clear HA hT6 hF6 hF6'
            go_wp2_with fail
            rw [HW6.out]
            refine Calls.mono HA2.out ?_
            rintro e w7 ⟨x', ok', c', rfl, hT7, hF7⟩
            obtain ⟨rfl, rfl, hcase⟩ := HAk.out _ _ _ _ _ _ HT6.out hT7
            obtain ⟨W7, HW7⟩ : ∃ W7, Hid (w7.alloc (.cells #[.int .i64 x'.num, .string x'.val, .bool x'.drop] 30) = W7) := ⟨_, rfl⟩
            have hF7' : Fr [] w7 W7 := by rw [← HW7.out]; exact Fr.alloc [] w7 _
            have hb7 : W7.heap[w7.heap.size]? = some (.cells #[.int .i64 x'.num, .string x'.val, .bool x'.drop] 30 (0, 0)) := by rw [← HW7.out]; exact heap_alloc_new w7 _
            have hb6' := (hF7.then hF7').keep hb6 (by simp)
            have hG7 : Fr [] w5 W7 := hG6.then (hF7.then hF7')
            have y0 : W7.cell? ⟨w6.heap.size, 0, none⟩ = some (.int .i64 x.num) := by rw [cell_of_row _ _ _ _ _ _ hb6']; rfl
            have y1 : W7.cell? ⟨w6.heap.size, 1, none⟩ = some (.string x.val) := by rw [cell_of_row _ _ _ _ _ _ hb6']; rfl
            have y2 : W7.cell? ⟨w6.heap.size, 2, none⟩ = some (.bool x.drop) := by rw [cell_of_row _ _ _ _ _ _ hb6']; rfl
            have z0 : W7.cell? ⟨w7.heap.size, 0, none⟩ = some (.int .i64 x'.num) := by rw [cell_of_row _ _ _ _ _ _ hb7]; rfl
            have z1 : W7.cell? ⟨w7.heap.size, 1, none⟩ = some (.string x'.val) := by rw [cell_of_row _ _ _ _ _ _ hb7]; rfl
            have z2 : W7.cell? ⟨w7.heap.size, 2, none⟩ = some (.bool x'.drop) := by rw [cell_of_row _ _ _ _ _ _ hb7]; rfl
            clear HA2 hT7 hF7 hF7' hb6 hb6' hb7 HT6 HAk HV HL HO HN HAl HLow HR5 hG3 hG4 hGr hG6 hFz
            go_upto_region 20 with fail
            rw [HW7.out]
            clear HW6 HW7
            obtain ⟨xn, xv, xd⟩ := x
            obtain ⟨yn, yv, yd⟩ := x'
            simp only at y0 y1 y2 z0 z1 z2 hcase
            rcases hcase with ⟨rfl, rfl, he⟩ | ⟨rfl, rfl⟩ | ⟨rfl, rfl, rfl⟩
            · simp only [Vn.mk.injEq] at he
              obtain ⟨rfl, rfl, rfl⟩ := he
              have hqq : ∀ W, (Op.equalIn 10000 30 (.agg #[.int .i64 xn, .string xv, .bool xd]) (.agg #[.int .i64 xn, .string xv, .bool xd])).run Try.prog W = .ok true W := fun W => by
                have := vn_in W ⟨xn, xv, xd⟩ ⟨xn, xv, xd⟩
                rw [(sameV_iff _ _).2 rfl] at this
                exact this
              cases xd with
              | true =>
                go_wp2
                all_goals exact ⟨⟨_, rfl, by have := HAa.out; omega, by omega, by omega, hG7⟩, by have := HAa.out; simp only [intOf]; omega⟩
              | false =>
                go_wp2
                all_goals exact ⟨⟨_, rfl, by have := HAa.out; omega, by omega, by omega, hG7⟩, by have := HAa.out; simp only [intOf]; omega⟩
            · go_wp2
              all_goals exact ⟨⟨_, rfl, by have := HAa.out; omega, by omega, by omega, hG7⟩, by have := HAa.out; simp only [intOf]; omega⟩
            · go_wp2
              all_goals exact ⟨⟨_, rfl, by have := HAa.out; omega, by omega, by omega, hG7⟩, by have := HAa.out; simp only [intOf]; omega⟩
          · have hal' : last < a := by omega
            have hr5 := HR5.out _ hFz
            have HR6 : Hid (VRs wr ro us) := hr5
            have hGz := hG5.then hFz
            clear hal hr5 haa
            go_wp2_with fail
            go_loop [19] (fun s19 => ∃ (i : Nat), s19 = .int .i64 i ∧ i ≤ N) (fun s19 => N - (intOf s19).toNat)
            case atStart => exact ⟨0, rfl, Nat.zero_le _⟩
            case round =>
              obtain ⟨i, rfl, hiN⟩ := hrel
              by_cases hi : i < N
              · have hi' : i < us.length := by have := HN.out; omega
                obtain ⟨b, off, rfl, hbl, hat⟩ := HR6.out.lies (by omega)
                obtain ⟨c0, _, c2⟩ := hat i hi'
                have hlow := HLow.out i hi'
                obtain ⟨x, hx⟩ : ∃ x, x = us.getD i Vn.zero := ⟨_, rfl⟩
                rw [← hx] at c0 c2 hlow
                obtain ⟨xn, xv, xd⟩ := x
                simp only at c0 c2 hlow
                clear hat hx
                by_cases hxk : xn ≤ (k : Int)
                · obtain ⟨h0, rfl⟩ := hlow hxk
                  have h00 : ¬ ((i : Int) > 0) := by omega
                  have h01 : (i : Int) ≤ 0 := by omega
                  have H0 : Hid (i = 0) := h0
                  have c0' : wr.cell? ⟨b, off, none⟩ = some (.int .i64 xn) := by rw [h0] at c0; simpa using c0
                  have c2' : wr.cell? ⟨b, off + 2, none⟩ = some (.bool false) := by rw [h0] at c2; simpa using c2
                  clear hlow h0
                  go_wp2
                  exact ⟨⟨i + 1, by rw [H0.out]; rfl, by omega⟩, by have := H0.out; simp [intOf]; omega⟩
                · have hxk' : (k : Int) < xn := by omega
                  clear hlow hxk
                  go_wp2
                  exact ⟨⟨i + 1, by simp, by omega⟩, by simp [intOf]; omega⟩
              · go_wp2
                go_ret
                exact ⟨rfl, hGz⟩

theorem own : ownKnob Try.prog.godebug = none := by kernel_rfl
theorem laidOut : laidOutB Try.prog = true := by kernel_rfl
set_option maxHeartbeats 4000000 in
set_option maxRecDepth 100000 in
theorem lifted (os : Os) (started : os.Started) (H : Type) (enc : TypeId × Value → H) :
    ReturnsInHanded {} Try.checked os 5 .any (Rows.chainKeepsSpec.pre6 enc Try.prog Try.f5 Rows.chainKeepsRow.domain false) (Rows.chainKeepsSpec.post enc Try.prog Try.f5 false true false false) := by
  refine returnsInHanded_of_change_sized (C := Try.checked) own started (by kernel_rfl) Try.func5
    (ChangeSpec.witness6 (enc := enc) (C := Try.checked) false ⟨#[], #[.slice none 0 0, .int .u16 0, .int .u8 0], []⟩ 8 (by kernel_rfl) (by kernel_rfl) (by kernel_rfl) (by kernel_rfl)) ?_
  intro W base args ds gs before hval0 hW hcnd hsz0 _
  have hval : ∀ (j : Nat) t v, Try.f5.params[j]? = some t → args[j]? = some v → Value.okWide Try.prog W .any base t v := hval0
  have hsz : (DataW.weightsEach Try.prog (Try.f5.params.toList ++ Rows.chainKeepsSpec.plain.varTypes Try.prog) (ds ++ gs)).all (· ≤ reachBytes) = true := hsz0
  have hW' := hW
  obtain ⟨p, q, hA0, hV, rfl, hfz, hnd⟩ := hW
  have hA : DataW.TrodAll enc Try.prog W 0 (fun _ => true) true Try.f5.params.toList args.toList ds p := hA0
  rw [Try.params5] at hA hval hsz
  obtain ⟨v0, vs0, d0, ds0, p0, q0, hargs, rfl, rfl, h0, r0⟩ := trodAll_cons hA
  obtain ⟨v1, vs1, d1, ds1, p1, q1, rfl, rfl, rfl, h1, r1⟩ := trodAll_cons r0
  obtain ⟨v2, vs2, d2, ds2, p2, q2, rfl, rfl, rfl, h2, r2⟩ := trodAll_cons r1
  obtain ⟨rfl, rfl, rfl⟩ := trodAll_nil r2
  obtain rfl : args = #[v0, v1, v2] := by cases args; simp_all
  obtain ⟨rfl, rfl⟩ := trodVars_none hV
  have k0 := h0
  have lt0 : ∀ x ∈ p0, x.block < W.heap.size := by obtain ⟨m, hm⟩ := k0; exact DataW.trod_lt m _ _ _ hm
  obtain ⟨a0, len0, cap0, xs0, rfl, hB0, hL0, hC0⟩ : ∃ ao L cap xs, v0 = .slice ao L cap ∧ VRs W ao xs ∧ L = xs.length ∧ L ≤ cap := by
    obtain ⟨fuel, hf⟩ := h0
    obtain ⟨ao, L, cap, rfl⟩ := okWide_slice Try.undVns' (hval 0 22 v0 rfl rfl)
    exact vs_open hf (fun n hn => of_decide_eq_true (List.all_eq_true.1 hsz n (DataW.weights_mem_each (j := 0) (t := 22) rfl rfl n hn)))
  obtain ⟨n1, rfl, rfl, rfl, w1⟩ := open_int Try.underlying36 (hval 1 36 v1 rfl rfl) h1
  have b1 := bounds_u16 w1
  obtain ⟨m1, rfl⟩ : ∃ m : Nat, n1 = (m : Int) := ⟨n1.toNat, by omega⟩
  obtain ⟨n2, rfl, rfl, rfl, w2⟩ := open_int Try.underlying5 (hval 2 5 v2 rfl rfl) h2
  have b2 := bounds_u8 w2
  obtain ⟨m2, rfl⟩ : ∃ m : Nat, n2 = (m : Int) := ⟨n2.toNat, by omega⟩
  clear hA0 hval0
  refine (walk a0 len0 cap0 xs0 m1 (by omega) m2 (by omega) W hB0 hL0 hC0).mono fun e W' ⟨he, hf⟩ => ?_
  subst he
  have bel : Below W.heap.size W W' := hf.below (Nat.le_refl _) (by simp)
  exact ⟨_, rfl, _, _, _, [], _, [], hW', trodAll_mk1 (shut_bool Try.underlying4 _), (trodAll_cons_mk (Below.trod laidOut (by kernel_rfl) (of_decide_eq_true (by kernel_rfl)) k0 bel lt0) (trodAll_cons_mk (shut_int Try.underlying36 w1) (trodAll_cons_mk (shut_int Try.underlying5 w2) trodAll_mk0))), rfl, bel.frame _, fun h => by cases h⟩

theorem over : Rows.chainKeepsRow.holds Try.pinned (OpenSpec.ofChange Rows.chainKeepsSpec) :=
  OpenClaim.holds_of_wide 5 Try.f5 rfl rfl rfl rfl rfl rfl rfl ⟨rfl, rfl, rfl, rfl, rfl⟩ rfl rfl rfl rfl rfl (by kernel_rfl) Try.func5 (by kernel_rfl)
    (of_decide_eq_true (by kernel_rfl)) (by unfold Func.isWrapper; first | (rw [if_pos (by decide +kernel)]; kernel_rfl) | (rw [if_neg (by decide +kernel)]; exact ⟨rfl, rfl⟩))
    (fun os started H enc _ => lifted os started H enc)
end Go.Proofs.Ytlikpcbiogfgcaa.chainKeeps
namespace Go.Proofs.Ytlikpcbiogfgcaa
theorem chainkeeps_holds : Rows.ChainKeepsSaid := chainKeeps.over
#print axioms chainkeeps_holds
end Go.Proofs.Ytlikpcbiogfgcaa
