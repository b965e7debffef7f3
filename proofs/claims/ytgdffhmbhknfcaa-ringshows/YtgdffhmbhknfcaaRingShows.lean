/- For every Show the law RingShows returns true, and the Show reads as it did. No conditions. -/
import Derived.Test.YtgdffhmbhknfcaaAl10
import Derived.Test.YtgdffhmbhknfcaaSh10
import Derived.Test.YtgdffhmbhknfcaaGn10
namespace Go.Proofs.Ytgdffhmbhknfcaa.ringShows
open Go.ChangeShapes Go.WideShapes Go.ChangeAt Go.RowKit Go.Lib Go.Maps Go.Sort
set_option linter.unusedVariables false
set_option linter.unusedSimpArgs false
attribute [local go_sem] Oper.semAt_some

set_option maxHeartbeats 16000000 in
set_option maxRecDepth 100000 in
theorem walkIn (c t m : Nat) (ao : Option Addr) (L cap : Nat) (zs : List Int) (w : World) (hc : c ≤ 255) (ht : t ≤ 255) (hm : m ≤ 255) (hA : IArg w ao L cap zs) :
    CallsIn Fence.wide 3 Try.prog 5 #[.agg #[.int .u8 (c : Int), .int .u8 (t : Int), .int .u8 (m : Int), .slice ao L cap]] w fun e w' => e = .returned (.bool true) ∧ Fr [] w w' := by
  obtain ⟨i0, hi, hz0, hz1, hz2⟩ := infoEl_parts
  have HA : Hid (IArg w ao L cap zs) := hA
  have HAl : Hid (∀ W, Calls _ _ _ _ _) := fun W => alive10_any W
  have hLm := hA.most
  clear hA
  refine callsIn_of_wp_marks Try.func5 rfl trivial ?_ rfl
  simp only [Try.ntmps5, List.size_toArray, List.length_cons, List.length_nil, Nat.reduceAdd, Nat.reduceSub, Array.replicate_succ, Array.replicate_zero, List.push_toArray, List.append_toArray, List.nil_append, List.cons_append]
  gi_wp2_with fail
  have hbx : (w.alloc (.cells #[.int .u8 (c : Int), .int .u8 (t : Int), .int .u8 (m : Int), .slice ao L cap] 49)).heap[w.heap.size]? = some (.cells #[.int .u8 (c : Int), .int .u8 (t : Int), .int .u8 (m : Int), .slice ao L cap] 49 (0, 0)) := heap_alloc_new w _
  have hF0 : Fr [] w (w.alloc (.cells #[.int .u8 (c : Int), .int .u8 (t : Int), .int .u8 (m : Int), .slice ao L cap] 49)) := Fr.alloc _ _ _
  obtain ⟨w1, HW1⟩ : ∃ w1, Hid (w.alloc (.cells #[.int .u8 (c : Int), .int .u8 (t : Int), .int .u8 (m : Int), .slice ao L cap] 49) = w1) := ⟨_, rfl⟩
  rw [HW1.out] at hbx hF0 ⊢
  obtain ⟨bx, hbxe⟩ : ∃ bx, bx = w.heap.size := ⟨_, rfl⟩
  rw [← hbxe] at hbx ⊢
  have hbw : w.heap.size ≤ bx := by omega
  clear HW1 hbxe
  have c0 : w1.cell? ⟨bx, 0, none⟩ = some (.int .u8 (c : Int)) := by rw [cell_of_row _ _ _ _ _ _ hbx]; rfl
  have c1 : w1.cell? ⟨bx, 1, none⟩ = some (.int .u8 (t : Int)) := by rw [cell_of_row _ _ _ _ _ _ hbx]; rfl
  have c2 : w1.cell? ⟨bx, 2, none⟩ = some (.int .u8 (m : Int)) := by rw [cell_of_row _ _ _ _ _ _ hbx]; rfl
  have c3 : w1.cell? ⟨bx, 3, none⟩ = some (.slice ao L cap) := by rw [cell_of_row _ _ _ _ _ _ hbx]; rfl
  have hn0 : ¬ w1.heap.size = bx := by have := lt_of_block hbx; omega
  have hn1 : ¬ bx = w1.heap.size := fun e => hn0 e.symm
  refine wpIn_wide.2 ?_
  go_region_held3 (fun W => W.cell? ⟨bx, 0, none⟩ = some (.int .u8 (c : Int)) ∧ W.cell? ⟨bx, 1, none⟩ = some (.int .u8 (t : Int)) ∧ W.cell? ⟨bx, 2, none⟩ = some (.int .u8 (m : Int)) ∧ W.cell? ⟨bx, 3, none⟩ = some (.slice ao L cap)) (go_keep) (fail)
  have hmb : (w1.alloc (.cells #[.int .u8 (m : Int)] 5)).drew.heap[w1.heap.size]? = some (.cells #[.int .u8 (m : Int)] 5 (0, 0)) := heap_alloc_new w1 _
  have hG2 : Fr [] w (w1.alloc (.cells #[.int .u8 (m : Int)] 5)).drew := hF0.then ((Fr.alloc [] _ _).then (Fr.drew [] _))
  obtain ⟨w2, HW2⟩ : ∃ w2, Hid ((w1.alloc (.cells #[.int .u8 (m : Int)] 5)).drew = w2) := ⟨_, rfl⟩
  rw [HW2.out] at hmb hG2 ⊢
  obtain ⟨Bm, hBm⟩ : ∃ Bm, Bm = w1.heap.size := ⟨_, rfl⟩
  rw [← hBm] at hmb ⊢
  clear HW2 hBm c0 c1 c2 c3 hn0 hn1 hbx hF0 hbw
  gi_wp2_with fail
  refine ⟨trivial, (callsIn_wide.2 (HAl.out _)).mono ?_⟩
  rintro e w3 ⟨rfl, hF3⟩
  by_cases hbig : 1000 < L
  · have hb1 : (1000 : Int) < (L : Int) := by omega
    gi_wp2_with fail
    refine ⟨trivial, (callsIn_wide.2 (HAl.out _)).mono ?_⟩
    rintro e w4 ⟨rfl, hF4⟩
    gi_wp2
    exact ⟨_, results_tmp rfl _ _ _, rfl, hG2.then (hF3.then hF4)⟩
  · have hb1 : ¬ (1000 : Int) < (L : Int) := by omega
    have hdd : decide ((1000 : Int) < (L : Int)) = false := by simp; omega
    obtain ⟨C, hC⟩ : ∃ C : Nat, C = 1 + c := ⟨_, rfl⟩
    have hC1 : 1 ≤ C ∧ C ≤ 256 := by omega
    have hq1 : (1 : Int) + (c : Int) = (C : Int) := by omega
    clear hC
    have HN : Hid (Calls _ _ _ _ _) := rn_new (w := w2) (C : Int) w3 hF3 (by omega)
    gi_wp2_with fail
    refine ⟨trivial, (callsIn_wide.2 HN.out).mono ?_⟩
    rintro e w4 ⟨g, rfl, hR4⟩
    rw [show ((C : Int)).toNat = C by omega] at hR4
    have HR4 : Hid (RN w2 w4 g C [] false) := hR4
    clear hR4 HN
    gi_wp2_with fail
    gi_loopw [9] (fun ii wr => ∃ (i : Nat) (xs : List Int), ii = .int .i64 i ∧ i ≤ L ∧ Hid (RN w2 wr g C xs false)) (fun ii _ => L - (intOf ii).toNat)
    case atStart => exact ⟨0, [], rfl, Nat.zero_le _, HR4⟩
    case round =>
      obtain ⟨i, xs, rfl, hiL, HR⟩ := hrel
      by_cases hi : i < L
      · obtain ⟨b, off, rfl, hbl, hat⟩ := HA.out.lies (by omega)
        obtain ⟨x, hx⟩ : ∃ x : Int, x = zs.getD i 0 := ⟨_, rfl⟩
        have HX : Hid (∀ W, Fr [] w2 W → W.cell? ⟨b, off + i, none⟩ = some (.int .i64 x)) := fun W hf => by rw [hx]; exact (World.cell?_of_block ((hG2.then hf).block b hbl (by simp))).trans (hat i hi)
        clear hat hx
        have e0 := HX.out _ HR.out.fr
        by_cases hfull : xs.length < C
        · have HP : Hid (Calls _ _ _ _ _) := rn_put x HR.out hfull
          gi_wp2_with fail
          refine ⟨trivial, (callsIn_wide.2 HP.out).mono ?_⟩
          rintro e w5 ⟨rfl, hR5⟩
          have HR5 : Hid (RN w2 w5 g C (xs ++ [x]) false) := hR5
          clear HP HR hR5 e0
          gi_wp2
          exact ⟨⟨i + 1, _, by simp, by omega, HR5⟩, by simp [intOf]; omega⟩
        · have hfe : xs.length = C := by have := HR.out.few; omega
          have HP : Hid (Calls _ _ _ _ _) := rn_full x HR.out (Or.inr hfe)
          gi_wp2_with fail
          refine ⟨trivial, (callsIn_wide.2 HP.out).mono ?_⟩
          rintro e w5 ⟨rfl, hR5⟩
          obtain ⟨y, ys, rfl⟩ : ∃ y ys, xs = y :: ys := by
            cases xs with
            | nil => simp at hfe; omega
            | cons y ys => exact ⟨y, ys, rfl⟩
          have hyl : ys.length < C := by simp at hfe; omega
          have HP2 : Hid (Calls _ _ _ _ _) := rn_take y hR5
          clear HP HR hR5 e0 hfe hfull
          gi_wp2_with fail
          refine ⟨trivial, (callsIn_wide.2 HP2.out).mono ?_⟩
          rintro e w6 ⟨rfl, hR6⟩
          have e6 := HX.out _ hR6.fr
          have HP3 : Hid (Calls _ _ _ _ _) := rn_put x hR6 hyl
          clear HP2 hR6
          gi_wp2_with fail
          refine ⟨trivial, (callsIn_wide.2 HP3.out).mono ?_⟩
          rintro e w7 ⟨rfl, hR7⟩
          have HR7 : Hid (RN w2 w7 g C (ys ++ [x]) false) := hR7
          clear HP3 hR7 e6
          gi_wp2
          exact ⟨⟨i + 1, _, by simp, by omega, HR7⟩, by simp [intOf]; omega⟩
      · obtain ⟨wo, hwo⟩ : ∃ wo, wo = wr := ⟨_, rfl⟩
        rw [← hwo] at HR ⊢
        clear hwo
        gi_wp2_with fail
        gi_loopw [10] (fun ii wr => ∃ (i : Nat) (xs : List Int), ii = .int .i64 i ∧ i ≤ t ∧ Hid (RN w2 wr g C xs false)) (fun ii _ => t - (intOf ii).toNat)
        case atStart => exact ⟨0, xs, rfl, Nat.zero_le _, HR⟩
        case round =>
          clear HR hiL hi
          obtain ⟨i, xs, rfl, hit, HR⟩ := hrel
          by_cases hi : i < t
          · cases xs with
            | nil =>
              have HP : Hid (Calls _ _ _ _ _) := rn_none HR.out
              gi_wp2_with fail
              refine ⟨trivial, (callsIn_wide.2 HP.out).mono ?_⟩
              rintro e w5 ⟨rfl, hR5⟩
              have HR5 : Hid (RN w2 w5 g C [] false) := hR5
              clear HP HR hR5
              gi_wp2
              exact ⟨⟨i + 1, _, by simp, by omega, HR5⟩, by simp [intOf]; omega⟩
            | cons y ys =>
              have HP : Hid (Calls _ _ _ _ _) := rn_take y HR.out
              gi_wp2_with fail
              refine ⟨trivial, (callsIn_wide.2 HP.out).mono ?_⟩
              rintro e w5 ⟨rfl, hR5⟩
              have HR5 : Hid (RN w2 w5 g C ys false) := hR5
              clear HP HR hR5
              gi_wp2
              exact ⟨⟨i + 1, _, by simp, by omega, HR5⟩, by simp [intOf]; omega⟩
          · obtain ⟨n, hn⟩ : ∃ n, n = xs.length := ⟨_, rfl⟩
            have HP : Hid (Calls _ _ _ _ _) := rn_len n HR.out hn.symm
            have HNx : Hid (n = xs.length) := hn
            have hn256 : n ≤ 256 := by have := HR.out.few; omega
            clear hn
            gi_wp2_with fail
            refine ⟨trivial, (callsIn_wide.2 HP.out).mono ?_⟩
            rintro e w5 ⟨rfl, hR5⟩
            have HR5 : Hid (RN w2 w5 g C xs false) := hR5
            clear HP HR hR5 hit hi
            gi_wp2_with fail
            obtain ⟨pb, hRg, hpb⟩ := HR5.out.ex
            have hB6 : (w5.alloc (.cells #[.slice none 0 0] 31)).heap[w5.heap.size]? = some (.cells #[.slice none 0 0] 31 (0, 0)) := heap_alloc_new w5 _
            have hF6 : Fr [] w5 (w5.alloc (.cells #[.slice none 0 0] 31)) := Fr.alloc _ _ _
            have hs6 : (w5.alloc (.cells #[.slice none 0 0] 31)).heap.size = w5.heap.size + 1 := by simp
            obtain ⟨w6, HW6⟩ : ∃ w6, Hid (w5.alloc (.cells #[.slice none 0 0] 31) = w6) := ⟨_, rfl⟩
            rw [HW6.out] at hB6 hF6 hs6 ⊢
            obtain ⟨Bs, hBs⟩ : ∃ Bs, Bs = w5.heap.size := ⟨_, rfl⟩
            rw [← hBs] at hB6 ⊢
            have HO1 : Hid (Bs = w5.heap.size ∧ w6.heap.size = w5.heap.size + 1) := ⟨hBs, hs6⟩
            clear HW6 hBs hs6
            refine ⟨trivial, (callsIn_wide.2 (gall_any (some ⟨g, 0, none⟩) w6)).mono ?_⟩
            rintro e w6' ⟨rfl, rfl⟩
            have hC7 : (w6.alloc (.cells #[.pointer (some ⟨g, 0, none⟩)] 24)).cell? ⟨w6.heap.size, 0, none⟩ = some (.pointer (some ⟨g, 0, none⟩)) := by rw [cell_of_row _ _ _ _ _ _ (heap_alloc_new w6 _)]; rfl
            have hF7 : Fr [] w6 (w6.alloc (.cells #[.pointer (some ⟨g, 0, none⟩)] 24)) := Fr.alloc _ _ _
            have hs7 : (w6.alloc (.cells #[.pointer (some ⟨g, 0, none⟩)] 24)).heap.size = w6.heap.size + 1 := by simp
            obtain ⟨bb, hbb⟩ : ∃ bb, bb = w6.heap.size := ⟨_, rfl⟩
            obtain ⟨w7, HW7⟩ : ∃ w7, Hid (w6.alloc (.cells #[.pointer (some ⟨g, 0, none⟩)] 24) = w7) := ⟨_, rfl⟩
            rw [HW7.out] at hC7 hF7 hs7 ⊢
            rw [← hbb] at hC7 ⊢
            have HO2 : Hid (bb = w6.heap.size ∧ w7.heap.size = w6.heap.size + 1) := ⟨hbb, hs7⟩
            clear HW7 hbb hs7
            have HRg : Hid (Rg w5 g pb C xs false) := hRg
            have HPB : Hid (∀ b, pb = some b → w2.heap.size ≤ b) := hpb
            clear hRg hpb
            gi_wp2_with fail
            refine range_of rfl (fun _ => True.intro) rfl (gf := 33) (lb := #[.pointer (some ⟨bb, 0, none⟩)]) rfl (enters_of Try.func33 (by kernel_rfl) rfl) ?_
            intro fn RC HRC
            obtain ⟨D, hD⟩ : ∃ D, D = w7.heap.size := ⟨_, rfl⟩
            obtain ⟨lr, hlr⟩ : ∃ lr, lr = w7.heap.size + 1 := ⟨_, rfl⟩
            have hF8 : Fr [] w7 ((w7.alloc (.deferred (some []))).alloc (.loop (RC .ready none))) := (Fr.alloc [] _ _).then (Fr.alloc [] _ _)
            have hL8 : ((w7.alloc (.deferred (some []))).alloc (.loop (RC .ready none))).heap[w7.heap.size + 1]? = some (.loop (RC .ready none)) := by
              have := World.alloc_heap_new (w7.alloc (.deferred (some []))) (.loop (RC .ready none)); rwa [World.size_alloc] at this
            have hK8 : ((w7.alloc (.deferred (some []))).alloc (.loop (RC .ready none))).heap[w7.heap.size]? = some (.deferred (some [])) :=
              (Below.heap_alloc _ _ _ (by simp)).trans (World.alloc_heap_new w7 _)
            have hs8 : ((w7.alloc (.deferred (some []))).alloc (.loop (RC .ready none))).heap.size = w7.heap.size + 2 := by simp
            obtain ⟨w8, HW8⟩ : ∃ w8, Hid ((w7.alloc (.deferred (some []))).alloc (.loop (RC .ready none)) = w8) := ⟨_, rfl⟩
            rw [HW8.out] at hF8 hL8 hK8 hs8 ⊢
            rw [← hlr] at hL8 ⊢
            rw [← hD] at HRC hK8 ⊢
            obtain ⟨hBs, hs6⟩ := HO1.out
            obtain ⟨hbb, hs7⟩ := HO2.out
            have hC8 : w8.cell? ⟨bb, 0, none⟩ = some (.pointer (some ⟨g, 0, none⟩)) := (World.cell?_of_block (hF8.block bb (by omega) (by simp))).trans hC7
            have hBm5 : w5.heap[Bm]? = some (.cells #[.int .u8 (m : Int)] 5 (0, 0)) := HR5.out.fr.keep hmb (by simp)
            have hBml : Bm < w5.heap.size := lt_of_block hBm5
            have hDq : Dq w5 Bs Bm lr D := ⟨by omega, by omega, by omega, by omega, by omega⟩
            have hbl : bb < w8.heap.size := by omega
            have hl8 : lr < w8.heap.size := by omega
            have hG8 := (hF6.then hF7).then hF8
            have hA0 : ∀ s, w8.heap.size ≤ s → Lq w5 Bs Bm lr D (.cells #[.int .u8 (m : Int)] 5 (0, 0)) (RC .ready none) s [] w8 (.slice none 0 0) := fun s hs => ⟨hF8.keep (hF7.keep hB6 (by simp)) (by simp), ⟨rfl, .inl ⟨rfl, rfl⟩⟩, hG8.keep hBm5 (by simp), hL8, hK8, hG8, by omega⟩
            clear hD hlr hs8 HW8 hBs hs6 hs7 hbb hC7 hB6 hF6 hF7 hF8 hL8 hK8 hBm5 hBml
            have HDq : Hid (Dq w5 Bs Bm lr D) := hDq
            have hT := tells_any HRg.out
            refine (hT 1 lr bb w8 (fun s i W => (∃ v, Lq w5 Bs Bm lr D (.cells #[.int .u8 (m : Int)] 5 (0, 0)) (RC .ready none) s (xs.take i) W v) ∧ i ≤ m) (fun s i W => ∃ v, Lq w5 Bs Bm lr D (.cells #[.int .u8 (m : Int)] 5 (0, 0)) (RC .done (some (.exit 4))) s (xs.take (i + 1)) W v) (fun i => decide (i + 1 ≤ m)) hG8 hC8 hbl (fun s hs => ⟨⟨_, hA0 s hs⟩, Nat.zero_le _⟩) ?_ ?_).mono ?_
            · rintro s i W W' ⟨⟨v, h⟩, h2⟩ hf
              exact ⟨⟨v, h.quiet hf⟩, h2⟩
            · rintro s i W ⟨⟨v, hL⟩, him⟩ hsW hsw hix
              refine round_of1 HRC hL.lp ?_
              have hbr := begin_of (P := Try.prog) HRC hL.lp
              have hLb := hL.rec_ hDq (RC .busy none)
              have hszb : (W.putObj lr (.loop (RC .busy none))).heap.size = W.heap.size := by simp
              have hfb := Fr.putObj W lr (.loop (RC .busy none))
              obtain ⟨Wb, HWb⟩ : ∃ Wb, Hid (W.putObj lr (.loop (RC .busy none)) = Wb) := ⟨_, rfl⟩
              rw [HWb.out] at hbr hLb hszb hfb
              obtain ⟨x, hxx⟩ : ∃ x, x = xs.getD i 0 := ⟨_, rfl⟩
              rw [← hxx]
              have HX : Hid (xs.take i ++ [x] = xs.take (i + 1)) := by rw [hxx]; exact take_succ_getD xs i hix
              have x0 : Wb.cell? ⟨Bs, 0, none⟩ = some v := by rw [cell_of_row _ _ _ _ _ _ hLb.box]; rfl
              have x1 : Wb.frozen? ⟨Bs, 0, none⟩ = false := by simp [World.frozen?, hLb.box]
              have HLb : Hid (Lq w5 Bs Bm lr D (.cells #[.int .u8 (m : Int)] 5 (0, 0)) (RC .busy none) s (xs.take i) Wb v) := hLb
              have hrow := hLb.row
              have hln : (xs.take i).length = i := by simp; omega
              rw [hln] at hrow
              obtain ⟨ao', cap', rfl⟩ : ∃ ao cap, v = .slice ao i cap := by
                rcases hrow.2 with ⟨rfl, h0⟩ | ⟨g', cap', cur', rfl, _⟩
                · exact ⟨none, 0, by rw [h0]⟩
                · exact ⟨_, cap', rfl⟩
              clear hL hLb hln HWb hxx
              simp only [List.setIfInBounds_toArray, List.set_cons_succ, List.set_cons_zero]
              have hsb : s ≤ Wb.heap.size := by omega
              have hmx : (1099511627776 : Nat) ≤ maxLen := by unfold maxLen; omega
              have hil : i ≤ 65536 := by have := HNx.out; omega
              have Hkeep : Hid (∀ w4 rec, Fr (Bs :: (Value.slice ao' i cap').ownBlock.toList) Wb w4 → W.heap.size ≤ (w4.putObj lr (.loop rec)).heap.size ∧ ∀ k, w8.heap.size ≤ k ∧ k < s → (w4.putObj lr (.loop rec)).heap[k]? = W.heap[k]?) := by
                intro w4 rec hf4
                refine ⟨by have := hf4.size; simp; omega, fun k hk => ?_⟩
                obtain ⟨d0, d2, d3, d4, d5⟩ := HDq.out
                have e1 := (Fr.putObj w4 lr (.loop rec)).block k (by have := hf4.size; omega) (by simp; omega)
                have e2 := hf4.block k (by omega) (by
                  simp only [List.mem_cons, Option.mem_toList, not_or]
                  refine ⟨by omega, fun hv => ?_⟩
                  have := (owns_cells hrow hv).1
                  omega)
                have e3 := hfb.block k (by omega) (by simp; omega)
                exact e1.trans (e2.trans e3)
              clear hfb hszb
              have Happ : Hid (∀ (v' : Value) (w4 : World), w4.ownsRow s 3 1 v' (i + 1) (vals (xs.take i) ++ [.int .i64 x]) → (Wb.alloc (.cells #[.int .i64 x] 3)).grownBy w4 (Value.slice ao' i cap').ownBlock →
                  ∃ g' c', v' = .slice (some ⟨g', 0, none⟩) (i + 1) c' ∧ Lq w5 Bs Bm lr D (.cells #[.int .u8 (m : Int)] 5 (0, 0)) (RC .busy none) s (xs.take (i + 1)) (w4.setCell ⟨Bs, 0, none⟩ v') v' ∧ Fr (Bs :: (Value.slice ao' i cap').ownBlock.toList) Wb (w4.setCell ⟨Bs, 0, none⟩ v') ∧ w4.cell? ⟨Bs, 0, none⟩ = some (.slice ao' i cap') ∧ w4.frozen? ⟨Bs, 0, none⟩ = false ∧ (w4.setCell ⟨Bs, 0, none⟩ v').cell? ⟨Bs, 0, none⟩ = some v' ∧ (w4.setCell ⟨Bs, 0, none⟩ v').cell? ⟨Bm, 0, none⟩ = some (.int .u8 (m : Int))) := by
                intro v' w4 hown' hg4
                have hf4 : Fr (Value.slice ao' i cap').ownBlock.toList Wb w4 := (Fr.alloc _ Wb _).then (Fr.grown hg4 (fun y hy _ => Option.mem_toList.2 hy))
                have hA4 := HLb.out.app HDq.out hf4 (x := x) (u := v') (by have e : (xs.take i).length = i := (by simp; omega); rw [e]; exact hown')
                rw [HX.out] at hA4
                have hbx4 : w4.heap[Bs]? = some (.cells #[.slice ao' i cap'] 31 (0, 0)) := hf4.keep HLb.out.box (fun hh => by simp only [Option.mem_toList] at hh; have h1 := HLb.out.far hh; have h2 := HDq.out.a3; have h3 := HDq.out.a5; omega)
                obtain ⟨g', c', rfl⟩ : ∃ g' c', v' = .slice (some ⟨g', 0, none⟩) (i + 1) c' := by
                  rcases hown'.2 with ⟨_, h0⟩ | ⟨g', cap', cur', h1, _⟩
                  · exact absurd h0 (by omega)
                  · exact ⟨g', cap', h1⟩
                refine ⟨g', c', rfl, hA4, (hf4.mono (by intro y hy _; exact List.mem_cons_of_mem _ hy)).then (Fr.set _ _ _ (by simp)), by rw [cell_of_row _ _ _ _ _ _ hbx4]; rfl, by simp [World.frozen?, hbx4], by rw [cell_of_row _ _ _ _ _ _ hA4.box]; rfl, by rw [cell_of_row _ _ _ _ _ _ hA4.mb]; rfl⟩
              by_cases hgo : i + 1 ≤ m
              · have hdec : decide (i + 1 ≤ m) = true := decide_eq_true hgo
                have hng : ¬ (m : Int) < (i : Int) + 1 := by omega
                gi_wp2_with (first
                  | (gi_at_builtin; refine wpListIn_append_own _ rfl _ _ 31 rfl s 3 i0 _ 1 8 Try.undIs hi hz0 hz1 hz2 rfl (by decide) _ _ _ rfl (hrow.alloc _) ⟨Wb.heap.size, 0, none⟩ 1 1 [.int .i64 x] rfl rfl (one_cell Wb x) (by intro u hu; simp at hu; subst hu; rfl) (by omega) (by omega) (by simp; omega) ?_
                     intro v' w4 hown' hg4 hnil4
                     obtain ⟨g', c', rfl, hA4, hf4, y0, y1, y2, y3⟩ := Happ.out v' w4 hown' hg4
                     have HA4 : Hid (_ ∧ _) := And.intro hA4 hf4
                     clear hA4 hf4 hown' hg4 hnil4
                     go_frame)
                  | (rw [Oper.semAt_eq _ _ _ (fun c h => by cases h)]; go_simp; try go_bits))
                have hend := end_of (P := Try.prog) HRC HA4.out.1.lp none
                have hA5 := HA4.out.1.rec_ HDq.out (RC .ready none)
                obtain ⟨k1, k2⟩ := Hkeep.out _ (RC .ready none) HA4.out.2
                exact ⟨_, _, hend, rfl, ⟨_, hA5⟩, k1, fun k h1 h2 => k2 k ⟨h1, h2⟩⟩
              · have hdec : decide (i + 1 ≤ m) = false := decide_eq_false hgo
                have hng : (m : Int) < (i : Int) + 1 := by omega
                gi_wp2_with (first
                  | (gi_at_builtin; refine wpListIn_append_own _ rfl _ _ 31 rfl s 3 i0 _ 1 8 Try.undIs hi hz0 hz1 hz2 rfl (by decide) _ _ _ rfl (hrow.alloc _) ⟨Wb.heap.size, 0, none⟩ 1 1 [.int .i64 x] rfl rfl (one_cell Wb x) (by intro u hu; simp at hu; subst hu; rfl) (by omega) (by omega) (by simp; omega) ?_
                     intro v' w4 hown' hg4 hnil4
                     obtain ⟨g', c', rfl, hA4, hf4, y0, y1, y2, y3⟩ := Happ.out v' w4 hown' hg4
                     have HA4 : Hid (_ ∧ _) := And.intro hA4 hf4
                     clear hA4 hf4 hown' hg4 hnil4
                     go_frame)
                  | (rw [Oper.semAt_eq _ _ _ (fun c h => by cases h)]; go_simp; try go_bits))
                have hend := end_of (P := Try.prog) HRC HA4.out.1.lp (some (.exit 4))
                have hA5 := HA4.out.1.rec_ HDq.out (RC .done (some (.exit 4)))
                obtain ⟨k1, k2⟩ := Hkeep.out _ (RC .done (some (.exit 4))) HA4.out.2
                exact ⟨_, _, hend, rfl, ⟨_, hA5⟩, k1, fun k h1 h2 => k2 k ⟨h1, h2⟩⟩
            · rintro e W3 ⟨⟨v0, rfl⟩, s, hEnd⟩
              obtain ⟨st, pe, v, hst, hpe, hL⟩ : ∃ st pe v, st ≠ .busy ∧ (pe = none ∨ pe = some (.exit 4)) ∧ Lq w5 Bs Bm lr D (.cells #[.int .u8 (m : Int)] 5 (0, 0)) (RC st pe) s (xs.take (m + 1)) W3 v := by
                rcases hEnd with ⟨⟨v, hL⟩, h2⟩ | ⟨i, hi1, hi2, hi3, v, hL⟩
                · refine ⟨.ready, none, v, by simp, Or.inl rfl, ?_⟩
                  have e : xs.take (m + 1) = xs.take xs.length := by
                    rw [List.take_of_length_le (Nat.le_refl _), List.take_of_length_le (by omega)]
                  rw [e]
                  exact hL
                · refine ⟨.done, some (.exit 4), v, by simp, Or.inr rfl, ?_⟩
                  have h2 := of_decide_eq_false hi2
                  have e : m = i := by
                    rcases Nat.eq_zero_or_pos i with h0 | h0
                    · omega
                    · have h3 := of_decide_eq_true (hi3 (i - 1) (by omega))
                      omega
                  have e2 : xs.take (m + 1) = xs.take (i + 1) := by rw [e]
                  rw [e2]
                  exact hL
              have hle := loop_end_of (P := Try.prog) HRC hL.lp hst
              have hL4 := hL.rec_ HDq.out (RC .exhausted pe)
              obtain ⟨W4, HW4⟩ : ∃ W4, Hid (W3.putObj lr (.loop (RC .exhausted pe)) = W4) := ⟨_, rfl⟩
              rw [HW4.out] at hle hL4
              obtain ⟨SN, hSN⟩ : ∃ SN, SN = (xs.take (m + 1)).length := ⟨_, rfl⟩
              have hSNm : SN = min n (m + 1) := by rw [hSN, HNx.out]; simp; omega
              have hrow := hL4.row
              rw [← hSN] at hrow
              obtain ⟨so, sc, rfl⟩ : ∃ so sc, v = .slice so SN sc := by
                rcases hrow.2 with ⟨rfl, h0⟩ | ⟨g', cap', cur', rfl, _⟩
                · exact ⟨none, 0, by rw [h0]⟩
                · exact ⟨_, cap', rfl⟩
              have hgl : g < w5.heap.size := HRg.out.lt
              have hgBs : g ≠ Bs := by have := HDq.out.a0; omega
              -- what stays while the ring is emptied
              have HKp : Hid (∀ W, Fr (Rg.own g pb) W4 W → W.cell? ⟨Bs, 0, none⟩ = some (.slice so SN sc) ∧ W.heap[D]? = some (.deferred (some [])) ∧ Fr [] w W ∧ ∀ i, i < SN → ∃ k, so = some ⟨k, 0, none⟩ ∧ W.cell? ⟨k, i, none⟩ = some (.int .i64 (xs.getD i 0))) := by
                intro W hf
                obtain ⟨d0, d2, d3, d4, d5⟩ := HDq.out
                have hpl : ∀ b, pb = some b → b < w5.heap.size := fun b e => HRg.out.plt e
                have hno : ∀ x, w5.heap.size ≤ x → x ∉ Rg.own g pb := by
                  intro x hx hh
                  simp only [Rg.own, List.mem_cons, Option.mem_toList] at hh
                  rcases hh with rfl | hh
                  · omega
                  · have := hpl x hh; omega
                refine ⟨by rw [cell_of_row _ _ _ _ _ _ (hf.keep hL4.box (hno _ d0))]; rfl, hf.keep hL4.df (hno _ (by omega)), ((hG2.then HR5.out.fr).then hL4.fr).on hf ?_, fun i hi => ?_⟩
                · intro y hy
                  simp only [Rg.own, List.mem_cons, Option.mem_toList] at hy
                  have h2 := hG2.size
                  rcases hy with rfl | hy
                  · have := HR5.out.new; omega
                  · have := HPB.out y hy; omega
                · rcases hrow.2 with ⟨_, h0⟩ | ⟨k, cap', cur', hv, hsk, hk, _, _, _, htk⟩
                  · omega
                  · cases hv
                    refine ⟨k, rfl, ?_⟩
                    have hsl := hL4.sl
                    rw [cell_of_row _ _ _ _ _ _ (hf.keep hk (hno _ (by omega)))]
                    have e1 : (vals (xs.take (m + 1)))[i]? = some (.int .i64 ((xs.take (m + 1)).getD i 0)) := vals_get _ _ (by omega)
                    have e2 : (xs.take (m + 1)).getD i 0 = xs.getD i 0 := by
                      simp only [List.getD]
                      rw [List.getElem?_take_of_lt (by omega)]
                    rw [e2] at e1
                    rw [← e1, ← htk, List.getElem?_take_of_lt (by omega), Array.getElem?_toList]
              have HG4 : Hid (Rg W4 g pb C xs false) := HRg.out.same hL4.fr
              have x0 := (HKp.out W4 (Fr.refl _ _)).1
              have x2 : W4.cell? ⟨Bm, 0, none⟩ = some (.int .u8 (m : Int)) := by rw [cell_of_row _ _ _ _ _ _ hL4.mb]; rfl
              have HSN : Hid (SN = min n (m + 1)) := hSNm
              have HLen : Hid (∀ W (j : Nat), Rg W g pb C (xs.drop j) false → j ≤ n → Calls Try.prog 16 #[.pointer (some ⟨g, 0, none⟩)] W fun e w' => e = .returned (.int .i64 ((n - j : Nat) : Int)) ∧ W = w') := by
                intro W j hW hj
                obtain ⟨N, F, K, ps, hW⟩ := hW
                have e : K = n - j := by have := hW.pl.cnt; rw [List.length_drop] at this; have := HNx.out; omega
                rw [← e]
                exact glen_any W hW
              have HL1 : Hid (Calls Try.prog 16 #[.pointer (some ⟨g, 0, none⟩)] W4 fun e w' => e = .returned (.int .i64 (n : Int)) ∧ W4 = w') := HLen.out W4 0 HG4.out (Nat.zero_le _)
              have hmin1 : n ≤ m + 1 → SN = n := fun h => by omega
              have hmin2 : ¬ n ≤ m + 1 → SN = m + 1 := fun h => by omega
              have HKw : Hid (w.heap.size ≤ w5.heap.size) := (hG2.then HR5.out.fr).size
              clear hL hL4 HRC hA0 hEnd hT hrow hSN hSNm HRg HR5 HPB
              refine ⟨pe, W4, hle, ?_⟩
              clear hle
              have hsp : (((SN : Nat) : Int) != (n : Int)) = false ∧ (n : Int) ≤ (m : Int) + 1 ∨ (((SN : Nat) : Int) != (m : Int) + 1) = false ∧ (m : Int) + 1 < (n : Int) := by
                have := HSN.out
                simp only [bne_eq_false_iff_eq]
                omega
              have hSNn : SN ≤ n := by have := HSN.out; omega
              clear hmin1 hmin2
              rcases hpe with rfl | rfl <;> rcases hsp with ⟨hq1, hq2⟩ | ⟨hq1, hq2⟩
              all_goals (
                gi_wp2_with fail
                refine ⟨trivial, (callsIn_wide.2 HL1.out).mono ?_⟩
                rintro e w9 ⟨rfl, rfl⟩
                clear HL1 hq1 hq2 x2
                gi_wp2_with fail
                gi_loopw [14] (fun ii wr => ∃ (i : Nat), ii = .int .i64 i ∧ i ≤ n ∧ Hid (Rg wr g pb C (xs.drop i) false) ∧ Hid (Fr (Rg.own g pb) W4 wr)) (fun ii _ => n - (intOf ii).toNat)
                case atStart => exact ⟨0, rfl, Nat.zero_le _, HG4, Fr.refl _ _⟩
                case round =>
                  obtain ⟨i, rfl, hin, HRi, HFi⟩ := hrel
                  by_cases hi : i < n
                  · obtain ⟨x, hx⟩ : ∃ x, x = xs.getD i 0 := ⟨_, rfl⟩
                    have hdr : xs.drop i = x :: xs.drop (i + 1) := by
                      have hil : i < xs.length := by have := HNx.out; omega
                      rw [List.drop_eq_getElem_cons hil, hx]
                      simp [List.getD, hil]
                    have hRi := HRi.out
                    rw [hdr] at hRi
                    have HP : Hid (Calls _ _ _ _ _) := gtake_any x wr hRi
                    clear hRi hdr x0
                    gi_wp2_with fail
                    refine ⟨trivial, (callsIn_wide.2 HP.out).mono ?_⟩
                    rintro e w10 ⟨rfl, hR10, hF10⟩
                    have hG10 := HFi.out.then hF10
                    obtain ⟨y0, _, _, y3⟩ := HKp.out w10 hG10
                    have HR10 : Hid (Rg w10 g pb C (xs.drop (i + 1)) false ∧ Fr (Rg.own g pb) W4 w10) := ⟨hR10, hG10⟩
                    clear HP hR10 hF10 hG10 HRi HFi
                    by_cases hiS : i < SN
                    · obtain ⟨k, rfl, y4⟩ := y3 i hiS
                      rw [← hx] at y4
                      clear y3 hx
                      gi_wp2
                      exact ⟨⟨i + 1, by simp, by omega, HR10.out.1, HR10.out.2⟩, by simp [intOf]; omega⟩
                    · clear y3 hx
                      have hiS' : ¬ (i : Int) < (SN : Int) := by omega
                      gi_wp2
                      exact ⟨⟨i + 1, by simp, by omega, HR10.out.1, HR10.out.2⟩, by simp [intOf]; omega⟩
                  · obtain rfl : i = n := by omega
                    have HL2 : Hid (Calls Try.prog 16 #[.pointer (some ⟨g, 0, none⟩)] wr fun e w' => e = .returned (.int .i64 0) ∧ wr = w') := by
                      have := HLen.out wr i HRi.out (Nat.le_refl _)
                      rw [Nat.sub_self] at this
                      exact this
                    gi_wp2_with fail
                    refine ⟨trivial, (callsIn_wide.2 HL2.out).mono ?_⟩
                    rintro e w10 ⟨rfl, rfl⟩
                    gi_wp2
                    obtain ⟨_, y1, y2, _⟩ := HKp.out wr HFi.out
                    have hF5 : Fr [D] wr (wr.putObj D (.deferred none)) := Fr.putObj _ D _
                    refine ⟨by simp, .inl ⟨_, _, rfl, run_takeDeferred y1, ?_⟩⟩
                    refine ⟨_, results_tmp rfl _ _ _, rfl, y2.on hF5 ?_⟩
                    intro y hy
                    simp at hy
                    have h1 := HDq.out.a0
                    have h2 := HDq.out.a3
                    have h3 := HKw.out
                    omega)
theorem walk (c t m : Nat) (ao : Option Addr) (L cap : Nat) (zs : List Int) (w : World) (hc : c ≤ 255) (ht : t ≤ 255) (hm : m ≤ 255) (hA : IArg w ao L cap zs) :
    Calls Try.prog 5 #[.agg #[.int .u8 (c : Int), .int .u8 (t : Int), .int .u8 (m : Int), .slice ao L cap]] w fun e w' => e = .returned (.bool true) ∧ Fr [] w w' := callsIn_wide.1 (walkIn c t m ao L cap zs w hc ht hm hA)

theorem own : ownKnob Try.prog.godebug = none := by kernel_rfl
theorem laidOut : laidOutB Try.prog = true := by kernel_rfl
set_option maxHeartbeats 4000000 in
set_option maxRecDepth 100000 in
theorem lifted (os : Os) (started : os.Started) (H : Type) (enc : TypeId × Value → H) :
    ReturnsInHanded {} Try.checked os 5 .any (Rows.ringShowsSpec.pre6 enc Try.prog Try.f5 Rows.ringShowsRow.domain false) (Rows.ringShowsSpec.post enc Try.prog Try.f5 false true false false) := by
  refine returnsInHanded_of_change_sized (C := Try.checked) own started (by kernel_rfl) Try.func5
    (ChangeSpec.witness6 (enc := enc) (C := Try.checked) false ⟨#[], #[.agg #[.int .u8 0, .int .u8 0, .int .u8 0, .slice none 0 0]], []⟩ 8 (by kernel_rfl) (by kernel_rfl) (by kernel_rfl) (by kernel_rfl)) ?_
  intro W base args ds gs before hval0 hW hcnd hsz0 _
  have hval : ∀ (j : Nat) t v, Try.f5.params[j]? = some t → args[j]? = some v → Value.okWide Try.prog W .any base t v := hval0
  have hsz : (DataW.weightsEach Try.prog (Try.f5.params.toList ++ Rows.ringShowsSpec.plain.varTypes Try.prog) (ds ++ gs)).all (· ≤ reachBytes) = true := hsz0
  have hW' := hW
  obtain ⟨p, q, hA0, hV, rfl, hfz, hnd⟩ := hW
  have hA : DataW.TrodAll enc Try.prog W 0 (fun _ => true) true Try.f5.params.toList args.toList ds p := hA0
  rw [Try.params5] at hA hval hsz
  obtain ⟨v0, vs0, d0, ds0, p0, q0, hargs, rfl, rfl, h0, r0⟩ := trodAll_cons hA
  obtain ⟨rfl, rfl, rfl⟩ := trodAll_nil r0
  obtain rfl : args = #[v0] := by cases args; simp_all
  obtain ⟨rfl, rfl⟩ := trodVars_none hV
  obtain ⟨cs0, rfl, _⟩ := okWide_struct Try.underlying49 (hval 0 49 v0 rfl rfl)
  have k0 := h0
  have lt0 : ∀ x ∈ p0, x.block < W.heap.size := by obtain ⟨m, hm⟩ := k0; exact DataW.trod_lt m _ _ _ hm
  obtain ⟨x0, y0, z0, ao0, L0, cap0, zs0, rfl, hx0, hy0, hz0, hB0⟩ : ∃ (a b c : Nat) (ao : Option Addr) (L cap : Nat) (zs : List Int), cs0 = #[.int .u8 (a : Int), .int .u8 (b : Int), .int .u8 (c : Int), .slice ao L cap] ∧ a ≤ 255 ∧ b ≤ 255 ∧ c ≤ 255 ∧ IArg W ao L cap zs := by
    obtain ⟨fuel, hf⟩ := h0
    obtain ⟨a, b, c, ao, L, cap, zs, e, h1, h2, h3, hA⟩ := show_open hf
    exact ⟨a, b, c, ao, L, cap, zs, by cases cs0; simpa [Value.cells] using e, h1, h2, h3, hA⟩
  clear hA0 hval0
  refine (walk x0 y0 z0 ao0 L0 cap0 zs0 W hx0 hy0 hz0 hB0).mono fun e W' ⟨he, hf⟩ => ?_
  subst he
  have bel : Below W.heap.size W W' := hf.below (Nat.le_refl _) (by simp)
  exact ⟨_, rfl, _, _, _, [], _, [], hW', trodAll_mk1 (shut_bool Try.underlying4 _), (trodAll_cons_mk (Below.trod laidOut (by kernel_rfl) (of_decide_eq_true (by kernel_rfl)) k0 bel lt0) trodAll_mk0), rfl, bel.frame _, fun h => by cases h⟩

theorem over : Rows.ringShowsRow.holds Try.pinned (OpenSpec.ofChange Rows.ringShowsSpec) :=
  OpenClaim.holds_of_wide 5 Try.f5 rfl rfl rfl rfl rfl rfl rfl ⟨rfl, rfl, rfl, rfl, rfl⟩ rfl rfl rfl rfl rfl (by kernel_rfl) Try.func5 (by kernel_rfl)
    (of_decide_eq_true (by kernel_rfl)) (by unfold Func.isWrapper; first | (rw [if_pos (by decide +kernel)]; kernel_rfl) | (rw [if_neg (by decide +kernel)]; exact ⟨rfl, rfl⟩))
    (fun os started H enc _ => lifted os started H enc)
end Go.Proofs.Ytgdffhmbhknfcaa.ringShows
namespace Go.Proofs.Ytgdffhmbhknfcaa
theorem ringshows_holds : Rows.RingShowsSaid := ringShows.over
#print axioms ringshows_holds
end Go.Proofs.Ytgdffhmbhknfcaa
