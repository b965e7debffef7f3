/- For every configuration and every checkpoint the law DumpParts returns true, and both read as they did. No conditions. -/
import Derived.Test.YtldghdbfhikcoaaPq18
import Derived.Test.YtldghdbfhikcoaaHg18
import Derived.BigQuiet
namespace Go.Proofs.Ytldghdbfhikcoaa.dumpParts
open Go.ChangeShapes Go.WideShapes Go.ChangeAt Go.RowKit Go.Lib Go.Maps
set_option linter.unusedVariables false
set_option linter.unusedSimpArgs false

set_option maxHeartbeats 32000000 in
set_option maxRecDepth 100000 in
theorem walk (l s x q m : Int) (bo : Option Addr) (Lb cb : Nat) (bs : List Int) (ho : Option Addr) (Lh ch : Nat) (hs : List Hd) (w : World) (hCf : Cf.ok ⟨l, s, x, q⟩) (hm : -9223372036854775808 ≤ m ∧ m ≤ 9223372036854775807) (hI : IRs w bo bs) (hLb : Lb = bs.length) (hH : HRs w ho hs) (hLh : Lh = hs.length) :
    Calls Try.prog 5 #[.agg #[.int .i64 l, .int .i64 s, .int .i64 x, .int .i64 q], .agg #[.int .i64 m, .slice bo Lb cb, .slice ho Lh ch]] w fun e w' => e = .returned (.bool true) ∧ Fr [] w w' := by
  have HLh : Hid (Lh = hs.length) := hLh
  have HLb : Hid (Lb = bs.length) := hLb
  have hLL : Lh ≤ 3518437208882 := by have := hH.few; omega
  obtain ⟨w1, HW1⟩ : ∃ w1, Hid ((w.alloc (.cells #[.int .i64 l, .int .i64 s, .int .i64 x, .int .i64 q] 43)).alloc (.cells #[.int .i64 m, .slice bo Lb cb, .slice ho Lh ch] 25) = w1) := ⟨_, rfl⟩
  have hF1 : Fr [] w w1 := by rw [← HW1.out]; exact (Fr.alloc [] w _).then (Fr.alloc [] _ _)
  have e1 : (w.alloc (.cells #[.int .i64 l, .int .i64 s, .int .i64 x, .int .i64 q] 43)).heap.size = w.heap.size + 1 := by simp
  have hC1 : CfM w1 w.heap.size l s x q := by rw [← HW1.out]; exact (CfM.new _ _ _ _ _ _).keep (Fr.alloc [] _ _)
  have hb1 : w1.heap[w.heap.size + 1]? = some (.cells #[.int .i64 m, .slice bo Lb cb, .slice ho Lh ch] 25 (0, 0)) := by rw [← HW1.out, ← e1]; exact heap_alloc_new _ _
  have HC1 : Hid (∀ W, Fr [] w1 W → CfM W w.heap.size l s x q) := fun W hf => hC1.keep hf
  have HBx : Hid (∀ W, Fr [] w1 W → W.cell? ⟨w.heap.size + 1, 0, none⟩ = some (.int .i64 m) ∧ W.cell? ⟨w.heap.size + 1, 1, none⟩ = some (.slice bo Lb cb) ∧ W.cell? ⟨w.heap.size + 1, 2, none⟩ = some (.slice ho Lh ch)) := fun W hf => by
    have hr := hf.keep hb1 (by simp)
    exact ⟨by rw [cell_of_row _ _ _ _ _ _ hr]; rfl, by rw [cell_of_row _ _ _ _ _ _ hr]; rfl, by rw [cell_of_row _ _ _ _ _ _ hr]; rfl⟩
  have HH : Hid (∀ W, Fr [] w1 W → HRs W ho hs ∧ IRs W bo bs) := fun W hf => ⟨hH.keep (hF1.then hf), hI.keep (hF1.then hf)⟩
  have HF1 : Hid (Fr [] w w1) := hF1
  obtain ⟨_, f0, f1, f2, f3⟩ := HC1.out _ (Fr.refl _ _)
  obtain ⟨A, hA⟩ : ∃ A, A = w.heap.size := ⟨_, rfl⟩
  have HAl : Hid (∀ W : World, Calls Try.prog 6 #[] W fun e w' => e = .returned (.bool true) ∧ Fr [] W w') := fun W => alive18_any W
  have HA1 : Hid (w1.heap.size = A + 2) := by show _ = _; rw [← HW1.out, hA]; simp
  clear hI hH hLb hLh hb1 hF1 hC1 e1 f0 f1 f2 f3 hCf
  go_enter Try.func5, Try.ntmps5
  go_upto_region 1 with fail
  rw [HW1.out]
  rw [← hA] at HC1 HBx ⊢
  clear HW1 hA
  go_wp2_with fail
  refine (HAl.out _).mono ?_
  rintro e w2 ⟨rfl, hF2⟩
  have HF2 : Hid (Fr [] w1 w2) := hF2
  obtain ⟨k0, k1, k2⟩ := HBx.out _ hF2
  have HSz : Hid (Calls _ _ _ _ _) := savedSize_any m bo ho Lb cb Lh ch bs hs w2 (HH.out _ hF2).2 HLb.out (HH.out _ hF2).1 HLh.out
  clear hF2
  go_wp2_with fail
  refine Calls.mono HSz.out ?_
  rintro e w3 ⟨N, rfl, hN, _, hF3⟩
  have HF3 : Hid (Fr [] w1 w3) := HF2.out.then hF3
  obtain ⟨w4, HW4⟩ : ∃ w4, Hid (w3.alloc (.cells #[.int .i64 (N : Int)] 3) = w4) := ⟨_, rfl⟩
  have HF4 : Hid (Fr [] w1 w4) := by show Fr [] w1 w4; rw [← HW4.out]; exact HF3.out.then (Fr.alloc [] _ _)
  have HBe : Hid (Calls _ _ _ _ _) := beyond_any w3.heap.size N w4 (by omega) (by rw [← HW4.out]; exact cell_new1 w3 _ _)
  clear hF3 HSz HF2 HF3
  go_wp2_with fail
  rw [HW4.out]
  refine Calls.mono HBe.out ?_
  rintro e w5 ⟨rfl, rfl⟩
  clear HW4 HBe
  obtain ⟨k0, k1, k2⟩ := HBx.out _ HF4.out
  obtain ⟨_, f0, f1, f2, f3⟩ := HC1.out _ HF4.out
  by_cases hbig : 1048576 < N
  · rw [show decide (1048576 < N) = true by simpa using hbig]
    clear hbig
    go_wp2_with fail
    refine (HAl.out _).mono ?_
    rintro e w6 ⟨rfl, hF6⟩
    go_wp2
    go_ret
    exact ⟨rfl, HF1.out.then (HF4.out.then hF6)⟩
  · rw [show decide (1048576 < N) = false by simpa using hbig]
    have hCk := check_cells l s x q w4
    clear hbig
    by_cases hmay : Cf.may ⟨l, s, x, q⟩
    · rw [show Cf.err ⟨l, s, x, q⟩ = 0 from if_pos hmay] at hCk
      have HCk : Hid (Calls _ _ _ _ _) := hCk
      have HMay : Hid (Cf.may ⟨l, s, x, q⟩) := hmay
      obtain ⟨c, hck⟩ := CkS.ex m bs hs
      have HCs : Hid (CkS m bs hs c) := hck
      clear hCk hmay hck
      go_wp2_with fail
      refine Calls.mono HCk.out ?_
      rintro e w6 ⟨rfl, hF6⟩
      have HF6 : Hid (Fr [] w1 w6) := HF4.out.then hF6
      obtain ⟨k0, k1, k2⟩ := HBx.out _ HF6.out
      have HDc : Hid (Calls _ _ _ _ _) := dcheck_any m bo ho Lb cb Lh ch c bs hs w6 (HH.out _ HF6.out).2 HLb.out (HH.out _ HF6.out).1 HLh.out HCs.out
      clear HCk hF6 HF4
      go_wp2_with fail
      refine Calls.mono HDc.out ?_
      rintro e w7 ⟨rfl, hF7⟩
      have HF7 : Hid (Fr [] w1 w7) := HF6.out.then hF7
      obtain ⟨k0, k1, k2⟩ := HBx.out _ HF7.out
      obtain ⟨_, f0, f1, f2, f3⟩ := HC1.out _ HF7.out
      clear HDc hF7 HF6
      rcases HCs.out with ⟨rfl, hok⟩ | ⟨rfl, hok⟩
      · have HOk : Hid (OkS m bs (hs.map Hd.kv)) := hok
        have HSp : Hid (Calls _ _ _ _ _) := split_any l s x q m bo ho Lb cb Lh ch bs hs w7 (HH.out _ HF7.out).2 HLb.out (HH.out _ HF7.out).1 HLh.out
        clear hok HCs
        go_wp2_with fail
        refine Calls.mono HSp.out ?_
        rintro e w8 (⟨hno, _⟩ | ⟨_, hno, _⟩ | ⟨_, _, lb, S, rs, hS, hrs, rfl, hI8⟩)
        · exact absurd HMay.out hno
        · exact absurd HOk.out hno
        simp only at hS
        subst hS
        have hS16 : 1 ≤ S ∧ S ≤ 16 := by have := HMay.out.2.1; simp only at this; omega
        obtain ⟨hS1, hS2⟩ := hS16
        have HI8 : Hid (SpI w7 w8 lb S Lh hs rs) := hI8
        have HRl : Hid (rs.length = S) := hrs
        have HF8 : Hid (Fr [] w1 w8) := HF7.out.then hI8.fr
        have HLo : Hid (LoOk hs) := (LoOk_iff hs).2 HOk.out.lo
        obtain ⟨k0, k1, k2⟩ := HBx.out _ HF8.out
        obtain ⟨_, f0, f1, f2, f3⟩ := HC1.out _ HF8.out
        obtain ⟨iI, hiI, hzI, hsI, hbI⟩ := infoI_parts
        clear HSp hI8 hrs
        go_wp2_with (at_make; refine wpList_make_full _ rfl (.tmp 56) (.tmp 56) 22 rfl 0 3 iI _ 1 Try.undIs11 hiI hzI hsI .i64 .i64 S S S rfl rfl rfl rfl ?b2 ?b3 ?b4 ?_)
        case b2 => rw [hbI]; omega
        case b3 => unfold maxLen; omega
        case b4 => exact Nat.zero_le _
        intro w9 hown hgrow
        have hF9 : Fr [] w8 w9 := Fr.grown (S := []) hgrow (by simp)
        have HA9 : Hid (At w9 w8.heap.size S (cnt (S : Int) hs 0)) := by
          have h1 := made_at hown
          have e : (fun _ : Nat => 0) = cnt (S : Int) hs 0 := by funext n; rw [cnt_zero]
          rw [e] at h1
          exact h1
        have HI9 : Hid (SpI w7 w9 lb S Lh hs rs) := HI8.out.keep hF9
        have HF9 : Hid (Fr [] w1 w9) := HF8.out.then hF9
        obtain ⟨ab, hab⟩ : ∃ ab, ab = w8.heap.size := ⟨_, rfl⟩
        have hab7 : w7.heap.size ≤ ab := by rw [hab]; exact HI8.out.fr.size
        have hab1 : w1.heap.size ≤ ab := by rw [hab]; exact HF8.out.size
        rw [← hab] at HA9 ⊢
        clear hown hgrow hF9 hab HI8 HF8
        go_wp2_with fail
        go_loopw [8] (fun ii wr => ∃ (i : Nat), ii = .int .i64 i ∧ i ≤ Lh ∧ Hid (SpI w7 wr lb S Lh hs rs) ∧ Hid (At wr ab S (cnt (S : Int) hs i)) ∧ Hid (Fr [] w1 wr)) (fun ii _ => Lh - (RowKit.intOf ii).toNat)
        case atStart => exact ⟨0, rfl, Nat.zero_le _, HI9, HA9, HF9⟩
        case round =>
          obtain ⟨i, rfl, hiL, HI, HA, HF⟩ := hrel
          obtain ⟨k0, k1, k2⟩ := HBx.out _ HF.out
          by_cases hi : i < Lh
          · have hi' : i < hs.length := by rw [← HLh.out]; exact hi
            have hlt : (i : Int) < Lh := by omega
            have hHr := (HH.out _ HF.out).1
            obtain ⟨pb, off, rfl, hpb, hat⟩ := hHr.lies (by omega)
            obtain ⟨c0, c1⟩ := hat i hi'
            have hEc := hHr.each _ (hgetD_mem hs i hi')
            have hokk := (HLo.out.2 _ (hgetD_mem hs i hi')).1
            have hhl := homeOf_lt (S : Int) (hs.getD i Hd.zero) (by omega)
            obtain ⟨n, hn⟩ : ∃ n : Nat, homeOf (S : Int) (hs.getD i Hd.zero) = (n : Int) := ⟨(homeOf (S : Int) (hs.getD i Hd.zero)).toNat, by omega⟩
            have hnS : n < S := by omega
            have hla := liv_at hi' hn
            have HCi : Hid (cnt (S : Int) hs (i + 1) n = cnt (S : Int) hs i n + 1) := cnt_in hi' hn
            have HCo : Hid (∀ k, k < S → k ≠ n → cnt (S : Int) hs (i + 1) k = cnt (S : Int) hs i k) := fun k _ hk => cnt_out hi' (by rw [hn]; omega)
            obtain ⟨hO, hKv, hNL⟩ := HI.out.each n (by rw [HRl.out]; exact hnS)
            obtain ⟨hck, hckv⟩ := row_kv hKv hla
            have lc := HI.out.lm.at n (by rw [HRl.out]; exact hnS)
            obtain ⟨y, hy⟩ : ∃ y, y = hs.getD i Hd.zero := ⟨_, rfl⟩
            rw [← hy] at c0 c1 hEc hokk hhl hn hckv
            obtain ⟨r, hr⟩ : ∃ r, r = rs.getD n Lr.zero := ⟨_, rfl⟩
            rw [← hr] at hO hKv hNL hck hckv lc
            obtain ⟨key, vo, Lv, cv, vs⟩ := y
            obtain ⟨ro, M, rc, ks⟩ := r
            simp only [Lr.v] at c0 c1 hokk hO hKv hNL hck hckv lc
            have hLoR : LoOk ks := (LoOk_iff ks).2 (by rw [hKv]; exact livK_lo HOk.out.lo)
            have hRr := hO.rs hLoR (by omega)
            have hM := hO.len
            obtain ⟨d0, d1⟩ := HA.out.cell n hnS
            obtain ⟨C, hC⟩ : ∃ C, C = cnt (S : Int) hs i n := ⟨_, rfl⟩
            rw [← hC] at hck hckv d0
            have hCM : C < M := by omega
            obtain ⟨rb, roff, rfl, hrb, hrt⟩ := hRr.lies (by omega)
            obtain ⟨g0, g1⟩ := hrt C hck
            have hEr := hRr.each _ (hgetD_mem ks C hck)
            obtain ⟨z, hz⟩ : ∃ z, z = ks.getD C Hd.zero := ⟨_, rfl⟩
            rw [← hz] at g0 g1 hckv hEr
            obtain ⟨key2, vo2, Lv2, cv2, vs2⟩ := z
            simp only [Hd.kv, Prod.mk.injEq] at g0 g1 hckv
            obtain ⟨rfl, rfl⟩ := hckv
            have hLvv : Lv2 = Lv := by have a := hEr.len; have b := hEc.len; simp only at a b; omega
            subst hLvv
            have hSh : ∀ y : Wd13 wr, Calls Try.prog 17 #[.agg #[.int .i64 l, .int .i64 (S : Int), .int .i64 x, .int .i64 q], .string key2] y.W fun e w' => e = .returned (.tuple #[.int .i64 (n : Int), .int .i64 0]) ∧ Fr [] y.W w' := fun y => by
              have h1 := shard_any l (S : Int) x q key2 y.W (by have := hokk.2; omega)
              rw [Cf.shard_ok HMay.out hokk] at h1
              have e : shN13 (S : Int) key2 = (n : Int) := hn
              simp only at h1
              rw [e] at h1
              exact h1
            have HFc : Hid (∀ W, Fr [] wr W → CfM W A l (S : Int) x q ∧ W.cell? ⟨A + 1, 2, none⟩ = some (.slice (some ⟨pb, off, none⟩) Lh ch)) := fun W hf => ⟨HC1.out _ (HF.out.then hf), (HBx.out _ (HF.out.then hf)).2.2⟩
            have HFd : Hid (∀ W, Fr [] wr W → (W.cell? ⟨pb, off + i * 2, none⟩ = some (.string key2) ∧ W.cell? ⟨pb, off + i * 2 + 1, none⟩ = some (.slice vo Lv2 cv)) ∧ (W.cell? ⟨rb, roff + C * 2, none⟩ = some (.string key2) ∧ W.cell? ⟨rb, roff + C * 2 + 1, none⟩ = some (.slice vo2 Lv2 cv2)) ∧ W.cell? ⟨lb, n, none⟩ = some (.slice (some ⟨rb, roff, none⟩) M rc) ∧ W.cell? ⟨ab, n, none⟩ = some (.int .i64 (C : Int))) := fun W hf => ⟨⟨far_cell hf c0 hpb (by simp), far_cell hf c1 hpb (by simp)⟩, ⟨far_cell hf g0 hrb (by simp), far_cell hf g1 hrb (by simp)⟩, far_cell hf lc (World.block_lt_of_cell? wr ⟨lb, n, none⟩ (by rw [lc])) (by simp), far_cell hf d0 (World.block_lt_of_cell? wr ⟨ab, n, none⟩ (by rw [d0])) (by simp)⟩
            have HVr : Hid (∀ W, Fr [] wr W → VRs W vo vs2 ∧ VRs W vo2 vs2) := fun W hf => ⟨hEc.rs.keep hf, hEr.rs.keep hf⟩
            have HLv : Hid (Lv2 = vs2.length) := hEr.len
            have hb0 : ∀ y : Wd13 wr, y.W.cell? ⟨A, 0, none⟩ = some (.int .i64 l) := fun y => (HFc.out _ y.h).1.2.1
            have hb1 : ∀ y : Wd13 wr, y.W.cell? ⟨A, 1, none⟩ = some (.int .i64 (S : Int)) := fun y => (HFc.out _ y.h).1.2.2.1
            have hb2 : ∀ y : Wd13 wr, y.W.cell? ⟨A, 2, none⟩ = some (.int .i64 x) := fun y => (HFc.out _ y.h).1.2.2.2.1
            have hb3 : ∀ y : Wd13 wr, y.W.cell? ⟨A, 3, none⟩ = some (.int .i64 q) := fun y => (HFc.out _ y.h).1.2.2.2.2
            have hb4 : ∀ y : Wd13 wr, y.W.cell? ⟨A + 1, 2, none⟩ = some (.slice (some ⟨pb, off, none⟩) Lh ch) := fun y => (HFc.out _ y.h).2
            have hb5 : ∀ y : Wd13 wr, y.W.cell? ⟨pb, off + i * 2, none⟩ = some (.string key2) := fun y => (HFd.out _ y.h).1.1
            have HC : Hid (C = cnt (S : Int) hs i n) := hC
            have HPut : Hid (∀ W, Fr [] wr W → SpI w7 (W.setCell ⟨ab, n, none⟩ (.int .i64 ((C + 1 : Nat) : Int))) lb S Lh hs rs ∧ At (W.setCell ⟨ab, n, none⟩ (.int .i64 ((C + 1 : Nat) : Int))) ab S (cnt (S : Int) hs (i + 1)) ∧ Fr [] w1 (W.setCell ⟨ab, n, none⟩ (.int .i64 ((C + 1 : Nat) : Int))) ∧ W.frozen? ⟨ab, n, none⟩ = false) := fun W hf => by
              have hAt := HA.out.keep hf (by simp)
              have hFs : Fr [ab] W (W.setCell ⟨ab, n, none⟩ (.int .i64 ((C + 1 : Nat) : Int))) := Fr.set _ _ _ (by simp)
              refine ⟨(HI.out.keep hf).off hAt hab7 hFs, ?_, (HF.out.then hf).on hFs (by intro k hk; simp at hk; omega), (hAt.cell n hnS).2⟩
              have h1 := hAt.put n hnS HCi.out HCo.out
              rw [← HC.out] at h1
              exact h1
            have hCb : (C : Int) ≤ 3518437208882 := by omega
            have hnSi : (n : Int) < S := by omega
            have hCMi : (C : Int) < M := by omega
            clear hat hHr hEc hokk hhl hla hO hKv hNL hck lc hLoR hRr hM d0 d1 hrt g0 g1 hEr hz hr hy hn hC HCi HCo c0 c1 hpb hrb HI HA HF hi'
            go_upto_region 10 with fail
            clear k0 k1 k2
            refine wp_region_wd13 (w1 := wr) (by kernel_rfl) (by kernel_rfl) (Fr.refl _ _) ?_
            repeat (go_big_quiet_step (first
              | (go_at_call 17; with_reducible refine (hSh _).mono ?_; exact fun e w3 hh => ⟨hh.1, ⟨_, Fr.then (Wd13.h _) hh.2⟩, rfl⟩)))
            refine wpQuiet_nil ?_
            rintro _ ⟨y, rfl⟩
            clear hb0 hb1 hb2 hb3 hb4 hb5 hSh
            obtain ⟨wa, hFa⟩ := y
            simp only
            have HFa : Hid (Fr [] wr wa) := hFa
            have hSm : ∀ y : Wd13 wa, Calls Try.prog 18 #[.agg #[.string key2, .slice vo2 Lv2 cv2], .agg #[.string key2, .slice vo Lv2 cv]] y.W fun e w' => e = .returned (.bool true) ∧ Fr [] y.W w' := fun y => sameHeld_any key2 vo2 vo Lv2 cv2 cv vs2 y.W (HVr.out _ (hFa.then y.h)).2 (HVr.out _ (hFa.then y.h)).1 HLv.out
            have hb4 : ∀ y : Wd13 wa, y.W.cell? ⟨A + 1, 2, none⟩ = some (.slice (some ⟨pb, off, none⟩) Lh ch) := fun y => (HFc.out _ (hFa.then y.h)).2
            have hb5 : ∀ y : Wd13 wa, y.W.cell? ⟨pb, off + i * 2, none⟩ = some (.string key2) := fun y => (HFd.out _ (hFa.then y.h)).1.1
            have hb6 : ∀ y : Wd13 wa, y.W.cell? ⟨pb, off + i * 2 + 1, none⟩ = some (.slice vo Lv2 cv) := fun y => (HFd.out _ (hFa.then y.h)).1.2
            have hb7 : ∀ y : Wd13 wa, y.W.cell? ⟨rb, roff + C * 2, none⟩ = some (.string key2) := fun y => (HFd.out _ (hFa.then y.h)).2.1.1
            have hb8 : ∀ y : Wd13 wa, y.W.cell? ⟨rb, roff + C * 2 + 1, none⟩ = some (.slice vo2 Lv2 cv2) := fun y => (HFd.out _ (hFa.then y.h)).2.1.2
            have hb9 : ∀ y : Wd13 wa, y.W.cell? ⟨lb, n, none⟩ = some (.slice (some ⟨rb, roff, none⟩) M rc) := fun y => (HFd.out _ (hFa.then y.h)).2.2.1
            have hb10 : ∀ y : Wd13 wa, y.W.cell? ⟨ab, n, none⟩ = some (.int .i64 (C : Int)) := fun y => (HFd.out _ (hFa.then y.h)).2.2.2
            have hq1 : decide ((M : Int) ≤ C) = false := by simp; omega
            have hq2 : decide (M ≤ C) = false := by simp; omega
            clear hFa
            go_upto_region 11 with fail
            refine wp_region_wd13 (w1 := wa) (by kernel_rfl) (by kernel_rfl) (Fr.refl _ _) ?_
            repeat (go_big_quiet_step (first
              | (go_at_call 18; with_reducible refine (hSm _).mono ?_; exact fun e w3 hh => ⟨hh.1, ⟨_, Fr.then (Wd13.h _) hh.2⟩, rfl⟩)))
            refine wpQuiet_nil ?_
            rintro _ ⟨y, rfl⟩
            clear hb4 hb5 hb6 hb7 hb8 hb9 hb10 hSm hq1 hq2
            obtain ⟨wb, hFb⟩ := y
            simp only
            have hFwb := HFa.out.then hFb
            have hd0 := (HFd.out _ hFwb).2.2.2
            obtain ⟨hp1, hp2, hp3, hp4⟩ := HPut.out _ hFwb
            have HP : Hid (SpI w7 (wb.setCell ⟨ab, n, none⟩ (.int .i64 ((C + 1 : Nat) : Int))) lb S Lh hs rs ∧ At (wb.setCell ⟨ab, n, none⟩ (.int .i64 ((C + 1 : Nat) : Int))) ab S (cnt (S : Int) hs (i + 1)) ∧ Fr [] w1 (wb.setCell ⟨ab, n, none⟩ (.int .i64 ((C + 1 : Nat) : Int)))) := ⟨hp1, hp2, hp3⟩
            have hcs : ((C + 1 : Nat) : Int) = (C : Int) + 1 := by omega
            rw [hcs] at HP
            clear hFb hFwb hp1 hp2 hp3 HPut HFc HFd HVr HLv HFa HC hcs
            go_wp2_with fail
            go_roundw
            case rel => exact ⟨i + 1, by simp, by omega, HP.out.1, HP.out.2.1, HP.out.2.2⟩
            case measure => simp [RowKit.intOf]; omega
          · have hi2 : hs.length ≤ i := by have := HLh.out; omega
            have HAt : Hid (At wr ab S (fun n : Nat => (livK (S : Int) (n : Int) hs).length)) := by
              have h1 := HA.out
              have e : cnt (S : Int) hs i = fun n : Nat => (livK (S : Int) (n : Int) hs).length := by funext n; exact cnt_all _ _ _ _ hi2
              rw [e] at h1
              exact h1
            have hlt : ¬ (i : Int) < Lh := by omega
            have HLd : Hid (Calls _ _ _ _ _) := hload_any ho Lh ch hs wr (HH.out _ HF.out).1 HLh.out
            clear hi2 HA
            obtain ⟨wv, rfl⟩ : ∃ wv, wv = wr := ⟨_, rfl⟩
            go_wp2_with fail
            refine Calls.mono HLd.out ?_
            rintro e w11 (⟨_, sb, b, rfl, hSh, hF11⟩ | ⟨hlo, _⟩)
            rotate_left
            · exact absurd HLo.out hlo
            have HSw : Hid (∀ W, Fr [] w11 W → Sh wv W sb b Lh (mOf hs)) := fun W hf => hSh.keep hf
            have HI11 : Hid (∀ W, Fr [] w11 W → SpI w7 W lb S Lh hs rs) := fun W hf => HI.out.keep (hF11.then hf)
            have HA11 : Hid (∀ W, Fr [] w11 W → At W ab S (fun n : Nat => (livK (S : Int) (n : Int) hs).length)) := fun W hf => HAt.out.keep (hF11.then hf) (by simp)
            have HF11 : Hid (∀ W, Fr [] w11 W → Fr [] w1 W) := fun W hf => HF.out.then (hF11.then hf)
            clear hSh hF11 HLd HI HAt HF k0 k1 k2
            go_wp2_with fail
            go_loopw [13] (fun nn wr => ∃ (n : Nat), nn = .int .i64 n ∧ n ≤ S ∧ Hid (Fr [] w11 wr)) (fun nn _ => S - (RowKit.intOf nn).toNat)
            case atStart => exact ⟨0, rfl, Nat.zero_le _, Fr.refl _ _⟩
            case round =>
              obtain ⟨n, rfl, hnS, HFn⟩ := hrel
              by_cases hn : n < S
              · have hnSi : (n : Int) < S := by omega
                have hIn := HI11.out _ HFn.out
                obtain ⟨hO, hKv, hNL⟩ := hIn.each n (by rw [HRl.out]; exact hn)
                have lc := hIn.lm.at n (by rw [HRl.out]; exact hn)
                obtain ⟨d0, _⟩ := (HA11.out _ HFn.out).cell n hn
                obtain ⟨r, hr⟩ : ∃ r, r = rs.getD n Lr.zero := ⟨_, rfl⟩
                rw [← hr] at hO hKv hNL lc
                obtain ⟨ro, M, rc, ks⟩ := r
                simp only [Lr.v] at hO hKv hNL lc
                have hLoR : LoOk ks := (LoOk_iff ks).2 (by rw [hKv]; exact livK_lo HOk.out.lo)
                have HLr : Hid (∀ W, Fr [] wr W → HRs W ro ks) := fun W hf => (hO.rs hLoR (by omega)).keep hf
                have HLoR : Hid (LoOk ks) := hLoR
                have HM : Hid (M = ks.length) := hO.len
                have hML : M ≤ 3518437208882 := by omega
                have hcm : (livK (S : Int) (n : Int) hs).length = M := by rw [← hKv, List.length_map, hO.len]
                rw [hcm] at d0
                have HKv : Hid (ks.map Hd.kv = livK (S : Int) (n : Int) hs) := hKv
                have HCl : Hid (∀ W, Fr [] wr W → W.cell? ⟨lb, n, none⟩ = some (.slice ro M rc) ∧ W.cell? ⟨ab, n, none⟩ = some (.int .i64 (M : Int))) := fun W hf => ⟨far_cell hf lc (World.block_lt_of_cell? wr ⟨lb, n, none⟩ (by rw [lc])) (by simp), far_cell hf d0 (World.block_lt_of_cell? wr ⟨ab, n, none⟩ (by rw [d0])) (by simp)⟩
                have HLd : Hid (Calls _ _ _ _ _) := hload_any ro M rc ks wr (HLr.out _ (Fr.refl _ _)) HM.out
                clear hO hKv hNL hr hLoR hcm hIn d0
                obtain ⟨wn, rfl⟩ : ∃ wn, wn = wr := ⟨_, rfl⟩
                go_wp2_with fail
                refine Calls.mono HLd.out ?_
                rintro e w12 (⟨_, sb2, b2, rfl, hSh, hF12⟩ | ⟨hlo, _⟩)
                rotate_left
                · exact absurd HLoR.out hlo
                have HSx : Hid (∀ W, Fr [] w12 W → Sh wn W sb2 b2 M (mOf ks)) := fun W hf => hSh.keep hf
                have HF12 : Hid (Fr [] wn w12) := hF12
                have hb1 : ∀ y : Wd13 w12, y.W.cell? ⟨lb, n, none⟩ = some (.slice ro M rc) := fun y => (HCl.out _ (hF12.then y.h)).1
                have hb2 : ∀ y : Wd13 w12, y.W.cell? ⟨ab, n, none⟩ = some (.int .i64 (M : Int)) := fun y => (HCl.out _ (hF12.then y.h)).2
                clear hSh hF12 HLd lc
                go_upto_region 21 with fail
                refine wp_region_wd13 (w1 := w12) (by kernel_rfl) (by kernel_rfl) (Fr.refl _ _) ?_
                repeat (go_big_quiet_step (fail))
                refine wpQuiet_nil ?_
                rintro _ ⟨y, rfl⟩
                clear hb1 hb2
                obtain ⟨w13, hF13⟩ := y
                simp only
                have HF13 : Hid (Fr [] w12 w13) := hF13
                clear hF13
                go_wp2_with fail
                go_loopw [16] (fun ii wr => ∃ (i : Nat), ii = .int .i64 i ∧ i ≤ M ∧ Hid (Fr [] w12 wr)) (fun ii _ => M - (RowKit.intOf ii).toNat)
                case atStart => exact ⟨0, rfl, Nat.zero_le _, HF13⟩
                case round =>
                  obtain ⟨i, rfl, hiM, HFi⟩ := hrel
                  have hFni := HF12.out.then HFi.out
                  have lc := (HCl.out _ hFni).1
                  by_cases hi : i < M
                  · have hi' : i < ks.length := by rw [← HM.out]; exact hi
                    have hiMi : (i : Int) < M := by omega
                    have hRr := HLr.out _ hFni
                    obtain ⟨rb, roff, rfl, hrb, hrt⟩ := hRr.lies (by omega)
                    obtain ⟨g0, _⟩ := hrt i hi'
                    have hmem := hgetD_mem ks i hi'
                    have hks := (HLoR.out.2 _ hmem).1
                    have hrd := read_both HLo.out HKv.out hmem
                    obtain ⟨key, hkey⟩ : ∃ key, key = (ks.getD i Hd.zero).key := ⟨_, rfl⟩
                    rw [← hkey] at g0 hrd hks
                    have hks2 : key.size ≤ 140737488355328 := by have := hks.2; omega
                    obtain ⟨V, hV⟩ : ∃ V, V = (valAt (mOf hs key) m).getD noS := ⟨_, rfl⟩
                    obtain ⟨B, hB⟩ : ∃ B, B = (valAt (mOf hs key) m).isSome := ⟨_, rfl⟩
                    have hG1 : ∀ y : Wd13 wr, Calls Try.prog 20 #[.pointer (some ⟨sb2, 0, none⟩), .string key, .int .i64 m] y.W fun e w' => e = .returned (.tuple #[.string V, .bool B]) ∧ Fr [] y.W w' := fun y => by
                      have h1 := hget_any key m y.W (HSx.out _ (HFi.out.then y.h)) hks2
                      rw [hrd, ← hV, ← hB] at h1
                      exact h1
                    have HG2 : Hid (∀ W, Fr [] wr W → Calls Try.prog 20 #[.pointer (some ⟨sb, 0, none⟩), .string key, .int .i64 m] W fun e w' => e = .returned (.tuple #[.string V, .bool B]) ∧ Fr [] W w') := fun W hf => by
                      have h1 := hget_any key m W (HSw.out _ (HFn.out.then (hFni.then hf))) hks2
                      rw [← hV, ← hB] at h1
                      exact h1
                    have HX : Hid (∀ W, Fr [] wr W → W.cell? ⟨lb, n, none⟩ = some (.slice (some ⟨rb, roff, none⟩) M rc) ∧ W.cell? ⟨rb, roff + i * 2, none⟩ = some (.string key) ∧ W.cell? ⟨A + 1, 0, none⟩ = some (.int .i64 m)) := fun W hf => ⟨(HCl.out _ (hFni.then hf)).1, far_cell hf g0 hrb (by simp), (HBx.out _ (HF11.out _ (HFn.out.then (hFni.then hf)))).1⟩
                    have hb1 : ∀ y : Wd13 wr, y.W.cell? ⟨lb, n, none⟩ = some (.slice (some ⟨rb, roff, none⟩) M rc) := fun y => (HX.out _ y.h).1
                    have hb2 : ∀ y : Wd13 wr, y.W.cell? ⟨rb, roff + i * 2, none⟩ = some (.string key) := fun y => (HX.out _ y.h).2.1
                    have hb3 : ∀ y : Wd13 wr, y.W.cell? ⟨A + 1, 0, none⟩ = some (.int .i64 m) := fun y => (HX.out _ y.h).2.2
                    clear hRr hrt hrb g0 hmem hks hrd hkey hks2 hV hB hFni hi'
                    go_upto_region 26 with fail
                    refine wp_region_wd13 (w1 := wr) (by kernel_rfl) (by kernel_rfl) (Fr.refl _ _) ?_
                    repeat (go_big_quiet_step (first
                      | (go_at_call 20; with_reducible refine (hG1 _).mono ?_; exact fun e w3 hh => ⟨hh.1, ⟨_, Fr.then (Wd13.h _) hh.2⟩, rfl⟩)))
                    refine wpQuiet_nil ?_
                    rintro _ ⟨y, rfl⟩
                    clear hb1 hb2 hb3 hG1
                    obtain ⟨wa, hFa⟩ := y
                    simp only
                    have hG2 : ∀ y : Wd13 wa, Calls Try.prog 20 #[.pointer (some ⟨sb, 0, none⟩), .string key, .int .i64 m] y.W fun e w' => e = .returned (.tuple #[.string V, .bool B]) ∧ Fr [] y.W w' := fun y => HG2.out _ (hFa.then y.h)
                    have hb1 : ∀ y : Wd13 wa, y.W.cell? ⟨lb, n, none⟩ = some (.slice (some ⟨rb, roff, none⟩) M rc) := fun y => (HX.out _ (hFa.then y.h)).1
                    have hb2 : ∀ y : Wd13 wa, y.W.cell? ⟨rb, roff + i * 2, none⟩ = some (.string key) := fun y => (HX.out _ (hFa.then y.h)).2.1
                    have hb3 : ∀ y : Wd13 wa, y.W.cell? ⟨A + 1, 0, none⟩ = some (.int .i64 m) := fun y => (HX.out _ (hFa.then y.h)).2.2
                    have HFa : Hid (Fr [] w12 wa) := HFi.out.then hFa
                    clear hFa HX HG2 HFi
                    go_upto_region 27 with fail
                    refine wp_region_wd13 (w1 := wa) (by kernel_rfl) (by kernel_rfl) (Fr.refl _ _) ?_
                    repeat (go_big_quiet_step (first
                      | (go_at_call 20; with_reducible refine (hG2 _).mono ?_; exact fun e w3 hh => ⟨hh.1, ⟨_, Fr.then (Wd13.h _) hh.2⟩, rfl⟩)))
                    refine wpQuiet_nil ?_
                    rintro _ ⟨y, rfl⟩
                    clear hb1 hb2 hb3 hG2
                    obtain ⟨wb, hFb⟩ := y
                    simp only
                    have HFb : Hid (Fr [] w12 wb) := HFa.out.then hFb
                    have hBB : (B != B) = false := by simp
                    clear hFb HFa
                    go_wp2_with fail
                    go_roundw
                    case rel => exact ⟨i + 1, by simp, by omega, HFb⟩
                    case measure => simp [RowKit.intOf]; omega
                  · have hiMi : ¬ (i : Int) < M := by omega
                    have HFo : Hid (Fr [] w11 wr) := HFn.out.then hFni
                    clear hFni HFi
                    go_wp2_with fail
                    go_roundw
                    case rel => exact ⟨n + 1, by simp, by omega, HFo⟩
                    case measure => simp [RowKit.intOf]; omega
              · have hnSi : ¬ (n : Int) < S := by omega
                have HFo : Hid (Fr [] w wr) := HF1.out.then (HF11.out _ HFn.out)
                clear HFn
                go_wp2
                go_ret
                exact ⟨rfl, HFo.out⟩
      · have HF : Hid (Fr [] w w7) := HF1.out.then HF7.out
        clear hok HCs
        go_wp2_with fail
        refine (HAl.out _).mono ?_
        rintro e w8 ⟨rfl, hF8⟩
        go_wp2
        go_ret
        exact ⟨rfl, HF.out.then hF8⟩
    · rw [show Cf.err ⟨l, s, x, q⟩ = 7 from if_neg hmay] at hCk
      have HCk : Hid (Calls _ _ _ _ _) := hCk
      clear hCk hmay
      go_wp2_with fail
      refine Calls.mono HCk.out ?_
      rintro e w6 ⟨rfl, hF6⟩
      have HF6 : Hid (Fr [] w1 w6) := HF4.out.then hF6
      clear HCk hF6
      go_wp2_with fail
      refine (HAl.out _).mono ?_
      rintro e w8 ⟨rfl, hF8⟩
      go_wp2
      go_ret
      exact ⟨rfl, HF1.out.then (HF6.out.then hF8)⟩

theorem own : ownKnob Try.prog.godebug = none := by kernel_rfl
theorem laidOut : laidOutB Try.prog = true := by kernel_rfl
set_option maxHeartbeats 4000000 in
set_option maxRecDepth 100000 in
theorem lifted (os : Os) (started : os.Started) (H : Type) (enc : TypeId × Value → H) :
    ReturnsInHanded {} Try.checked os 5 .any (Rows.dumpPartsSpec.pre6 enc Try.prog Try.f5 Rows.dumpPartsRow.domain false) (Rows.dumpPartsSpec.post enc Try.prog Try.f5 false true false false) := by
  refine returnsInHanded_of_change_sized (C := Try.checked) own started (by kernel_rfl) Try.func5
    (ChangeSpec.witness6 (enc := enc) (C := Try.checked) false ⟨#[], #[.agg #[.int .i64 0, .int .i64 0, .int .i64 0, .int .i64 0], .agg #[.int .i64 0, .slice none 0 0, .slice none 0 0]], []⟩ 8 (by kernel_rfl) (by kernel_rfl) (by kernel_rfl) (by kernel_rfl)) ?_
  intro W base args ds gs before hval0 hW hcnd hsz0 _
  have hval : ∀ (j : Nat) t v, Try.f5.params[j]? = some t → args[j]? = some v → Value.okWide Try.prog W .any base t v := hval0
  have hsz : (DataW.weightsEach Try.prog (Try.f5.params.toList ++ Rows.dumpPartsSpec.plain.varTypes Try.prog) (ds ++ gs)).all (· ≤ reachBytes) = true := hsz0
  have hW' := hW
  obtain ⟨p, q, hA0, hV, rfl, hfz, hnd⟩ := hW
  have hA : DataW.TrodAll enc Try.prog W 0 (fun _ => true) true Try.f5.params.toList args.toList ds p := hA0
  rw [Try.params5] at hA hval hsz
  obtain ⟨v0, vs0, d0, ds0, p0, q0, hargs, rfl, rfl, h0, r0⟩ := trodAll_cons hA
  obtain ⟨v1, vs1, d1, ds1, p1, q1, rfl, rfl, rfl, h1, r1⟩ := trodAll_cons r0
  obtain ⟨rfl, rfl, rfl⟩ := trodAll_nil r1
  obtain rfl : args = #[v0, v1] := by cases args; simp_all
  obtain ⟨rfl, rfl⟩ := trodVars_none hV
  obtain ⟨cs0, rfl, _⟩ := okWide_struct Try.underlying43 (hval 0 43 v0 rfl rfl)
  have k0 := h0
  have lt0 : ∀ x ∈ p0, x.block < W.heap.size := by obtain ⟨m, hm⟩ := k0; exact DataW.trod_lt m _ _ _ hm
  obtain ⟨ca0, cb0, cc0, cd0, rfl, hB0⟩ : ∃ (a b c d : Int), cs0 = #[.int .i64 a, .int .i64 b, .int .i64 c, .int .i64 d] ∧ Cf.ok ⟨a, b, c, d⟩ := by
    obtain ⟨fuel, hf⟩ := h0
    obtain ⟨a, b, c, d, e, hk⟩ := cf_open hf
    exact ⟨a, b, c, d, by cases cs0; simpa [Value.cells] using e, hk⟩
  obtain ⟨cs1, rfl, _⟩ := okWide_struct Try.underlying25 (hval 1 25 v1 rfl rfl)
  have k1 := h1
  have lt1 : ∀ x ∈ p1, x.block < W.heap.size := by obtain ⟨m, hm⟩ := k1; exact DataW.trod_lt m _ _ _ hm
  obtain ⟨m1, bo1, Lb1, cb1, bs1, a1, len1, cap1, xs1, rfl, hm1, hI1, hLb1, hB1, hL1⟩ : ∃ (m : Int) (bo : Option Addr) (Lb cb : Nat) (bs : List Int) (ao : Option Addr) (L cap : Nat) (os : List Hd), cs1 = #[.int .i64 m, .slice bo Lb cb, .slice ao L cap] ∧ (-9223372036854775808 ≤ m ∧ m ≤ 9223372036854775807) ∧ IRs W bo bs ∧ Lb = bs.length ∧ HRs W ao os ∧ L = os.length := by
    obtain ⟨fuel, hf⟩ := h1
    obtain ⟨m, bo, Lb, cb, bs, ao, L, cap, os, e, h1, h2, h3, h4, h5⟩ := sv_open hf (fun n hn => of_decide_eq_true (List.all_eq_true.1 hsz n (DataW.weights_mem_each (j := 1) (t := 25) rfl rfl n hn)))
    exact ⟨m, bo, Lb, cb, bs, ao, L, cap, os, by cases cs1; simpa [Value.cells] using e, h1, h2, h3, h4, h5⟩
  clear hA0 hval0
  refine (walk ca0 cb0 cc0 cd0 m1 bo1 Lb1 cb1 bs1 a1 len1 cap1 xs1 W hB0 hm1 hI1 hLb1 hB1 hL1).mono fun e W' ⟨he, hf⟩ => ?_
  subst he
  have bel : Below W.heap.size W W' := hf.below (Nat.le_refl _) (by simp)
  exact ⟨_, rfl, _, _, _, [], _, [], hW', trodAll_mk1 (shut_bool Try.underlying4 _), (trodAll_cons_mk (Below.trod laidOut (by kernel_rfl) (of_decide_eq_true (by kernel_rfl)) k0 bel lt0) (trodAll_cons_mk (Below.trod laidOut (by kernel_rfl) (of_decide_eq_true (by kernel_rfl)) k1 bel lt1) trodAll_mk0)), rfl, bel.frame _, fun h => by cases h⟩

theorem over : Rows.dumpPartsRow.holds Try.pinned (OpenSpec.ofChange Rows.dumpPartsSpec) :=
  OpenClaim.holds_of_wide 5 Try.f5 rfl rfl rfl rfl rfl rfl rfl ⟨rfl, rfl, rfl, rfl, rfl⟩ rfl rfl rfl rfl rfl (by kernel_rfl) Try.func5 (by kernel_rfl)
    (of_decide_eq_true (by kernel_rfl)) (by unfold Func.isWrapper; first | (rw [if_pos (by decide +kernel)]; kernel_rfl) | (rw [if_neg (by decide +kernel)]; exact ⟨rfl, rfl⟩))
    (fun os started H enc _ => lifted os started H enc)
end Go.Proofs.Ytldghdbfhikcoaa.dumpParts
namespace Go.Proofs.Ytldghdbfhikcoaa
theorem dumpparts_holds : Rows.DumpPartsSaid := dumpParts.over
#print axioms dumpparts_holds
end Go.Proofs.Ytldghdbfhikcoaa
