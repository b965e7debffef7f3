/- For every configuration and every checkpoint the law CountSaves returns true, and both read as they did. What comes in: of bulk at most 1048576. -/
import Derived.Test.YtdojhkgnnbdfkaaGreatGp47
import Derived.Test.YtdojhkgnnbdfkaaGreatGp48
namespace Go.Proofs.YtdojhkgnnbdfkaaGreat.countSaves
open BigFrame Go.ChangeShapes Go.WideShapes Go.ChangeAt Go.RowKit Go.Lib Go.ChangeMaps
set_option linter.unusedVariables false

set_option maxHeartbeats 4000000 in
set_option maxRecDepth 100000 in
theorem walk (l s x q : Int) (m : Int) (bo : Option Addr) (Lb cb : Nat) (bs : List Int) (ho : Option Addr) (Lh ch : Nat) (hs : List Hd) (w : World) (hI : IRs w bo bs) (hLb : Lb = bs.length) (hH : HRs w ho hs) (hLh : Lh = hs.length) (hz : bs.length + szKs (hs.map Hd.kv) ≤ 1048576) :
    Calls Tryz.prog 3 #[.agg #[.int .i64 l, .int .i64 s, .int .i64 x, .int .i64 q], .agg #[.int .i64 m, .slice bo Lb cb, .slice ho Lh ch]] w fun e w' => e = .returned (.bool true) ∧ Fr [] w w' := by
  obtain ⟨c, ys, hT⟩ := ToldD.ex m bs (hs.map Hd.kv)
  obtain ⟨ok, g, i, mN, bN, pN, hN⟩ := Nw.ex [] []
  obtain ⟨hf1, hf2⟩ := szKs_few (hs := hs) (by omega)
  have hL2 : Lh < 2 ^ 21 := by omega
  have hfew : Few hs := fun t ht => by have := hf2 t ht; have := (hH.each t ht).len; omega
  have HA : Hid (∀ W, Fr [] w W → SvA W m bo Lb ho Lh bs hs (hs.map Hd.kv) c ys) := fun W hf => ⟨hI.keep hf, hLb, hH.keep hf, hLh, rfl, hT, hz⟩
  have HLv : Hid (∀ W, Calls Tryz.prog 8 #[] W fun e w' => e = .returned (.bool true) ∧ Fr [] W w') := fun W => Q.lives22_any W
  have HT : Hid (∀ W, Fr [] w W → Calls Tryz.prog 4 #[.agg #[.int .i64 m, .slice bo Lb cb, .slice ho Lh ch]] W fun e w' => ∃ bb bh ks, e = .returned (.agg #[.int .i64 m, .slice (some ⟨bb, 0, none⟩) Lb (Lb + 1), .slice (some ⟨bh, 0, none⟩) Lh (Lh + 1)]) ∧ TwS W w' bs hs bb bh ks ∧ Fr [] W w') := fun W hf => twinSv_any m bo ho Lb cb Lh ch bs hs (HA.out W hf).I hLb (HA.out W hf).H hLh hL2 hfew
  have HLf : Hid (∀ W0 W bb bh ks, TwS W0 W bs hs bb bh ks → Fr [] w W → Calls Tryz.prog 7 #[.agg #[.int .i64 m, .slice (some ⟨bb, 0, none⟩) Lb (Lb + 1), .slice (some ⟨bh, 0, none⟩) Lh (Lh + 1)], .agg #[.int .i64 m, .slice bo Lb cb, .slice ho Lh ch]] W fun e w' => e = .returned (.bool true) ∧ Fr [] W w') := fun W0 W bb bh ks h hf => leftSv_any m bo ho Lb cb Lh ch bs hs bb bh ks (HA.out W hf).I hLb (HA.out W hf).H hLh hL2 hfew h
  have HTA : Hid (∀ W0 W bb bh ks, TwS W0 W bs hs bb bh ks → Fr [] w W → SvA W m (some ⟨bb, 0, none⟩) Lb (some ⟨bh, 0, none⟩) Lh bs (twTs hs ks) (hs.map Hd.kv) c ys) := fun W0 W bb bh ks h hf => ⟨h.irs (HA.out W hf).I, hLb, h.hrs (HA.out W hf).H, by rw [twTs_length hs ks h.tw.len]; exact hLh, h.kv, hT, hz⟩
  have HN : Hid (Nw [] [] ok g i mN bN pN) := hN
  clear hI hLb hH hLh hz hT hN hf1 hf2 hL2 hfew
  obtain ⟨w1, HW1⟩ : ∃ w1, Hid ((w.alloc (.cells #[.int .i64 l, .int .i64 s, .int .i64 x, .int .i64 q] 23)).alloc (.cells #[.int .i64 m, .slice bo Lb cb, .slice ho Lh ch] 27) = w1) := ⟨_, rfl⟩
  have HB : Hid (∀ W, Fr [] w1 W → _) := fun W hf => sv_box22 (w := w) (l := l) (s := s) (x := x) (q := q) (m := m) (bo := bo) (ho := ho) (Lb := Lb) (cb := cb) (Lh := Lh) (ch := ch) (W := W) (by rw [HW1.out]; exact hf)
  have HF0 : Hid (Fr [] w w1) := by rw [← HW1.out]; exact (Fr.alloc _ _ _).then (Fr.alloc _ _ _)
  obtain ⟨B, HBw⟩ : ∃ B, Hid (w.heap.size = B) := ⟨_, rfl⟩
  rw [HBw.out] at HB
  obtain ⟨a0, a1, a2, a3, c0, c1, c2⟩ := HB.out _ (Fr.refl _ _)
  go_enter Tryz.func3, Tryz.ntmps3
  go_upto_region 1 with fail
  rw [HW1.out, HBw.out]
  clear HW1 HBw
  go_wp2_with fail
  with_reducible refine Calls.mono (HT.out _ HF0.out) ?_
  rintro e w2 ⟨bb, bh, ks, rfl, hTw, hF2⟩
  have HF2 : Hid (Fr [] w1 w2) := hF2
  have HTw : Hid (∀ W, Fr [] w2 W → TwS w1 W bs hs bb bh ks) := fun W hf => hTw.keep hf
  clear a0 a1 a2 a3 c0 c1 c2 hTw hF2 HT
  obtain ⟨w3, HW3⟩ : ∃ w3, Hid (w2.alloc (.cells #[.int .i64 m, .slice (some ⟨bb, 0, none⟩) Lb (Lb + 1), .slice (some ⟨bh, 0, none⟩) Lh (Lh + 1)] 27) = w3) := ⟨_, rfl⟩
  obtain ⟨C, HC⟩ : ∃ C, Hid (w2.heap.size = C) := ⟨_, rfl⟩
  have hF3 : Fr [] w2 w3 := by rw [← HW3.out]; exact Fr.alloc [] w2 _
  have hr3 : w3.heap[C]? = some (.cells #[.int .i64 m, .slice (some ⟨bb, 0, none⟩) Lb (Lb + 1), .slice (some ⟨bh, 0, none⟩) Lh (Lh + 1)] 27 (0, 0)) := by rw [← HW3.out, ← HC.out]; exact heap_alloc_new w2 _
  have HC3 : Hid (∀ W, Fr [] w3 W → W.cell? ⟨C, 0, none⟩ = some (.int .i64 m) ∧ W.cell? ⟨C, 1, none⟩ = some (.slice (some ⟨bb, 0, none⟩) Lb (Lb + 1)) ∧ W.cell? ⟨C, 2, none⟩ = some (.slice (some ⟨bh, 0, none⟩) Lh (Lh + 1))) := fun W hf => sv_cells (hf.keep hr3 (by simp))
  have HF3 : Hid (Fr [] w2 w3) := hF3
  clear hF3 hr3
  obtain ⟨a0, a1, a2, a3, c0, c1, c2⟩ := HB.out _ (HF2.out.then HF3.out)
  obtain ⟨t0, t1, t2⟩ := HC3.out _ (Fr.refl _ _)
  go_upto_region 2 with fail
  rw [HW3.out, HC.out]
  clear HW3 HC
  go_wp2_with fail
  with_reducible refine Calls.mono (nsave_any l s x q (Lb + 1) (Lh + 1) (HTA.out _ _ bb bh ks (HTw.out _ HF3.out) ((HF0.out.then HF2.out).then HF3.out)) HN.out) ?_
  rintro e w4 ⟨r, z, rfl, hP, hF4⟩
  have HP : Hid (SaR (Cf.err ⟨l, s, x, q⟩) s c (newE 16777216 g c ys.length) (nB (20 + ys.length) + 1) r z) := hP
  have HF4 : Hid (Fr [] w3 w4) := hF4
  clear a0 a1 a2 a3 c0 c1 c2 t0 t1 t2 hP hF4
  obtain ⟨a0, a1, a2, a3, c0, c1, c2⟩ := HB.out _ ((HF2.out.then HF3.out).then HF4.out)
  go_wp2_with fail
  with_reducible refine Calls.mono (xnsave_any l s x q cb ch (HA.out _ (((HF0.out.then HF2.out).then HF3.out).then HF4.out)) HN.out) ?_
  rintro e w5 ⟨r', z', rfl, hP', hF5⟩
  obtain ⟨rfl, rfl⟩ := HP.out.uniq hP'
  have HF5 : Hid (Fr [] w3 w5) := HF4.out.then hF5
  clear hP' hF5 HP HF4 a0 a1 a2 a3 c0 c1 c2
  obtain ⟨a0, a1, a2, a3, c0, c1, c2⟩ := HB.out _ ((HF2.out.then HF3.out).then HF5.out)
  obtain ⟨t0, t1, t2⟩ := HC3.out _ HF5.out
  have e1 : (r == r) = true := by simp
  have e2 : (z == z) = true := by simp
  go_wp2_with fail
  with_reducible refine Calls.mono (HLf.out _ _ bb bh ks (HTw.out _ (HF3.out.then HF5.out)) (((HF0.out.then HF2.out).then HF3.out).then HF5.out)) ?_
  rintro e w6 ⟨rfl, hF6⟩
  have HF6 : Hid (Fr [] w w6) := (((HF0.out.then HF2.out).then HF3.out).then HF5.out).then hF6
  clear hF6
  go_wp2_with fail
  with_reducible refine Calls.mono (HLv.out _) ?_
  rintro e w7 ⟨rfl, hF7⟩
  go_wp2_with fail
  go_ret
  exact ⟨rfl, HF6.out.then hF7⟩

theorem own : ownKnob Tryz.prog.godebug = none := by kernel_rfl
theorem laidOut : laidOutB Tryz.prog = true := by kernel_rfl
set_option maxHeartbeats 4000000 in
set_option maxRecDepth 100000 in
theorem lifted (os : Os) (started : os.Started) (H : Type) (enc : TypeId × Value → H) (F : Stop.Interp) :
    ReturnsInHanded {} Tryz.checked os 3 .any ((Rows.OpenSpec.upto Rows.countSavesSpec).pre6 enc Tryz.prog Tryz.f3 Rows.countSavesUptoRow.domain false) (((Rows.OpenSpec.upto Rows.countSavesSpec).at F).post enc Tryz.prog Tryz.f3 false true false false) := by
  refine returnsInHanded_of_cond_sized (C := Tryz.checked) (s := Rows.OpenSpec.upto Rows.countSavesSpec) (k := Rows.uptoSmall) rfl own started (by kernel_rfl) Tryz.func3
    (OpenSpec.witness (enc := enc) (C := Tryz.checked) (s := Rows.OpenSpec.upto Rows.countSavesSpec) (k := Rows.uptoSmall) rfl false ⟨#[], #[.agg #[.int .i64 0, .int .i64 0, .int .i64 0, .int .i64 0], .agg #[.int .i64 0, .slice none 0 0, .slice none 0 0]], []⟩ 8 (by kernel_rfl) (by kernel_rfl) (by kernel_rfl)
      (x := ([.agg [.lit (.int .i64 0), .lit (.int .i64 0), .lit (.int .i64 0), .lit (.int .i64 0)], .agg [.lit (.int .i64 0), .nil, .nil]], [], [])) (by kernel_rfl) rfl (by kernel_rfl)) ?_
  intro W base args ds gs before hval0 hW0 hcnd hk hsz0 _
  have hW : DataW.Whole enc Tryz.prog Tryz.f3.params.toList Rows.countSavesSpec.vars false W args.toList ds gs before := hW0
  show Calls Tryz.prog 3 args W fun e W' => ∃ v, e = .returned v ∧ Rows.countSavesSpec.post enc Tryz.prog Tryz.f3 false true false false W args v W'
  have hval : ∀ (j : Nat) t v, Tryz.f3.params[j]? = some t → args[j]? = some v → Value.okWide Tryz.prog W .any base t v := hval0
  have hsz : (DataW.weightsEach Tryz.prog (Tryz.f3.params.toList ++ Rows.countSavesSpec.plain.varTypes Tryz.prog) (ds ++ gs)).all (· ≤ reachBytes) = true := hsz0
  have hW' := hW
  obtain ⟨p, q, hA0, hV, rfl, hfz, hnd⟩ := hW
  have hA : DataW.TrodAll enc Tryz.prog W 0 (fun _ => true) true Tryz.f3.params.toList args.toList ds p := hA0
  rw [Tryz.params3] at hA hval hsz
  obtain ⟨v0, vs0, d0, ds0, p0, q0, hargs, rfl, rfl, h0, r0⟩ := trodAll_cons hA
  obtain ⟨v1, vs1, d1, ds1, p1, q1, rfl, rfl, rfl, h1, r1⟩ := trodAll_cons r0
  obtain ⟨rfl, rfl, rfl⟩ := trodAll_nil r1
  obtain rfl : args = #[v0, v1] := by cases args; simp_all
  obtain ⟨rfl, rfl⟩ := trodVars_none hV
  obtain ⟨cs0, rfl, _⟩ := okWide_struct Tryz.underlying23 (hval 0 23 v0 rfl rfl)
  have k0 := h0
  have lt0 : ∀ x ∈ p0, x.block < W.heap.size := by obtain ⟨m, hm⟩ := k0; exact DataW.trod_lt m _ _ _ hm
  obtain ⟨ca0, cb0, cc0, cd0, rfl, hB0⟩ : ∃ (a b c d : Int), cs0 = #[.int .i64 a, .int .i64 b, .int .i64 c, .int .i64 d] ∧ Cf.ok ⟨a, b, c, d⟩ := by
    obtain ⟨fuel, hf⟩ := h0
    obtain ⟨a, b, c, d, e, hk⟩ := cf_open hf
    exact ⟨a, b, c, d, by cases cs0; simpa [Value.cells] using e, hk⟩
  obtain ⟨cs1, rfl, _⟩ := okWide_struct Tryz.underlying27 (hval 1 27 v1 rfl rfl)
  have k1 := h1
  have lt1 : ∀ x ∈ p1, x.block < W.heap.size := by obtain ⟨m, hm⟩ := k1; exact DataW.trod_lt m _ _ _ hm
  obtain ⟨m1, bo1, Lb1, cb1, bs1, a1, len1, cap1, xs1, rfl, hm1, hI1, hLb1, hB1, hL1⟩ : ∃ (m : Int) (bo : Option Addr) (Lb cb : Nat) (bs : List Int) (ao : Option Addr) (L cap : Nat) (os : List Hd), cs1 = #[.int .i64 m, .slice bo Lb cb, .slice ao L cap] ∧ (-9223372036854775808 ≤ m ∧ m ≤ 9223372036854775807) ∧ IRs W bo bs ∧ Lb = bs.length ∧ HRs W ao os ∧ L = os.length := by
    obtain ⟨fuel, hf⟩ := h1
    obtain ⟨m, bo, Lb, cb, bs, ao, L, cap, os, e, h1, h2, h3, h4, h5⟩ := sv_open hf (fun n hn => of_decide_eq_true (List.all_eq_true.1 hsz n (DataW.weights_mem_each (j := 1) (t := 27) rfl rfl n hn)))
    exact ⟨m, bo, Lb, cb, bs, ao, L, cap, os, by cases cs1; simpa [Value.cells] using e, h1, h2, h3, h4, h5⟩
  have hM : bs1.length + szKs (xs1.map Hd.kv) ≤ 1048576 := by
    have hb : Rows.uptoBulkAll ([d0, d1] ++ []) ≤ 1048576 := of_decide_eq_true hk
    simp only [List.append_nil, Rows.uptoBulkAll] at hb
    obtain ⟨m, hm⟩ := k1
    have := bulk_sv (x := (d1, p1)) hm hLb1 hB1 hL1
    simp only at this
    omega
  clear hA0 hval0 hW0
  refine (walk ca0 cb0 cc0 cd0 m1 bo1 Lb1 cb1 bs1 a1 len1 cap1 xs1 W hI1 hLb1 hB1 hL1 hM).mono fun e W' ⟨he, hf⟩ => ?_
  subst he
  have bel : Below W.heap.size W W' := hf.below (Nat.le_refl _) (by simp)
  exact ⟨_, rfl, _, _, _, [], _, [], hW', trodAll_mk1 (shut_bool Tryz.underlying4 _), (trodAll_cons_mk (Below.trod laidOut (by kernel_rfl) (of_decide_eq_true (by kernel_rfl)) k0 bel lt0) (trodAll_cons_mk (Below.trod laidOut (by kernel_rfl) (of_decide_eq_true (by kernel_rfl)) k1 bel lt1) trodAll_mk0)), rfl, bel.frame _, fun h => by cases h⟩

theorem over : Rows.CountSavesUptoSaid :=
  OpenClaim.holds_of_cond 3 Tryz.f3 rfl rfl rfl rfl rfl rfl rfl ⟨rfl, rfl, rfl, rfl, rfl⟩ rfl rfl rfl rfl rfl (by kernel_rfl) Tryz.func3 (by kernel_rfl)
    (of_decide_eq_true (by kernel_rfl)) (by unfold Func.isWrapper; first | (rw [if_pos (by decide +kernel)]; kernel_rfl) | (rw [if_neg (by decide +kernel)]; exact ⟨rfl, rfl⟩))
    (fun os started H enc _ F => lifted os started H enc F)
end Go.Proofs.YtdojhkgnnbdfkaaGreat.countSaves
namespace Go.Proofs.YtdojhkgnnbdfkaaGreat
theorem countsavesupto_holds : Rows.CountSavesUptoSaid := countSaves.over
#print axioms countsavesupto_holds
end Go.Proofs.YtdojhkgnnbdfkaaGreat
