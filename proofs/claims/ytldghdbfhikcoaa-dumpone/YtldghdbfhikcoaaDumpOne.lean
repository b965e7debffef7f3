/- For every slice of bytes the law DumpOne returns true, and the slice reads as it did. No conditions. -/
import Derived.Test.YtldghdbfhikcoaaAl18
namespace Go.Proofs.Ytldghdbfhikcoaa.dumpOne
open Go.ChangeShapes Go.WideShapes Go.ChangeAt Go.RowKit Go.Lib Go.Maps
set_option linter.unusedVariables false
set_option linter.unusedSimpArgs false

set_option maxHeartbeats 8000000 in
set_option maxRecDepth 100000 in
theorem walk (ao : Option Addr) (L cap : Nat) (xs : List Nat) (w : World) (hB : BArg w ao L cap xs) (hc : L ≤ 140737488351232) :
    Calls Try.prog 4 #[.slice ao L cap] w fun e w' => e = .returned (.bool true) ∧ Fr [] w w' := by
  have HL : Hid (L = xs.length) := hB.len
  by_cases hbig : 1048576 < L
  · have hbd : decide (1048576 < L) = true := by simpa using hbig
    go_enter Try.func4, Try.ntmps4
    go_wp2_with fail
    refine (alive18_any _).mono ?_
    rintro e w1 ⟨rfl, hF1⟩
    go_wp2_with fail
    refine (beyond_any w1.heap.size L _ (by omega) (by simp)).mono ?_
    rintro e w2 ⟨rfl, rfl⟩
    rw [hbd]
    have hG := hF1.then (Fr.alloc [] w1 (.cells #[.int .i64 (L : Int)] 3))
    go_wp2_with fail
    refine (alive18_any _).mono ?_
    rintro e w3 ⟨rfl, hF3⟩
    go_wp2
    go_ret
    exact ⟨rfl, hG.then hF3⟩
  · have hbd : decide (1048576 < L) = false := by simpa using hbig
    go_enter Try.func4, Try.ntmps4
    go_wp2_with fail
    refine (alive18_any _).mono ?_
    rintro e w1 ⟨rfl, hF1⟩
    go_wp2_with fail
    refine (beyond_any w1.heap.size L _ (by omega) (by simp)).mono ?_
    rintro e w2 ⟨rfl, rfl⟩
    rw [hbd]
    have hG := hF1.then (Fr.alloc [] w1 (.cells #[.int .i64 (L : Int)] 3))
    obtain ⟨w2, HW2⟩ : ∃ w2, Hid (w1.alloc (.cells #[.int .i64 (L : Int)] 3) = w2) := ⟨_, rfl⟩
    rw [HW2.out] at hG ⊢
    have HB : Hid (∀ W, Fr [] w W → BArg W ao L cap xs) := fun W hf => hB.keep hf
    have HLow : Hid (∀ y ∈ xs, y < 256) := hB.low
    have HG : Hid (Fr [] w w2) := hG
    have HC : Hid (Calls _ _ _ _ _) := ddecode_any ao L cap xs w2 (hB.keep hG) HL.out (by rw [← HL.out]; omega)
    clear hF1 HW2 hG hB
    go_wp2_with fail
    refine Calls.mono HC.out ?_
    rintro e w3 (⟨c, hT, hc, rfl, hF⟩ | ⟨m, bo, Lb, cb, ho, Lh, ch, bs, hs, h1, hok, hLb, hLh, rfl, hI, hH, hF⟩)
    · have hcb : ((c : Int) != 0) = true := by rw [bne_iff_ne]; omega
      have HG3 : Hid (Fr [] w w3) := HG.out.then hF
      clear hT hc hF HC
      go_wp2
      go_ret
      exact ⟨rfl, HG3.out.then (Fr.alloc [] _ _)⟩
    · obtain ⟨he, _⟩ := dS_inv HLow.out h1
      rw [List.append_nil] at he
      simp only at he
      have HE : Hid (xs = encD m bs (hs.map Hd.kv)) := he
      have HOk : Hid (OkS m bs (hs.map Hd.kv)) := hok
      obtain ⟨w4, HW4⟩ : ∃ w4, Hid (w3.alloc (.cells #[.int .i64 m, .slice bo Lb cb, .slice ho Lh ch] 25) = w4) := ⟨_, rfl⟩
      have hF4 : Fr [] w3 w4 := by rw [← HW4.out]; exact Fr.alloc [] _ _
      have hb4 : SB w4 w3.heap.size (.int .i64 m) (.slice bo Lb cb) (.slice ho Lh ch) := ⟨by rw [← HW4.out]; exact heap_alloc_new _ _⟩
      have HSB : Hid (∀ W, Fr [] w4 W → SB W w3.heap.size (.int .i64 m) (.slice bo Lb cb) (.slice ho Lh ch)) := fun W hf => hb4.keep hf (by simp)
      have HI : Hid (∀ W, Fr [] w4 W → IRs W bo bs) := fun W hf => (hI.irs hLb).keep (hF4.then hf)
      have HH : Hid (∀ W, Fr [] w4 W → HRs W ho hs) := fun W hf => (hH.rs ((LoOk_iff hs).2 hok.lo) (by omega)).keep (hF4.then hf)
      have HLI : Hid (Lb = bs.length) := hI.len
      have HLH : Hid (Lh = hs.length) := hH.len
      have HG4 : Hid (Fr [] w w4) := HG.out.then (hF.then hF4)
      have c0 := hb4.c0
      have c1 := hb4.c1
      have c2 := hb4.c2
      have HC5 : Hid (Calls _ _ _ _ _) := dencode_ok m bo ho Lb cb Lh ch L bs hs xs w4 (HI.out _ (Fr.refl _ _)) HLI.out (HH.out _ (Fr.refl _ _)) HLH.out hok he HL.out (by rw [← HL.out]; omega)
      clear hI hH hF hF4 hb4 h1 he hok HC
      go_upto_region 4 with fail
      rw [HW4.out]
      go_wp2_with fail
      refine Calls.mono HC5.out ?_
      rintro e w5 ⟨k5, rfl, hk5, hrow5, hF5⟩
      obtain ⟨d0, d1, d2⟩ : _ ∧ _ ∧ _ := ⟨(HSB.out _ hF5).c0, (HSB.out _ hF5).c1, (HSB.out _ hF5).c2⟩
      have HC6 : Hid (Calls _ _ _ _ _) := dcheck_any m bo ho Lb cb Lh ch 0 bs hs w5 (HI.out _ hF5) HLI.out (HH.out _ hF5) HLH.out (Or.inl ⟨rfl, HOk.out⟩)
      have HF5 : Hid (Fr [] w4 w5) := hF5
      have HRow : Hid (w5.heap[k5]? = some (.cells (bts xs).toArray 5 (0, 0))) := hrow5
      clear hk5 hrow5 hF5 HC5 c0 c1 c2
      go_wp2_with fail
      refine Calls.mono HC6.out ?_
      rintro e w6 ⟨rfl, hF6⟩
      have HG6 : Hid (Fr [] w w6) := HG4.out.then (HF5.out.then hF6)
      have HC7 : Hid (Calls _ _ _ _ _) := same_yes ao (some ⟨k5, 0, none⟩) L L cap L xs xs w6 ((HB.out _ HG6.out).rs (by omega)) (Rs.of_row (hF6.keep HRow.out (by simp)) (by rw [← HL.out]; omega)) HL.out HL.out rfl
      clear hF6 HC6
      go_wp2_with fail
      refine Calls.mono HC7.out ?_
      rintro e w8 ⟨rfl, q, rfl⟩
      go_wp2
      go_ret
      exact ⟨rfl, HG6.out.then (Fr.drewN [] _ _)⟩

theorem own : ownKnob Try.prog.godebug = none := by kernel_rfl
theorem laidOut : laidOutB Try.prog = true := by kernel_rfl
set_option maxHeartbeats 4000000 in
set_option maxRecDepth 100000 in
theorem lifted (os : Os) (started : os.Started) (H : Type) (enc : TypeId × Value → H) :
    ReturnsInHanded {} Try.checked os 4 .any (Rows.dumpOneSpec.pre6 enc Try.prog Try.f4 Rows.dumpOneRow.domain false) (Rows.dumpOneSpec.post enc Try.prog Try.f4 false true false false) := by
  refine returnsInHanded_of_change_sized (C := Try.checked) own started (by kernel_rfl) Try.func4
    (ChangeSpec.witness6 (enc := enc) (C := Try.checked) false ⟨#[], #[.slice none 0 0], []⟩ 8 (by kernel_rfl) (by kernel_rfl) (by kernel_rfl) (by kernel_rfl)) ?_
  intro W base args ds gs before hval0 hW hcnd hsz0 _
  have hval : ∀ (j : Nat) t v, Try.f4.params[j]? = some t → args[j]? = some v → Value.okWide Try.prog W .any base t v := hval0
  have hsz : (DataW.weightsEach Try.prog (Try.f4.params.toList ++ Rows.dumpOneSpec.plain.varTypes Try.prog) (ds ++ gs)).all (· ≤ reachBytes) = true := hsz0
  have hW' := hW
  obtain ⟨p, q, hA0, hV, rfl, hfz, hnd⟩ := hW
  have hA : DataW.TrodAll enc Try.prog W 0 (fun _ => true) true Try.f4.params.toList args.toList ds p := hA0
  rw [Try.params4] at hA hval hsz
  obtain ⟨v0, vs0, d0, ds0, p0, q0, hargs, rfl, rfl, h0, r0⟩ := trodAll_cons hA
  obtain ⟨rfl, rfl, rfl⟩ := trodAll_nil r0
  obtain rfl : args = #[v0] := by cases args; simp_all
  obtain ⟨rfl, rfl⟩ := trodVars_none hV
  obtain ⟨a0, len0, cap0, rfl⟩ := okWide_slice Try.undBs (hval 0 30 v0 rfl rfl)
  have k0 := h0
  have lt0 : ∀ x ∈ p0, x.block < W.heap.size := by obtain ⟨m, hm⟩ := k0; exact DataW.trod_lt m _ _ _ hm
  obtain ⟨z0, w0⟩ : ∃ zs, IsRow .u8 W a0 len0 cap0 zs := by
    obtain ⟨fuel, hf⟩ := h0
    rcases open_ints Try.undBs Try.underlying5 (by kernel_rfl) hf with ⟨hcs, _⟩ | ⟨x, l, c, zs, hcs, _, hl, hm, hz, _, hcell, hwz⟩
    · simp [Value.cells] at hcs
      obtain ⟨rfl, rfl, rfl⟩ := hcs
      exact ⟨[], .inl ⟨rfl, rfl, rfl, rfl⟩⟩
    · simp [Value.cells] at hcs
      obtain ⟨rfl, rfl, rfl⟩ := hcs
      exact ⟨zs, .inr ⟨_, rfl, hl, hm, by simpa using hz, hcell, hwz⟩⟩
  have hc0 : len0 ≤ 140737488351232 := by
    obtain ⟨fuel, hf⟩ := k0
    rcases open_ints Try.undBs Try.underlying5 (by kernel_rfl) hf with ⟨hcs, _⟩ | ⟨x, l, c, zs, hcs, _, hl, hm, hz, hx, hcell, hwz⟩
    · simp [Value.cells] at hcs
      omega
    · simp [Value.cells] at hcs
      obtain ⟨rfl, rfl, rfl⟩ := hcs
      have hd := congrArg Prod.fst hx
      simp only at hd
      have := sized_slice (j := 0) hsz rfl (by rw [hd]; rfl) Try.undBs
      rw [show Try.prog.bytesOf 5 = 1 from by kernel_rfl] at this
      simp [lits, reachBytes] at this hz
      omega
  obtain ⟨xs0, hB0⟩ := BArg.of_row w0
  clear hA0 hval0
  refine (walk a0 len0 cap0 xs0 W hB0 hc0).mono fun e W' ⟨he, hf⟩ => ?_
  subst he
  have bel : Below W.heap.size W W' := hf.below (Nat.le_refl _) (by simp)
  exact ⟨_, rfl, _, _, _, [], _, [], hW', trodAll_mk1 (shut_bool Try.underlying4 _), (trodAll_cons_mk (Below.trod laidOut (by kernel_rfl) (of_decide_eq_true (by kernel_rfl)) k0 bel lt0) trodAll_mk0), rfl, bel.frame _, fun h => by cases h⟩

theorem over : Rows.dumpOneRow.holds Try.pinned (OpenSpec.ofChange Rows.dumpOneSpec) :=
  OpenClaim.holds_of_wide 4 Try.f4 rfl rfl rfl rfl rfl rfl rfl ⟨rfl, rfl, rfl, rfl, rfl⟩ rfl rfl rfl rfl rfl (by kernel_rfl) Try.func4 (by kernel_rfl)
    (of_decide_eq_true (by kernel_rfl)) (by unfold Func.isWrapper; first | (rw [if_pos (by decide +kernel)]; kernel_rfl) | (rw [if_neg (by decide +kernel)]; exact ⟨rfl, rfl⟩))
    (fun os started H enc _ => lifted os started H enc)
end Go.Proofs.Ytldghdbfhikcoaa.dumpOne
namespace Go.Proofs.Ytldghdbfhikcoaa
theorem dumpone_holds : Rows.DumpOneSaid := dumpOne.over
#print axioms dumpone_holds
end Go.Proofs.Ytldghdbfhikcoaa
