/- For every row of bytes, every place and every 32 bits the law SumBursts returns true, and all read as they did. No conditions. -/
import Derived.Test.YtdnafiflgnehjaaPut
import Derived.SizedLaws
namespace Go.Proofs.Ytdnafiflgnehjaa.sumBursts
open Go.ChangeShapes Go.WideShapes Go.ChangeAt Go.RowKit Go.Lib
set_option linter.unusedVariables false

theorem own_put {w : World} {e : TypeId} {g n cap : Nat} {vs : List Value} (h : w.ownsRow 0 e 1 (.slice (some ⟨g, 0, none⟩) n cap) n vs) (j : Nat) (x : Value) :
    (w.setCell ⟨g, j, none⟩ x).ownsRow 0 e 1 (.slice (some ⟨g, 0, none⟩) n cap) n (vs.set j x) := by
  have hl := h.1
  rcases h.2 with ⟨hh, _⟩ | ⟨g', cap', cur, hh, hb, hg, hnc, hcm, hcs, ht⟩
  · cases hh
  · cases hh
    refine ⟨by rw [List.length_set]; exact hl, .inr ⟨g, cap, cur.setIfInBounds j x, rfl, hb, row_setCell x hg, hnc, hcm, by simpa using hcs, ?_⟩⟩
    rw [Array.toList_setIfInBounds, List.take_set, ht]
theorem bts_set (xs : List Nat) (j x : Nat) : bts (xs.set j x) = (bts xs).set j (.int .u8 (x : Int)) := by simp [bts, List.map_set]
theorem own_cell {w : World} {g n cap : Nat} {xs : List Nat} (h : w.ownsRow 0 5 1 (.slice (some ⟨g, 0, none⟩) n cap) n (bts xs)) (j : Nat) (hj : j < n) : w.cell? ⟨g, j, none⟩ = some (.int .u8 ((xs.getD j 0 : Nat) : Int)) := by
  have hn : n = xs.length := by have := h.1; rw [bts_length] at this; omega
  rw [h.cellAt j (by omega)]
  exact bts_get xs j (by omega)
theorem own_free {w : World} {e : TypeId} {g n cap : Nat} {vs : List Value} (h : w.ownsRow 0 e 1 (.slice (some ⟨g, 0, none⟩) n cap) n vs) (j : Nat) : w.frozen? ⟨g, j, none⟩ = false := by
  obtain ⟨cur, hg, _⟩ := own_lit h
  simp [World.frozen?, hg]

set_option maxHeartbeats 4000000 in
set_option maxRecDepth 100000 in
theorem walk_none (ao : Option Addr) (L cap : Nat) (xs : List Nat) (p t : Nat) (w : World) (hA : BArg w ao L cap xs) (hn : 1048576 < L ∨ L = 0 ∨ t = 0) :
    Calls Try.prog 6 #[.slice ao L cap, .int .u32 (p : Int), .int .u32 (t : Int)] w fun e w' => e = .returned (.bool true) ∧ Fr [] w w' := by
  have hm := hA.most
  by_cases hL : 1048576 < L
  · have E : decide (1048576 < L) = true := by simp [hL]
    go_enter Try.func6, Try.ntmps6
    go_wp2_with fail
    refine (alive_any w).mono ?_
    rintro e w1 ⟨rfl, hF1⟩
    go_wp2_with fail
    refine (beyond_any _ L _ hm (by simp [World.cell?_alloc_at])).mono ?_
    rintro e w2 ⟨rfl, rfl⟩
    rw [E]
    go_wp2_with fail
    refine (alive_any _).mono ?_
    rintro e w3 ⟨rfl, hF3⟩
    have hF := (hF1.then (Fr.alloc [] w1 _)).then hF3
    go_wp2_with fail
    go_ret
    exact ⟨rfl, hF⟩
  · have E : decide (1048576 < L) = false := by simp [hL]
    by_cases h0 : L = 0
    · have h0b : ((L : Int) == 0) = true := by rw [beq_iff_eq]; omega
      clear h0
      go_enter Try.func6, Try.ntmps6
      go_wp2_with fail
      refine (alive_any w).mono ?_
      rintro e w1 ⟨rfl, hF1⟩
      go_wp2_with fail
      refine (beyond_any _ L _ hm (by simp [World.cell?_alloc_at])).mono ?_
      rintro e w2 ⟨rfl, rfl⟩
      rw [E]
      go_wp2_with fail
      refine (alive_any _).mono ?_
      rintro e w3 ⟨rfl, hF3⟩
      have hF := (hF1.then (Fr.alloc [] w1 _)).then hF3
      go_wp2_with fail
      go_ret
      exact ⟨rfl, hF⟩
    · have h0b : ((L : Int) == 0) = false := by rw [beq_eq_false_iff_ne]; omega
      have h1b : ((t : Int) == 0) = true := by rw [beq_iff_eq]; omega
      clear h0
      go_enter Try.func6, Try.ntmps6
      go_wp2_with fail
      refine (alive_any w).mono ?_
      rintro e w1 ⟨rfl, hF1⟩
      go_wp2_with fail
      refine (beyond_any _ L _ hm (by simp [World.cell?_alloc_at])).mono ?_
      rintro e w2 ⟨rfl, rfl⟩
      rw [E]
      go_wp2_with fail
      refine (alive_any _).mono ?_
      rintro e w3 ⟨rfl, hF3⟩
      have hF := (hF1.then (Fr.alloc [] w1 _)).then hF3
      go_wp2_with fail
      go_ret
      exact ⟨rfl, hF⟩

set_option maxHeartbeats 4000000 in
set_option maxRecDepth 100000 in
theorem walk_some (ao : Option Addr) (L cap : Nat) (xs : List Nat) (p : Nat) (hp : p < 4294967296) (t : Nat) (ht : t < 4294967296) (w : World) (hA : BArg w ao L cap xs) (hL : L ≤ 1048576) (hL0 : 0 < L) (ht0 : 0 < t) :
    Calls Try.prog 6 #[.slice ao L cap, .int .u32 (p : Int), .int .u32 (t : Int)] w fun e w' => e = .returned (.bool true) ∧ Fr [] w w' := by
  have hm := hA.most
  have E : decide (1048576 < L) = false := by simp; omega
  have h0b : ((L : Int) == 0) = false := by rw [beq_eq_false_iff_ne]; omega
  have h1b : ((t : Int) == 0) = false := by rw [beq_eq_false_iff_ne]; omega
  obtain ⟨F, HF⟩ : ∃ F, Hid (F = p % (8 * L)) := ⟨_, rfl⟩
  have hF8 : F < 8 * L := by rw [HF.out]; exact Nat.mod_lt _ (by omega)
  have hrem : (p : Int) % (8 * (L : Int)) = (F : Int) := by rw [HF.out]; simp
  have HL : Hid (L = xs.length) := hA.len
  go_enter Try.func6, Try.ntmps6
  go_wp2_with fail
  refine (alive_any w).mono ?_
  rintro e w1 ⟨rfl, hF1⟩
  go_wp2_with fail
  refine (beyond_any _ L _ hm (by simp [World.cell?_alloc_at])).mono ?_
  rintro e w2 ⟨rfl, rfl⟩
  rw [E]
  have hF2 := hF1.then (Fr.alloc [] w1 (Obj.cells #[Value.int IntKind.i64 (L : Int)] 3))
  obtain ⟨w2, hw2⟩ : ∃ w2, w2 = w1.alloc (Obj.cells #[Value.int IntKind.i64 (L : Int)] 3) := ⟨_, rfl⟩
  rw [← hw2] at hF2 ⊢
  clear hw2 hF1
  have hA2 := hA.keep hF2
  go_wp2_with (at_builtin; refine wpList_appB w2 rfl (.tmp 30) (.tmp 31) rfl (.slice none 0 0) 0 [] rfl (own_none w2) ao L cap xs rfl hA2 (by omega) ?_)
  intro bo1 n1 cap1 w3 hn1 hO1 hg1 hM1
  obtain rfl : L = n1 := by omega
  replace hO1 : w3.ownsRow 0 5 1 (.slice bo1 L cap1) L (bts xs) := by simpa using hO1
  obtain ⟨g, rfl⟩ : ∃ g, bo1 = some ⟨g, 0, none⟩ := by
    rcases hO1.2 with ⟨hh, h0⟩ | ⟨g, _, _, hh, _⟩
    · omega
    · cases hh; exact ⟨g, rfl⟩
  have hg : w2.heap.size ≤ g := hM1.lt (Nat.le_refl _) (by intro k hk; simp [Value.ownBlock] at hk) g rfl
  have hF3 : Fr [] w2 w3 := Fr.grown (S := []) hg1 (by intro k hk; simp [Value.ownBlock] at hk)
  have HG : Hid (w2.heap.size ≤ g) := hg
  clear hn1 hg1 hM1 hg
  go_wp2_with fail
  rw [hrem]
  clear hrem E h0b h1b
  have hlow := hA.low
  go_loopw [9, 10] (fun ss ii wr => ∃ (i m : Nat) (b : Bool) (ys : List Nat), ss = .bool b ∧ ii = .int .i64 i ∧ i ≤ 32 ∧ Hid (b = decide (m ≠ 0)) ∧ Hid (Turned xs ys F i m) ∧ wr.ownsRow 0 5 1 (.slice (some ⟨g, 0, none⟩) L cap1) L (bts ys) ∧ Fr [] w2 wr) (fun _ ii _ => 32 - (intOf ii).toNat)
  case atStart => exact ⟨0, 0, false, xs, rfl, rfl, by omega, rfl, Turned.start xs F hlow, hO1, hF3⟩
  case round =>
    clear hO1 hF3
    obtain ⟨i, m, b, ys, rfl, rfl, hi32, HB, HT, hO, hFr⟩ := hrel
    by_cases hi : i < 32
    · obtain ⟨K, HK⟩ : ∃ K, Hid (K = F + i) := ⟨_, rfl⟩
      have hk : (F : Int) + (i : Int) = (K : Int) := by rw [HK.out]; omega
      have hKb : K < 8 * L + 32 := by have := HK.out; omega
      have hand := and_one (t / 2 ^ i) (Nat.lt_of_le_of_lt (Nat.div_le_self _ _) ht)
      have hdiv : (t : Int) / 2 ^ i = ((t / 2 ^ i : Nat) : Int) := by simp
      obtain ⟨T, HTT⟩ : ∃ T, Hid (T = t / 2 ^ i) := ⟨_, rfl⟩
      rw [← HTT.out] at hand hdiv
      by_cases hb : T % 2 = 1
      · rw [hb] at hand
        clear hb
        by_cases hK : K < 8 * L
        · have hK' : (K : Int) < 8 * (L : Int) := by omega
          obtain ⟨J, HJ⟩ : ∃ J, Hid (J = K / 8) := ⟨_, rfl⟩
          obtain ⟨R, HR⟩ : ∃ R, Hid (R = K % 8) := ⟨_, rfl⟩
          have hq : (K : Int) / 8 = (J : Int) := by have := HJ.out; omega
          have hr : (K : Int) % 8 = (R : Int) := by have := HR.out; omega
          have hJ : J < L := by have := HJ.out; omega
          have hR : R < 8 := by have := HR.out; omega
          have hcell := own_cell hO J hJ
          have hfree := own_free hO J
          obtain ⟨x, HX⟩ : ∃ x, Hid (x = ys.getD J 0) := ⟨_, rfl⟩
          rw [← HX.out] at hcell
          have hx : x < 256 := by rw [HX.out]; exact getD_mem_lt ys J (by rw [HT.out.len, ← HL.out]; exact hJ) HT.out.low
          obtain ⟨Y, HY⟩ : ∃ Y, Hid (Y = x ^^^ 2 ^ R) := ⟨_, rfl⟩
          have hxor : bits .xor .u8 (x : Int) (2 ^ R % 256) = (Y : Int) := by
            have h2 : 2 ^ R < 256 := Nat.pow_lt_pow_right (a := 2) (n := 8) (by omega) hR
            have := u8_xor_nat x (2 ^ R) hx h2
            rw [HY.out, ← this, show ((2 : Int) ^ R % 256) = ((2 ^ R : Nat) : Int) from by rw [Int.emod_eq_of_lt (Int.le_of_lt (Int.pow_pos (by omega))) (by exact_mod_cast h2)]; simp]
          have HT' : Hid (Turned xs (ys.set J Y) F (i + 1) (m + 2 ^ i)) := by
            show Turned _ _ _ _ _
            have := HT.out.turn (by rw [← HL.out, ← HK.out]; exact hK)
            rw [← HK.out, ← HJ.out, ← HR.out, ← HX.out, ← HY.out] at this
            exact this
          have HB' : Hid (true = decide (m + 2 ^ i ≠ 0)) := by
            show _ = _
            have := Nat.two_pow_pos i
            rw [eq_comm, decide_eq_true_eq]
            omega
          have hO' := own_put hO J (.int .u8 (Y : Int))
          rw [← bts_set] at hO'
          have hfr : Fr [g] wr (wr.setCell ⟨g, J, none⟩ (.int .u8 (Y : Int))) := Fr.set _ _ _ (by simp)
          have hFr' := hFr.on hfr (by intro z hz; have := HG.out; simp at hz; omega)
          have hdr := Fr.drew [] (wr.setCell ⟨g, J, none⟩ (.int .u8 (Y : Int)))
          have hO2 := owns_keep hO' hdr (by simp)
          have hFr2 := hFr'.then hdr
          clear hO hFr hO' hfr hFr' hdr
          go_wp2_with fail
          go_region
          go_wp2_with fail
          go_roundw
          case rel => exact ⟨i + 1, m + 2 ^ i, true, ys.set J Y, rfl, by simp, by omega, HB', HT', hO2, hFr2⟩
          case measure => simp [intOf]; omega
        · have hK' : 8 * (L : Int) ≤ (K : Int) := by omega
          have HT' : Hid (Turned xs ys F (i + 1) m) := HT.out.stay
          go_wp2_with fail
          go_roundw
          case rel => exact ⟨i + 1, m, b, ys, rfl, by simp, by omega, HB, HT', hO, hFr⟩
          case measure => simp [intOf]; omega
      · rw [show T % 2 = 0 by omega] at hand
        have HT' : Hid (Turned xs ys F (i + 1) m) := HT.out.stay
        clear hb
        go_wp2_with fail
        go_roundw
        case rel => exact ⟨i + 1, m, b, ys, rfl, by simp, by omega, HB, HT', hO, hFr⟩
        case measure => simp [intOf]; omega
    · obtain rfl : i = 32 := by omega
      have hC := own_arg hO HT.out.low (by omega)
      have hA3 := hA2.keep hFr
      obtain ⟨m0, HM0⟩ : ∃ m0, Hid (more 0 xs = m0) := ⟨_, rfl⟩
      obtain ⟨m1, HM1⟩ : ∃ m1, Hid (more 0 ys = m1) := ⟨_, rfl⟩
      have hbe : ((m1 : Int) != m0) = b := by
        rw [HB.out]
        by_cases hm0 : m = 0
        · have e := HT.out
          rw [hm0] at e
          have e2 : m1 = m0 := by rw [← HM1.out, ← HM0.out, e.more_eq]
          rw [e2, hm0]
          simp
        · have e := HT.out.more_ne hlow hm0
          rw [HM1.out, HM0.out] at e
          have : ((m1 : Int) != m0) = true := by rw [bne_iff_ne]; omega
          rw [this]
          simp [hm0]
      clear hO
      go_wp2_with fail
      refine (crc_any m1 _ L cap1 ys wr hC HM1.out).mono ?_
      rintro e w5 ⟨rfl, hF5⟩
      go_wp2_with fail
      refine (crc_any m0 ao L cap xs w5 (hA3.keep hF5) HM0.out).mono ?_
      rintro e w6 ⟨rfl, hF6⟩
      have hFe := hF2.then ((hFr.then hF5).then hF6)
      go_wp2_with fail
      go_ret
      exact ⟨rfl, hFe⟩

theorem walk (ao : Option Addr) (L cap : Nat) (xs : List Nat) (p : Nat) (hp : p < 4294967296) (t : Nat) (ht : t < 4294967296) (w : World) (hA : BArg w ao L cap xs) (_ : L ≤ 140737488351232) :
    Calls Try.prog 6 #[.slice ao L cap, .int .u32 (p : Int), .int .u32 (t : Int)] w fun e w' => e = .returned (.bool true) ∧ Fr [] w w' := by
  by_cases h : 1048576 < L ∨ L = 0 ∨ t = 0
  · exact walk_none ao L cap xs p t w hA h
  · exact walk_some ao L cap xs p hp t ht w hA (by omega) (by omega) (by omega)

theorem own : ownKnob Try.prog.godebug = none := by kernel_rfl
theorem laidOut : laidOutB Try.prog = true := by kernel_rfl
set_option maxRecDepth 100000 in
theorem lifted (os : Os) (started : os.Started) (H : Type) (enc : TypeId × Value → H) :
    ReturnsInHanded {} Try.checked os 6 .any (Rows.sumBurstsSpec.pre6 enc Try.prog Try.f6 Rows.sumBurstsRow.domain false) (Rows.sumBurstsSpec.post enc Try.prog Try.f6 false true false false) := by
  refine returnsInHanded_of_change_sized (C := Try.checked) own started (by kernel_rfl) Try.func6
    (ChangeSpec.witness6 (enc := enc) (C := Try.checked) false ⟨#[], #[.slice none 0 0, .int .u32 0, .int .u32 0], []⟩ 8 (by kernel_rfl) (by kernel_rfl) (by kernel_rfl) (by kernel_rfl)) ?_
  intro W base args ds gs before hval0 hW hcnd hsz0 _
  have hval : ∀ (j : Nat) t v, Try.f6.params[j]? = some t → args[j]? = some v → Value.okWide Try.prog W .any base t v := hval0
  have hsz : (DataW.weightsEach Try.prog (Try.f6.params.toList ++ Rows.sumBurstsSpec.plain.varTypes Try.prog) (ds ++ gs)).all (· ≤ reachBytes) = true := hsz0
  have hW' := hW
  obtain ⟨p, q, hA0, hV, rfl, hfz, hnd⟩ := hW
  have hA : DataW.TrodAll enc Try.prog W 0 (fun _ => true) true Try.f6.params.toList args.toList ds p := hA0
  rw [Try.params6] at hA hval hsz
  obtain ⟨v0, vs0, d0, ds0, p0, q0, hargs, rfl, rfl, h0, r0⟩ := trodAll_cons hA
  obtain ⟨v1, vs1, d1, ds1, p1, q1, rfl, rfl, rfl, h1, r1⟩ := trodAll_cons r0
  obtain ⟨v2, vs2, d2, ds2, p2, q2, rfl, rfl, rfl, h2, r2⟩ := trodAll_cons r1
  obtain ⟨rfl, rfl, rfl⟩ := trodAll_nil r2
  obtain rfl : args = #[v0, v1, v2] := by cases args; simp_all
  obtain ⟨rfl, rfl⟩ := trodVars_none hV
  obtain ⟨a0, len0, cap0, rfl⟩ := okWide_slice Try.undBs (hval 0 22 v0 rfl rfl)
  have k0 := h0
  have lt0 : ∀ x ∈ p0, x.block < W.heap.size := by obtain ⟨m, hm⟩ := k0; exact DataW.trod_lt m _ _ _ hm
  obtain ⟨z0, w0⟩ : ∃ zs, IsRow .u8 W a0 len0 cap0 zs := by
    obtain ⟨fuel, hf⟩ := h0
    rcases open_ints Try.undBs Try.underlying5 (by kernel_rfl) hf with ⟨hcs, _⟩ | ⟨x, l, c, zs, hcs, _, hl, hm, hz, _, hcell, hwz⟩
    · simp [Value.cells] at hcs
      obtain ⟨rfl, rfl, rfl⟩ := hcs
      exact ⟨[], .inl ⟨rfl, rfl, rfl, rfl⟩⟩
    · simp [Value.cells] at hcs
      obtain ⟨rfl, rfl, rfl⟩ := hcs
      exact ⟨zs, .inr ⟨_, rfl, hl, hm, by simpa using hz, hcell, hwz⟩⟩
  have hc0 : len0 ≤ 140737488351232 := by
    obtain ⟨fuel, hf⟩ := k0
    rcases open_ints Try.undBs Try.underlying5 (by kernel_rfl) hf with ⟨hcs, _⟩ | ⟨x, l, c, zs, hcs, _, hl, hm, hz, hx, hcell, hwz⟩
    · simp [Value.cells] at hcs
      omega
    · simp [Value.cells] at hcs
      obtain ⟨rfl, rfl, rfl⟩ := hcs
      have hd := congrArg Prod.fst hx
      simp only at hd
      have := sized_slice (j := 0) hsz rfl (by rw [hd]; rfl) Try.undBs
      rw [show Try.prog.bytesOf 5 = 1 from by kernel_rfl] at this
      simp [lits, reachBytes] at this hz
      omega
  obtain ⟨xs0, hB0⟩ := BArg.of_row w0
  obtain ⟨n1, rfl, rfl, rfl, w1⟩ := open_int Try.underlying23 (hval 1 23 v1 rfl rfl) h1
  have b1 := bounds_u32 w1
  obtain ⟨m1, rfl⟩ : ∃ m : Nat, n1 = (m : Int) := ⟨n1.toNat, by omega⟩
  obtain ⟨n2, rfl, rfl, rfl, w2⟩ := open_int Try.underlying23 (hval 2 23 v2 rfl rfl) h2
  have b2 := bounds_u32 w2
  obtain ⟨m2, rfl⟩ : ∃ m : Nat, n2 = (m : Int) := ⟨n2.toNat, by omega⟩
  clear hA0 hval0
  refine (walk a0 len0 cap0 xs0 m1 (by omega) m2 (by omega) W hB0 hc0).mono fun e W' ⟨he, hf⟩ => ?_
  subst he
  have bel : Below W.heap.size W W' := hf.below (Nat.le_refl _) (by simp)
  exact ⟨_, rfl, _, _, _, [], _, [], hW', trodAll_mk1 (shut_bool Try.underlying4 _), (trodAll_cons_mk (Below.trod laidOut (by kernel_rfl) (of_decide_eq_true (by kernel_rfl)) k0 bel lt0) (trodAll_cons_mk (shut_int Try.underlying23 w1) (trodAll_cons_mk (shut_int Try.underlying23 w2) trodAll_mk0))), rfl, bel.frame _, fun h => by cases h⟩

theorem over : Rows.sumBurstsRow.holds Try.pinned (OpenSpec.ofChange Rows.sumBurstsSpec) :=
  OpenClaim.holds_of_wide 6 Try.f6 rfl rfl rfl rfl rfl rfl rfl ⟨rfl, rfl, rfl, rfl, rfl⟩ rfl rfl rfl rfl rfl (by kernel_rfl) Try.func6 (by kernel_rfl)
    (of_decide_eq_true (by kernel_rfl)) (by unfold Func.isWrapper; first | (rw [if_pos (by decide +kernel)]; kernel_rfl) | (rw [if_neg (by decide +kernel)]; exact ⟨rfl, rfl⟩))
    (fun os started H enc _ => lifted os started H enc)
end Go.Proofs.Ytdnafiflgnehjaa.sumBursts
namespace Go.Proofs.Ytdnafiflgnehjaa
theorem sumbursts_holds : Rows.SumBurstsSaid := sumBursts.over
#print axioms sumbursts_holds
end Go.Proofs.Ytdnafiflgnehjaa
