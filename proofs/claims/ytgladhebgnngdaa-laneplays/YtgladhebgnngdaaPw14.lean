/- The walk of the law LanePlays. Conditions: a number, a configuration and a script that came in. -/
import Derived.Test.YtgladhebgnngdaaAk14
import Derived.Test.YtgladhebgnngdaaAt14
import Derived.Test.YtgladhebgnngdaaBd14
namespace Go.Proofs.Ytgladhebgnngdaa
open Go.ChangeShapes Go.WideShapes Go.ChangeAt Go.RowKit Go.Lib Go.Maps
set_option linter.unusedVariables false
set_option linter.unusedSimpArgs false

theorem asked14_any {p r : Option Addr} {c : Lc} {st : Option (Option Hl)} {O1 O2 : List Nat} (o : Oq) (w0 w : World) (P : Pp w0 w p r c st st O1 O2) (hT : ∀ W, Fr [] w0 W → o.at W) (hM : o.M ≤ 1048576) :
    Calls Try.prog 9 #[.pointer p, .pointer r, .agg #[.int .u8 (o.kd : Int), .int .i64 o.nn, .slice o.wo o.M o.mc]] w fun e w' => AkT w0 w w' p r c O1 O2 e := by
  by_cases h : o.kd = 1
  · have := asked14_take (c := c) o.nn o.wo o.M o.mc o.ws w0 w P (fun W hf => (hT W hf).tx) hM
    rw [h]
    exact this
  · exact asked14_look o.kd o.nn o.wo o.M o.mc w0 w P h (hT w0 (Fr.refl _ _)).kd
/-- Two pairs that share no block. -/
structure Pz (w1 w : World) (p r z : Option Addr) (c : Lc) (t tz : Option (Option Hl)) (O1 O2 Z1 Z2 : List Nat) : Prop where
  a : Pp w1 w p r c t t O1 O2
  b : Pp w1 w z none c tz tz Z1 Z2
  ap : ∀ k ∈ O1 ++ O2, k ∉ Z1 ++ Z2
theorem Pz.first {w1 w w' : World} {p r z : Option Addr} {c : Lc} {t tz : Option (Option Hl)} {O1 O2 Z1 Z2 : List Nat} {e : Ending} (h : Pz w1 w p r z c t tz O1 O2 Z1 Z2) (k : AkT w1 w w' p r c O1 O2 e) : e = .returned (.bool true) ∧ ∃ t' O1' O2', Pz w1 w' p r z c t' tz O1' O2' Z1 Z2 := by
  obtain ⟨e1, O1', O2', t', hP, hN, hF⟩ := k
  refine ⟨e1, t', O1', O2', hP, h.b.off hF (fun k hk => ⟨fun h1 => h.ap k hk (List.mem_append_left _ h1), fun h1 => h.ap k hk (List.mem_append_right _ h1), ?_⟩), fun k hk hz => ?_⟩
  · rcases List.mem_append.1 hk with h1 | h1
    · exact (h.a.low1 k h1).1
    · exact (h.a.low2 k h1).1
  · rcases hN k hk with h1 | h1
    · exact h.ap k h1 hz
    · rcases List.mem_append.1 hz with h2 | h2
      · have := (h.b.low1 k h2).2; omega
      · have := (h.b.low2 k h2).2; omega
theorem Pz.second {w1 w w' : World} {p r z : Option Addr} {c : Lc} {t tz : Option (Option Hl)} {O1 O2 Z1 Z2 : List Nat} {e : Ending} (h : Pz w1 w p r z c t tz O1 O2 Z1 Z2) (k : AkT w1 w w' z none c Z1 Z2 e) : e = .returned (.bool true) ∧ ∃ t' Z1' Z2', Pz w1 w' p r z c t t' O1 O2 Z1' Z2' := by
  obtain ⟨e1, Z1', Z2', t', hP, hN, hF⟩ := k
  refine ⟨e1, t', Z1', Z2', h.a.off hF (fun k hk => ⟨fun h1 => h.ap k (List.mem_append_left _ h1) hk, fun h1 => h.ap k (List.mem_append_right _ h1) hk, ?_⟩), hP, fun k hk hz => ?_⟩
  · rcases List.mem_append.1 hk with h1 | h1
    · exact (h.b.low1 k h1).1
    · exact (h.b.low2 k h1).1
  · rcases hN k hz with h1 | h1
    · exact h.ap k hk h1
    · rcases List.mem_append.1 hk with h2 | h2
      · have := (h.a.low1 k h2).2; omega
      · have := (h.a.low2 k h2).2; omega
set_option maxHeartbeats 16000000 in
set_option maxRecDepth 100000 in
theorem plays_walk (nm : Int) (l s x q : Int) (ao : Option Addr) (L cap : Nat) (os : List Oq) (w : World) (hC : Cf.ok ⟨l, s, x, q⟩) (hO : ORs w ao os) (hLe : L = os.length) :
    Calls Try.prog 3 #[.int .i64 nm, .agg #[.int .i64 l, .int .i64 s, .int .i64 x, .int .i64 q], .slice ao L cap] w fun e w' => e = .returned (.bool true) ∧ Fr [] w w' := by
  have hF1 : Fr [] w (w.alloc (.cells #[.int .i64 l, .int .i64 s, .int .i64 x, .int .i64 q] 23)) := Fr.alloc _ _ _
  have hCf := CfM.new w l s x q 23
  obtain ⟨w1, HW1⟩ : ∃ w1, Hid (w.alloc (.cells #[.int .i64 l, .int .i64 s, .int .i64 x, .int .i64 q] 23) = w1) := ⟨_, rfl⟩
  obtain ⟨B0, HB0⟩ : ∃ B0, Hid (w.heap.size = B0) := ⟨_, rfl⟩
  rw [HW1.out] at hF1 hCf
  rw [HB0.out] at hCf
  have HCx : Hid (∀ W, Fr [] w1 W → CfM W B0 l s x q) := fun W hf => hCf.keep hf
  have HOx : Hid (∀ W, Fr [] w1 W → ORs W ao os) := fun W hf => hO.keep (hF1.then hf)
  have HF1 : Hid (Fr [] w w1) := hF1
  have HL : Hid (L = os.length) := hLe
  have hL47 : L ≤ 140737488355328 := by rw [hLe]; exact hO.few
  clear hF1 hCf hO hLe hC
  go_enter Try.func3, Try.ntmps3
  go_upto_region 1 with fail
  rw [HW1.out, HB0.out]
  clear HW1 HB0
  have HBd := beyond14_any ao L cap os w1 (HOx.out _ (Fr.refl _ _)) HL.out
  go_wp2_with fail
  refine HBd.mono ?_
  rintro e w2 ⟨⟨Bq, rfl, hBq⟩, hG2⟩
  cases Bq with
  | true =>
    clear HBd hBq
    go_wp2_with fail
    go_ret
    exact ⟨rfl, HF1.out.then hG2⟩
  | false =>
    have HMx : Hid (∀ o ∈ os, o.M ≤ 1048576) := hBq rfl
    obtain ⟨_, c0, c1, c2, c3⟩ := HCx.out _ hG2
    clear HBd hBq
    by_cases hE : newE ⟨l, s, x, q⟩ nm = 0
    · have HN2 : Hid (∀ W, Calls _ _ _ _ _) := fun W => rlnew_any hE W
      go_wp2_with fail
      refine Calls.mono (lnew_any hE _) ?_
      rintro e w3 ⟨lb, rfl, hlb, hM3, hF3⟩
      have hG3 := hG2.then hF3
      have hlb1 : w1.heap.size ≤ lb := by have := hG2.size; omega
      obtain ⟨_, d0, d1, d2, d3⟩ := HCx.out _ hG3
      have hlt3 := hM3.lt
      clear c0 c1 c2 c3 hE
      go_wp2_with fail
      refine Calls.mono (HN2.out _) ?_
      rintro e w4 ⟨rb, rfl, hrb, hM4, hF4⟩
      have hG4 := hG3.then hF4
      have hlt4 := hM4.lt
      have hs4 := hF4.size
      have fz := Fr.alloc [] w4 (.cells #[.int .i64 0, .int .i64 0, .int .i64 0, .int .i64 0, .int .i64 0, .nilIface] 36)
      have hrz := heap_alloc_new w4 (.cells #[.int .i64 0, .int .i64 0, .int .i64 0, .int .i64 0, .int .i64 0, .nilIface] 36)
      have HPz : Hid (Pz w1 (w4.alloc (.cells #[.int .i64 0, .int .i64 0, .int .i64 0, .int .i64 0, .int .i64 0, .nilIface] 36)) (some ⟨lb, 0, none⟩) (some ⟨rb, 0, none⟩) (some ⟨w4.heap.size, 0, none⟩) ⟨nm, l, s, x, q⟩ (some none) none [lb] [rb] [w4.heap.size] []) := by
        have hs5 : (w4.alloc (.cells #[.int .i64 0, .int .i64 0, .int .i64 0, .int .i64 0, .int .i64 0, .nilIface] 36)).heap.size = w4.heap.size + 1 := by simp
        have hs1 := hG4.size
        refine ⟨⟨⟨lb, [], rfl, hM3.kept _ (hF4.then fz), by simp⟩, ⟨rb, [], rfl, hM4.kept _ fz, by simp⟩, ?_, ?_, ?_, hG4.then fz⟩, ⟨⟨.inr ⟨_, rfl, hrz⟩, ?_⟩, rfl, ?_, by simp, by simp, hG4.then fz⟩, ?_⟩
        · intro k hk; simp at hk; rw [hs5]; omega
        · intro k hk; simp at hk; rw [hs5]; have := hG3.size; omega
        · intro k hk; simp at hk ⊢; omega
        · intro a ha; cases ha; simp
        · intro k hk; simp at hk; rw [hs5]; omega
        · intro k hk; simp at hk ⊢; omega
      obtain ⟨w5, HW5⟩ : ∃ w5, Hid (w4.alloc (.cells #[.int .i64 0, .int .i64 0, .int .i64 0, .int .i64 0, .int .i64 0, .nilIface] 36) = w5) := ⟨_, rfl⟩
      obtain ⟨zb, HZb⟩ : ∃ zb, Hid (w4.heap.size = zb) := ⟨_, rfl⟩
      rw [HW5.out, HZb.out] at HPz
      clear d0 d1 d2 d3 fz hrz hM3 hM4 HN2 hF3 hF4 hG2 hG3 hG4
      go_upto_region 8 with fail
      rw [HW5.out, HZb.out]
      clear HW5 HZb hlb hrb hlt3 hlt4 hs4 hlb1
      go_wp2_with fail
      go_loopw [13] (fun ii wr => ∃ (i : Nat) (t tz : Option (Option Hl)) (O1 O2 Z1 Z2 : List Nat), ii = .int .i64 i ∧ i ≤ L ∧ Hid (Pz w1 wr (some ⟨lb, 0, none⟩) (some ⟨rb, 0, none⟩) (some ⟨zb, 0, none⟩) ⟨nm, l, s, x, q⟩ t tz O1 O2 Z1 Z2)) (fun ii _ => L - (intOf ii).toNat)
      case atStart => exact ⟨0, _, _, _, _, _, _, rfl, Nat.zero_le _, HPz⟩
      case round =>
        clear HPz
        obtain ⟨i, t, tz, O1, O2, Z1, Z2, rfl, hiL, HP⟩ := hrel
        by_cases hi : i < L
        · have hi' : i < os.length := by rw [← HL.out]; exact hi
          obtain ⟨bb, off, hao, _, hc⟩ := (HOx.out _ HP.out.a.fr).lies (by omega)
          subst hao
          have HAt : Hid (∀ W, Fr [] w1 W → (os.getD i Oq.zero).at W) := fun W hf => (HOx.out W hf).each _ (ogetD_mem os i hi')
          have HMo : Hid ((os.getD i Oq.zero).M ≤ 1048576) := HMx.out _ (ogetD_mem os i hi')
          have HCl : Hid (∀ W, Fr [] w1 W → ∀ j, j < 3 → W.cell? ⟨bb, off + i * 3 + j, none⟩ = (os.getD i Oq.zero).c[j]?) := fun W hf j hj => by
            obtain ⟨b', o', e', _, hc'⟩ := (HOx.out W hf).lies (by omega)
            cases e'
            exact hc' i hi' j hj
          obtain ⟨o, ho⟩ : ∃ o, o = os.getD i Oq.zero := ⟨_, rfl⟩
          rw [← ho] at HAt HMo HCl
          clear ho hc
          have HA : Hid (Calls _ _ _ _ _) := asked14_any o w1 wr HP.out.a HAt.out HMo.out
          have e0 := HCl.out _ HP.out.a.fr 0 (by omega)
          have e1 := HCl.out _ HP.out.a.fr 1 (by omega)
          have e2 := HCl.out _ HP.out.a.fr 2 (by omega)
          have HA2 : Hid (∀ w' e, AkT w1 wr w' (some ⟨lb, 0, none⟩) (some ⟨rb, 0, none⟩) ⟨nm, l, s, x, q⟩ O1 O2 e → _) := fun w' e h => HP.out.first h
          have HBx : Hid (∀ W t O1 O2, Pz w1 W (some ⟨lb, 0, none⟩) (some ⟨rb, 0, none⟩) (some ⟨zb, 0, none⟩) ⟨nm, l, s, x, q⟩ t tz O1 O2 Z1 Z2 → Calls Try.prog 9 #[.pointer (some ⟨zb, 0, none⟩), .pointer none, .agg #[.int .u8 (o.kd : Int), .int .i64 o.nn, .slice o.wo o.M o.mc]] W fun e w' => AkT w1 W w' (some ⟨zb, 0, none⟩) none ⟨nm, l, s, x, q⟩ Z1 Z2 e) := fun W t O1 O2 h => asked14_any o w1 W h.b HAt.out HMo.out
          obtain ⟨kd, nn, wo, M, mc, ws⟩ := o
          simp only [Oq.c, List.getElem?_cons_zero, List.getElem?_cons_succ, Nat.add_zero] at e0 e1 e2 HCl
          simp only at HA HBx
          go_wp2_with fail
          refine Calls.mono HA.out ?_
          intro e wa hk
          obtain ⟨rfl, t', O1', O2', hPa⟩ := HA2.out wa e hk
          have HPa : Hid _ := hPa
          have g0 := HCl.out _ hPa.a.fr 0 (by omega)
          have g1 := HCl.out _ hPa.a.fr 1 (by omega)
          have g2 := HCl.out _ hPa.a.fr 2 (by omega)
          simp only [List.getElem?_cons_zero, List.getElem?_cons_succ, Nat.add_zero] at g0 g1 g2
          clear hk hPa HA HA2 e0 e1 e2 HP HCl
          go_wp2_with fail
          refine Calls.mono (HBx.out _ _ _ _ HPa.out) ?_
          intro e wb hk
          obtain ⟨rfl, t2, Z1', Z2', hPb⟩ := HPa.out.second hk
          have HPb : Hid _ := hPb
          clear hk hPb HPa g0 g1 g2 HBx
          go_wp2_with fail
          go_roundw
          case rel => exact ⟨i + 1, _, _, _, _, _, _, by simp, by omega, HPb⟩
          case measure => simp [intOf]; omega
        · have hi' : ¬ ((i : Int) < (L : Int)) := by omega
          have HA : Hid (Calls _ _ _ _ _) := asked14_look 0 0 none 0 0 w1 wr HP.out.a (by decide) (by decide)
          have HA2 : Hid (∀ w' e, AkT w1 wr w' (some ⟨lb, 0, none⟩) (some ⟨rb, 0, none⟩) ⟨nm, l, s, x, q⟩ O1 O2 e → _) := fun w' e h => HP.out.first h
          simp only [Int.ofNat_zero, Int.natCast_zero] at HA
          clear HP
          go_wp2_with fail
          refine Calls.mono HA.out ?_
          intro e wa hk
          obtain ⟨rfl, t', O1', O2', hPa⟩ := HA2.out wa e hk
          have HFa : Hid (Fr [] w wa) := HF1.out.then hPa.a.fr
          clear hk hPa HA HA2
          go_wp2_with fail
          go_ret
          exact ⟨rfl, HFa.out⟩
    · have HN2 : Hid (∀ W, Calls _ _ _ _ _) := fun W => rlnew_bad hE W
      have HN1 : Hid (∀ W, Calls _ _ _ _ _) := fun W => lnew_bad hE W
      obtain ⟨ev, HEv⟩ : ∃ ev, Hid (newE ⟨l, s, x, q⟩ nm = ev) := ⟨_, rfl⟩
      rw [HEv.out] at HN1 HN2
      have hee : (ev != ev) = false := by simp
      clear hE HEv
      go_wp2_with fail
      refine Calls.mono (HN1.out _) ?_
      rintro e w3 ⟨rfl, hF3⟩
      have hG3 := hG2.then hF3
      obtain ⟨_, d0, d1, d2, d3⟩ := HCx.out _ hG3
      clear c0 c1 c2 c3 HN1
      go_wp2_with fail
      refine Calls.mono (HN2.out _) ?_
      rintro e w4 ⟨rfl, hF4⟩
      have hG4 := hG3.then hF4
      have fz := Fr.alloc [] w4 (.cells #[.int .i64 0, .int .i64 0, .int .i64 0, .int .i64 0, .int .i64 0, .nilIface] 36)
      have hrz := heap_alloc_new w4 (.cells #[.int .i64 0, .int .i64 0, .int .i64 0, .int .i64 0, .int .i64 0, .nilIface] 36)
      have HPz : Hid (Pz w1 (w4.alloc (.cells #[.int .i64 0, .int .i64 0, .int .i64 0, .int .i64 0, .int .i64 0, .nilIface] 36)) none none (some ⟨w4.heap.size, 0, none⟩) ⟨nm, l, s, x, q⟩ none none [] [] [w4.heap.size] []) := by
        have hs5 : (w4.alloc (.cells #[.int .i64 0, .int .i64 0, .int .i64 0, .int .i64 0, .int .i64 0, .nilIface] 36)).heap.size = w4.heap.size + 1 := by simp
        have hs1 := hG4.size
        refine ⟨⟨⟨.inl rfl, by intro a ha; cases ha⟩, rfl, by simp, by simp, by simp, hG4.then fz⟩, ⟨⟨.inr ⟨_, rfl, hrz⟩, ?_⟩, rfl, ?_, by simp, by simp, hG4.then fz⟩, by simp⟩
        · intro a ha; cases ha; simp
        · intro k hk; simp at hk; rw [hs5]; omega
      obtain ⟨w5, HW5⟩ : ∃ w5, Hid (w4.alloc (.cells #[.int .i64 0, .int .i64 0, .int .i64 0, .int .i64 0, .int .i64 0, .nilIface] 36) = w5) := ⟨_, rfl⟩
      obtain ⟨zb, HZb⟩ : ∃ zb, Hid (w4.heap.size = zb) := ⟨_, rfl⟩
      rw [HW5.out, HZb.out] at HPz
      clear d0 d1 d2 d3 fz hrz HN2 hF3 hF4 hG2 hG3 hG4
      go_upto_region 8 with fail
      rw [HW5.out, HZb.out]
      clear HW5 HZb
      go_wp2_with fail
      go_loopw [13] (fun ii wr => ∃ (i : Nat) (t tz : Option (Option Hl)) (O1 O2 Z1 Z2 : List Nat), ii = .int .i64 i ∧ i ≤ L ∧ Hid (Pz w1 wr none none (some ⟨zb, 0, none⟩) ⟨nm, l, s, x, q⟩ t tz O1 O2 Z1 Z2)) (fun ii _ => L - (intOf ii).toNat)
      case atStart => exact ⟨0, _, _, _, _, _, _, rfl, Nat.zero_le _, HPz⟩
      case round =>
        clear HPz
        obtain ⟨i, t, tz, O1, O2, Z1, Z2, rfl, hiL, HP⟩ := hrel
        by_cases hi : i < L
        · have hi' : i < os.length := by rw [← HL.out]; exact hi
          obtain ⟨bb, off, hao, _, hc⟩ := (HOx.out _ HP.out.a.fr).lies (by omega)
          subst hao
          have HAt : Hid (∀ W, Fr [] w1 W → (os.getD i Oq.zero).at W) := fun W hf => (HOx.out W hf).each _ (ogetD_mem os i hi')
          have HMo : Hid ((os.getD i Oq.zero).M ≤ 1048576) := HMx.out _ (ogetD_mem os i hi')
          have HCl : Hid (∀ W, Fr [] w1 W → ∀ j, j < 3 → W.cell? ⟨bb, off + i * 3 + j, none⟩ = (os.getD i Oq.zero).c[j]?) := fun W hf j hj => by
            obtain ⟨b', o', e', _, hc'⟩ := (HOx.out W hf).lies (by omega)
            cases e'
            exact hc' i hi' j hj
          obtain ⟨o, ho⟩ : ∃ o, o = os.getD i Oq.zero := ⟨_, rfl⟩
          rw [← ho] at HAt HMo HCl
          clear ho hc
          have HA : Hid (Calls _ _ _ _ _) := asked14_any o w1 wr HP.out.a HAt.out HMo.out
          have e0 := HCl.out _ HP.out.a.fr 0 (by omega)
          have e1 := HCl.out _ HP.out.a.fr 1 (by omega)
          have e2 := HCl.out _ HP.out.a.fr 2 (by omega)
          have HA2 : Hid (∀ w' e, AkT w1 wr w' none none ⟨nm, l, s, x, q⟩ O1 O2 e → _) := fun w' e h => HP.out.first h
          have HBx : Hid (∀ W t O1 O2, Pz w1 W none none (some ⟨zb, 0, none⟩) ⟨nm, l, s, x, q⟩ t tz O1 O2 Z1 Z2 → Calls Try.prog 9 #[.pointer (some ⟨zb, 0, none⟩), .pointer none, .agg #[.int .u8 (o.kd : Int), .int .i64 o.nn, .slice o.wo o.M o.mc]] W fun e w' => AkT w1 W w' (some ⟨zb, 0, none⟩) none ⟨nm, l, s, x, q⟩ Z1 Z2 e) := fun W t O1 O2 h => asked14_any o w1 W h.b HAt.out HMo.out
          obtain ⟨kd, nn, wo, M, mc, ws⟩ := o
          simp only [Oq.c, List.getElem?_cons_zero, List.getElem?_cons_succ, Nat.add_zero] at e0 e1 e2 HCl
          simp only at HA HBx
          go_wp2_with fail
          refine Calls.mono HA.out ?_
          intro e wa hk
          obtain ⟨rfl, t', O1', O2', hPa⟩ := HA2.out wa e hk
          have HPa : Hid _ := hPa
          have g0 := HCl.out _ hPa.a.fr 0 (by omega)
          have g1 := HCl.out _ hPa.a.fr 1 (by omega)
          have g2 := HCl.out _ hPa.a.fr 2 (by omega)
          simp only [List.getElem?_cons_zero, List.getElem?_cons_succ, Nat.add_zero] at g0 g1 g2
          clear hk hPa HA HA2 e0 e1 e2 HP HCl
          go_wp2_with fail
          refine Calls.mono (HBx.out _ _ _ _ HPa.out) ?_
          intro e wb hk
          obtain ⟨rfl, t2, Z1', Z2', hPb⟩ := HPa.out.second hk
          have HPb : Hid _ := hPb
          clear hk hPb HPa g0 g1 g2 HBx
          go_wp2_with fail
          go_roundw
          case rel => exact ⟨i + 1, _, _, _, _, _, _, by simp, by omega, HPb⟩
          case measure => simp [intOf]; omega
        · have hi' : ¬ ((i : Int) < (L : Int)) := by omega
          have HA : Hid (Calls _ _ _ _ _) := asked14_look 0 0 none 0 0 w1 wr HP.out.a (by decide) (by decide)
          have HA2 : Hid (∀ w' e, AkT w1 wr w' none none ⟨nm, l, s, x, q⟩ O1 O2 e → _) := fun w' e h => HP.out.first h
          simp only [Int.ofNat_zero, Int.natCast_zero] at HA
          clear HP
          go_wp2_with fail
          refine Calls.mono HA.out ?_
          intro e wa hk
          obtain ⟨rfl, t', O1', O2', hPa⟩ := HA2.out wa e hk
          have HFa : Hid (Fr [] w wa) := HF1.out.then hPa.a.fr
          clear hk hPa HA HA2
          go_wp2_with fail
          go_ret
          exact ⟨rfl, HFa.out⟩
end Go.Proofs.Ytgladhebgnngdaa
