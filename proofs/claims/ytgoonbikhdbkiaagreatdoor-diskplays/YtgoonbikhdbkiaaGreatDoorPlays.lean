/- The walk of the law DiskPlays. Conditions: a script that came in. -/
import Derived.Test.YtgoonbikhdbkiaaGreatDoorPlays0
namespace Go.Proofs.YtgoonbikhdbkiaaGreatDoor
open Go.ChangeShapes Go.WideShapes Go.ChangeAt Go.RowKit Go.Lib

theorem op_read (s : Int) (w : World) (h0 : -9223372036854775808 ≤ s) (h1 : s ≤ 9223372036854775807) : OV.ok w ⟨3, s, 0, none, 0, 0, [], 0⟩ := ⟨by simp, by simp, h0, h1, by simp, by simp, by simp, by simp, by simp, nil_arg w⟩

set_option maxHeartbeats 4000000 in
set_option maxRecDepth 100000 in
theorem plays_big (n : Int) (so : Option Addr) (M sc : Nat) (os : List OV) (w : World) (hs : SArg w so M sc os) (hT : 1048576 < total os) :
    Calls Tryz.prog 3 #[.int .i64 n, .slice so M sc] w fun e w' => e = .returned (.bool true) ∧ Fr [] w w' := by
  have E : decide (1048576 < total os) = true := by simp [hT]
  go_enter Tryz.func3, Tryz.ntmps3
  go_wp2_with fail
  refine (script_any so M sc os w hs).mono ?_
  rintro e w' ⟨rfl, rfl⟩
  rw [E]
  go_wp2_with fail
  go_ret
  exact ⟨rfl, Fr.refl _ _⟩

set_option maxHeartbeats 8000000 in
set_option maxRecDepth 100000 in
theorem plays_none (C : Int) (hC : C < 0 ∨ 16777216 < C) (so : Option Addr) (M sc : Nat) (os : List OV) (w : World) (hs : SArg w so M sc os) (hT : total os ≤ 1048576) :
    Calls Tryz.prog 3 #[.int .i64 C, .slice so M sc] w fun e w' => e = .returned (.bool true) ∧ Fr [] w w' := by
  have E : decide (1048576 < total os) = false := by simp; omega
  have HL : Hid (M = os.length) := hs.len
  have hMm := hs.most
  have HS : Hid (SArg w so M sc os) := hs
  have HT : Hid (total os ≤ 1048576) := hT
  have hM20 : M ≤ 1048576 := by have := total_ge os; have := HL.out; omega
  clear hT
  go_enter Tryz.func3, Tryz.ntmps3
  go_wp2_with fail
  refine (script_any so M sc os w hs).mono ?_
  rintro e w' ⟨rfl, rfl⟩
  rw [E]
  clear E hs
  go_wp2_with fail
  refine (new_no C w hC).mono ?_
  rintro e _ ⟨rfl, rfl⟩
  go_wp2_with fail
  refine (rNew_no C w hC).mono ?_
  rintro e _ ⟨rfl, rfl⟩
  obtain ⟨bk, hbk⟩ : ∃ bk, bk = w.heap.size := ⟨_, rfl⟩
  obtain ⟨wl, hwl⟩ : ∃ wl, wl = w.alloc (Obj.cells #[.int .i64 0, .slice none 0 0, .slice none 0 0, .slice none 0 0, .slice none 0 0, .slice none 0 0, .slice none 0 0, .slice none 0 0, .slice none 0 0, .slice none 0 0, .slice none 0 0, .slice none 0 0] 43) := ⟨_, rfl⟩
  go_wp2_with fail
  rw [← hwl, ← hbk]
  have HP0 : Hid (Fr [] w wl) := by rw [hwl]; exact Fr.alloc [] w _
  have HB0 : Hid (LB w [] bk (.slice none 0 0) [] wl) := by
    rw [hbk]
    exact LB.start (Fr.refl [] w) (by simp) (by rw [hwl]; exact heap_alloc_new w _)
  clear hwl hbk
  go_loopw [10] (fun ii wr => ∃ (i : Nat) (rv : Value) (hs : List HB), ii = .int .i64 i ∧ i ≤ M ∧ hs.length ≤ i ∧ Hid (Fr [] w wr) ∧ Hid (LB w [] bk rv hs wr)) (fun ii _ => M - (intOf ii).toNat)
  case atStart => exact ⟨0, _, [], rfl, Nat.zero_le _, by simp, HP0, HB0⟩
  case round =>
    clear HP0 HB0
    obtain ⟨i, rv, hs, rfl, hiM, hhi, HP, HQ⟩ := hrel
    by_cases hi : i < M
    · have hsr := HS.out.keep HP.out
      obtain ⟨b, off, e, _, hc⟩ := hsr.lies (by omega)
      subst e
      have hO := hc i hi
      have hmem := getD_mem os i (by rw [← HL.out]; exact hi)
      have hok := HS.out.each _ hmem
      have hvM : (os.getD i OV.zero).M ≤ 1048576 := by have := total_mem os _ hmem; have := HT.out; omega
      obtain ⟨v, hv⟩ : ∃ v, v = os.getD i OV.zero := ⟨_, rfl⟩
      rw [← hv] at hO hok hvM
      have HV : Hid (v.ok w) := hok
      have HCl : Hid (∀ wx, Fr [] w wx → OAt wx b (off + i * 5) v) := by
        intro wx hf
        obtain ⟨b', off', e, _, hc'⟩ := (HS.out.keep hf).lies (by omega)
        cases e
        have := hc' i hi
        rw [← hv] at this
        exact this
      obtain ⟨k, s, a, bo, L, cb, ys, n⟩ := v
      have c0 := hO.c0
      have c1 := hO.c1
      have c2 := hO.c2
      have c3 := hO.c3
      have c4 := hO.c4
      simp only at c0 c1 c2 c3 c4 hvM
      clear hv hO hok hc hsr hmem
      go_wp2_with fail
      refine (askedG (.pointer none) k s a bo L cb ys n wr (Or.inl rfl) (HV.out.keep HP.out).arg (by show L < _; omega)).mono ?_
      rintro e w3 ⟨rfl, hF3⟩
      have HP3 : Hid (Fr [] w w3) := HP.out.then hF3
      have HB3 : Hid (LB w [] bk rv hs w3) := HQ.out.quiet hF3
      have O3 := HCl.out w3 HP3.out
      clear hF3
      have c1' := O3.c1
      simp only at c1'
      clear O3 c0 c1 c2 c3 c4
      go_wp2_with fail
      refine (looksG (.pointer none) w3 (Or.inl rfl)).mono ?_
      rintro e _ ⟨rfl, rfl⟩
      by_cases h30 : i < 30
      · have h30I : (i : Int) < 30 := by omega
        go_wp2_with fail
        refine (gone_read (Or.inl rfl) s).mono ?_
        rintro e _ ⟨rfl, rfl⟩
        have HLo : Hid (Lo w w3 (.slice none 0 0) [] hs) := ⟨⟨0, _, own_none w3, by omega⟩, fun k hk => by simp [Value.ownBlock] at hk, fun k hk => by simp [Value.ownBlock] at hk, fun j b hb k hk => by simp [Value.ownBlock] at hk⟩
        go_wp2_with fail
        refine (bytes_any bk rv hs none 0 0 w3 HB3.out.book (by omega)).mono ?_
        rintro e w5 ⟨rfl, rv5, hB5, hF5, hM5⟩
        have HPX : Hid (Fr [] w w5) := HP3.out.on hF5 HB3.out.bookN
        have HBX : Hid (LB w [] bk rv5 (hs ++ [⟨.slice none 0 0, .slice none 0 0, hs.length + 1⟩]) w5) := HB3.out.told HP3.out (by simp) HLo.out hB5 hF5 hM5
        obtain ⟨hs5, HH5⟩ : ∃ hs5 : List HB, Hid (hs5 = hs ++ [(⟨.slice none 0 0, .slice none 0 0, hs.length + 1⟩ : HB)]) := ⟨_, rfl⟩
        rw [← HH5.out] at HBX
        have hl5 : hs5.length ≤ i + 1 := by rw [HH5.out]; simp; omega
        clear hB5 hF5 hM5
        go_wp2
        go_roundw
        case rel => exact ⟨i + 1, rv5, hs5, by simp, by omega, by omega, HPX, HBX⟩
        case measure => simp [intOf]; omega
      · have h30I : (30 : Int) ≤ i := by omega
        have HPX := HP3
        have HBX := HB3
        go_wp2
        go_roundw
        case rel => exact ⟨i + 1, rv, hs, by simp, by omega, by omega, HPX, HBX⟩
        case measure => simp [intOf]; omega
    · have hi' : M ≤ i := by omega
      go_wp2_with fail
      refine (apart_any bk rv hs wr HQ.out.book HQ.out.p0 HQ.out.alone HQ.out.num HQ.out.fresh).mono ?_
      rintro e w3 ⟨rfl, hF3⟩
      have HP3 : Hid (Fr [] w w3) := HP.out.on hF3 HQ.out.listN
      clear hF3
      go_wp2_with fail
      refine (askedG (.pointer none) 3 0 0 none 0 0 [] 0 w3 (Or.inl rfl) (nil_arg w3) (by omega)).mono ?_
      rintro e w4 ⟨rfl, hF4⟩
      have HP4 : Hid (Fr [] w w4) := HP3.out.then hF4
      clear hF4
      go_wp2_with fail
      refine (askedG (.pointer none) 3 1 0 none 0 0 [] 0 w4 (Or.inl rfl) (nil_arg w4) (by omega)).mono ?_
      rintro e w5 ⟨rfl, hF5⟩
      have HF : Hid (Fr [] w w5) := HP4.out.then hF5
      clear hF5
      go_wp2
      go_ret
      exact ⟨rfl, HF.out⟩

set_option maxHeartbeats 8000000 in
set_option maxRecDepth 100000 in
theorem plays_live (C : Nat) (hC : C ≤ 16777216) (so : Option Addr) (M sc : Nat) (os : List OV) (w : World) (hs : SArg w so M sc os) (hT : total os ≤ 1048576) :
    Calls Tryz.prog 3 #[.int .i64 (C : Int), .slice so M sc] w fun e w' => e = .returned (.bool true) ∧ Fr [] w w' := by
  have E : decide (1048576 < total os) = false := by simp; omega
  have HL : Hid (M = os.length) := hs.len
  have hMm := hs.most
  have HS : Hid (SArg w so M sc os) := hs
  have HT : Hid (total os ≤ 1048576) := hT
  have hM20 : M ≤ 1048576 := by have := total_ge os; have := HL.out; omega
  clear hT
  go_enter Tryz.func3, Tryz.ntmps3
  go_wp2_with fail
  refine (script_any so M sc os w hs).mono ?_
  rintro e w' ⟨rfl, rfl⟩
  rw [E]
  clear E hs
  go_wp2_with fail
  refine (ld_new C w w (Fr.refl _ _) hC).mono ?_
  rintro e w1 ⟨gd, SD0, rfl, hD1, _, _⟩
  go_wp2_with fail
  refine (rNew_ok C w1 hC).mono ?_
  rintro e w2 ⟨rfl, hR2, hF2⟩
  have hP2 := pr_new hD1 hC hR2 hF2
  obtain ⟨gr, hgr⟩ : ∃ gr, gr = w1.heap.size := ⟨_, rfl⟩
  rw [← hgr] at hP2 ⊢
  obtain ⟨SR0, HSR⟩ : ∃ SR0, Hid (SR0 = dOwn gr (.slice none 0 0) (.slice none 0 0)) := ⟨_, rfl⟩
  rw [← HSR.out] at hP2
  have HP2 : Hid (PR w w2 gd gr SD0 SR0 (St.new C) (St.new C)) := hP2
  clear hgr hP2 hD1 hR2 hF2 HSR
  obtain ⟨bk, hbk⟩ : ∃ bk, bk = w2.heap.size := ⟨_, rfl⟩
  obtain ⟨wl, hwl⟩ : ∃ wl, wl = w2.alloc (Obj.cells #[.int .i64 0, .slice none 0 0, .slice none 0 0, .slice none 0 0, .slice none 0 0, .slice none 0 0, .slice none 0 0, .slice none 0 0, .slice none 0 0, .slice none 0 0, .slice none 0 0, .slice none 0 0] 43) := ⟨_, rfl⟩
  go_wp2_with fail
  rw [← hwl, ← hbk]
  have HP0 : Hid (PR w wl gd gr SD0 SR0 (St.new C) (St.new C)) := by rw [hwl]; exact HP2.out.quiet (Fr.alloc [] w2 _)
  have HB0 : Hid (LB w (SD0 ++ SR0) bk (.slice none 0 0) [] wl) := by
    rw [hbk]
    exact LB.start HP2.out.d.fr HP2.out.lt (by rw [hwl]; exact heap_alloc_new w2 _)
  clear hwl hbk HP2
  go_loopw [10] (fun ii wr => ∃ (i : Nat) (SD SR : List Nat) (t : St) (rv : Value) (hs : List HB), ii = .int .i64 i ∧ i ≤ M ∧ hs.length ≤ i ∧ t.n ≤ i ∧ Hid (PR w wr gd gr SD SR t t) ∧ Hid (LB w (SD ++ SR) bk rv hs wr)) (fun ii _ => M - (intOf ii).toNat)
  case atStart => exact ⟨0, SD0, SR0, St.new C, _, [], rfl, Nat.zero_le _, by simp, by simp [St.new], HP0, HB0⟩
  case round =>
    clear HP0 HB0
    obtain ⟨i, SD, SR, t, rv, hs, rfl, hiM, hhi, htn, HP, HQ⟩ := hrel
    by_cases hi : i < M
    · have hsr := HS.out.keep HP.out.d.fr
      obtain ⟨b, off, e, _, hc⟩ := hsr.lies (by omega)
      subst e
      have hO := hc i hi
      have hmem := getD_mem os i (by rw [← HL.out]; exact hi)
      have hok := HS.out.each _ hmem
      have hvM : (os.getD i OV.zero).M ≤ 1048576 := by have := total_mem os _ hmem; have := HT.out; omega
      obtain ⟨v, hv⟩ : ∃ v, v = os.getD i OV.zero := ⟨_, rfl⟩
      rw [← hv] at hO hok hvM
      have HV : Hid (v.ok w) := hok
      have HCl : Hid (∀ wx, Fr [] w wx → OAt wx b (off + i * 5) v) := by
        intro wx hf
        obtain ⟨b', off', e, _, hc'⟩ := (HS.out.keep hf).lies (by omega)
        cases e
        have := hc' i hi
        rw [← hv] at this
        exact this
      obtain ⟨k, s, a, bo, L, cb, ys, n⟩ := v
      have c0 := hO.c0
      have c1 := hO.c1
      have c2 := hO.c2
      have c3 := hO.c3
      have c4 := hO.c4
      simp only at c0 c1 c2 c3 c4 hvM
      clear hv hO hok hc hsr hmem
      go_wp2_with fail
      refine (askedL ⟨k, s, a, bo, L, cb, ys, n⟩ HP.out (by omega) HV.out hvM).mono ?_
      rintro e w3 ⟨rfl, SD3, SR3, t3, hP3, hn3, hT3⟩
      have HP3 : Hid (PR w w3 gd gr SD3 SR3 t3 t3) := hP3
      have HB3 : Hid (LB w (SD3 ++ SR3) bk rv hs w3) := HQ.out.step hT3
      have hn3' : t3.n ≤ i + 1 := by omega
      have O3 := HCl.out w3 hP3.d.fr
      clear hP3 hT3 hn3
      have c1' := O3.c1
      simp only at c1'
      clear O3 c0 c1 c2 c3 c4
      go_wp2_with fail
      refine (looksL HP3.out).mono ?_
      rintro e _ ⟨rfl, rfl⟩
      by_cases h30 : i < 30
      · have h30I : (i : Int) < 30 := by omega
        go_wp2_with fail
        obtain ⟨E, xs, HTo⟩ : ∃ E xs, Hid (Told t3 s E xs) := Told.some t3 s
        have hxf := HTo.out.few HP3.out.d.ok
        refine (ld_read HP3.out.d HTo.out).mono ?_
        rintro e w4 ⟨ao, m, cap, rfl, hFre, _⟩
        have HP4 : Hid (PR w w4 gd gr SD3 SR3 t3 t3) := HP3.out.quiet hFre.fr
        have HB4 : Hid (LB w (SD3 ++ SR3) bk rv hs w4) := HB3.out.quiet hFre.fr
        have HLo : Hid (Lo w w4 (.slice ao m cap) (SD3 ++ SR3) hs) := Lo.of_new HB3.out HP3.out.d.fr HP3.out.lt hFre (by have := hFre.len; omega)
        clear hFre
        go_wp2_with fail
        refine (bytes_any bk rv hs ao m cap w4 HB4.out.book (by omega)).mono ?_
        rintro e w5 ⟨rfl, rv5, hB5, hF5, hM5⟩
        have HPX : Hid (PR w w5 gd gr SD3 SR3 t3 t3) := HP4.out.keepT hF5 HB4.out.bookS HB4.out.bookN
        have HBX : Hid (LB w (SD3 ++ SR3) bk rv5 (hs ++ [⟨.slice ao m cap, .slice none 0 0, hs.length + 1⟩]) w5) := HB4.out.told HP4.out.d.fr HP4.out.lt HLo.out hB5 hF5 hM5
        obtain ⟨hs5, HH5⟩ : ∃ hs5 : List HB, Hid (hs5 = hs ++ [(⟨.slice ao m cap, .slice none 0 0, hs.length + 1⟩ : HB)]) := ⟨_, rfl⟩
        rw [← HH5.out] at HBX
        have hl5 : hs5.length ≤ i + 1 := by rw [HH5.out]; simp; omega
        clear hB5 hF5 hM5
        go_wp2
        go_roundw
        case rel => exact ⟨i + 1, SD3, SR3, t3, rv5, hs5, by simp, by omega, by omega, by omega, HPX, HBX⟩
        case measure => simp [intOf]; omega
      · have h30I : (30 : Int) ≤ i := by omega
        have HPX := HP3
        have HBX := HB3
        go_wp2
        go_roundw
        case rel => exact ⟨i + 1, SD3, SR3, t3, rv, hs, by simp, by omega, by omega, by omega, HPX, HBX⟩
        case measure => simp [intOf]; omega
    · have hi' : M ≤ i := by omega
      go_wp2_with fail
      refine (apart_any bk rv hs wr HQ.out.book HQ.out.p0 HQ.out.alone HQ.out.num HQ.out.fresh).mono ?_
      rintro e w3 ⟨rfl, hF3⟩
      have HP3 : Hid (PR w w3 gd gr SD SR t t) := HP.out.keepT hF3 HQ.out.listS HQ.out.listN
      clear hF3
      go_wp2_with fail
      refine (askedL ⟨3, 0, 0, none, 0, 0, [], 0⟩ HP3.out (by omega) (op_read 0 w (by omega) (by omega)) (by show 0 ≤ _; omega)).mono ?_
      rintro e w4 ⟨rfl, SD4, SR4, t4, hP4, hn4, _⟩
      have HP4 : Hid (PR w w4 gd gr SD4 SR4 t4 t4) := hP4
      clear hP4
      go_wp2_with fail
      refine (askedL ⟨3, 1, 0, none, 0, 0, [], 0⟩ HP4.out (by omega) (op_read 1 w (by omega) (by omega)) (by show 0 ≤ _; omega)).mono ?_
      rintro e w5 ⟨rfl, SD5, SR5, t5, hP5, _, _⟩
      have HF : Hid (Fr [] w w5) := hP5.d.fr
      clear hP5
      go_wp2
      go_ret
      exact ⟨rfl, HF.out⟩
end Go.Proofs.YtgoonbikhdbkiaaGreatDoor
