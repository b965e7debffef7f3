/- Texts of this claim laid together, one behind the other: contracts and plain lemmas; conditions as each names them. -/
import Derived.Test.YtdcmjoildfofcaaGreatDoorGp35
/- The walk of the law DepsPlays. Conditions: how its argument lies in memory; the table of powers of ten reads as the library lays it. -/
namespace Go.Proofs.YtdcmjoildfofcaaGreatDoor
open BigFrame Go.ChangeShapes Go.WideShapes Go.ChangeAt Go.RowKit Go.Lib Go.Maps
set_option linter.unusedVariables false
set_option linter.unusedSimpArgs false

theorem ORs.keep {w w' : World} {ao : Option Addr} {os : List Oq} (h : ORs w ao os) (hf : Fr [] w w') : ORs w' ao os := by
  refine ⟨fun h0 => ?_, h.few, fun o ho => ?_⟩
  · obtain ⟨b, off, e, hb, hc⟩ := h.lies h0
    exact ⟨b, off, e, Nat.lt_of_lt_of_le hb hf.size, fun i hi j hj => (World.cell?_of_block (hf.block b hb (by simp))).trans (hc i hi j hj)⟩
  · have := h.each o ho
    exact ⟨this.kd, this.x, this.nn, this.ws.keep hf, this.M, this.key⟩
theorem oq_mem {os : List Oq} {i : Nat} (h : i < os.length) : os.getD i Oq.zero ∈ os := by simp [List.getD, h]
/-- The cells of one op. -/
theorem ORs.at {w : World} {b off : Nat} {os : List Oq} (h : ORs w (some ⟨b, off, none⟩) os) {i : Nat} (hi : i < os.length) {o : Oq} (ho : o = os.getD i Oq.zero) : w.cell? ⟨b, off + i * 5, none⟩ = some (.int .u8 (o.kd : Int)) ∧ w.cell? ⟨b, off + i * 5 + 1, none⟩ = some (.int .i64 o.x) ∧ w.cell? ⟨b, off + i * 5 + 2, none⟩ = some (.int .i64 o.nn) ∧ w.cell? ⟨b, off + i * 5 + 3, none⟩ = some (.slice o.wo o.M o.mc) ∧ w.cell? ⟨b, off + i * 5 + 4, none⟩ = some (.string o.key) := by
  subst ho
  obtain ⟨b', off', e, _, hc⟩ := h.lies (by omega)
  cases e
  exact ⟨hc i hi 0 (by omega), hc i hi 1 (by omega), hc i hi 2 (by omega), hc i hi 3 (by omega), hc i hi 4 (by omega)⟩
set_option maxHeartbeats 8000000 in
set_option maxRecDepth 100000 in
theorem beyond11_any (ao : Option Addr) (L cap : Nat) (os : List Oq) (w : World) (hO : ORs w ao os) (hL : L = os.length) :
    Calls Tryz.prog 4 #[.slice ao L cap] w fun e w' => (∃ b : Bool, e = .returned (.bool b) ∧ (b = false → ∀ j, j < L → (os.getD j Oq.zero).M ≤ 1048576)) ∧ Fr [] w w' := by
  have HL : Hid (L = os.length) := hL
  have hLm : L ≤ 140737488355328 := by rw [hL]; exact hO.few
  have HO : Hid (∀ W, Fr [] w W → ORs W ao os) := fun W hf => hO.keep hf
  clear hO hL
  go_enter Tryz.func4, Tryz.ntmps4
  go_wp2_with fail
  go_loopw [3, 4] (fun nn ii wr => ∃ (n i : Nat), nn = .int .i64 n ∧ ii = .int .i64 i ∧ i ≤ L ∧ n ≤ 1048576 ∧ Hid (∀ j, j < i → (os.getD j Oq.zero).M ≤ 1048576) ∧ Hid (Fr [] w wr)) (fun _ ii _ => L - (RowKit.intOf ii).toNat)
  case atStart => exact ⟨0, 0, rfl, rfl, Nat.zero_le _, Nat.zero_le _, (fun j hj => absurd hj (Nat.not_lt_zero _) : ∀ j, j < 0 → (os.getD j Oq.zero).M ≤ 1048576), Fr.refl _ _⟩
  case round =>
    obtain ⟨n, i, rfl, rfl, hi1, hn, HM, HF⟩ := hrel
    by_cases hi : i < L
    · have hil : i < os.length := by rw [← HL.out]; exact hi
      obtain ⟨b, off, rfl, _, hcl⟩ := (HO.out _ HF.out).lies (by omega)
      clear hcl
      obtain ⟨o, ho⟩ : ∃ o, o = os.getD i Oq.zero := ⟨_, rfl⟩
      obtain ⟨R, hR⟩ : ∃ R, wszG o.M o.ws = R := ⟨_, rfl⟩
      have HC : Hid (∀ W, Fr [] w W → W.cell? ⟨b, off + i * 5 + 2, none⟩ = some (.int .i64 o.nn) ∧ W.cell? ⟨b, off + i * 5 + 3, none⟩ = some (.slice o.wo o.M o.mc) ∧ W.cell? ⟨b, off + i * 5 + 4, none⟩ = some (.string o.key)) := fun W hf => by
        obtain ⟨_, _, k2, k3, k4⟩ := (HO.out _ hf).at hil ho
        exact ⟨k2, k3, k4⟩
      have hat : o.at wr := by rw [ho]; exact (HO.out _ HF.out).each _ (oq_mem hil)
      have hks := hat.key
      have hRM : o.M ≤ R := by rw [← hR]; exact wszG_ge _ _
      have HTx : Hid (∀ V, Fr [] wr V → Calls Tryz.prog 9 #[.agg #[.int .i64 o.nn, .slice o.wo o.M o.mc]] V fun e w' => e = .returned (.int .i64 ((R : Int) + 1)) ∧ R ≤ 422212465065984 ∧ Fr [] wr w' ∧ w'.cell? ⟨b, off + i * 5 + 4, none⟩ = some (.string o.key)) := fun V hf => (txSizeD_any o.nn o.wo o.M o.mc R o.ws V (hat.ws.keep hf) hat.M hR).mono (fun e w' h => ⟨h.1, h.2.1, hf.then h.2.2, (HC.out _ (HF.out.then (hf.then h.2.2))).2.2⟩)
      have HOM : Hid (o = os.getD i Oq.zero) := ho
      obtain ⟨k2, k3, k4⟩ := HC.out _ HF.out
      obtain ⟨kd, x, nn, wo, M, mc, ws, key⟩ := o
      simp only at HTx HC hks hRM k2 k3 k4
      have hRb : R ≤ 422212465065984 ∨ True := Or.inr trivial
      clear ho hat hR hRb
      go_wp2_with fail
      go_region_held3 (fun W => W.cell? ⟨b, off + i * 5 + 2, none⟩ = some (.int .i64 nn) ∧ W.cell? ⟨b, off + i * 5 + 3, none⟩ = some (.slice wo M mc) ∧ W.cell? ⟨b, off + i * 5 + 4, none⟩ = some (.string key)) (first | exact ⟨k2, k3, k4⟩ | exact ⟨kA2, kA3, kA⟩ | go_keep)
        (first | (go_at_call 9; with_reducible refine Calls.mono (HTx.out _ (Fr.drew _ _)) ?_; rintro e wA ⟨rfl, hRb, hfA, kA⟩; obtain ⟨kA2, kA3, _⟩ := HC.out _ (HF.out.then hfA)))
      obtain ⟨V, hV⟩ : ∃ V : Nat, V = n + 1 + key.size + (R + 1) := ⟨_, rfl⟩
      have e1 : IntKind.i64.wrap ((n : Int) + 1) = ((n + 1 : Nat) : Int) := by rw [IntKind.wrap_i64]; omega
      have e2 : IntKind.i64.wrap (((n + 1 : Nat) : Int) + (key.size : Int)) = ((n + 1 + key.size : Nat) : Int) := by rw [IntKind.wrap_i64]; omega
      have e3 : IntKind.i64.wrap (((n + 1 + key.size : Nat) : Int) + ((R : Int) + 1)) = (V : Int) := by rw [IntKind.wrap_i64]; omega
      rw [e1, e2, e3]
      clear e1 e2
      have HFA : Hid (Fr [] w wA) := HF.out.then hfA
      by_cases hbig : 1048576 < V
      · have hbi : (1048576 : Int) < (V : Int) := by omega
        clear e3 hV
        go_wp2
        go_ret
        exact ⟨⟨true, rfl, fun h => by cases h⟩, HFA.out⟩
      · have hbi : ¬ (1048576 : Int) < (V : Int) := by omega
        have HM2 : Hid (∀ j, j < i + 1 → (os.getD j Oq.zero).M ≤ 1048576) := fun j hj => by
          by_cases e : j = i
          · subst e
            rw [← HOM.out]
            show M ≤ 1048576
            omega
          · exact HM.out j (by omega)
        clear e3 hV
        go_wp2
        go_roundw
        case rel => exact ⟨V, i + 1, rfl, by simp, by omega, by omega, HM2, HFA⟩
        case measure => simp [RowKit.intOf]; omega
    · go_wp2
      go_ret
      exact ⟨⟨false, rfl, fun _ j hj => HM.out j (by omega)⟩, HF.out⟩
theorem newBk_eq : Bq.newBk = #[.int .i64 0, .slice none 0 0, .slice none 0 0, .slice none 0 0, .slice none 0 0, .slice none 0 0, .slice none 0 0, .slice none 0 0, .slice none 0 0, .slice none 0 0, .slice none 0 0, .slice none 0 0] := rfl
set_option maxHeartbeats 32000000 in
set_option maxRecDepth 100000 in
theorem dpl (ao : Option Addr) (L cap : Nat) (os : List Oq) (w : World) (hO : ORs w ao os) (hL : L = os.length) (ht : Bq.Tab w) :
    Calls Tryz.prog 3 #[.slice ao L cap] w fun e w' => e = .returned (.bool true) ∧ Fr [] w w' := by
  have HL : Hid (L = os.length) := hL
  have hLm : L ≤ 140737488355328 := by rw [hL]; exact hO.few
  have HO : Hid (∀ W, Fr [] w W → ORs W ao os) := fun W hf => hO.keep hf
  have HTb : Hid (Bq.Tab w) := ht
  have HBy : Hid (Calls _ _ _ _ _) := beyond11_any ao L cap os w hO hL
  clear hO hL ht
  go_enter Tryz.func3, Tryz.ntmps3
  go_wp2_with fail
  refine Calls.mono HBy.out ?_
  rintro e w1 ⟨⟨bb, rfl, hbb⟩, hF1⟩
  have HF1 : Hid (Fr [] w w1) := hF1
  cases bb with
  | true =>
    clear hbb
    go_wp2
    go_ret
    exact ⟨rfl, HF1.out⟩
  | false =>
  have HMs : Hid (∀ j, j < L → (os.getD j Oq.zero).M ≤ 1048576) := hbb rfl
  clear hbb hF1 HBy
  by_cases hbig : 2000 < L
  · have hbi : (2000 : Int) < (L : Int) := by omega
    go_wp2
    go_ret
    exact ⟨rfl, HF1.out⟩
  have hL2 : L ≤ 2000 := by omega
  have hbi : decide ((2000 : Int) < (L : Int)) = false := by simp; omega
  have HN1 : Hid (Calls _ _ _ _ _) := tl_new w1
  clear hbig
  go_wp2_with fail
  refine Calls.mono HN1.out ?_
  rintro e w2 ⟨tb, B, rfl, hT2, hB2, hF2⟩
  have HT2 : Hid (Tl w2 tb B 0 [] (fun _ => False)) := hT2
  have HF2 : Hid (Fr [] w w2) := HF1.out.then hF2
  have HB2 : Hid (∀ j ∈ B, w.heap.size ≤ j) := fun j hj => Nat.le_trans HF1.out.size (hB2 j hj)
  have HN2 : Hid (Calls _ _ _ _ _) := unew_any w2
  clear hT2 hB2 hF2 HN1 HF1
  go_wp2_with fail
  refine Calls.mono HN2.out ?_
  rintro e w3 ⟨g, rfl, hg, hR3, hF3⟩
  obtain ⟨z, HZ⟩ : ∃ z, Hid (z = w3.heap.size) := ⟨_, rfl⟩
  obtain ⟨w4, HW4⟩ : ∃ w4, Hid (w4 = w3.alloc (.cells #[.map none, .int .i64 0, .map none, .map none] 32)) := ⟨_, rfl⟩
  have hF4 : Fr [] w3 w4 := by rw [HW4.out]; exact Fr.alloc _ _ _
  have hz4 : NoT w4 z := by rw [HW4.out, HZ.out]; exact heap_alloc_new w3 _
  have HSn : Hid (Sn w w4 tb g z 0 B [g]) := by
    have hBm := HT2.out.mine
    have hzs : z = w3.heap.size := HZ.out
    have hs3 := hF3.size
    have hs2 := HF2.out.size
    have hgl : g < w3.heap.size := lt_of_block hR3.box
    refine ⟨⟨[], fun _ => False, (HT2.out.quiet hF3).quiet hF4, ⟨none, 0, 0, [], [], rfl, hR3.quiet hF4, Rel.zero⟩, fun j hj hm => ?_⟩, hz4, fun j hj => ?_, fun j hj => ?_, (HF2.out.then hF3).then hF4⟩
    · simp at hm; have := hBm j hj; omega
    · rcases hj with hj | hj
      · have := hBm j hj; omega
      · simp at hj; omega
    · rcases hj with rfl | hj | hj
      · omega
      · exact HB2.out j hj
      · simp at hj; omega
  obtain ⟨bk, HBk⟩ : ∃ bk, Hid (bk = w4.heap.size) := ⟨_, rfl⟩
  obtain ⟨w5, HW5⟩ : ∃ w5, Hid (w5 = w4.alloc (Obj.cells #[.int .i64 0, .slice none 0 0, .slice none 0 0, .slice none 0 0, .slice none 0 0, .slice none 0 0, .slice none 0 0, .slice none 0 0, .slice none 0 0, .slice none 0 0, .slice none 0 0, .slice none 0 0] 46)) := ⟨_, rfl⟩
  have HSt : Hid (St w w4 w5 tb g z bk 0 0 B [g] [bk]) := by rw [HW5.out, HBk.out]; exact st_born HSn.out
  clear hR3 hF3 hF4 hz4 HN2 HT2 HF2 HB2 hg HSn
  go_upto_region 7 with fail
  rw [← HW4.out, ← HZ.out]
  go_wp2_with fail
  rw [← HW5.out, ← HBk.out]
  clear hbi HW4 HW5 HBk HZ
  go_loopw [7, 8] (fun kk ii wr => ∃ (i bk T n : Nat) (B RA KB : List Nat) (wb : World), kk = .pointer (some ⟨bk, 0, none⟩) ∧ ii = .int .i64 i ∧ i ≤ L ∧ T ≤ 2 * i ∧ n ≤ 130 * i ∧ Hid (St w wb wr tb g z bk T n B RA KB)) (fun _ ii _ => L - (RowKit.intOf ii).toNat)
  case atStart => exact ⟨0, bk, 0, 0, B, [g], [bk], w4, rfl, rfl, Nat.zero_le _, Nat.zero_le _, Nat.zero_le _, HSt⟩
  case round =>
    clear HSt
    obtain ⟨i, bk, T, n, B, RA, KB, wb, rfl, rfl, hi1, hT, hn, HS⟩ := hrel
    by_cases hi : i < L
    · have hil : i < os.length := by rw [← HL.out]; exact hi
      obtain ⟨b, off, rfl, _, hcl⟩ := (HO.out _ HS.out.sn.fr).lies (by omega)
      clear hcl
      obtain ⟨o, ho⟩ : ∃ o, o = os.getD i Oq.zero := ⟨_, rfl⟩
      have HC : Hid (∀ W, Fr [] w W → W.cell? ⟨b, off + i * 5, none⟩ = some (.int .u8 (o.kd : Int)) ∧ W.cell? ⟨b, off + i * 5 + 1, none⟩ = some (.int .i64 o.x) ∧ W.cell? ⟨b, off + i * 5 + 2, none⟩ = some (.int .i64 o.nn) ∧ W.cell? ⟨b, off + i * 5 + 3, none⟩ = some (.slice o.wo o.M o.mc) ∧ W.cell? ⟨b, off + i * 5 + 4, none⟩ = some (.string o.key)) := fun W hf => (HO.out _ hf).at hil ho
      have hat : o.at w := by rw [ho]; exact (HO.out _ (Fr.refl _ _)).each _ (oq_mem hil)
      have HOp : Hid (OpA w o.x o.nn o.wo o.M o.ws o.key) := ⟨hat.x, hat.nn, hat.ws, hat.M, by rw [ho]; exact HMs.out i hi, hat.key⟩
      have HA1 : Hid (Calls _ _ _ _ _) := asked_any (asks_live w wb tb g z bk) HS.out (by omega) (by omega) o.kd o.x o.nn o.wo o.M o.mc o.ws o.key HOp.out
      obtain ⟨c0, c1, c2, c3, c4⟩ := HC.out _ HS.out.sn.fr
      obtain ⟨kd, x, nn, wo, M, mc, ws, key⟩ := o
      simp only at HC HOp HA1 c0 c1 c2 c3 c4
      clear ho hat HS
      go_wp2_with fail
      refine Calls.mono HA1.out ?_
      rintro e w6 ⟨rfl, T2, n2, B2, RA2, KB2, hT2, hn2, hS2⟩
      have HA2 : Hid (Calls _ _ _ _ _) := asked_any (asks_none w wb tb g z bk) hS2 (by omega) (by omega) kd x nn wo M mc ws key HOp.out
      clear c0 c1 c2 c3 c4
      obtain ⟨c0, c1, c2, c3, c4⟩ := HC.out _ hS2.sn.fr
      clear hS2 HA1
      go_wp2_with fail
      refine Calls.mono HA2.out ?_
      rintro e w7 ⟨rfl, T3, n3, B3, RA3, KB3, hT3, hn3, hS3⟩
      have HS3 : Hid (St w wb w7 tb g z bk T3 n3 B3 RA3 KB3) := hS3
      clear c0 c1 c2 c3 c4 hS3 HA2 HC HOp
      by_cases h8 : i % 8 = 7
      · have h8i : ((i : Int) % 8 == 7) = true := by rw [beq_iff_eq]; omega
        have h8t : (Int.tmod (i : Int) 8 == 7) = true := by rw [Int.tmod_eq_emod_of_nonneg (by omega)]; exact h8i
        have HAp : Hid (Calls _ _ _ _ _) := st_apart HS3.out HTb.out
        go_wp2_with fail
        refine Calls.mono HAp.out ?_
        rintro e w8 ⟨rfl, hS8⟩
        obtain ⟨w9, HW9⟩ : ∃ w9, Hid (w9 = w8.alloc (Obj.cells #[.int .i64 0, .slice none 0 0, .slice none 0 0, .slice none 0 0, .slice none 0 0, .slice none 0 0, .slice none 0 0, .slice none 0 0, .slice none 0 0, .slice none 0 0, .slice none 0 0, .slice none 0 0] 46)) := ⟨_, rfl⟩
        have HS9 : Hid (St w w8 w9 tb g z w8.heap.size 0 n3 B3 RA3 [w8.heap.size]) := by rw [HW9.out]; exact st_born hS8
        clear hS8 HAp HS3
        go_wp2
        rw [← HW9.out]
        go_roundw
        case rel => exact ⟨i + 1, w8.heap.size, 0, n3, B3, RA3, _, w8, rfl, by simp, by omega, by omega, by omega, HS9⟩
        case measure => simp [RowKit.intOf]; omega
      · have h8i : ((i : Int) % 8 == 7) = false := by rw [beq_eq_false_iff_ne]; omega
        have h8t : (Int.tmod (i : Int) 8 == 7) = false := by rw [Int.tmod_eq_emod_of_nonneg (by omega)]; exact h8i
        go_wp2
        go_roundw
        case rel => exact ⟨i + 1, bk, T3, n3, B3, RA3, KB3, wb, rfl, by simp, by omega, by omega, by omega, HS3⟩
        case measure => simp [RowKit.intOf]; omega
    · have hil : ¬ (i : Int) < (L : Int) := by omega
      have HAp : Hid (Calls _ _ _ _ _) := st_apart HS.out HTb.out
      clear HS
      go_wp2_with fail
      refine Calls.mono HAp.out ?_
      rintro e w8 ⟨rfl, hS8⟩
      obtain ⟨w9, HW9⟩ : ∃ w9, Hid (w8.alloc (Obj.cells #[.int .i64 0, .slice none 0 0, .slice none 0 0, .slice none 0 0, .slice none 0 0, .slice none 0 0, .slice none 0 0, .slice none 0 0, .slice none 0 0, .slice none 0 0, .slice none 0 0, .slice none 0 0] 46) = w9) := ⟨_, rfl⟩
      have hS9 : St w w8 w9 tb g z w8.heap.size 0 n B RA [w8.heap.size] := by rw [← HW9.out]; exact st_born hS8
      have HA3 : Hid (Calls Tryz.prog 7 #[.pointer (some ⟨tb, 0, none⟩), .pointer (some ⟨g, 0, none⟩), .agg #[.int .u8 0, .int .i64 0, .int .i64 0, .slice none 0 0, .string ⟨#[]⟩], .pointer (some ⟨w8.heap.size, 0, none⟩)] w9 fun e w' => e = .returned (.bool true) ∧ AskT w w8 w' tb g z w8.heap.size 0 n) := asked_any (asks_live w w8 tb g z w8.heap.size) hS9 (by omega) (by omega) 0 0 0 none 0 0 [] ⟨#[]⟩ ⟨⟨by omega, by omega⟩, ⟨by omega, by omega⟩, WRs.nil _ _, rfl, by omega, (by show (0 : Nat) ≤ _; omega)⟩
      clear hS9 hS8 HAp
      go_wp2_with fail
      rw [HW9.out]
      refine Calls.mono HA3.out ?_
      rintro e wz ⟨rfl, T9, n9, B9, RA9, KB9, _, _, hSz⟩
      have HFz : Hid (Fr [] w wz) := hSz.sn.fr
      clear hSz HA3
      go_wp2
      go_ret
      exact ⟨rfl, HFz.out⟩
end Go.Proofs.YtdcmjoildfofcaaGreatDoor
