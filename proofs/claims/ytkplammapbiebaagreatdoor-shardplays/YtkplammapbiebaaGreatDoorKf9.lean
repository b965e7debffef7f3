/- The document's shard: contract of Scan. Conditions as it names them. -/
import Derived.Test.YtkplammapbiebaaGreatDoorKc9
namespace Go.Proofs.YtkplammapbiebaaGreatDoor
open Go.ChangeShapes Go.WideShapes Go.ChangeAt Go.RowKit Go.Lib Go.Maps
set_option linter.unusedVariables false
set_option linter.unusedSimpArgs false

theorem EOut.keep9 {w w1 w2 : World} {ro : Option Addr} {N rc : Nat} {ps : List Pr} (h : EOut w w1 ro N rc ps) (hf : Fr [] w1 w2) : EOut w w2 ro N rc ps := ⟨h.len, owns_keepB h.row hf (by simp)⟩
section
variable {w0 w : World} {g N lc : Nat} {lo : Option Addr} {hs : List Hd}
set_option maxHeartbeats 4000000 in
set_option maxRecDepth 100000 in
theorem kscan_any (h : KSh w0 w g N lc lo hs) (key en : ByteArray) (k : Int) : Calls Tryz.prog 71 #[.pointer (some ⟨g, 0, none⟩), .string key, .string en, .int .i64 k] w fun e w' => ∃ ro R rc, e = .returned (.slice ro R rc) ∧ EOut w w' ro R rc (hs.filterMap (scOf key en k)) ∧ R ≤ N ∧ Fr [] w w' := by
  have HK : Hid (∀ W, Fr [] w W → KSh w0 W g N lc lo hs) := fun W hf => h.keep hf
  have HN : Hid (N = hs.length) := h.log.len
  have hfew := h.few
  have HOk : Hid (LoOk hs) := h.ok
  clear h
  go_enter Tryz.func71, Tryz.ntmps71
  have c0 := (HK.out _ (Fr.refl _ _)).c0
  go_wp2_with fail
  go_loopw [9, 10] (fun vv ii wr => ∃ (i R rc : Nat) (ro : Option Addr), vv = .slice ro R rc ∧ ii = .int .i64 i ∧ i ≤ N ∧ R ≤ i ∧ Hid (EOut w wr ro R rc ((hs.take i).filterMap (scOf key en k))) ∧ Fr [] w wr) (fun _ ii _ => N - (RowKit.intOf ii).toNat)
  case atStart => exact ⟨0, 0, 0, none, rfl, rfl, Nat.zero_le _, Nat.le_refl _, ⟨rfl, ⟨rfl, .inl ⟨rfl, rfl⟩⟩⟩, Fr.refl _ _⟩
  case round =>
    clear c0
    obtain ⟨i, R, rc, ro, rfl, rfl, hiN, hRi, HO, hFr⟩ := hrel
    have c0 := (HK.out _ hFr).c0
    by_cases hi : i < N
    · have hi' : i < hs.length := by rw [← HN.out]; exact hi
      have hR := (HK.out _ hFr).rs
      obtain ⟨b, off, e9, hbl, hc⟩ := hR.lies (by omega)
      obtain ⟨d0, d1⟩ := hc i hi'
      have hE := hR.each _ (hgetD_mem hs i hi')
      have HT : Hid ((hs.take (i + 1)).filterMap (scOf key en k) = (hs.take i).filterMap (scOf key en k) ++ (scOf key en k (hs.getD i Hd.zero)).toList) := by
        show _ = _
        rw [htake_snoc hs i hi', List.filterMap_append]
        congr 1
      have HX : Hid (okV (hs.getD i Hd.zero).vs) := (HOk.out.2 _ (hgetD_mem hs i hi')).2.2
      obtain ⟨x, hx⟩ : ∃ x, x = hs.getD i Hd.zero := ⟨_, rfl⟩
      rw [← hx] at d0 d1 hE HT HX
      clear hc hx hR
      obtain ⟨k2, vo, M, cm, vs⟩ := x
      simp only at d0 d1
      have HM2 : Hid (M = vs.length) := hE.len
      have HV : Hid (VRs wr vo vs) := hE.rs
      have HC : Hid (∀ W, Fr [] wr W → W.cell? ⟨b, off + i * 2, none⟩ = some (.string k2)) := fun W hf => (World.cell?_of_block (hf.block b hbl (by simp))).trans d0
      subst e9
      clear hE
      go_wp2_with fail
      refine (kat_any vo M cm k vs wr HV.out HM2.out).mono ?_
      rintro e w4 ⟨r, o, rfl, hA, hF4⟩
      obtain ⟨hA1, hA2⟩ := hA.is HX.out
      have HA1 : Hid (o = (valAt vs k).isSome) := hA1
      have HA2 : Hid (r = (valAt vs k).getD noS) := hA2
      have hG4 := hFr.then hF4
      have e0 := (HK.out _ hG4).c0
      have e1 := HC.out _ hF4
      have HC4 : Hid (∀ W, Fr [] w4 W → W.cell? ⟨b, off + i * 2, none⟩ = some (.string k2)) := fun W hf => HC.out W (hF4.then hf)
      have HO4 : Hid (EOut w w4 ro R rc ((hs.take i).filterMap (scOf key en k))) := HO.out.keep9 hF4
      clear hA hA1 hA2 hF4 hFr HO HC d0 d1 c0 HV
      cases o with
      | false =>
        have HO2 : Hid (EOut w w4 ro R rc ((hs.take (i + 1)).filterMap (scOf key en k))) := by
          show EOut _ _ _ _ _ _
          have hz : valAt vs k = none := by
            cases hv : valAt vs k with
            | none => rfl
            | some v => have := HA1.out; rw [hv] at this; cases this
          have hz2 : scOf key en k ⟨k2, vo, M, cm, vs⟩ = none := by unfold scOf; rw [hz]; simp
          rw [HT.out, hz2]
          simpa using HO4.out
        clear HO4 HT HA1 HA2
        go_wp2
        go_roundw
        case rel => exact ⟨i + 1, R, rc, ro, rfl, by simp, by omega, by omega, HO2, hG4⟩
        case measure => simp [RowKit.intOf]; omega
      | true =>
        have HVa : Hid (valAt vs k = some r) := by
          show _ = _
          have h1 := HA1.out
          have h2 := HA2.out
          cases hv : valAt vs k with
          | none => rw [hv] at h1; cases h1
          | some v => rw [hv] at h2; rw [h2]; rfl
        clear HA1 HA2
        obtain ⟨B, HB⟩ : ∃ B, Hid (B = inS key en k2) := ⟨_, rfl⟩
        go_wp2_with fail
        refine (zIn_any k2 key en B w4 HB.out).mono ?_
        rintro e w5 ⟨rfl, hF5⟩
        have hG5 := hG4.then hF5
        have f0 := (HK.out _ hG5).c0
        have f1 := HC4.out _ hF5
        have HO5 : Hid (EOut w w5 ro R rc ((hs.take i).filterMap (scOf key en k))) := HO4.out.keep9 hF5
        clear hF5 HO4 HC4 e0 e1 hG4
        cases B with
        | false =>
          have HO2 : Hid (EOut w w5 ro R rc ((hs.take (i + 1)).filterMap (scOf key en k))) := by
            show EOut _ _ _ _ _ _
            have hz2 : scOf key en k ⟨k2, vo, M, cm, vs⟩ = none := by unfold scOf; rw [if_neg (by rw [← HB.out]; simp)]
            rw [HT.out, hz2]
            simpa using HO5.out
          clear HO5 HT
          go_wp2
          go_roundw
          case rel => exact ⟨i + 1, R, rc, ro, rfl, by simp, by omega, by omega, HO2, hG5⟩
          case measure => simp [RowKit.intOf]; omega
        | true =>
          obtain ⟨qs, hqs⟩ : ∃ qs, qs = (hs.take i).filterMap (scOf key en k) := ⟨_, rfl⟩
          have HQ : Hid (qs ++ [(k2, r)] = (hs.take (i + 1)).filterMap (scOf key en k)) := by
            show _ = _
            have hz2 : scOf key en k ⟨k2, vo, M, cm, vs⟩ = some (k2, r) := by unfold scOf; rw [if_pos HB.out.symm, HVa.out]; rfl
            rw [HT.out, ← hqs, hz2]
            rfl
          have hlen := HO5.out.len
          rw [← hqs] at hlen
          have HLn : Hid (R = qs.length) := hlen
          have HRow : Hid (w5.ownsRow w.heap.size 119 2 (.slice ro R rc) qs.length (celsE qs)) := by
            show World.ownsRow _ _ _ _ _ _ _
            rw [← hlen, hqs]
            exact HO5.out.row
          have hlb : qs.length + 1 < 2199023255552 := by rw [← hlen]; omega
          have hsz := hG5.size
          clear hlen hqs HO5 HT
          go_wp2_with (first
            | (at_builtin; refine wpList_appE _ rfl _ _ rfl w.heap.size (.slice ro R rc) qs rfl (owns_keepB HRow.out (Fr.alloc [] w5 _) (by simp)) (some ⟨w5.heap.size, 0, none⟩) 1 1 [(k2, r)] rfl (esl_new w5 (k2, r)) hlb (by simp; omega) ?_
               intro bo n1 cap1 w6 hn1 hO6 hF6
               have hG6 : Fr [] w w6 := (hG5.then (Fr.alloc [] w5 _)).on hF6 (fun y hy => (owns_cells HRow.out (Option.mem_toList.1 hy)).1)
               have hn2 : n1 = R + 1 := by rw [hn1, HLn.out]; simp
               go_frame))
          go_roundw
          case rel => exact ⟨i + 1, n1, cap1, bo, rfl, by simp, by omega, by omega, ⟨by rw [← HQ.out]; exact hn1, by rw [← HQ.out]; exact hO6⟩, hG6⟩
          case measure => simp [RowKit.intOf]; omega
    · obtain rfl : i = N := by omega
      have HO2 : Hid (EOut w wr ro R rc (hs.filterMap (scOf key en k))) := by
        have h1 := HO.out
        rw [List.take_of_length_le (by rw [← HN.out]; omega)] at h1
        exact h1
      go_wp2
      go_ret
      exact ⟨ro, R, rc, rfl, HO2.out, hRi, hFr⟩
end
end Go.Proofs.YtkplammapbiebaaGreatDoor
