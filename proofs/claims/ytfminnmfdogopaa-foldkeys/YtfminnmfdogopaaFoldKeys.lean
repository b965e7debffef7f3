/- For every list of transactions and every number the law FoldKeys returns true, and the list reads as it did. No conditions. -/
import Derived.Test.YtfminnmfdogopaaAmg7
import Derived.Test.YtfminnmfdogopaaLfT
import Derived.Test.YtfminnmfdogopaaAsko
namespace Go.Proofs.Ytfminnmfdogopaa.foldKeys
open Go.ChangeShapes Go.WideShapes Go.ChangeAt Go.RowKit Go.Lib Go.Maps Go.Sort
set_option linter.unusedVariables false
set_option linter.unusedSimpArgs false

set_option maxHeartbeats 16000000 in
set_option maxRecDepth 100000 in
theorem walk (ao : Option Addr) (L cap : Nat) (ts : List Tm) (u : Nat) (hu : u < 65536) (w : World) (hT : TRs w ao ts) (hLe : L = ts.length) (hcap : L ≤ cap) :
    Calls Try.prog 5 #[.slice ao L cap, .int .u16 (u : Int)] w fun e w' => e = .returned (.bool true) ∧ Fr [] w w' := by
  have HL : Hid (L = ts.length) := hLe
  have HI : Hid (∀ W, Fr [] w W → TRs W ao ts) := fun W hf => hT.keep hf
  obtain ⟨c, hc⟩ := Bad.ex (txs ts) 1
  have HC : Hid (Bad 1 (txs ts) c) := hc
  obtain ⟨Bm, HBm⟩ : ∃ Bm : Bool, Hid (Bm = true ↔ c = 0) := ⟨decide (c = 0), by show _ ↔ _; simp⟩
  clear hLe hT hc
  go_enter Try.func5, Try.ntmps5
  go_wp2_with fail
  refine (alive7_any _).mono ?_
  rintro e w1 ⟨rfl, hF1⟩
  go_wp2_with fail
  refine (txnsSizeB_any ao L cap ts _ (HI.out _ hF1) HL.out).mono ?_
  rintro e w2 ⟨N0, rfl, hN0b, hLN, hFw0, hF2⟩
  have hG2 := hF1.then hF2
  clear hFw0 hF1 hF2
  go_wp2_with fail
  refine (beyond_any w2.heap.size N0 _ (by omega) (by simp)).mono ?_
  rintro e w3 ⟨rfl, rfl⟩
  have hG3 := hG2.then (Fr.alloc [] w2 (.cells #[.int .i64 (N0 : Int)] 3))
  obtain ⟨w3, HW3⟩ : ∃ w3, Hid (w2.alloc (.cells #[.int .i64 (N0 : Int)] 3) = w3) := ⟨_, rfl⟩
  rw [HW3.out] at hG3 ⊢
  clear HW3 hG2
  obtain ⟨Bq, hBq⟩ : ∃ Bq, Bq = decide (1048576 < N0) := ⟨_, rfl⟩
  rw [← hBq]
  cases Bq with
  | true =>
    clear hBq
    go_wp2_with fail
    refine (alive7_any _).mono ?_
    rintro e w4 ⟨rfl, hF4⟩
    have hG4 := hG3.then hF4
    go_wp2
    go_ret
    exact ⟨rfl, hG4⟩
  | false =>
    have hLs : L < 1048577 := by have : ¬ (1048576 < N0) := by simpa using hBq.symm
                                 omega
    clear hBq hN0b hLN
    go_wp2_with fail
    refine (may7_any ao L cap c ts _ (HI.out _ hG3) HL.out HC.out Bm HBm.out).mono ?_
    rintro e w4 ⟨rfl, hF4⟩
    have hG4 := hG3.then hF4
    clear hG3 hF4
    cases Bm with
    | false =>
      go_wp2_with fail
      refine (alive7_any _).mono ?_
      rintro e w5 ⟨rfl, hF5⟩
      have hG5 := hG4.then hF5
      go_wp2
      go_ret
      exact ⟨rfl, hG5⟩
    | true =>
      have HOK : Hid (okL 1 (txs ts)) := HC.out.ok.1 (HBm.out.1 rfl)
      clear HC HBm
      by_cases hbig : 200 < L
      · go_wp2_with fail
        refine (alive7_any _).mono ?_
        rintro e w5 ⟨rfl, hF5⟩
        have hG5 := hG4.then hF5
        go_wp2
        go_ret
        exact ⟨rfl, hG5⟩
      · have hL200 : L ≤ 200 := by omega
        obtain ⟨m, hm⟩ : ∃ m, m = u % (L + 1) := ⟨_, rfl⟩
        have hmL : m ≤ L := by rw [hm]; have := Nat.mod_lt u (show 0 < L + 1 by omega); omega
        obtain ⟨ps, hps, hpl⟩ := fo_len ((txs ts).take m) (fun t ht => (okL_mem HOK.out t (List.mem_of_mem_take ht)).2.2.1)
        have HPs : Hid (Is (fo ((txs ts).take m)) ps) := hps
        have hpl2 : ps.length ≤ 6400 := by rw [List.length_take] at hpl; omega
        clear hps hpl
        have hmI : ((u : Int) % ((L : Int) + 1)) = (m : Int) := by rw [hm]; simp
        have hq200 : decide ((200 : Int) < (L : Int)) = false := by simp; omega
        clear hm
        obtain ⟨Nx, HNx⟩ : ∃ Nx, Hid (Nx = ps.length) := ⟨_, rfl⟩
        go_wp2_with fail
        rw [hmI]
        refine (fStore_any ao L cap (m : Int) ps Nx 0 ts _ (HI.out _ hG4) HL.out hcap (by omega) (by omega) (sc_of HOK.out (by rw [txs_length, ← HL.out]; exact hmL) HPs.out) HNx.out).mono ?_
        rintro e w5 ⟨ro, rc, rfl, hE5, hF5⟩
        have hG5 := hG4.then hF5
        have HE5 : Hid (∀ W, Fr [] w5 W → EOut w4 W ro Nx rc ps) := fun W hf => hE5.keep hf
        have hNx : Nx < 1099511627776 := by rw [HNx.out]; omega
        clear hE5 hF5 hG4 hmI hq200
        go_wp2_with fail
        go_loopw [9] (fun ii wr => ∃ (i : Nat), ii = .int .i64 i ∧ i ≤ Nx ∧ Fr [] w5 wr) (fun ii _ => Nx - (intOf ii).toNat)
        case atStart => exact ⟨0, rfl, Nat.zero_le _, Fr.refl _ _⟩
        case round =>
          obtain ⟨i, rfl, hiN, hFr⟩ := hrel
          by_cases hi : i < Nx
          · have hi' : i < ps.length := by rw [← HNx.out]; exact hi
            have hE := (HE5.out _ hFr).ers (by rw [← HNx.out]; exact hNx)
            obtain ⟨g, hro, d0, d1⟩ := hE.at i hi'
            by_cases hi0 : 0 < i
            · obtain ⟨i', rfl⟩ : ∃ i', i = i' + 1 := ⟨i - 1, by omega⟩
              obtain ⟨g', hro', b0, b1⟩ := hE.at i' (by omega)
              rw [hro] at hro'
              cases hro'
              have hlt := inc_getD HPs.out.inc (show i' < i' + 1 by omega) hi'
              obtain ⟨⟨kA, vA⟩, hA⟩ : ∃ y, y = ps.getD i' e0 := ⟨_, rfl⟩
              obtain ⟨⟨kB, vB⟩, hB⟩ : ∃ y, y = ps.getD (i' + 1) e0 := ⟨_, rfl⟩
              rw [← hA] at b0 b1 hlt
              rw [← hB] at d0 d1 hlt
              simp only at b0 b1 d0 d1 hlt
              clear hA hB hE
              subst hro
              have hd : decide ((0 : Int) < ((i' + 1 : Nat) : Int)) = true := by simp <;> omega
              go_wp2_with fail
              go_quiet (fail)
              go_wp2
              exact ⟨⟨i' + 1 + 1, by simp, by omega, hFr.then (Fr.drewN _ _ _)⟩, by simp [intOf]; omega⟩
            · obtain rfl : i = 0 := by omega
              have hd : decide ((0 : Int) < ((0 : Nat) : Int)) = false := by simp
              clear hE d0 d1
              go_wp2_with fail
              go_quiet (fail)
              go_wp2
              exact ⟨⟨1, by simp, by omega, hFr.then (Fr.drewN _ _ _)⟩, by simp [intOf]; omega⟩
          · have hG6 := hG5.then hFr
            clear hFr HE5
            obtain ⟨E, HEq⟩ : ∃ E, Hid (E = fo ((txs ts).take m)) := ⟨_, rfl⟩
            obtain ⟨wA, hwA⟩ : ∃ wA, wA = wr := ⟨_, rfl⟩
            subst hwA
            go_wp2_with fail
            go_loopw [8, 10, 11] (fun ff vv ii wr => ∃ (i F N c : Nat) (so : Option Addr) (ss : List ByteArray), ff = .int .i64 F ∧ vv = .slice so N c ∧ ii = .int .i64 i ∧ i ≤ L ∧ N ≤ i * 32 ∧ Hid (KOut w wr so N c ss) ∧ Hid (ss.Nodup ∧ F = (ss.filter fun s => (E s).isSome).length ∧ ∀ t ∈ (txs ts).take i, ∀ x ∈ t.ws, x.key ∈ ss) ∧ Fr [] w wr) (fun _ _ ii _ => L - (intOf ii).toNat)
            case atStart => exact ⟨0, 0, 0, 0, none, [], rfl, rfl, rfl, Nat.zero_le _, Nat.le_refl _, ⟨rfl, ⟨rfl, .inl ⟨rfl, rfl⟩⟩⟩, ⟨List.nodup_nil, rfl, by simp⟩, hG6⟩
            case round =>
              obtain ⟨i, F, N, c, so, ss0, rfl, rfl, rfl, hiL, hNi, HK, HS, hFr⟩ := hrel
              obtain ⟨wo, hwo⟩ : ∃ wo, wo = wr := ⟨_, rfl⟩
              subst hwo
              by_cases hi : i < L
              · have hi' : i < ts.length := by rw [← HL.out]; omega
                obtain ⟨bb, off, eao, hbl, hcc⟩ := (HI.out _ (Fr.refl _ _)).lies (by omega)
                have hx := hcc i hi'
                have hat := (HI.out _ (Fr.refl _ _)).each _ (tgetD_mem ts i hi')
                have hm := okL_mem HOK.out (ts.getD i Tm.zero).tx (List.mem_map.2 ⟨_, tgetD_mem ts i hi', rfl⟩)
                obtain ⟨x, hxx⟩ : ∃ x, x = ts.getD i Tm.zero := ⟨_, rfl⟩
                rw [← hxx] at hx hat hm
                have HX : Hid (x = ts.getD i Tm.zero) := hxx
                clear hxx hcc
                obtain ⟨n1, xo, M, cm, ws⟩ := x
                obtain ⟨c0, c1⟩ := hx
                simp only at c0 c1
                have HOW : Hid (∀ x ∈ ws, okW x) := hm.2.2.2
                have HML : Hid (M = ws.length) := hat.len
                have hM32 : M ≤ 32 := by rw [HML.out]; exact hm.2.2.1
                have HWR : Hid (∀ W, Fr [] w W → WRs W xo ws ∧ W.cell? ⟨bb, off + i * 2 + 1, none⟩ = some (.slice xo M cm)) := fun W hf => ⟨hat.rs.keep hf, (World.cell?_of_block (hf.block bb hbl (by simp))).trans c1⟩
                clear hat hm c0 c1
                subst eao
                have eao : (some ⟨bb, off, none⟩ : Option Addr) = some ⟨bb, off, none⟩ := rfl
                go_wp2_with fail
                go_loopw [8, 10, 12] (fun ff vv kk wr => ∃ (k F2 N2 c2 : Nat) (so2 : Option Addr) (ss : List ByteArray), ff = .int .i64 F2 ∧ vv = .slice so2 N2 c2 ∧ kk = .int .i64 k ∧ k ≤ M ∧ N2 ≤ i * 32 + k ∧ Hid (KOut w wr so2 N2 c2 ss) ∧ Hid (ss.Nodup ∧ F2 = (ss.filter fun s => (E s).isSome).length ∧ (∀ t ∈ (txs ts).take i, ∀ x ∈ t.ws, x.key ∈ ss) ∧ ∀ x ∈ ws.take k, x.key ∈ ss) ∧ Hid (Fr [] w wr) ∧ wr.cell? ⟨bb, off + i * 2 + 1, none⟩ = some (.slice xo M cm)) (fun _ _ kk _ => M - (intOf kk).toNat)
                case atStart => exact ⟨0, F, N, c, so, ss0, rfl, rfl, rfl, Nat.zero_le _, by omega, HK, ⟨HS.out.1, HS.out.2.1, HS.out.2.2, by simp⟩, hFr, (HWR.out _ hFr).2⟩
                case round =>
                  obtain ⟨k, F2, N2, c2, so2, ss, rfl, rfl, rfl, hkM, hN2, HK2, HS2, HF2, hcx⟩ := hrel
                  have hF2b : F2 ≤ 7000 := by
                    have h1 := HS2.out.2.1
                    have h2 := List.length_filter_le (fun s => (E s).isSome) ss
                    have h3 := HK2.out.len
                    omega
                  by_cases hk : k < M
                  · have hk' : k < ws.length := by rw [← HML.out]; exact hk
                    obtain ⟨b2, o2, e2, _, hc2⟩ := (HWR.out _ HF2.out).1.lies (by omega)
                    obtain ⟨d0, d1, d2⟩ := hc2 k hk'
                    have HMm : Hid (ws.getD k Wt.zero ∈ ws) := wgetD_mem ws k hk'
                    obtain ⟨y, hyy⟩ : ∃ y, y = ws.getD k Wt.zero := ⟨_, rfl⟩
                    rw [← hyy] at d0 d1 d2 HMm
                    have HTk : Hid (ws.take (k + 1) = ws.take k ++ [y]) := by show _ = _; rw [hyy]; exact wtake_snoc ws k hk'
                    clear hyy hc2
                    obtain ⟨k2, v2, p2⟩ := y
                    simp only at d0 d1 d2
                    subst e2
                    have hkk := HOW.out _ HMm.out
                    have hk64 : k2.size ≤ 64 := hkk.2.1
                    have hokK : okK k2 = true := (okK_iff k2).2 ⟨hkk.1, hkk.2.1⟩
                    have hN2s : N2 < 1099511627776 := by omega
                    clear hkk d1 d2
                    by_cases hin : k2 ∈ ss
                    · have HAm : Hid _ := among7_any w so2 N2 c2 ss k2 true wr HK2.out hN2s (by simp [hin])
                      have HS3 : Hid (ss.Nodup ∧ F2 = (ss.filter fun s => (E s).isSome).length ∧ (∀ t ∈ (txs ts).take i, ∀ x ∈ t.ws, x.key ∈ ss) ∧ ∀ x ∈ ws.take (k + 1), x.key ∈ ss) := ⟨HS2.out.1, HS2.out.2.1, HS2.out.2.2.1, fun x hx => by
                        rw [HTk.out] at hx
                        rcases List.mem_append.1 hx with h1 | h1
                        · exact HS2.out.2.2.2 x h1
                        · simp at h1; subst h1; exact hin⟩
                      go_wp2_with fail
                      refine Calls.mono HAm.out ?_
                      rintro e w7 ⟨rfl, hF7⟩
                      have HF7 : Hid (Fr [] w w7) := HF2.out.then hF7
                      have hc7 := (HWR.out _ HF7.out).2
                      have HK7 : Hid (KOut w w7 so2 N2 c2 ss) := HK2.out.keep hF7
                      clear HAm HS2 HF2 HK2 hF7 d0 hcx
                      go_wp2
                      go_roundw
                      case rel => exact ⟨k + 1, F2, N2, c2, so2, ss, rfl, rfl, by simp, by omega, by omega, HK7, HS3, HF7, hc7⟩
                      case measure => simp [intOf]; omega
                    · have HAm : Hid _ := among7_any w so2 N2 c2 ss k2 false wr HK2.out hN2s (by simp [hin])
                      have HSs : Hid ((ss ++ [k2]).Nodup ∧ (∀ t ∈ (txs ts).take i, ∀ x ∈ t.ws, x.key ∈ ss ++ [k2]) ∧ ∀ x ∈ ws.take (k + 1), x.key ∈ ss ++ [k2]) := by
                        refine ⟨?_, fun t ht x hx => List.mem_append_left _ (HS2.out.2.2.1 t ht x hx), fun x hx => ?_⟩
                        · rw [List.nodup_append]
                          refine ⟨HS2.out.1, by simp, fun a ha b hb => ?_⟩
                          simp at hb
                          subst hb
                          exact fun e => hin (e ▸ ha)
                        · rw [HTk.out] at hx
                          rcases List.mem_append.1 hx with h1 | h1
                          · exact List.mem_append_left _ (HS2.out.2.2.2 x h1)
                          · simp at h1; subst h1; simp
                      have HFl : Hid (((ss ++ [k2]).filter fun s => (E s).isSome).length = if (E k2).isSome = true then F2 + 1 else F2) := by
                        show _ = _
                        rw [List.filter_append, List.length_append, ← HS2.out.2.1]
                        by_cases h1 : (E k2).isSome = true <;> simp [h1]
                      go_wp2_with fail
                      refine Calls.mono HAm.out ?_
                      rintro e w7 ⟨rfl, hF7⟩
                      have hG7 : Fr [] w w7 := HF2.out.then hF7
                      have hK7 : KOut w w7 so2 N2 c2 ss := HK2.out.keep hF7
                      have HK7 : Hid (KOut w w7 so2 N2 c2 ss) := hK7
                      have hsz7 := hG7.size
                      clear HAm HK2 HF2 hF7 d0 hcx hK7 HS2
                      go_upto_region 22 with fail
                      go_wp2_with (first
                        | (at_builtin; refine wpList_appK w w7 rfl _ _ rfl so2 N2 c2 ss rfl HK7.out hN2s hsz7 k2 rfl ?_ hG7
                           intro so3 c3 w8 hK8 _ hG8
                           go_frame))
                      have HK8 : Hid (KOut w w8 so3 (N2 + 1) c3 (ss ++ [k2])) := hK8
                      clear hK8 HK7 hG7 hsz7
                      obtain ⟨val, HVal⟩ : ∃ val, Hid (val = (E k2).getD ⟨#[]⟩) := ⟨_, rfl⟩
                      obtain ⟨ok, HOkE⟩ : ∃ ok, Hid ((E k2).isSome = ok) := ⟨_, rfl⟩
                      have HCo : Hid (CoTold (txs ts) (m : Int) 0) := Or.inr (Or.inr ⟨HOK.out, ⟨by omega, by rw [txs_length, ← HL.out]; omega⟩, rfl⟩)
                      have HGT : Hid (GTold (txs ts) (m : Int) k2 val ok 0) := Or.inr (Or.inr ⟨HCo.out, hokK, rfl, by rw [HVal.out, HEq.out, Int.toNat_natCast], by rw [← HOkE.out, HEq.out, Int.toNat_natCast]⟩)
                      obtain ⟨v, hPv⟩ : ∃ v, Prv (txs ts) 1 (m + 1) k2 v := by
                        have h1 := (wall_spec (Pk := fun _ => true) HOK.out (i := 1) (by omega) m (by rw [txs_length, ← HL.out]; omega)).1 k2 rfl
                        rw [show 1 + m = m + 1 by omega] at h1
                        exact ⟨_, h1⟩
                      obtain ⟨q, hvq⟩ : ∃ q : Nat, v = (q : Int) := ⟨v.toNat, by have := hPv.le (by omega); omega⟩
                      subst hvq
                      have hqm : q ≤ m := by have := hPv.le (by omega); omega
                      have HPv : Hid (Prv (txs ts) 1 (m + 1) k2 (q : Int)) := hPv
                      have HNo : Hid (∀ mm, q < mm → mm < m + 1 → ¬ Wrt (txs ts) mm k2) := by
                        rcases hPv with ⟨h0, h1⟩ | ⟨q', h0, _, _, _, h1⟩
                        · exact fun mm a b => h1 mm (by omega) b
                        · obtain rfl : q = q' := by omega
                          exact h1
                      have HWT : Hid (WTold (txs ts) ((m : Int) + 1) k2 (q : Int) 0) := Or.inr (Or.inr (Or.inr ⟨HOK.out, ⟨by omega, by rw [txs_length, ← HL.out]; omega⟩, hokK, rfl, by rw [show ((m : Int) + 1).toNat = m + 1 by omega]; exact HPv.out⟩))
                      have HFo2 : Hid (E k2 = if (q : Int) = 0 then none else match lastW ((txs ts).getD ((q : Int).toNat - 1) Tx.zero).ws k2 with | none => none | some x => left1 x) := by
                        show _ = _
                        rw [HEq.out]
                        exact fo_prv (txs ts) k2 m (by rw [txs_length, ← HL.out]; exact hmL) _ HPv.out
                      clear hPv
                      go_wp2_with fail
                      refine (fGet_any (some ⟨bb, off, none⟩) L cap (m : Int) k2 val ok 0 ts _ (HI.out _ hG8) HL.out hcap (by omega) (by omega) HGT.out).mono ?_
                      rintro e w9 ⟨rfl, hF9⟩
                      have hG9 := hG8.then hF9
                      go_wp2_with fail
                      refine (fWriter_any (some ⟨bb, off, none⟩) L cap ((m : Int) + 1) k2 (q : Int) 0 ts _ (HI.out _ hG9) HL.out hcap (by omega) (by omega) HWT.out).mono ?_
                      rintro e w10 ⟨rfl, hF10⟩
                      have hG10 := hG9.then hF10
                      have HK10 : Hid (KOut w w10 so3 (N2 + 1) c3 (ss ++ [k2])) := (HK8.out.keep hF9).keep hF10
                      have hq0 : ¬ ((q : Int) < 0) := by omega
                      have hqm2 : ¬ ((m : Int) < (q : Int)) := by omega
                      clear HK8 hF9 hF10 hG8 hG9 HGT HWT HCo
                      have hFb : Fr [] w10 (w10.alloc (.cells #[.string ⟨#[]⟩, .string ⟨#[]⟩, .bool true] 53)) := Fr.alloc _ _ _
                      have hbx := heap_alloc_new w10 (.cells #[.string ⟨#[]⟩, .string ⟨#[]⟩, .bool true] 53)
                      by_cases hq : q = 0
                      · subst hq
                        have HDr : Hid (ok ≠ true ∧ val = ⟨#[]⟩) := by
                          show ok ≠ true ∧ val = _
                          have h1 := HFo2.out
                          rw [if_pos (by omega)] at h1
                          rw [← HOkE.out, HVal.out, h1]
                          exact ⟨by simp, rfl⟩
                        go_upto_region 28 with fail
                        obtain ⟨WZ, HWZ⟩ : ∃ WZ, Hid (w10.alloc (.cells #[.string ⟨#[]⟩, .string ⟨#[]⟩, .bool true] 53) = WZ) := ⟨_, rfl⟩
                        rw [HWZ.out] at hFb hbx ⊢
                        have HGZ : Hid (Fr [] w WZ) := hG10.then hFb
                        obtain ⟨bx, Hbx⟩ : ∃ bx, Hid (bx = w10.heap.size) := ⟨_, rfl⟩
                        rw [← Hbx.out] at hbx ⊢
                        have HBZ : Hid (∀ W, Fr [] WZ W → W.cell? ⟨bx, 1, none⟩ = some (.string ⟨#[]⟩) ∧ W.cell? ⟨bx, 2, none⟩ = some (.bool true)) := fun W hf => by
                          have h1 := hf.keep hbx (by simp)
                          exact ⟨by rw [cell_of_row _ _ _ _ _ _ h1]; rfl, by rw [cell_of_row _ _ _ _ _ _ h1]; rfl⟩
                        have HKZ : Hid (∀ W, Fr [] WZ W → Hid (KOut w W so3 (N2 + 1) c3 (ss ++ [k2]))) := fun W hf => (HK10.out.keep hFb).keep hf
                        have hqj0 : (0 : Nat) ≤ m := Nat.zero_le _
                        obtain ⟨q, Hq⟩ : ∃ q, Hid (q = 0) := ⟨0, rfl⟩
                        have HNo : Hid (∀ mm, q < mm → mm < m + 1 → ¬ Wrt (txs ts) mm k2) := by show ∀ _, _; rw [Hq.out]; exact HNo.out
                        clear HK10 hG10 hFb hbx HWZ HPv HFo2 hqm2 hq0
                        go_wp2_with fail
                        go_loopw [21] (fun qq wq => ∃ (j : Nat), qq = .int .i64 j ∧ q ≤ j ∧ j ≤ m ∧ Fr [] WZ wq) (fun qq _ => m - (intOf qq).toNat)
                        case atStart => exact ⟨0, by simp, by rw [Hq.out]; exact Nat.le_refl _, Nat.zero_le _, Fr.refl _ _⟩
                        case round =>
                          obtain ⟨j, rfl, hqj, hjm, hFz⟩ := hrel
                          have hGq := HGZ.out.then hFz
                          by_cases hj : j < m
                          · have hj' : j < ts.length := by rw [← HL.out]; omega
                            obtain ⟨bj, oj, ej, _, hcj⟩ := (HI.out _ hGq).lies (by omega)
                            have hxj := hcj j hj'
                            have hatj := (HI.out _ hGq).each _ (tgetD_mem ts j hj')
                            have HNj : Hid (lastW (ts.getD j Tm.zero).ws k2 = none) := by
                              show lastW _ _ = none
                              have h1 := HNo.out (j + 1) (by omega) (by omega)
                              rw [wrt_last, show j + 1 - 1 = j by omega, txs_getD] at h1
                              simpa [Tm.tx] using h1
                            obtain ⟨x, hxx⟩ : ∃ x, x = ts.getD j Tm.zero := ⟨_, rfl⟩
                            rw [← hxx] at hxj hatj HNj
                            clear hxx hcj
                            obtain ⟨nj, xj, Mj, cj, wj⟩ := x
                            obtain ⟨a0, a1⟩ := hxj
                            simp only at a0 a1
                            cases ej
                            have HLs : Hid _ := last7_any nj xj Mj cj wj k2 none wr hatj.rs hatj.len (by rw [HNj.out])
                            clear hatj
                            go_wp2_with fail
                            refine Calls.mono HLs.out ?_
                            rintro e wl ⟨rfl, hFl⟩
                            have hFk : Fr [] WZ (wl.alloc (.cells #[.string ⟨#[]⟩, .string ⟨#[]⟩, .bool false] 53)) := (hFz.then hFl).then (Fr.alloc [] _ _)
                            clear HLs hFl a0 a1
                            simp only [Option.getD_none, Option.isSome_none]
                            go_wp2
                            go_roundw
                            case rel => exact ⟨j + 1, by simp, by omega, by omega, hFk⟩
                            case measure => simp [intOf]; omega
                          · obtain ⟨z1, z2⟩ := HBZ.out _ hFz
                            have HK6 := HKZ.out _ hFz
                            have hcz := (HWR.out _ (HGZ.out.then hFz)).2
                            have HFo : Hid (Fr [] w wr) := HGZ.out.then hFz
                            clear hFz hGq
                            cases ok with
                            | true => exact absurd rfl HDr.out.1
                            | false =>
                              have hvv : val = ⟨#[]⟩ := HDr.out.2
                              subst hvv
                              go_wp2
                              go_roundw
                              case rel => exact ⟨k + 1, F2, N2 + 1, c3, so3, ss ++ [k2], rfl, rfl, by simp, by omega, by omega, HK6, ⟨HSs.out.1, by rw [HFl.out, if_neg (by rw [HOkE.out]; simp)], HSs.out.2.1, HSs.out.2.2⟩, HFo, hcz⟩
                              case measure => simp [intOf]; omega
                      · obtain ⟨q', rfl⟩ : ∃ q', q = q' + 1 := ⟨q - 1, by omega⟩
                        have hq' : q' < ts.length := by rw [← HL.out]; omega
                        obtain ⟨y, hyy⟩ : ∃ y, y = ts.getD q' Tm.zero := ⟨_, rfl⟩
                        obtain ⟨x, hlx⟩ : ∃ x, lastW y.ws k2 = some x := by
                          cases hl : lastW y.ws k2 with
                          | some x => exact ⟨x, rfl⟩
                          | none =>
                            exfalso
                            rcases HPv.out with ⟨h0, _⟩ | ⟨q2, h0, _, _, h1, _⟩
                            · omega
                            · obtain rfl : q' + 1 = q2 := by omega
                              rw [wrt_last, show q' + 1 - 1 = q' by omega, txs_getD, ← hyy] at h1
                              exact h1 hl
                        obtain ⟨kx, vx, dx⟩ := x
                        have hxo : okW ⟨kx, vx, dx⟩ := by
                          have h1 := (lastW_some_key hlx).1
                          rw [hyy] at h1
                          exact (okL_mem HOK.out (ts.getD q' Tm.zero).tx (List.mem_map.2 ⟨_, tgetD_mem ts q' hq', rfl⟩)).2.2.2 _ h1
                        have HDr : Hid (ok ≠ dx ∧ val = vx) := by
                          show ok ≠ dx ∧ val = vx
                          have h1 := HFo2.out
                          rw [if_neg (by omega), Int.toNat_natCast, show q' + 1 - 1 = q' by omega, txs_getD, ← hyy] at h1
                          have h2 : lastW y.tx.ws k2 = some ⟨kx, vx, dx⟩ := hlx
                          rw [h2] at h1
                          rw [← HOkE.out, HVal.out, h1]
                          unfold left1
                          cases dx with
                          | true => exact ⟨by simp, by have := hxo.2.2.2 rfl; simp only at this; rw [this]; rfl⟩
                          | false => exact ⟨by simp, rfl⟩
                        have hG10b := hG10.then hFb
                        obtain ⟨b1, o1, e1, _, hc1⟩ := (HI.out _ hG10b).lies (by omega)
                        have hx1 := hc1 q' hq'
                        have hat1 := (HI.out _ hG10b).each _ (tgetD_mem ts q' hq')
                        rw [← hyy] at hx1 hat1
                        cases e1
                        clear hc1 hyy hxo
                        obtain ⟨ny, xy, My, cy, wy⟩ := y
                        obtain ⟨f0, f1⟩ := hx1
                        simp only at f0 f1 hlx
                        have HLa : Hid _ := last7_any ny xy My cy wy k2 (some ⟨kx, vx, dx⟩) _ hat1.rs hat1.len hlx.symm
                        clear hat1 hlx HFo2 HPv
                        go_upto_region 28 with fail
                        obtain ⟨WY, HWY⟩ : ∃ WY, Hid (w10.alloc (.cells #[.string ⟨#[]⟩, .string ⟨#[]⟩, .bool true] 53) = WY) := ⟨_, rfl⟩
                        rw [HWY.out] at hFb hbx f0 f1 HLa hG10b ⊢
                        obtain ⟨bx, Hbx⟩ : ∃ bx, Hid (bx = w10.heap.size) := ⟨_, rfl⟩
                        rw [← Hbx.out] at hbx ⊢
                        have hbxw : w.heap.size ≤ bx := by rw [Hbx.out]; exact hG10.size
                        have hidq : ((q' + 1 : Nat) : Int) - 1 = (q' : Int) := by omega
                        go_wp2_with fail
                        refine Calls.mono HLa.out ?_
                        rintro e wl ⟨rfl, hFl⟩
                        simp only [Option.getD_some, Option.isSome_some]
                        have hbl1 := hFl.keep hbx (by simp)
                        have t0 : wl.cell? ⟨bx, 0, none⟩ = some (.string ⟨#[]⟩) := by rw [cell_of_row _ _ _ _ _ _ hbl1]; rfl
                        have t1 : wl.cell? ⟨bx, 1, none⟩ = some (.string ⟨#[]⟩) := by rw [cell_of_row _ _ _ _ _ _ hbl1]; rfl
                        have t2 : wl.cell? ⟨bx, 2, none⟩ = some (.bool true) := by rw [cell_of_row _ _ _ _ _ _ hbl1]; rfl
                        have s0 := frozen_of_row hbl1 0
                        have s1 := frozen_of_row hbl1 1
                        have s2 := frozen_of_row hbl1 2
                        have hr3 := row3 hbl1 (.string kx) (.string vx) (.bool dx)
                        have hFs : Fr [bx] wl (((wl.setCell ⟨bx, 0, none⟩ (.string kx)).setCell ⟨bx, 1, none⟩ (.string vx)).setCell ⟨bx, 2, none⟩ (.bool dx)) := ((Fr.set _ _ _ (by simp)).then (Fr.set _ _ _ (by simp))).then (Fr.set _ _ _ (by simp))
                        have hKl := (HK10.out.keep hFb).keep hFl
                        have hkb : ∀ g, (Value.slice so3 (N2 + 1) c3).ownBlock = some g → g ∉ [bx] := fun g hg hh => by
                          obtain ⟨_, cur, hcu⟩ := owns_cells hKl.row hg
                          simp at hh
                          subst hh
                          have := hcu.symm.trans hbl1
                          simp at this
                        have hKs : KOut w (((wl.setCell ⟨bx, 0, none⟩ (.string kx)).setCell ⟨bx, 1, none⟩ (.string vx)).setCell ⟨bx, 2, none⟩ (.bool dx)) so3 (N2 + 1) c3 (ss ++ [k2]) := ⟨hKl.len, owns_keepB hKl.row hFs hkb⟩
                        have hGl := (hG10b.then hFl).on hFs (by intro x hx; simp at hx; omega)
                        clear HLa f0 f1 hbl1 hFl hFb hbx hG10 hG10b HK10 hKl hkb hFs HWY hqm2 hq0
                        go_upto_region 33 with fail
                        obtain ⟨WZ, HWZ⟩ : ∃ WZ, Hid (((wl.setCell ⟨bx, 0, none⟩ (.string kx)).setCell ⟨bx, 1, none⟩ (.string vx)).setCell ⟨bx, 2, none⟩ (.bool dx) = WZ) := ⟨_, rfl⟩
                        rw [HWZ.out] at hr3 hKs hGl ⊢
                        have HGZ : Hid (Fr [] w WZ) := hGl
                        have HBZ : Hid (∀ W, Fr [] WZ W → W.cell? ⟨bx, 1, none⟩ = some (.string vx) ∧ W.cell? ⟨bx, 2, none⟩ = some (.bool dx)) := fun W hf => by
                          have h1 := hf.keep hr3 (by simp)
                          exact ⟨by rw [cell_of_row _ _ _ _ _ _ h1]; rfl, by rw [cell_of_row _ _ _ _ _ _ h1]; rfl⟩
                        have HKZ : Hid (∀ W, Fr [] WZ W → Hid (KOut w W so3 (N2 + 1) c3 (ss ++ [k2]))) := fun W hf => hKs.keep hf
                        obtain ⟨q, Hq⟩ : ∃ q, Hid (q = q' + 1) := ⟨_, rfl⟩
                        have HNo : Hid (∀ mm, q < mm → mm < m + 1 → ¬ Wrt (txs ts) mm k2) := by show ∀ _, _; rw [Hq.out]; exact HNo.out
                        clear hr3 hKs hGl t0 t1 t2 s0 s1 s2 HWZ
                        go_wp2_with fail
                        go_loopw [21] (fun qq wq => ∃ (j : Nat), qq = .int .i64 j ∧ q ≤ j ∧ j ≤ m ∧ Fr [] WZ wq) (fun qq _ => m - (intOf qq).toNat)
                        case atStart => exact ⟨q' + 1, by simp, by rw [Hq.out]; exact Nat.le_refl _, by omega, Fr.refl _ _⟩
                        case round =>
                          obtain ⟨j, rfl, hqj, hjm, hFz⟩ := hrel
                          have hGq := HGZ.out.then hFz
                          by_cases hj : j < m
                          · have hj' : j < ts.length := by rw [← HL.out]; omega
                            obtain ⟨bj, oj, ej, _, hcj⟩ := (HI.out _ hGq).lies (by omega)
                            have hxj := hcj j hj'
                            have hatj := (HI.out _ hGq).each _ (tgetD_mem ts j hj')
                            have HNj : Hid (lastW (ts.getD j Tm.zero).ws k2 = none) := by
                              show lastW _ _ = none
                              have h1 := HNo.out (j + 1) (by omega) (by omega)
                              rw [wrt_last, show j + 1 - 1 = j by omega, txs_getD] at h1
                              simpa [Tm.tx] using h1
                            obtain ⟨x, hxx⟩ : ∃ x, x = ts.getD j Tm.zero := ⟨_, rfl⟩
                            rw [← hxx] at hxj hatj HNj
                            clear hxx hcj
                            obtain ⟨nj, xj, Mj, cj, wj⟩ := x
                            obtain ⟨a0, a1⟩ := hxj
                            simp only at a0 a1
                            cases ej
                            have HLs : Hid _ := last7_any nj xj Mj cj wj k2 none wr hatj.rs hatj.len (by rw [HNj.out])
                            clear hatj
                            go_wp2_with fail
                            refine Calls.mono HLs.out ?_
                            rintro e wl ⟨rfl, hFl⟩
                            have hFk : Fr [] WZ (wl.alloc (.cells #[.string ⟨#[]⟩, .string ⟨#[]⟩, .bool false] 53)) := (hFz.then hFl).then (Fr.alloc [] _ _)
                            clear HLs hFl a0 a1
                            simp only [Option.getD_none, Option.isSome_none]
                            go_wp2
                            go_roundw
                            case rel => exact ⟨j + 1, by simp, by omega, by omega, hFk⟩
                            case measure => simp [intOf]; omega
                          · obtain ⟨z1, z2⟩ := HBZ.out _ hFz
                            have HK6 := HKZ.out _ hFz
                            have hcz := (HWR.out _ (HGZ.out.then hFz)).2
                            have HFo : Hid (Fr [] w wr) := HGZ.out.then hFz
                            clear hFz hGq
                            have hvv : val = vx := HDr.out.2
                            subst hvv
                            cases ok with
                            | true =>
                              cases dx with
                              | true => exact absurd rfl HDr.out.1
                              | false =>
                                go_wp2
                                go_roundw
                                case rel => exact ⟨k + 1, F2 + 1, N2 + 1, c3, so3, ss ++ [k2], by simp, rfl, by simp, by omega, by omega, HK6, ⟨HSs.out.1, by rw [HFl.out, if_pos HOkE.out], HSs.out.2.1, HSs.out.2.2⟩, HFo, hcz⟩
                                case measure => simp [intOf]; omega
                            | false =>
                              cases dx with
                              | false => exact absurd rfl HDr.out.1
                              | true =>
                                go_wp2
                                go_roundw
                                case rel => exact ⟨k + 1, F2, N2 + 1, c3, so3, ss ++ [k2], rfl, rfl, by simp, by omega, by omega, HK6, ⟨HSs.out.1, by rw [HFl.out, if_neg (by rw [HOkE.out]; simp)], HSs.out.2.1, HSs.out.2.2⟩, HFo, hcz⟩
                                case measure => simp [intOf]; omega
                  · obtain rfl : k = M := by omega
                    have HS4 : Hid (ss.Nodup ∧ F2 = (ss.filter fun s => (E s).isSome).length ∧ ∀ t ∈ (txs ts).take (i + 1), ∀ x ∈ t.ws, x.key ∈ ss) := by
                      refine ⟨HS2.out.1, HS2.out.2.1, fun t ht x hx => ?_⟩
                      rw [txs_take_snoc ts i hi', ← HX.out] at ht
                      rcases List.mem_append.1 ht with h1 | h1
                      · exact HS2.out.2.2.1 t h1 x hx
                      · simp at h1
                        subst h1
                        have h2 := HS2.out.2.2.2 x
                        rw [HML.out, List.take_length] at h2
                        exact h2 hx
                    clear HS2 HK HS
                    go_wp2
                    go_roundw
                    case rel => exact ⟨i + 1, F2, N2, c2, so2, ss, rfl, rfl, by simp, by omega, by omega, HK2, HS4, HF2.out⟩
                    case measure => simp [intOf]; omega
              · obtain rfl : i = L := by omega
                have hFN : F = Nx := by
                  rw [HNx.out, HS.out.2.1]
                  have hP := HPs.out
                  rw [← HEq.out] at hP
                  refine count_keys hP HS.out.1 (fun s hs => ?_)
                  obtain ⟨v, hv⟩ : ∃ v, Prv (txs ts) 1 (m + 1) s v := by
                    have h1 := (wall_spec (Pk := fun _ => true) HOK.out (i := 1) (by omega) m (by rw [txs_length, ← HL.out]; omega)).1 s rfl
                    rw [show 1 + m = m + 1 by omega] at h1
                    exact ⟨_, h1⟩
                  have h1 := fo_prv (txs ts) s m (by rw [txs_length, ← HL.out]; exact hmL) v hv
                  rw [← HEq.out] at h1
                  rcases hv with ⟨rfl, _⟩ | ⟨q, rfl, h2, h3, h4, _⟩
                  · rw [if_pos rfl] at h1; rw [h1] at hs; cases hs
                  · obtain ⟨x, hx, e⟩ := h4
                    have hq' : q - 1 < (txs ts).length := by rw [txs_length, ← HL.out]; omega
                    have hmem : (txs ts).getD (q - 1) Tx.zero ∈ (txs ts).take i := by
                      rw [HL.out, ← txs_length, List.take_length]
                      simp [List.getD, hq']
                    rw [← e]
                    exact HS.out.2.2 _ hmem x hx
                subst hFN
                have hbe : ((F : Int) == (F : Int)) = true := by simp
                go_wp2
                go_ret
                exact ⟨by simp, hFr⟩

theorem own : ownKnob Try.prog.godebug = none := by kernel_rfl
theorem laidOut : laidOutB Try.prog = true := by kernel_rfl
set_option maxHeartbeats 4000000 in
set_option maxRecDepth 100000 in
theorem lifted (os : Os) (started : os.Started) (H : Type) (enc : TypeId × Value → H) :
    ReturnsInHanded {} Try.checked os 5 .any (Rows.foldKeysSpec.pre6 enc Try.prog Try.f5 Rows.foldKeysRow.domain false) (Rows.foldKeysSpec.post enc Try.prog Try.f5 false true false false) := by
  refine returnsInHanded_of_change_sized (C := Try.checked) own started (by kernel_rfl) Try.func5
    (ChangeSpec.witness6 (enc := enc) (C := Try.checked) false ⟨#[], #[.slice none 0 0, .int .u16 0], []⟩ 8 (by kernel_rfl) (by kernel_rfl) (by kernel_rfl) (by kernel_rfl)) ?_
  intro W base args ds gs before hval0 hW hcnd hsz0 _
  have hval : ∀ (j : Nat) t v, Try.f5.params[j]? = some t → args[j]? = some v → Value.okWide Try.prog W .any base t v := hval0
  have hsz : (DataW.weightsEach Try.prog (Try.f5.params.toList ++ Rows.foldKeysSpec.plain.varTypes Try.prog) (ds ++ gs)).all (· ≤ reachBytes) = true := hsz0
  have hW' := hW
  obtain ⟨p, q, hA0, hV, rfl, hfz, hnd⟩ := hW
  have hA : DataW.TrodAll enc Try.prog W 0 (fun _ => true) true Try.f5.params.toList args.toList ds p := hA0
  rw [Try.params5] at hA hval hsz
  obtain ⟨v0, vs0, d0, ds0, p0, q0, hargs, rfl, rfl, h0, r0⟩ := trodAll_cons hA
  obtain ⟨v1, vs1, d1, ds1, p1, q1, rfl, rfl, rfl, h1, r1⟩ := trodAll_cons r0
  obtain ⟨rfl, rfl, rfl⟩ := trodAll_nil r1
  obtain rfl : args = #[v0, v1] := by cases args; simp_all
  obtain ⟨rfl, rfl⟩ := trodVars_none hV
  have k0 := h0
  have lt0 : ∀ x ∈ p0, x.block < W.heap.size := by obtain ⟨m, hm⟩ := k0; exact DataW.trod_lt m _ _ _ hm
  obtain ⟨a0, len0, cap0, ts0, rfl, hB0, hL0, hC0⟩ : ∃ ao L cap ts, v0 = .slice ao L cap ∧ TRs W ao ts ∧ L = ts.length ∧ L ≤ cap := by
    obtain ⟨fuel, hf⟩ := h0
    obtain ⟨ao, L, cap, rfl⟩ := okWide_slice Try.undTs' (hval 0 22 v0 rfl rfl)
    exact ts_open hf (fun n hn => of_decide_eq_true (List.all_eq_true.1 hsz n (DataW.weights_mem_each (j := 0) (t := 22) rfl rfl n hn)))
  obtain ⟨n1, rfl, rfl, rfl, w1⟩ := open_int Try.underlying42 (hval 1 42 v1 rfl rfl) h1
  have b1 := bounds_u16 w1
  obtain ⟨m1, rfl⟩ : ∃ m : Nat, n1 = (m : Int) := ⟨n1.toNat, by omega⟩
  clear hA0 hval0
  refine (walk a0 len0 cap0 ts0 m1 (by omega) W hB0 hL0 hC0).mono fun e W' ⟨he, hf⟩ => ?_
  subst he
  have bel : Below W.heap.size W W' := hf.below (Nat.le_refl _) (by simp)
  exact ⟨_, rfl, _, _, _, [], _, [], hW', trodAll_mk1 (shut_bool Try.underlying4 _), (trodAll_cons_mk (Below.trod laidOut (by kernel_rfl) (of_decide_eq_true (by kernel_rfl)) k0 bel lt0) (trodAll_cons_mk (shut_int Try.underlying42 w1) trodAll_mk0)), rfl, bel.frame _, fun h => by cases h⟩

theorem over : Rows.foldKeysRow.holds Try.pinned (OpenSpec.ofChange Rows.foldKeysSpec) :=
  OpenClaim.holds_of_wide 5 Try.f5 rfl rfl rfl rfl rfl rfl rfl ⟨rfl, rfl, rfl, rfl, rfl⟩ rfl rfl rfl rfl rfl (by kernel_rfl) Try.func5 (by kernel_rfl)
    (of_decide_eq_true (by kernel_rfl)) (by unfold Func.isWrapper; first | (rw [if_pos (by decide +kernel)]; kernel_rfl) | (rw [if_neg (by decide +kernel)]; exact ⟨rfl, rfl⟩))
    (fun os started H enc _ => lifted os started H enc)
end Go.Proofs.Ytfminnmfdogopaa.foldKeys
namespace Go.Proofs.Ytfminnmfdogopaa
theorem foldkeys_holds : Rows.FoldKeysSaid := foldKeys.over
#print axioms foldkeys_holds
end Go.Proofs.Ytfminnmfdogopaa
