/- The document's fold, Store, Get, Stretch and Scan. Conditions as each names them. -/
import Derived.Test.YtfminnmfdogopaaWrt8
namespace Go.Proofs.Ytfminnmfdogopaa
open Go.ChangeShapes Go.WideShapes Go.ChangeAt Go.RowKit Go.Lib Go.Maps Go.Sort
set_option linter.unusedVariables false
set_option linter.unusedSimpArgs false

theorem filt_two {α : Type} (p q : α → Bool) (h : ∀ x, p x = true → q x = false) : ∀ l : List α, (l.filter p).length + (l.filter q).length ≤ l.length
  | [] => by simp
  | x :: l => by
    have ih := filt_two p q h l
    cases hp : p x with
    | true => simp [hp, h x hp]; omega
    | false =>
      cases hq : q x with
      | true => simp [hp, hq]; omega
      | false => simp [hp, hq]; omega
theorem wrote_length (ps : List Pr) (x : Wt) : (wrote ps x).length ≤ ps.length + 1 := by
  have h := filt_two (fun p : Pr => Op.bytesLess p.1.toList x.key.toList) (fun p : Pr => Op.bytesLess x.key.toList p.1.toList) (fun p hp => bl_asymm hp) ps
  unfold wrote
  rw [List.length_append, List.length_append]
  have : (if x.drop = true then ([] : List Pr) else [(x.key, x.val)]).length ≤ 1 := by by_cases hd : x.drop = true <;> simp [hd]
  omega
theorem EOut.ers {w w' : World} {ro : Option Addr} {N rc : Nat} {ps : List Pr} (h : EOut w w' ro N rc ps) (hf : ps.length < 1099511627776) : ERs w' ro ps := ers_of h.row h.len hf
theorem EOut.cap {w w' : World} {ro : Option Addr} {N rc : Nat} {ps : List Pr} (h : EOut w w' ro N rc ps) : N ≤ rc := by
  rcases h.row.2 with ⟨e, h0⟩ | ⟨g, cap, _, e, _, _, h1, _⟩
  · omega
  · cases e; exact h1
theorem EOut.later {w w' w'' : World} {ro : Option Addr} {N rc : Nat} {ps : List Pr} (h : EOut w' w'' ro N rc ps) (hs : w.heap.size ≤ w'.heap.size) : EOut w w'' ro N rc ps := ⟨h.len, own_base h.row hs⟩
theorem EOut.keep {w w' w'' : World} {ro : Option Addr} {N rc : Nat} {ps : List Pr} (h : EOut w w' ro N rc ps) (hf : Fr [] w' w'') : EOut w w'' ro N rc ps := ⟨h.len, owns_keepB h.row hf (by simp)⟩
theorem fo_snoc (l : List Tx) (t : Tx) : fo (l ++ [t]) = capplys (fun _ => true) (fo l) t.ws := call_snoc _ _ _ _
theorem txs_take_snoc (ts : List Tm) (i : Nat) (h : i < ts.length) : (txs ts).take (i + 1) = (txs ts).take i ++ [(ts.getD i Tm.zero).tx] := by
  rw [List.take_add_one]
  simp [txs, List.getD, h]
set_option maxHeartbeats 8000000 in
set_option maxRecDepth 100000 in
theorem zfold_any (ao : Option Addr) (L cap f : Nat) (ts : List Tm) (w : World) (hT : TRs w ao ts) (hLe : L = ts.length) (hok : okL 1 (txs ts)) (hf : f ≤ L) :
    Calls Try.prog 33 #[.slice ao L cap, .int .i64 (f : Int)] w fun e w' => ∃ ro N rc ps, e = .returned (.slice ro N rc) ∧ EOut w w' ro N rc ps ∧ Is (fo ((txs ts).take f)) ps ∧ ps.length < 1099511627776 ∧ Fr [] w w' := by
  have HL : Hid (L = ts.length) := hLe
  have HI : Hid (∀ W, Fr [] w W → TRs W ao ts) := fun W hf => hT.keep hf
  have hL2 : L ≤ 65536 := by have := okL_few hok; rw [txs_length] at this; omega
  have HNn : Hid (∀ t ∈ ts, t.L ≤ 32 ∧ ∀ x ∈ t.ws, x.key.size ≤ 64) := fun t ht => by
    have ho : okT t.n t.ws := okL_mem hok t.tx (List.mem_map.2 ⟨t, ht, rfl⟩)
    have ha := hT.each t ht
    exact ⟨by rw [ha.len]; exact ho.2.2.1, fun x hx => (ho.2.2.2 x hx).2.1⟩
  clear hLe hT hok
  go_enter Try.func33, Try.ntmps33
  go_wp2_with fail
  go_loopw [5, 6] (fun vv ii wr => ∃ (i N rc : Nat) (ro : Option Addr) (ps : List Pr), vv = .slice ro N rc ∧ ii = .int .i64 i ∧ i ≤ f ∧ Hid (EOut w wr ro N rc ps) ∧ Hid (Is (fo ((txs ts).take i)) ps ∧ ps.length ≤ i * 32) ∧ Fr [] w wr) (fun _ ii _ => f - (intOf ii).toNat)
  case atStart => exact ⟨0, 0, 0, none, [], rfl, rfl, Nat.zero_le _, ⟨rfl, ⟨rfl, .inl ⟨rfl, rfl⟩⟩⟩, ⟨Is.nil, by simp⟩, Fr.refl _ _⟩
  case round =>
    obtain ⟨i, N, rc, ro, ps, rfl, rfl, hif, HO, HS, hFr⟩ := hrel
    obtain ⟨wo, hwo⟩ : ∃ wo, wo = wr := ⟨_, rfl⟩
    subst hwo
    by_cases hi : i < f
    · have hi' : i < ts.length := by rw [← HL.out]; omega
      obtain ⟨bb, off, rfl, hbl, hc⟩ := (HI.out _ hFr).lies (by omega)
      have hx := hc i hi'
      have hat := (HI.out _ hFr).each _ (tgetD_mem ts i hi')
      have hm := HNn.out _ (tgetD_mem ts i hi')
      obtain ⟨x, hxx⟩ : ∃ x, x = ts.getD i Tm.zero := ⟨_, rfl⟩
      rw [← hxx] at hx hat hm
      have HX : Hid (x = ts.getD i Tm.zero) := hxx
      clear hxx hc
      obtain ⟨n, xo, M, cm, ws⟩ := x
      obtain ⟨c0, c1⟩ := hx
      simp only at c0 c1 hm
      have hM32 : M ≤ 32 := hm.1
      have HML : Hid (M = ws.length) := hat.len
      have HWR : Hid (∀ W, Fr [] wo W → WRs W xo ws ∧ W.cell? ⟨bb, off + i * 2 + 1, none⟩ = some (.slice xo M cm)) := fun W hf => ⟨hat.rs.keep hf, (World.cell?_of_block (hf.block bb hbl (by simp))).trans c1⟩
      clear hat hm c0 c1
      go_wp2_with fail
      go_loopw [5, 7] (fun vv kk wq => ∃ (k N rc : Nat) (ro : Option Addr) (qs : List Pr), vv = .slice ro N rc ∧ kk = .int .i64 k ∧ k ≤ M ∧ Hid (EOut w wq ro N rc qs) ∧ Hid (Is (capplys (fun _ => true) (fo ((txs ts).take i)) (ws.take k)) qs ∧ qs.length ≤ i * 32 + k) ∧ Hid (Fr [] wo wq) ∧ wq.cell? ⟨bb, off + i * 2 + 1, none⟩ = some (.slice xo M cm)) (fun _ kk _ => M - (intOf kk).toNat)
      case atStart => exact ⟨0, N, rc, ro, ps, rfl, rfl, Nat.zero_le _, HO, ⟨HS.out.1, by have := HS.out.2; omega⟩, Fr.refl _ _, (HWR.out _ (Fr.refl _ _)).2⟩
      case round =>
        obtain ⟨k, N2, rc2, ro2, qs, rfl, rfl, hkM, HO2, HS2, HF2, hcx⟩ := hrel
        by_cases hk : k < M
        · have hk' : k < ws.length := by rw [← HML.out]; exact hk
          obtain ⟨b2, o2, e2, _, hc2⟩ := (HWR.out _ HF2.out).1.lies (by omega)
          obtain ⟨d0, d1, d2⟩ := hc2 k hk'
          obtain ⟨y, hyy⟩ : ∃ y, y = ws.getD k Wt.zero := ⟨_, rfl⟩
          rw [← hyy] at d0 d1 d2
          have HY : Hid (y = ws.getD k Wt.zero) := hyy
          clear hyy hc2
          obtain ⟨k2, v2, p2⟩ := y
          simp only at d0 d1 d2
          subst e2
          have hq1 : qs.length < 1099511627776 := by have := HS2.out.2; omega
          have HC : Hid _ := zWrite_any ro2 N2 rc2 qs k2 v2 p2 wr (HO2.out.ers hq1) HO2.out.len HO2.out.cap HS2.out.1.inc
          go_wp2_with fail
          refine Calls.mono HC.out ?_
          rintro e w3 ⟨ro3, N3, rc3, rfl, hO3, hF3⟩
          have HF3 : Hid (Fr [] wo w3) := HF2.out.then hF3
          have hcx3 := (HWR.out _ HF3.out).2
          have HO3 : Hid (EOut w w3 ro3 N3 rc3 (wrote qs ⟨k2, v2, p2⟩)) := hO3.later (Nat.le_trans hFr.size HF2.out.size)
          have HS3 : Hid (Is (capplys (fun _ => true) (fo ((txs ts).take i)) (ws.take (k + 1))) (wrote qs ⟨k2, v2, p2⟩) ∧ (wrote qs ⟨k2, v2, p2⟩).length ≤ i * 32 + (k + 1)) := by
            refine ⟨?_, by have := wrote_length qs ⟨k2, v2, p2⟩; have := HS2.out.2; omega⟩
            rw [wtake_snoc ws k hk', capplys_snoc, ← HY.out]
            unfold capply
            rw [if_pos rfl]
            exact HS2.out.1.write _
          clear HC HO2 HS2 HF2 hO3 hF3 d0 d1 d2 hcx
          go_wp2
          go_roundw
          case rel => exact ⟨k + 1, N3, rc3, ro3, _, rfl, by simp, by omega, HO3, HS3, HF3, hcx3⟩
          case measure => simp [intOf]; omega
        · obtain rfl : k = M := by omega
          have HFw : Hid (Fr [] w wr) := hFr.then HF2.out
          have HS4 : Hid (Is (fo ((txs ts).take (i + 1))) qs ∧ qs.length ≤ (i + 1) * 32) := by
            refine ⟨?_, by have := HS2.out.2; omega⟩
            have e1 := HS2.out.1
            rw [HML.out, List.take_length] at e1
            rw [txs_take_snoc ts i hi', fo_snoc, ← HX.out]
            exact e1
          clear HO HS HS2 HF2
          go_wp2
          go_roundw
          case rel => exact ⟨i + 1, N2, rc2, ro2, qs, rfl, by simp, by omega, HO2, HS4, HFw.out⟩
          case measure => simp [intOf]; omega
    · obtain rfl : i = f := by omega
      go_wp2
      go_ret
      exact ⟨ro, N, rc, ps, rfl, HO.out, HS.out.1, by have := HS.out.2; omega, hFr⟩
end Go.Proofs.Ytfminnmfdogopaa
