/- Texts of this claim laid together, one behind the other: contracts and plain lemmas; conditions as each names them. -/
import Derived.Test.YtkplammapbiebaaGreatDoorGp41
/- Both shards are loaded: there, or neither. Conditions as each names them. -/
namespace Go.Proofs.YtkplammapbiebaaGreatDoor
open Go.ChangeShapes Go.WideShapes Go.ChangeAt Go.RowKit Go.Lib Go.Maps
set_option linter.unusedVariables false
set_option linter.unusedSimpArgs false
theorem KSh.later {w0 w1 w : World} {g N lc : Nat} {lo : Option Addr} {hs : List Hd} (h : KSh w1 w g N lc lo hs) (hz : w0.heap.size ≤ w1.heap.size) : KSh w0 w g N lc lo hs := ⟨h.box, h.log.later hz, h.ok, h.few, Nat.le_trans hz h.gn⟩
theorem pr_load {w : World} (tb L cap : Nat) (ao : Option Addr) (ts us : List Hd) (hU : HRs w (some ⟨tb, 0, none⟩) us) (hT : HRs w ao ts) (hL : L = ts.length) (hkv : us.map hkv = ts.map hkv) :
    Calls Tryz.prog 8 #[.slice (some ⟨tb, 0, none⟩) L (L + 1)] w fun e w4 => ∃ (s : Option Addr) (er : Int), e = .returned (.tuple #[.pointer s, .int .i64 er]) ∧ Fr [] w w4 ∧
      Calls Tryz.prog 9 #[.slice ao L cap] w4 fun e w5 => ∃ r, e = .returned (.tuple #[.pointer r, .int .i64 er]) ∧ s.isNone = r.isNone ∧ Fr [] w w5 ∧ ∃ Own, Pr9 w w5 s r L Own := by
  have hLu : L = us.length := by have := congrArg List.length hkv; simp at this; omega
  have hok : LoOk us ↔ LoOk ts := ⟨fun h => (h.kv (gs := ts) hkv.symm).1, fun h => (h.kv (gs := us) hkv).1⟩
  refine (hload_any (some ⟨tb, 0, none⟩) L (L + 1) us w hU hLu).mono ?_
  rintro e w4 (⟨hlo, sb, b, rfl, hS, hF⟩ | ⟨hlo, rfl, hF⟩)
  · refine ⟨_, 0, rfl, hF, (kload_any ao L cap ts w4 (hT.keep hF) hL).mono ?_⟩
    rintro e w5 (⟨hlo2, g, lc, lo, gs, rfl, hK, hm, hv, hF2⟩ | ⟨hlo2, _⟩)
    · have hM : mOf us = mOf gs := by rw [hm]; exact (LoOk.kv hlo2 (gs := us) hkv).2
      rw [hM] at hS
      have hS5 := hS.keep hF2
      have hPs := PB.same (sb := sb) hF2 (b := b) (by simp) hS.bl
      have hPn : ∀ j, PB w5 sb b j → w.heap.size ≤ j ∧ j < w4.heap.size := fun j hj => by
        have hj4 := (hPs j).1 hj
        refine ⟨?_, hS.blk9 hj4⟩
        rcases hj4 with q | q | q
        · rw [q]; exact hS.sbn
        · rw [q]; exact hS.bn
        · exact (hS.rowLt q).1
      have hDn : ∀ j, DB g lo L lc gs j → w4.heap.size ≤ j := fun j hj => by
        rcases hj with q | q | ⟨x, hx, q⟩
        · rw [q]; exact hK.gn
        · exact (owns_cells hK.log.row q).1
        · exact hv x hx j q
      have hs4 := hF.size
      refine ⟨_, rfl, rfl, hF.then hF2, fun j => PB w5 sb b j ∨ DB g lo L lc gs j, Or.inl ⟨sb, b, g, L, lc, lo, gs, rfl, rfl, ⟨hS5, hK.later hs4, Nat.le_refl _, fun j h1 h2 => ?_, fun j => Iff.rfl, fun j hj => ?_⟩⟩⟩
      · have := hPn j h1; have := hDn j h2; omega
      · rcases hj with q | q
        · exact (hPn j q).1
        · have := hDn j q; omega
    · exact absurd (hok.1 hlo) hlo2
  · refine ⟨none, 1, rfl, hF, (kload_any ao L cap ts w4 (hT.keep hF) hL).mono ?_⟩
    rintro e w5 (⟨hlo2, _⟩ | ⟨hlo2, rfl, hF2⟩)
    · exact absurd (hok.2 hlo2) hlo
    · exact ⟨none, rfl, rfl, hF.then hF2, fun _ => False, Or.inr ⟨Or.inl rfl, rfl, fun j => ⟨fun h => h.elim, fun ⟨a, ha, _⟩ => by cases ha⟩, fun j h => h.elim⟩⟩
set_option maxHeartbeats 32000000 in
set_option maxRecDepth 100000 in
theorem spl (ao : Option Addr) (L cap : Nat) (ts : List Hd) (so : Option Addr) (M sc : Nat) (os : List Oq9) (w : World) (hH : HRg w ao ts) (hHL : L = ts.length) (hO : ORs9 w so os) (hM : M = os.length) (ht : Bq.Tab w) :
    Calls Tryz.prog 3 #[.slice ao L cap, .slice so M sc] w fun e w' => e = .returned (.bool true) ∧ Fr [] w w' := by
  have HLm : Hid (L = ts.length) := hHL
  have HMm : Hid (M = os.length) := hM
  have HO : Hid (∀ W, Fr [] w W → ORs9 W so os) := fun W hf => hO.keep hf
  have HTb : Hid (Bq.Tab w) := ht
  have HH : Hid (∀ W, Fr [] w W → HRg W ao ts) := fun W hf => hH.keep hf
  have HBy : Hid (Calls _ _ _ _ _) := beyond9_any so M sc os w hO hM
  clear hO hM ht hH hHL
  go_enter Tryz.func3, Tryz.ntmps3
  go_wp2_with fail
  refine Calls.mono HBy.out ?_
  rintro e w1 ⟨⟨bb, rfl, hbb⟩, hF1⟩
  have HF1 : Hid (Fr [] w w1) := hF1
  cases bb with
  | true =>
    clear hbb
    go_wp2
    go_ret
    exact ⟨rfl, HF1.out⟩
  | false =>
  have hM2 : M ≤ 1048576 := (hbb rfl).1
  have HMs : Hid (∀ j, j < M → (os.getD j Oq9.zero).M ≤ 1048576) := (hbb rfl).2
  have HSz : Hid (Calls _ _ _ _ _) := heldsSize_any ao L cap ts w1 (HH.out _ HF1.out) HLm.out
  clear hbb hF1 HBy
  go_wp2_with fail
  refine Calls.mono HSz.out ?_
  rintro e w2 ⟨N, rfl, hN, hLN, hFew, hF2⟩
  have HF2 : Hid (Fr [] w w2) := HF1.out.then hF2
  have HFew : Hid (N ≤ 1048576 → Few ts) := hFew
  clear hF2 HSz HF1 hFew
  by_cases hbig : 1048576 < N
  · have E : decide (1048576 < N) = true := by simp [hbig]
    go_wp2_with fail
    refine (beyond_any _ N _ (by omega) (by simp [World.cell?_alloc_at])).mono ?_
    rintro e w3 ⟨rfl, rfl⟩
    rw [E]
    go_wp2
    go_ret
    exact ⟨rfl, HF2.out.then (Fr.alloc _ _ _)⟩
  have E : decide (1048576 < N) = false := by simp [hbig]
  go_wp2_with fail
  refine (beyond_any _ N _ (by omega) (by simp [World.cell?_alloc_at])).mono ?_
  rintro e w3' ⟨rfl, rfl⟩
  rw [E]
  obtain ⟨w3, hw3⟩ : ∃ w3, w3 = w2.alloc (.cells #[.int .i64 (N : Int)] 3) := ⟨_, rfl⟩
  have HF3 : Hid (Fr [] w w3) := by rw [hw3]; exact HF2.out.then (Fr.alloc _ _ _)
  rw [← hw3]
  have hL2 : L ≤ 1048576 := by omega
  have HFw : Hid (Few ts) := HFew.out (by omega)
  clear hw3 E hbig HF2 HFew hLN hN
  have HR : Hid (∀ W, Fr [] w W → HRs W ao ts) := fun W hf => (HH.out W hf).rs (by have := HLm.out; omega)
  have HTw : Hid (Calls _ _ _ _ _) := twinHs_any ao L cap ts w3 (HR.out _ HF3.out) HLm.out (by omega) HFw.out
  clear HH
  go_wp2_with fail
  refine Calls.mono HTw.out ?_
  rintro e w4 ⟨tb, ks, rfl, htb, hrow, hTd, hF4⟩
  have HF4 : Hid (Fr [] w w4) := HF3.out.then hF4
  have HTr : Hid (∀ W, Fr [] w4 W → W.heap[tb]? = some (.cells (hdsC (twTs ts ks ++ [spT])).toArray 71 (0, 0)) ∧ Twd w3 W ts ks) := fun W hf => ⟨hf.keep hrow (by simp), hTd.keep hf (by simp)⟩
  have HTn : Hid ((w.heap.size ≤ tb ∧ tb < w4.heap.size) ∧ ∀ k ∈ ks, w.heap.size ≤ k ∧ k < w4.heap.size) := ⟨⟨Nat.le_trans HF3.out.size htb, lt_of_block hrow⟩, fun k hk => ⟨Nat.le_trans HF3.out.size (hTd.new k hk), hTd.lt k hk⟩⟩
  have HLd : Hid (Calls _ _ _ _ _) := pr_load tb L cap ao ts (twTs ts ks) (twins_hrs (HR.out _ HF4.out) hTd hrow) (HR.out _ HF4.out) HLm.out (twins_kv hTd)
  clear hrow hTd hF4 htb HTw HF3
  go_wp2_with fail
  refine Calls.mono HLd.out ?_
  rintro e w5 ⟨s, er, rfl, hF5, hk5⟩
  have HK5 : Hid (Calls _ _ _ _ _) := hk5
  clear hk5 hF5 HLd
  go_wp2_with fail
  refine Calls.mono HK5.out ?_
  rintro e w6 ⟨r, rfl, hsr, hF6, Own, hP6⟩
  have HP6 : Hid (Pr9 w4 w6 s r L Own) := hP6
  have HF6 : Hid (Fr [] w w6) := HF4.out.then hF6
  have HF46 : Hid (Fr [] w4 w6) := hF6
  have HLf : Hid (Calls _ _ _ _ _) := leftHs_any tb ks w3 ao L cap ts w6 (HR.out _ HF6.out) HLm.out (by omega) HFw.out (HTr.out _ hF6).2 (HTr.out _ hF6).1
  have q1 : (er != er) = false := by simp
  clear hF6 hP6 HK5
  go_wp2_with fail
  refine Calls.mono HLf.out ?_
  rintro e w7 ⟨rfl, hF7⟩
  have HP7 : Hid (Pr9 w4 w7 s r L Own) := HP6.out.quiet hF7
  have HF7 : Hid (Fr [] w w7) := HF6.out.then hF7
  have HOld : Hid (Calls _ _ _ _ _) := old_tell HP7.out HF7.out HF4.out.size (HTr.out _ (HF46.out.then hF7)).1 (HTr.out _ (HF46.out.then hF7)).2 HLm.out (by omega) HFw.out (fun t ht => ((HR.out _ HF4.out).each t ht).len) HTn.out.1 HTn.out.2 (HF46.out.then hF7).size HTb.out
  obtain ⟨w8, HW8⟩ : ∃ w8, Hid (w7.alloc (Obj.cells #[.int .i64 0, .slice none 0 0, .slice none 0 0, .slice none 0 0, .slice none 0 0, .slice none 0 0, .slice none 0 0, .slice none 0 0, .slice none 0 0, .slice none 0 0, .slice none 0 0, .slice none 0 0] 48) = w8) := ⟨_, rfl⟩
  have hnb : w7.alloc (.cells Bq.newBk 48) = w8 := HW8.out
  rw [hnb] at HOld
  have H47 : Hid (w4.heap.size ≤ w7.heap.size) := (HF46.out.then hF7).size
  clear hF7 HLf HF6 HF46 HP6 hnb
  go_wp2_with fail
  rw [HW8.out]
  refine Calls.mono HOld.out ?_
  rintro e w9 ⟨rfl, hA9⟩
  have HA9 : Hid (Calls _ _ _ _ _) := hA9
  clear hA9 HOld HW8
  go_wp2_with fail
  refine Calls.mono HA9.out ?_
  rintro e wA ⟨rfl, hPA, hFA, hzA⟩
  have HPA : Hid (Pr9 w4 wA s r L Own) := hPA
  have HFA : Hid (Fr [] w wA) := hFA
  obtain ⟨wB, HWB⟩ : ∃ wB, Hid (wA.alloc (Obj.cells #[.int .i64 0, .slice none 0 0, .slice none 0 0, .slice none 0 0, .slice none 0 0, .slice none 0 0, .slice none 0 0, .slice none 0 0, .slice none 0 0, .slice none 0 0, .slice none 0 0, .slice none 0 0] 48) = wB) := ⟨_, rfl⟩
  obtain ⟨wC, HWC⟩ : ∃ wC, Hid (wB.alloc (Obj.cells #[.map none] 55) = wC) := ⟨_, rfl⟩
  obtain ⟨bk, HBk⟩ : ∃ bk, Hid (bk = wA.heap.size) := ⟨_, rfl⟩
  obtain ⟨z, HZ⟩ : ∃ z, Hid (z = wA.heap.size + 1) := ⟨_, rfl⟩
  have HSt : Hid (St9 w w4 w wC s r z bk 0 L Own [bk]) := by
    have hFB : Fr [] wA wB := by rw [← HWB.out]; exact Fr.alloc _ _ _
    have hFC : Fr [] wB wC := by rw [← HWC.out]; exact Fr.alloc _ _ _
    have hbB : wB.heap[bk]? = some (.cells Bq.newBk 48 (0, 0)) := by rw [← HWB.out, HBk.out]; exact heap_alloc_new wA _
    have hzC : wC.heap[z]? = some (.cells #[.map none] 55 (0, 0)) := by rw [← HWC.out, HZ.out, show wA.heap.size + 1 = wB.heap.size by rw [← HWB.out]; simp]; exact heap_alloc_new wB _
    have hbl := lt_of_block hbB
    have hlt := hPA.lt
    have hsA := hFB.size
    have hs4 : w4.heap.size ≤ wA.heap.size := Nat.le_trans H47.out hzA
    have h1 := HZ.out
    have h2 := HBk.out
    exact st_born9 ((hPA.quiet hFB).quiet hFC) (Or.inr ⟨z, rfl, hzC⟩) (fun hm => by have := hlt z hm; omega) (by omega) (hFC.keep hbB (by simp)) (by omega) (fun hm => by have := hlt bk hm; omega) (by have := hFA.size; omega) ((hFA.then hFB).then hFC) HF4.out.size
  clear hPA hFA HA9 HPA HFA HP7 HF7 hzA H47
  go_wp2_with fail
  rw [HWB.out, HWC.out, ← HZ.out, ← HBk.out]
  clear HWB HWC HBk HZ HTr HTn HFw HR HLm HF4
  go_loopw [14] (fun ii wr => ∃ (i T n : Nat) (Own : Nat → Prop) (KB : List Nat), ii = .int .i64 i ∧ i ≤ M ∧ n ≤ L + i ∧ Hid (T ≤ 41946000 ∧ (i < 20 → T ≤ i * 2097300)) ∧ Hid (St9 w w4 w wr s r z bk T n Own KB)) (fun ii _ => M - (RowKit.intOf ii).toNat)
  case atStart => exact ⟨0, 0, L, Own, [bk], rfl, Nat.zero_le _, by omega, (⟨by omega, fun _ => by omega⟩ : (0 : Nat) ≤ 41946000 ∧ (0 < 20 → 0 ≤ 0 * 2097300)), HSt⟩
  case round =>
    clear HSt
    obtain ⟨i, T, n, Own, KB, rfl, hi1, hn, HT, HS⟩ := hrel
    by_cases hi : i < M
    · have hil : i < os.length := by rw [← HMm.out]; exact hi
      obtain ⟨pb, off, rfl, _, hcl⟩ := (HO.out _ HS.out.fr).lies (by omega)
      clear hcl
      obtain ⟨o, ho⟩ : ∃ o, o = os.getD i Oq9.zero := ⟨_, rfl⟩
      have HC : Hid (∀ W, Fr [] w W → _) := fun W hf => (HO.out W hf).at hil ho
      have hat : o.at w := by rw [ho]; exact (HO.out _ (Fr.refl _ _)).each _ (oq9_mem hil)
      have HOp : Hid (∀ W, Fr [] w W → OpB W o.x o.wk o.wv o.wd o.key o.en o.bo o.M o.ns) := fun W hf => ⟨hat.e, hat.key, hat.en, hat.is.keep hf, hat.M, by have := HMs.out i hi; rw [← ho] at this; omega⟩
      have HA1 : Hid (Calls _ _ _ _ _) := asked9_any HS.out.pr (by omega) o.kd o.x o.wk o.wv o.wd o.key o.en o.bo o.M o.cb o.ns (HOp.out _ HS.out.fr)
      obtain ⟨c0, c1, c2, c3, c4, c5, c6, c7⟩ := HC.out _ HS.out.fr
      obtain ⟨kd, x, wk, wv, wd, key, en, bo, Mb, cb, ns⟩ := o
      simp only at HC HOp HA1 c0 c1 c2 c3 c4 c5 c6 c7
      clear ho hat
      go_wp2_with fail
      refine Calls.mono HA1.out ?_
      rintro e v1 ⟨rfl, hx1⟩
      obtain ⟨Own1, hS1⟩ := HS.out.move hx1
      obtain ⟨c, hsz1, hsz2, _⟩ := pr_size hS1.pr (by omega)
      have HS1 : Hid (St9 w w4 w v1 s r z bk T (n + 1) Own1 KB) := hS1
      have HZ1 : Hid (∀ V, Fr [] v1 V → Calls Tryz.prog 14 #[.pointer s] V fun e w' => e = .returned (.int .i64 c) ∧ Fr [] V w') := hsz1
      have HZ2 : Hid (∀ V, Fr [] v1 V → Calls Tryz.prog 15 #[.pointer r] V fun e w' => e = .returned (.int .i64 c) ∧ Fr [] V w') := hsz2
      clear hx1 hS1 hsz1 hsz2 HA1 HS c0 c1 c2 c3 c4 c5 c6 c7
      have r2 : (c != c) = false := by simp
      go_wp2_with fail
      refine Calls.mono (HZ1.out _ (Fr.refl _ _)) ?_
      rintro e v2 ⟨rfl, hf2⟩
      have Hf2 : Hid (Fr [] v1 v2) := hf2
      clear hf2
      go_wp2_with fail
      refine Calls.mono (HZ2.out _ Hf2.out) ?_
      rintro e v3 ⟨rfl, hf3⟩
      have HS3 : Hid (St9 w w4 w v3 s r z bk T (n + 1) Own1 KB) := HS1.out.quiet (Hf2.out.then hf3)
      clear hf3 HS1 HZ1 HZ2 Hf2
      have HA2 : Hid (Calls _ _ _ _ _) := asked9_any (HS3.out.zp 0) (by omega) kd x wk wv wd key en bo Mb cb ns (HOp.out _ HS3.out.fr)
      obtain ⟨c0, c1, c2, c3, c4, c5, c6, c7⟩ := HC.out _ HS3.out.fr
      go_wp2_with fail
      refine Calls.mono HA2.out ?_
      rintro e v4 ⟨rfl, hx4⟩
      have HS4 : Hid (St9 w w4 w v4 s r z bk T (n + 1) Own1 KB) := HS3.out.zmove hx4
      clear hx4 HA2 HS3 c0 c1 c2 c3 c4 c5 c6 c7 r2
      by_cases h20 : i < 20
      · have h20i : (i : Int) < 20 := by omega
        have hTi : T ≤ i * 2097300 := HT.out.2 h20
        obtain ⟨kv, ha1, _⟩ := pr_all HS4.out.pr (by omega)
        have HA : Hid (Calls _ _ _ _ _) := ha1 _ (Fr.refl _ _)
        clear ha1
        go_wp2_with fail
        refine Calls.mono HA.out ?_
        rintro e v5 ⟨ro5, N5, rc5, rfl, hs5, hf5⟩
        have hN5 : N5 ≤ n + 1 := by obtain ⟨_, _, _, _, q, _⟩ := hs5; exact q
        have HB5 : Hid (Calls _ _ _ _ _) := st_helds (HS4.out.quiet hf5) hs5 HS4.out.lt HS4.out.fr.size (by omega) (by omega)
        clear hs5 hf5 HA
        go_wp2_with fail
        refine Calls.mono HB5.out ?_
        rintro e v6 ⟨rfl, KB6, hS6⟩
        have HS6 : Hid (St9 w w4 w v6 s r z bk (T + N5 + 1) (n + 1) Own1 KB6) := hS6
        clear hS6 HB5 HS4
        obtain ⟨kv2, hd1, _⟩ := pr_dump HS6.out.pr (by omega) x ns
        have HCx : Hid (∀ W, Fr [] w W → W.cell? ⟨pb, off + i * 8 + 1, none⟩ = some (.int .i64 x) ∧ W.cell? ⟨pb, off + i * 8 + 7, none⟩ = some (.slice bo Mb cb)) := fun W hf => by obtain ⟨_, a1, _, _, _, _, _, a7⟩ := HC.out W hf; exact ⟨a1, a7⟩
        have HD : Hid (∀ V, Fr [] v6 V → Calls Tryz.prog 17 #[.pointer s, .int .i64 x, .slice bo Mb cb] V fun e w' => ∃ ro N rc, e = .returned (.slice ro N rc) ∧ (w'.cell? ⟨pb, off + i * 8 + 1, none⟩ = some (.int .i64 x) ∧ w'.cell? ⟨pb, off + i * 8 + 7, none⟩ = some (.slice bo Mb cb)) ∧ Hid (N ≤ n + 1) ∧ Hid (Calls Tryz.prog 11 #[.pointer (some ⟨bk, 0, none⟩), .slice ro N rc] w' fun e w2 => e = .returned (.tuple #[]) ∧ (w2.cell? ⟨pb, off + i * 8 + 1, none⟩ = some (.int .i64 x) ∧ w2.cell? ⟨pb, off + i * 8 + 7, none⟩ = some (.slice bo Mb cb)) ∧ Hid (∃ KB', St9 w w4 w w2 s r z bk (T + N5 + 1 + N + 1) (n + 1) Own1 KB'))) := fun V hf => by
          have hSV := HS6.out.quiet hf
          refine (hd1 V hf bo Mb cb (HOp.out _ hSV.fr).is (HOp.out _ hSV.fr).m).mono ?_
          rintro e w' ⟨ro, N, rc, rfl, hsm, hf'⟩
          have hN : N ≤ n + 1 := by obtain ⟨_, _, _, _, q, _⟩ := hsm; exact q
          have hSw := hSV.quiet hf'
          refine ⟨ro, N, rc, rfl, HCx.out _ hSw.fr, hN, (st_helds hSw hsm hSV.lt hSV.fr.size (by omega) (by omega)).mono ?_⟩
          rintro e w2 ⟨rfl, KB', hS2⟩
          exact ⟨rfl, HCx.out _ hS2.fr, KB', hS2⟩
        clear hd1
        obtain ⟨c1, c7⟩ := HCx.out _ HS6.out.fr
        go_wp2_with fail
        go_region_held3 (fun V => V.cell? ⟨pb, off + i * 8 + 1, none⟩ = some (.int .i64 x) ∧ V.cell? ⟨pb, off + i * 8 + 7, none⟩ = some (.slice bo Mb cb)) (go_keep)
          (first
            | (go_at_call 17; with_reducible refine Calls.mono (HD.out _ (Fr.drew _ _)) ?_; rintro e v7 ⟨ro7, N7, rc7, rfl, ⟨k1, k7⟩, HN7, HK7⟩)
            | (go_at_call 11; with_reducible refine Calls.mono HK7.out ?_; rintro e v8 ⟨rfl, ⟨m1, m7⟩, HS8⟩))
        all_goals (
          obtain ⟨KB8, hS8⟩ := HS8.out
          have hN7 := HN7.out
          have HS8' : Hid (St9 w w4 w v8 s r z bk (T + N5 + 1 + N7 + 1) (n + 1) Own1 KB8) := hS8
          clear hS8 HD HK7 HS6
          obtain ⟨ps, hpl, hsc, _⟩ := pr_scan HS8'.out.pr (by omega) ⟨#[]⟩ ⟨#[]⟩ x
          have HSc : Hid (Calls _ _ _ _ _) := hsc _ (Fr.refl _ _)
          clear hsc
          go_wp2_with fail
          refine Calls.mono HSc.out ?_
          rintro e v9 ⟨ro9, N9, rc9, rfl, hE9, hf9⟩
          have HB9 : Hid (Calls _ _ _ _ _) := st_entries (HS8'.out.quiet hf9) hE9 HS8'.out.lt HS8'.out.fr.size (by have := hE9.len; omega) (by omega)
          clear hE9 hf9 HSc
          go_wp2_with fail
          refine Calls.mono HB9.out ?_
          rintro e vA ⟨rfl, KBA, hSA⟩
          have HSA : Hid (St9 w w4 w vA s r z bk (T + N5 + 1 + N7 + 1 + 1) (n + 1) Own1 KBA) := hSA
          have HT2 : Hid (T + N5 + 1 + N7 + 1 + 1 ≤ 41946000 ∧ (i + 1 < 20 → T + N5 + 1 + N7 + 1 + 1 ≤ (i + 1) * 2097300)) := ⟨by omega, fun _ => by omega⟩
          clear hSA HB9
          go_wp2
          go_roundw
          case rel => exact ⟨i + 1, _, n + 1, Own1, KBA, by simp, by omega, by omega, HT2, HSA⟩
          case measure => simp [RowKit.intOf]; omega)
      · have h20i : ¬ (i : Int) < 20 := by omega
        have HT2 : Hid (T ≤ 41946000 ∧ (i + 1 < 20 → T ≤ (i + 1) * 2097300)) := ⟨HT.out.1, fun h => absurd h (by omega)⟩
        go_wp2
        go_roundw
        case rel => exact ⟨i + 1, T, n + 1, Own1, KB, by simp, by omega, by omega, HT2, HS4⟩
        case measure => simp [RowKit.intOf]; omega
    · have hil : ¬ (i : Int) < (M : Int) := by omega
      have HAp : Hid (Calls _ _ _ _ _) := st_apart HS.out HTb.out
      clear HS
      go_wp2_with fail
      refine Calls.mono HAp.out ?_
      rintro e v1 ⟨rfl, hP1, hZ1, hF1⟩
      have HP1 : Hid (Pr9 w4 v1 s r n Own) := hP1
      have HNz : Hid (NoSh v1 (some ⟨z, 0, none⟩)) := hZ1
      have HFv : Hid (Fr [] w v1) := hF1
      obtain ⟨kv, ha1, ha2⟩ := pr_all hP1 (by omega)
      obtain ⟨c, hz1, hz2, _⟩ := pr_size hP1 (by omega)
      have HD1 : Hid (∀ V, Fr [] v1 V → Calls Tryz.prog 16 #[.pointer s] V fun e w' => ∃ ro N rc hs, e = .returned (.slice ro N rc) ∧ Hid (N = hs.length ∧ HRs w' ro hs ∧ hs.map hkv = kv) ∧ Fr [] V w') := fun V hf => (ha1 V hf).mono fun e w' ⟨ro, N, rc, e1, ⟨hs, a1, a2, a3, a4⟩, h2⟩ => ⟨ro, N, rc, hs, e1, ⟨a1.len, a2, a3⟩, h2⟩
      have HD2 : Hid (∀ V, Fr [] v1 V → Calls Tryz.prog 21 #[.pointer r] V fun e w' => ∃ ro N rc hs, e = .returned (.slice ro N rc) ∧ Hid (N = hs.length ∧ HRs w' ro hs ∧ hs.map hkv = kv) ∧ Fr [] V w') := fun V hf => (ha2 V hf).mono fun e w' ⟨ro, N, rc, hs, e1, a1, a2, a3, h2⟩ => ⟨ro, N, rc, hs, e1, ⟨a1, a2, a3⟩, h2⟩
      have HZ1 : Hid (∀ V, Fr [] v1 V → Calls Tryz.prog 14 #[.pointer s] V fun e w' => e = .returned (.int .i64 c) ∧ Fr [] V w') := hz1
      have HZ2 : Hid (∀ V, Fr [] v1 V → Calls Tryz.prog 15 #[.pointer r] V fun e w' => e = .returned (.int .i64 c) ∧ Fr [] V w') := hz2
      have r2 : (c == c) = true := by simp
      clear ha1 ha2 hz1 hz2 hP1 hZ1 hF1 HAp
      go_wp2_with fail
      refine Calls.mono (HD1.out _ (Fr.refl _ _)) ?_
      rintro e v2 ⟨ro, N2, rc, hs, rfl, HA, hf2⟩
      have Hf2 : Hid (Fr [] v1 v2) := hf2
      clear hf2 HD1
      go_wp2_with fail
      refine Calls.mono (HD2.out _ Hf2.out) ?_
      rintro e v3 ⟨ro2, N3, rc2, gs, rfl, HB, hf3⟩
      have Hf3 : Hid (Fr [] v1 v3) := Hf2.out.then hf3
      obtain rfl : N2 = N3 := by
        have h1 := congrArg List.length (HA.out.2.2.trans HB.out.2.2.symm)
        simp only [List.length_map] at h1
        rw [HA.out.1, HB.out.1, h1]
      have HSm : Hid (Calls _ _ _ _ _) := sameHelds_any ro ro2 N2 rc rc2 hs gs v3 (HA.out.2.1.keep hf3) HB.out.2.1 HA.out.1 (HA.out.2.2.trans HB.out.2.2.symm)
      clear hf3 HD2
      go_wp2_with fail
      refine Calls.mono HSm.out ?_
      rintro e v4 ⟨rfl, hf4⟩
      have Hf4 : Hid (Fr [] v1 v4) := Hf3.out.then hf4
      clear hf4 HSm
      go_wp2_with fail
      refine Calls.mono (HZ1.out _ Hf4.out) ?_
      rintro e v5 ⟨rfl, hf5⟩
      have Hf5 : Hid (Fr [] v1 v5) := Hf4.out.then hf5
      clear hf5 HZ1
      go_wp2_with fail
      refine Calls.mono (HZ2.out _ Hf5.out) ?_
      rintro e v6 ⟨rfl, hf6⟩
      have Hf6 : Hid (Fr [] v1 v6) := Hf5.out.then hf6
      clear hf6 HZ2
      go_wp2_with fail
      refine (hsize_no _ v6 (HNz.out.keep Hf6.out (by simp))).mono ?_
      rintro e v7 ⟨rfl, rfl⟩
      go_wp2
      go_ret
      exact ⟨by simp, HFv.out.then Hf6.out⟩
end Go.Proofs.YtkplammapbiebaaGreatDoor
