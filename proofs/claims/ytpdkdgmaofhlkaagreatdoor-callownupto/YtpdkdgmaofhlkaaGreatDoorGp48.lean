/- Texts of this claim laid together, one behind the other: contracts and plain lemmas; conditions as each names them. -/
import Derived.Test.YtpdkdgmaofhlkaaGreatDoorGp47
/- The walk of CallOwn. Conditions as named. -/
namespace Go.Proofs.YtpdkdgmaofhlkaaGreatDoor
open Go.ChangeShapes Go.WideShapes Go.ChangeAt Go.RowKit Go.Lib Go.Sort
set_option linter.unusedVariables false
set_option linter.unusedSimpArgs false

set_option maxHeartbeats 16000000 in
set_option maxRecDepth 100000 in
theorem own_walk (n l s x q k : Int) (key en : ByteArray) (ao : Option Addr) (L cap : Nat) (os : List Aj) (w : World) (hk : 0 ≤ k ∧ k ≤ 255) (hA : JRs w ao os) (hL : L = os.length) (hM : ∀ a ∈ os, a.r.el ≤ 1048576 ∧ a.r.hl ≤ 1048576 ∧ ∀ h ∈ a.hs, h.vs.length ≤ 1048576) (hE : (os.flatMap Aj.es).length ≤ 1048576) (hH : (os.flatMap Aj.hs).length ≤ 1048576) (htab : Bq.Tab w) :
    Calls Tryz.prog 3 #[.agg #[.int .i64 n, .int .i64 l, .int .i64 s, .int .i64 x, .int .i64 q, .int .u8 k, .string key, .string en], .slice ao L cap] w fun e w' => e = .returned (.bool true) ∧ Fr [] w w' := by
  have HM : Hid (∀ a ∈ os, a.r.el ≤ 1048576 ∧ a.r.hl ≤ 1048576 ∧ ∀ h ∈ a.hs, h.vs.length ≤ 1048576) := hM
  have HA : Hid (JRs w ao os) := hA
  have HL : Hid (L = os.length) := hL
  have HTb : Hid (Bq.Tab w) := htab
  have hLm : L ≤ 140737488355328 := by have := hA.few; omega
  have HSm : Hid (∀ i, ((os.take (i + 1)).flatMap Aj.es).length ≤ 1048576 ∧ ((os.take (i + 1)).flatMap Aj.hs).length ≤ 1048576) := fun i => by
    have e : os = os.take (i + 1) ++ os.drop (i + 1) := (List.take_append_drop _ _).symm
    have g1 : (os.flatMap Aj.es).length = ((os.take (i + 1) ++ os.drop (i + 1)).flatMap Aj.es).length := by rw [← e]
    have g2 : (os.flatMap Aj.hs).length = ((os.take (i + 1) ++ os.drop (i + 1)).flatMap Aj.hs).length := by rw [← e]
    rw [List.flatMap_append, List.length_append] at g1 g2
    exact ⟨by omega, by omega⟩
  have HLv : Hid (∀ W, Calls Tryz.prog 5 #[] W fun e w' => e = .returned (.bool true) ∧ Fr [] W w') := fun W => lives_any W
  have HF0 : Hid (Fr [] w (w.alloc (.cells #[.int .i64 n, .int .i64 l, .int .i64 s, .int .i64 x, .int .i64 q, .int .u8 k, .string key, .string en] 28))) := Fr.alloc [] w _
  clear hA hL hM htab hE hH
  by_cases hnew : newE n l s x q k key en = 0
  · have HN : Hid (∀ W, Calls Tryz.prog 4 #[.int .i64 n, .agg #[.int .i64 l, .int .i64 s, .int .i64 x, .int .i64 q], .agg #[.int .u8 k, .string key, .string en]] W fun e w' => ∃ t, e = .returned (.tuple #[.pointer (some ⟨t, 0, none⟩), .int .i64 0]) ∧ W.heap.size ≤ t ∧ TkM w' t (Tk.new n l s x q k key en) ∧ Fr [] W w') := fun W => qnew_any n l s x q k key en W hk hnew
    have HW : Hid (newE n l s x q k key en = 0) := hnew
    clear hnew hk
    go_enter Tryz.func3, Tryz.ntmps3
    go_wp2_with fail
    refine (HN.out _).mono ?_
    rintro e w1 ⟨t, rfl, ht, hT, hf1⟩
    obtain ⟨wb, HWb⟩ : ∃ v, Hid (v = w1.alloc (.cells #[.int .i64 0, .slice none 0 0, .slice none 0 0, .slice none 0 0, .slice none 0 0, .slice none 0 0, .slice none 0 0, .slice none 0 0, .slice none 0 0, .slice none 0 0, .slice none 0 0, .slice none 0 0] 47)) := ⟨_, rfl⟩
    obtain ⟨bk, HBk⟩ : ∃ b, Hid (b = w1.heap.size) := ⟨_, rfl⟩
    have HO0 : Hid (Om w wb t bk (0 * 1048579) (os.take 0)) := by
      rw [HWb.out, HBk.out]
      exact Om.new HW.out (by have := HF0.out.size; omega) hT (HF0.out.then hf1)
    clear ht hT hf1 HN HW HF0
    go_upto_region 5 with fail
    rw [← HWb.out, ← HBk.out]
    clear HWb HBk
    go_wp2_with fail
    go_loopw [8] (fun ii wr => ∃ (i : Nat), ii = .int .i64 i ∧ i ≤ L ∧ i ≤ 40 ∧ Hid (Om w wr t bk (i * 1048579) (os.take i))) (fun ii _ => 40 - (RowKit.intOf ii).toNat)
    case atStart => exact ⟨0, rfl, Nat.zero_le _, Nat.zero_le _, HO0⟩
    case round =>
      obtain ⟨i, rfl, hiL, hi5, HF⟩ := hrel
      by_cases hi : i < L
      · by_cases hj : i < 40
        · have hi' : i < os.length := by rw [← HL.out]; exact hi
          have HX : Hid (∀ W, Fr [] w W → ∃ ab off, ao = some ⟨ab, off, none⟩ ∧ ∀ j, j < 9 → W.cell? ⟨ab, off + i * 9 + j, none⟩ = (os.getD i Aj.zero).c[j]?) := fun W hf => by
            obtain ⟨ab, off, e, _, h2⟩ := (HA.out.keep hf).lies (by omega)
            exact ⟨ab, off, e, h2 i hi'⟩
          have HB : Hid (AjB w (os.getD i Aj.zero) ∧ ((os.getD i Aj.zero).r.el ≤ 1048576 ∧ (os.getD i Aj.zero).r.hl ≤ 1048576 ∧ ∀ h ∈ (os.getD i Aj.zero).hs, h.vs.length ≤ 1048576) ∧ os.take (i + 1) = os.take i ++ [os.getD i Aj.zero]) := ⟨HA.out.each _ (jgetD_mem os i hi'), HM.out _ (jgetD_mem os i hi'), by rw [List.take_succ_eq_append_getElem hi']; simp [List.getD, hi']⟩
          obtain ⟨a, ha⟩ : ∃ a, a = os.getD i Aj.zero := ⟨_, rfl⟩
          rw [← ha] at HX HB
          clear ha
          obtain ⟨ab, off, rfl, hx⟩ := HX.out _ HF.out.fr
          have HMr : Hid (Om w wr t bk (i * 1048579) (os.take (i + 1))) := (by have h := HF.out.more a; rw [← HB.out.2.2] at h; exact h : Om w wr t bk (i * 1048579) (os.take (i + 1)))
          have HBg : Hid (∀ V, Fr [] wr V → Calls Tryz.prog 6 #[.pointer (some ⟨t, 0, none⟩), .int .i64 a.ma, .int .i64 a.le, .slice a.bo a.bl a.bc] V fun e w' => (∃ E : Int, e = .returned (.int .i64 E)) ∧ (w'.cell? ⟨ab, off + i * 9 + 1, none⟩ = some (.int .i64 a.ma) ∧ w'.cell? ⟨ab, off + i * 9 + 2, none⟩ = some (.int .i64 a.le) ∧ w'.cell? ⟨ab, off + i * 9 + 3, none⟩ = some (.slice a.bo a.bl a.bc)) ∧ Hid (Om w w' t bk (i * 1048579) (os.take (i + 1)))) := fun V hV => by
            refine (om_begin (HMr.out.keep hV) a HB.out.1).mono ?_
            rintro e w' ⟨hE, hO⟩
            obtain ⟨ab', off', e1, h⟩ := HX.out _ hO.fr
            cases e1
            exact ⟨hE, ⟨h 1 (by omega), h 2 (by omega), h 3 (by omega)⟩, hO⟩
          have HSe : Hid (Calls Tryz.prog 9 #[.pointer (some ⟨t, 0, none⟩)] wr fun e w' => (∃ E : Int, e = .returned (.int .i64 E)) ∧ Om w w' t bk (i * 1048579) (os.take (i + 1))) := om_sent HMr.out
          have HTw : Hid (Calls Tryz.prog 8 #[.agg a.r.a] wr fun e w' => ∃ be bh, e = .returned (.agg (twRp a.r be bh).a) ∧ Calls Tryz.prog 7 #[.pointer (some ⟨t, 0, none⟩), .agg (twRp a.r be bh).a] w' fun e w' => (∃ E : Int, e = .returned (.int .i64 E)) ∧ Om w w' t bk (i * 1048579) (os.take (i + 1))) := by
            have hlt : t < wr.heap.size := by
              obtain ⟨B, KB, T, bs, xs, m, hP, _⟩ := HF.out
              exact hP.pm.tk.lt
            refine (twinR_any (HB.out.1.rp.keep HF.out.fr)).mono ?_
            rintro e w' ⟨be, bh, ks, rfl, hT, hf⟩
            refine ⟨be, bh, rfl, ?_⟩
            have h := om_got (HF.out.keep hf) a HB.out.1 (by have := HB.out.2.1.1; omega) (by have := HB.out.2.1.2.1; omega) HB.out.2.1.2.2 hT hlt
            rw [← HB.out.2.2] at h
            exact h
          obtain ⟨ak, ma, le, bo, bl, bc, ns, ⟨rt, rk, eo, el, ec, ho, hl, hc, ct⟩, es, hs⟩ := a
          have HX3 : Hid (wr.cell? ⟨ab, off + i * 9, none⟩ = some (.int .u8 ak) ∧ wr.cell? ⟨ab, off + i * 9 + 1, none⟩ = some (.int .i64 ma) ∧ wr.cell? ⟨ab, off + i * 9 + 2, none⟩ = some (.int .i64 le) ∧ wr.cell? ⟨ab, off + i * 9 + 3, none⟩ = some (.slice bo bl bc) ∧ wr.cell? ⟨ab, off + i * 9 + 4, none⟩ = some (.int .i64 rt) ∧ wr.cell? ⟨ab, off + i * 9 + 5, none⟩ = some (.bool rk) ∧ wr.cell? ⟨ab, off + i * 9 + 6, none⟩ = some (.slice eo el ec) ∧ wr.cell? ⟨ab, off + i * 9 + 7, none⟩ = some (.slice ho hl hc) ∧ wr.cell? ⟨ab, off + i * 9 + 8, none⟩ = some (.int .i64 ct)) :=
            ⟨hx 0 (by omega), hx 1 (by omega), hx 2 (by omega), hx 3 (by omega), hx 4 (by omega), hx 5 (by omega), hx 6 (by omega), hx 7 (by omega), hx 8 (by omega)⟩
          clear hx HX HB HMr HF HO0
          simp only [twRp, Rp.a] at HTw HBg
          obtain ⟨a0, a1, a2, a3, a4, a5, a6, a7, a8⟩ := HX3.out
          by_cases h0 : ak = 0
          · subst h0
            go_wp2_with fail
            go_region_held3 (fun V => V.cell? ⟨ab, off + i * 9 + 1, none⟩ = some (.int .i64 ma) ∧ V.cell? ⟨ab, off + i * 9 + 2, none⟩ = some (.int .i64 le) ∧ V.cell? ⟨ab, off + i * 9 + 3, none⟩ = some (.slice bo bl bc)) (first | exact ⟨a1, a2, a3⟩ | go_keep)
              (first | (go_at_call 6; with_reducible refine Calls.mono (HBg.out _ (Fr.drew _ _)) ?_; rintro e v2 ⟨⟨E, rfl⟩, ⟨k1, k2, k3⟩, HO⟩))
            all_goals (
              clear HBg HSe HTw a0 a1 a2 a3 a4 a5 a6 a7 a8 HX3 k1 k2 k3
              have H1 : Hid (Calls _ _ _ _ _) := om_next HO.out
              go_wp2_with fail
              refine Calls.mono H1.out ?_
              rintro e v3 ⟨s3, k3, f3, m3, key3, en3, ro3, N3, rc3, bb3, rfl, hN3, ⟨vs3, hr3⟩, hf3⟩
              obtain ⟨v4, HV4⟩ : ∃ v, Hid (v = v3.alloc (.cells #[.int .u8 k3, .int .i64 f3, .int .i64 m3, .string ⟨#[]⟩, .string ⟨#[]⟩, .bool false, .string key3, .string en3, .slice ro3 N3 rc3] 64)) := ⟨_, rfl⟩
              obtain ⟨A, HA4⟩ : ∃ A, Hid (A = v3.heap.size) := ⟨_, rfl⟩
              have hf4 : Fr [] v3 v4 := by rw [HV4.out]; exact Fr.alloc _ _ _
              have HR4 : Hid ((∃ vs, v4.ownsRow v2.heap.size 3 1 (.slice ro3 N3 rc3) N3 vs) ∧ Fr [] v2 v4 ∧ N3 ≤ 131072 ∧ v4.heap[A]? = some (.cells #[.int .u8 k3, .int .i64 f3, .int .i64 m3, .string ⟨#[]⟩, .string ⟨#[]⟩, .bool false, .string key3, .string en3, .slice ro3 N3 rc3] 64 (0, 0))) := ⟨⟨vs3, owns_keepB hr3 hf4 (by simp)⟩, hf3.then hf4, hN3, by rw [HV4.out, HA4.out]; exact heap_alloc_new v3 _⟩
              clear hN3 hr3 hf3 hf4 H1
              go_upto_region 15 with fail
              rw [← HV4.out, ← HA4.out]
              clear HV4 HA4
              have H2 : Hid (Calls _ _ _ _ _) := om_answer HO.out HR4.out.2.1 (HSm.out i).1 (HSm.out i).2
              go_wp2_with fail
              refine Calls.mono H2.out ?_
              rintro e v5 ⟨co5, er5, ma5, ok5, eo5, en5, ec5, ct5, ho5, hn5, hc5, hs5, rfl, hG5, hf5⟩
              obtain ⟨v6, HV6⟩ : ∃ v, Hid (v = v5.alloc (.cells #[.int .i64 co5, .int .i64 ma5, .bool ok5, .slice eo5 en5 ec5, .int .i64 ct5] 68)) := ⟨_, rfl⟩
              obtain ⟨D, HD6⟩ : ∃ D, Hid (D = v5.heap.size) := ⟨_, rfl⟩
              have HX6 : Hid (Fr [] v4 v6) := (by rw [HV6.out]; exact hf5.then (Fr.alloc _ _ _) : Fr [] v4 v6)
              have HU6 : Hid (∃ B KB T bs xs n, U3 w v6 t bk D (.cells #[.int .i64 co5, .int .i64 ma5, .bool ok5, .slice eo5 en5 ec5, .int .i64 ct5] 68 (0, 0)) (os.take (i + 1)) (i * 1048579) B KB T bs xs n eo5 en5 ec5 ho5 hn5 hc5 hs5 ∧ ∀ k, k ∈ KB ∨ k ∈ t :: B → k < v2.heap.size) := by rw [HV6.out, HD6.out]; exact hG5.box _
              clear hG5 hf5 H2
              go_upto_region 16 with fail
              rw [← HV6.out, ← HD6.out]
              clear HV6 HD6
              obtain ⟨B6, KB6, T6, bs6, xs6, n6, hU6, hlt6⟩ := HU6.out
              have HRq : Hid (Calls Tryz.prog 12 #[.pointer (some ⟨bk, 0, none⟩), .agg #[.int .u8 k3, .int .i64 f3, .int .i64 m3, .string ⟨#[]⟩, .string ⟨#[]⟩, .bool false, .string key3, .string en3, .slice ro3 N3 rc3]] v6 fun e w' => e = .returned (.tuple #[]) ∧ ∃ KB', U3 w w' t bk D (.cells #[.int .i64 co5, .int .i64 ma5, .bool ok5, .slice eo5 en5 ec5, .int .i64 ct5] 68 (0, 0)) (os.take (i + 1)) (i * 1048579 + 1) B6 KB' T6 bs6 xs6 (n6 + 1) eo5 en5 ec5 ho5 hn5 hc5 hs5) := by
                obtain ⟨vs4, hr4⟩ := HR4.out.1
                refine u_req hU6 (fun cur hc => ?_) k3 f3 m3 key3 en3 ro3 N3 rc3 (owns_keepB hr4 HX6.out (by simp)) (fun k hk => ?_) HR4.out.2.2.1 (by omega)
                · simp only [Obj.cells.injEq] at hc
                  exact absurd hc.2.1 (by decide)
                · have g := (owns_cells hr4 hk).1
                  have g2 := HO.out.fr.size
                  exact ⟨fun hm => by have := hlt6 k (Or.inl hm); omega, fun hm => by have := hlt6 k (Or.inr hm); omega, by omega⟩
              have HR6 : Hid (v6.heap[A]? = some (.cells #[.int .u8 k3, .int .i64 f3, .int .i64 m3, .string ⟨#[]⟩, .string ⟨#[]⟩, .bool false, .string key3, .string en3, .slice ro3 N3 rc3] 64 (0, 0))) := HX6.out.keep HR4.out.2.2.2 (by simp)
              clear hU6 hlt6 HU6 HR4 HX6 HO
              obtain ⟨r0, r1, r2, r3, r4, r5, r6, r7, r8⟩ := rq_cells HR6.out
              go_wp2_with fail
              refine Calls.mono HRq.out ?_
              rintro e v7 ⟨rfl, KB7, hU7⟩
              have HD7 : Hid (v7.heap[D]? = some (.cells #[.int .i64 co5, .int .i64 ma5, .bool ok5, .slice eo5 en5 ec5, .int .i64 ct5] 68 (0, 0))) := hU7.d.1
              have HAn : Hid (Calls _ _ _ _ _) := u_ans hU7 co5 ma5 ok5 ct5 (by omega)
              clear r0 r1 r2 r3 r4 r5 r6 r7 r8 HR6 HRq hU7
              obtain ⟨d0, d1, d2, d3, d4⟩ := rp_cells HD7.out
              go_wp2_with fail
              refine Calls.mono HAn.out ?_
              rintro e v8 ⟨rfl, hU8⟩
              have HHl : Hid (Calls _ _ _ _ _) := u_helds hU8 (by omega)
              clear d0 d1 d2 d3 d4 HD7 HAn hU8
              go_wp2_with fail
              refine Calls.mono HHl.out ?_
              rintro e v9 ⟨rfl, hO9⟩
              have HO9 : Hid (Om w v9 t bk ((i + 1) * 1048579) (os.take (i + 1))) := (by have h := hO9; rw [show i * 1048579 + 1 + 1 + 1048577 = (i + 1) * 1048579 by omega] at h; exact h : Om w v9 t bk ((i + 1) * 1048579) (os.take (i + 1)))
              clear hO9 HHl
              go_wp2_with fail
              go_roundw
              case rel => exact ⟨i + 1, by simp, by omega, by omega, HO9⟩
              case measure => simp [RowKit.intOf]; omega)
          · have h0' : (ak == 0) = false := by simp [h0]
            by_cases h2 : ak = 2
            · subst h2
              go_wp2_with fail
              refine Calls.mono HTw.out ?_
              rintro e vt ⟨be, bh, rfl, hG⟩
              have HG : Hid (Calls _ _ _ _ _) := hG
              clear hG
              go_wp2_with fail
              refine Calls.mono HG.out ?_
              rintro e v2 ⟨⟨E, rfl⟩, hO⟩
              have HO : Hid (Om w v2 t bk (i * 1048579) (os.take (i + 1))) := hO
              clear hO HBg HSe HTw HG a0 a1 a2 a3 a4 a5 a6 a7 a8 HX3
              have H1 : Hid (Calls _ _ _ _ _) := om_next HO.out
              go_wp2_with fail
              refine Calls.mono H1.out ?_
              rintro e v3 ⟨s3, k3, f3, m3, key3, en3, ro3, N3, rc3, bb3, rfl, hN3, ⟨vs3, hr3⟩, hf3⟩
              obtain ⟨v4, HV4⟩ : ∃ v, Hid (v = v3.alloc (.cells #[.int .u8 k3, .int .i64 f3, .int .i64 m3, .string ⟨#[]⟩, .string ⟨#[]⟩, .bool false, .string key3, .string en3, .slice ro3 N3 rc3] 64)) := ⟨_, rfl⟩
              obtain ⟨A, HA4⟩ : ∃ A, Hid (A = v3.heap.size) := ⟨_, rfl⟩
              have hf4 : Fr [] v3 v4 := by rw [HV4.out]; exact Fr.alloc _ _ _
              have HR4 : Hid ((∃ vs, v4.ownsRow v2.heap.size 3 1 (.slice ro3 N3 rc3) N3 vs) ∧ Fr [] v2 v4 ∧ N3 ≤ 131072 ∧ v4.heap[A]? = some (.cells #[.int .u8 k3, .int .i64 f3, .int .i64 m3, .string ⟨#[]⟩, .string ⟨#[]⟩, .bool false, .string key3, .string en3, .slice ro3 N3 rc3] 64 (0, 0))) := ⟨⟨vs3, owns_keepB hr3 hf4 (by simp)⟩, hf3.then hf4, hN3, by rw [HV4.out, HA4.out]; exact heap_alloc_new v3 _⟩
              clear hN3 hr3 hf3 hf4 H1
              go_upto_region 15 with fail
              rw [← HV4.out, ← HA4.out]
              clear HV4 HA4
              have H2 : Hid (Calls _ _ _ _ _) := om_answer HO.out HR4.out.2.1 (HSm.out i).1 (HSm.out i).2
              go_wp2_with fail
              refine Calls.mono H2.out ?_
              rintro e v5 ⟨co5, er5, ma5, ok5, eo5, en5, ec5, ct5, ho5, hn5, hc5, hs5, rfl, hG5, hf5⟩
              obtain ⟨v6, HV6⟩ : ∃ v, Hid (v = v5.alloc (.cells #[.int .i64 co5, .int .i64 ma5, .bool ok5, .slice eo5 en5 ec5, .int .i64 ct5] 68)) := ⟨_, rfl⟩
              obtain ⟨D, HD6⟩ : ∃ D, Hid (D = v5.heap.size) := ⟨_, rfl⟩
              have HX6 : Hid (Fr [] v4 v6) := (by rw [HV6.out]; exact hf5.then (Fr.alloc _ _ _) : Fr [] v4 v6)
              have HU6 : Hid (∃ B KB T bs xs n, U3 w v6 t bk D (.cells #[.int .i64 co5, .int .i64 ma5, .bool ok5, .slice eo5 en5 ec5, .int .i64 ct5] 68 (0, 0)) (os.take (i + 1)) (i * 1048579) B KB T bs xs n eo5 en5 ec5 ho5 hn5 hc5 hs5 ∧ ∀ k, k ∈ KB ∨ k ∈ t :: B → k < v2.heap.size) := by rw [HV6.out, HD6.out]; exact hG5.box _
              clear hG5 hf5 H2
              go_upto_region 16 with fail
              rw [← HV6.out, ← HD6.out]
              clear HV6 HD6
              obtain ⟨B6, KB6, T6, bs6, xs6, n6, hU6, hlt6⟩ := HU6.out
              have HRq : Hid (Calls Tryz.prog 12 #[.pointer (some ⟨bk, 0, none⟩), .agg #[.int .u8 k3, .int .i64 f3, .int .i64 m3, .string ⟨#[]⟩, .string ⟨#[]⟩, .bool false, .string key3, .string en3, .slice ro3 N3 rc3]] v6 fun e w' => e = .returned (.tuple #[]) ∧ ∃ KB', U3 w w' t bk D (.cells #[.int .i64 co5, .int .i64 ma5, .bool ok5, .slice eo5 en5 ec5, .int .i64 ct5] 68 (0, 0)) (os.take (i + 1)) (i * 1048579 + 1) B6 KB' T6 bs6 xs6 (n6 + 1) eo5 en5 ec5 ho5 hn5 hc5 hs5) := by
                obtain ⟨vs4, hr4⟩ := HR4.out.1
                refine u_req hU6 (fun cur hc => ?_) k3 f3 m3 key3 en3 ro3 N3 rc3 (owns_keepB hr4 HX6.out (by simp)) (fun k hk => ?_) HR4.out.2.2.1 (by omega)
                · simp only [Obj.cells.injEq] at hc
                  exact absurd hc.2.1 (by decide)
                · have g := (owns_cells hr4 hk).1
                  have g2 := HO.out.fr.size
                  exact ⟨fun hm => by have := hlt6 k (Or.inl hm); omega, fun hm => by have := hlt6 k (Or.inr hm); omega, by omega⟩
              have HR6 : Hid (v6.heap[A]? = some (.cells #[.int .u8 k3, .int .i64 f3, .int .i64 m3, .string ⟨#[]⟩, .string ⟨#[]⟩, .bool false, .string key3, .string en3, .slice ro3 N3 rc3] 64 (0, 0))) := HX6.out.keep HR4.out.2.2.2 (by simp)
              clear hU6 hlt6 HU6 HR4 HX6 HO
              obtain ⟨r0, r1, r2, r3, r4, r5, r6, r7, r8⟩ := rq_cells HR6.out
              go_wp2_with fail
              refine Calls.mono HRq.out ?_
              rintro e v7 ⟨rfl, KB7, hU7⟩
              have HD7 : Hid (v7.heap[D]? = some (.cells #[.int .i64 co5, .int .i64 ma5, .bool ok5, .slice eo5 en5 ec5, .int .i64 ct5] 68 (0, 0))) := hU7.d.1
              have HAn : Hid (Calls _ _ _ _ _) := u_ans hU7 co5 ma5 ok5 ct5 (by omega)
              clear r0 r1 r2 r3 r4 r5 r6 r7 r8 HR6 HRq hU7
              obtain ⟨d0, d1, d2, d3, d4⟩ := rp_cells HD7.out
              go_wp2_with fail
              refine Calls.mono HAn.out ?_
              rintro e v8 ⟨rfl, hU8⟩
              have HHl : Hid (Calls _ _ _ _ _) := u_helds hU8 (by omega)
              clear d0 d1 d2 d3 d4 HD7 HAn hU8
              go_wp2_with fail
              refine Calls.mono HHl.out ?_
              rintro e v9 ⟨rfl, hO9⟩
              have HO9 : Hid (Om w v9 t bk ((i + 1) * 1048579) (os.take (i + 1))) := (by have h := hO9; rw [show i * 1048579 + 1 + 1 + 1048577 = (i + 1) * 1048579 by omega] at h; exact h : Om w v9 t bk ((i + 1) * 1048579) (os.take (i + 1)))
              clear hO9 HHl
              go_wp2_with fail
              go_roundw
              case rel => exact ⟨i + 1, by simp, by omega, by omega, HO9⟩
              case measure => simp [RowKit.intOf]; omega
            · have h2' : (ak == 2) = false := by simp [h2]
              go_wp2_with fail
              refine Calls.mono HSe.out ?_
              rintro e v2 ⟨⟨E, rfl⟩, hO⟩
              have HO : Hid (Om w v2 t bk (i * 1048579) (os.take (i + 1))) := hO
              clear hO HBg HSe HTw a0 a1 a2 a3 a4 a5 a6 a7 a8 HX3
              have H1 : Hid (Calls _ _ _ _ _) := om_next HO.out
              go_wp2_with fail
              refine Calls.mono H1.out ?_
              rintro e v3 ⟨s3, k3, f3, m3, key3, en3, ro3, N3, rc3, bb3, rfl, hN3, ⟨vs3, hr3⟩, hf3⟩
              obtain ⟨v4, HV4⟩ : ∃ v, Hid (v = v3.alloc (.cells #[.int .u8 k3, .int .i64 f3, .int .i64 m3, .string ⟨#[]⟩, .string ⟨#[]⟩, .bool false, .string key3, .string en3, .slice ro3 N3 rc3] 64)) := ⟨_, rfl⟩
              obtain ⟨A, HA4⟩ : ∃ A, Hid (A = v3.heap.size) := ⟨_, rfl⟩
              have hf4 : Fr [] v3 v4 := by rw [HV4.out]; exact Fr.alloc _ _ _
              have HR4 : Hid ((∃ vs, v4.ownsRow v2.heap.size 3 1 (.slice ro3 N3 rc3) N3 vs) ∧ Fr [] v2 v4 ∧ N3 ≤ 131072 ∧ v4.heap[A]? = some (.cells #[.int .u8 k3, .int .i64 f3, .int .i64 m3, .string ⟨#[]⟩, .string ⟨#[]⟩, .bool false, .string key3, .string en3, .slice ro3 N3 rc3] 64 (0, 0))) := ⟨⟨vs3, owns_keepB hr3 hf4 (by simp)⟩, hf3.then hf4, hN3, by rw [HV4.out, HA4.out]; exact heap_alloc_new v3 _⟩
              clear hN3 hr3 hf3 hf4 H1
              go_upto_region 15 with fail
              rw [← HV4.out, ← HA4.out]
              clear HV4 HA4
              have H2 : Hid (Calls _ _ _ _ _) := om_answer HO.out HR4.out.2.1 (HSm.out i).1 (HSm.out i).2
              go_wp2_with fail
              refine Calls.mono H2.out ?_
              rintro e v5 ⟨co5, er5, ma5, ok5, eo5, en5, ec5, ct5, ho5, hn5, hc5, hs5, rfl, hG5, hf5⟩
              obtain ⟨v6, HV6⟩ : ∃ v, Hid (v = v5.alloc (.cells #[.int .i64 co5, .int .i64 ma5, .bool ok5, .slice eo5 en5 ec5, .int .i64 ct5] 68)) := ⟨_, rfl⟩
              obtain ⟨D, HD6⟩ : ∃ D, Hid (D = v5.heap.size) := ⟨_, rfl⟩
              have HX6 : Hid (Fr [] v4 v6) := (by rw [HV6.out]; exact hf5.then (Fr.alloc _ _ _) : Fr [] v4 v6)
              have HU6 : Hid (∃ B KB T bs xs n, U3 w v6 t bk D (.cells #[.int .i64 co5, .int .i64 ma5, .bool ok5, .slice eo5 en5 ec5, .int .i64 ct5] 68 (0, 0)) (os.take (i + 1)) (i * 1048579) B KB T bs xs n eo5 en5 ec5 ho5 hn5 hc5 hs5 ∧ ∀ k, k ∈ KB ∨ k ∈ t :: B → k < v2.heap.size) := by rw [HV6.out, HD6.out]; exact hG5.box _
              clear hG5 hf5 H2
              go_upto_region 16 with fail
              rw [← HV6.out, ← HD6.out]
              clear HV6 HD6
              obtain ⟨B6, KB6, T6, bs6, xs6, n6, hU6, hlt6⟩ := HU6.out
              have HRq : Hid (Calls Tryz.prog 12 #[.pointer (some ⟨bk, 0, none⟩), .agg #[.int .u8 k3, .int .i64 f3, .int .i64 m3, .string ⟨#[]⟩, .string ⟨#[]⟩, .bool false, .string key3, .string en3, .slice ro3 N3 rc3]] v6 fun e w' => e = .returned (.tuple #[]) ∧ ∃ KB', U3 w w' t bk D (.cells #[.int .i64 co5, .int .i64 ma5, .bool ok5, .slice eo5 en5 ec5, .int .i64 ct5] 68 (0, 0)) (os.take (i + 1)) (i * 1048579 + 1) B6 KB' T6 bs6 xs6 (n6 + 1) eo5 en5 ec5 ho5 hn5 hc5 hs5) := by
                obtain ⟨vs4, hr4⟩ := HR4.out.1
                refine u_req hU6 (fun cur hc => ?_) k3 f3 m3 key3 en3 ro3 N3 rc3 (owns_keepB hr4 HX6.out (by simp)) (fun k hk => ?_) HR4.out.2.2.1 (by omega)
                · simp only [Obj.cells.injEq] at hc
                  exact absurd hc.2.1 (by decide)
                · have g := (owns_cells hr4 hk).1
                  have g2 := HO.out.fr.size
                  exact ⟨fun hm => by have := hlt6 k (Or.inl hm); omega, fun hm => by have := hlt6 k (Or.inr hm); omega, by omega⟩
              have HR6 : Hid (v6.heap[A]? = some (.cells #[.int .u8 k3, .int .i64 f3, .int .i64 m3, .string ⟨#[]⟩, .string ⟨#[]⟩, .bool false, .string key3, .string en3, .slice ro3 N3 rc3] 64 (0, 0))) := HX6.out.keep HR4.out.2.2.2 (by simp)
              clear hU6 hlt6 HU6 HR4 HX6 HO
              obtain ⟨r0, r1, r2, r3, r4, r5, r6, r7, r8⟩ := rq_cells HR6.out
              go_wp2_with fail
              refine Calls.mono HRq.out ?_
              rintro e v7 ⟨rfl, KB7, hU7⟩
              have HD7 : Hid (v7.heap[D]? = some (.cells #[.int .i64 co5, .int .i64 ma5, .bool ok5, .slice eo5 en5 ec5, .int .i64 ct5] 68 (0, 0))) := hU7.d.1
              have HAn : Hid (Calls _ _ _ _ _) := u_ans hU7 co5 ma5 ok5 ct5 (by omega)
              clear r0 r1 r2 r3 r4 r5 r6 r7 r8 HR6 HRq hU7
              obtain ⟨d0, d1, d2, d3, d4⟩ := rp_cells HD7.out
              go_wp2_with fail
              refine Calls.mono HAn.out ?_
              rintro e v8 ⟨rfl, hU8⟩
              have HHl : Hid (Calls _ _ _ _ _) := u_helds hU8 (by omega)
              clear d0 d1 d2 d3 d4 HD7 HAn hU8
              go_wp2_with fail
              refine Calls.mono HHl.out ?_
              rintro e v9 ⟨rfl, hO9⟩
              have HO9 : Hid (Om w v9 t bk ((i + 1) * 1048579) (os.take (i + 1))) := (by have h := hO9; rw [show i * 1048579 + 1 + 1 + 1048577 = (i + 1) * 1048579 by omega] at h; exact h : Om w v9 t bk ((i + 1) * 1048579) (os.take (i + 1)))
              clear hO9 HHl
              go_wp2_with fail
              go_roundw
              case rel => exact ⟨i + 1, by simp, by omega, by omega, HO9⟩
              case measure => simp [RowKit.intOf]; omega
        · have hj2 : ((i : Int) < 40) = False := by simp; omega
          have H1 : Hid (Calls _ _ _ _ _) := om_apart HF.out HTb.out
          go_wp2_with fail
          refine Calls.mono H1.out ?_
          rintro e v3 ⟨rfl, hF3⟩
          have HF3 : Hid (Fr [] w v3) := hF3
          clear hF3 H1
          go_wp2_with fail
          refine (HLv.out _).mono ?_
          rintro e v4 ⟨rfl, hF4⟩
          have HF4 : Hid (Fr [] w v4) := HF3.out.then hF4
          clear hF4
          go_wp2
          go_ret
          exact ⟨rfl, HF4.out⟩
      · skip
        have H1 : Hid (Calls _ _ _ _ _) := om_apart HF.out HTb.out
        go_wp2_with fail
        refine Calls.mono H1.out ?_
        rintro e v3 ⟨rfl, hF3⟩
        have HF3 : Hid (Fr [] w v3) := hF3
        clear hF3 H1
        go_wp2_with fail
        refine (HLv.out _).mono ?_
        rintro e v4 ⟨rfl, hF4⟩
        have HF4 : Hid (Fr [] w v4) := HF3.out.then hF4
        clear hF4
        go_wp2
        go_ret
        exact ⟨rfl, HF4.out⟩
  · have HN : Hid (∀ W, Calls Tryz.prog 4 #[.int .i64 n, .agg #[.int .i64 l, .int .i64 s, .int .i64 x, .int .i64 q], .agg #[.int .u8 k, .string key, .string en]] W fun e w' => e = .returned (.tuple #[.pointer none, .int .i64 (newE n l s x q k key en)]) ∧ Fr [] W w') := fun W => qnew_no n l s x q k key en W hk hnew
    obtain ⟨E, HE⟩ : ∃ E, Hid (newE n l s x q k key en = E) := ⟨_, rfl⟩
    rw [HE.out] at HN hnew
    have hE1 : (E == 0) = false := by simp [hnew]
    clear hk HE
    go_enter Tryz.func3, Tryz.ntmps3
    go_wp2_with fail
    refine (HN.out _).mono ?_
    rintro e w1 ⟨rfl, hf1⟩
    have HT1 : Hid (Fr [] w w1) := HF0.out.then hf1
    clear hf1 HN
    go_wp2_with fail
    refine (HLv.out _).mono ?_
    rintro e w2 ⟨rfl, hf2⟩
    have HT2 : Hid (Fr [] w w2) := HT1.out.then hf2
    clear hf2
    go_wp2
    go_ret
    exact ⟨rfl, HT2.out⟩
end Go.Proofs.YtpdkdgmaofhlkaaGreatDoor
