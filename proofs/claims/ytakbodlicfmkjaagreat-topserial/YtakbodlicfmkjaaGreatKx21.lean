/- The known example's walk. No conditions. -/
import Derived.Test.YtakbodlicfmkjaaGreatKs20
import Derived.Test.YtakbodlicfmkjaaGreatEq15
import Derived.Laws.StructEq
namespace Go.Proofs.YtakbodlicfmkjaaGreat.Ap
open Go.ChangeShapes Go.WideShapes Go.ChangeAt Go.RowKit Go.Lib Go.Maps
set_option linter.unusedVariables false
set_option linter.unusedSimpArgs false
theorem Tryz.undEnK : Tryz.prog.underlying 61 = some (.struct (Tryz.prog.fieldsOf 61)) := by kernel_rfl
theorem Tryz.heldEnK : Tryz.prog.stoodInHeld 61 = false := by kernel_rfl
theorem Tryz.guardEnK : Tryz.prog.eqGuardType Tryz.prog.depth 61 = false := by kernel_rfl
theorem Tryz.fieldsEnK : (Tryz.prog.fieldsOf 61).toList.map (fun f => (f.name == "_", f.type, f.offset)) = [(false, 9, 0), (false, 9, 1)] := by kernel_rfl
set_option maxRecDepth 100000 in
theorem en_fields (w : World) (k1 k2 v1 v2 : ByteArray) : (Op.equalIn 10000 61 (.agg #[.string k1, .string v1]) (.agg #[.string k2, .string v2])).run Tryz.prog w = .ok (k1.toList == k2.toList && v1.toList == v2.toList) w := by
  rw [run_equalIn_struct w 9999 _ _ _ Tryz.undEnK Tryz.heldEnK]
  have hF := Tryz.fieldsEnK
  obtain ⟨l, hl⟩ : ∃ l, l = (Tryz.prog.fieldsOf 61).toList := ⟨_, rfl⟩
  rw [← hl] at hF ⊢
  match l, hF with
  | [f0, f1], hF =>
    simp only [List.map_cons, List.map_nil, List.cons.injEq, Prod.mk.injEq, and_true] at hF
    obtain ⟨⟨n0, t0, o0⟩, ⟨n1, t1, o1⟩⟩ := hF
    have m0 : f0.name ≠ "_" := by simpa using n0
    have m1 : f1.name ≠ "_" := by simpa using n1
    simp only [Op.eqFields, if_pos m0, if_pos m1, t0, t1, o0, o1]
    rw [O.step_field15 (O.part_str15 w _ 0 _ rfl) (O.part_str15 w _ 0 _ rfl) (O.eq_str15 w k1 k2)]
    rw [O.step_field15 (O.part_str15 w _ 1 _ rfl) (O.part_str15 w _ 1 _ rfl) (O.eq_str15 w v1 v2)]
    cases (k1.toList == k2.toList) <;> cases (v1.toList == v2.toList) <;> simp
theorem KnS.quiet {w w1 w2 : World} {p n : Nat} (h : KnS w p n w1) (hf : Fr [] w1 w2) : KnS w p n w2 := by
  obtain ⟨w0, Z, s, h1, h2, h3⟩ := h
  exact ⟨w0, Z, s, h1, h2.quiet hf, h3⟩
theorem KnS.fr {w w1 : World} {p n : Nat} (h : KnS w p n w1) : Fr [] w w1 := by
  obtain ⟨w0, Z, s, h1, h2, h3⟩ := h
  exact h1.then h2.m.fr
/-- What Store answers when no more can be done. -/
theorem kn_store {w1 w2 : World} {p n : Nat} {w0 : World} {Z : Lay} {s : Ms} (h : RP w0 w2 p c20 T20 Z s) (hW : Wf c20 T20 s) (hfd : s.fd = 2) (hk : s.k = n) (hn : n ≤ 14) (hr : rdyL c20 s (c20.l.toNat + c20.s.toNat + 2) = []) :
    Calls Tryz.prog 12 #[.pointer (some ⟨p, 0, none⟩)] w2 fun e w' => ∃ g rc, e = .returned (.slice (some ⟨g, 0, none⟩) 1 rc) ∧ 1 ≤ rc ∧ w'.cell? ⟨g, 0, none⟩ = some (.string ⟨#[97]⟩) ∧ w'.cell? ⟨g, 1, none⟩ = some (.string ⟨#[50]⟩) ∧ Fr [] w2 w' := by
  refine Calls.mono (idle_store h hW (by omega) hr) ?_
  rintro e w' ⟨ro, N, rc, ps, rfl, h1, h2, h3, h4, h5, h6⟩
  rw [hfd] at h2
  have e : ps = [(kA, vTwo)] := Fo.Is.unique h2 fo20
  subst e
  have hN : N = 1 := h1
  subst hN
  obtain ⟨g, e1, e2, e3⟩ := h4.at 0 (by simp)
  subst e1
  exact ⟨g, rc, rfl, h5, e2, e3, h6⟩
set_option maxHeartbeats 8000000 in
set_option maxRecDepth 100000 in
theorem known_any (w : World) : Calls Tryz.prog 5 #[] w fun e w' => e = .returned (.bool true) ∧ Fr [] w w' := by
  obtain ⟨N, hN⟩ : ∃ N, w.heap.size = N := ⟨_, rfl⟩
  have HN : Hid (w.heap.size = N) := hN
  obtain ⟨w4, hw4⟩ : ∃ w4, ((((w.alloc (.cells #[.string ⟨#[97]⟩, .string ⟨#[49]⟩, .bool false] 56)).alloc (.cells #[.int .i64 1, .slice (some ⟨N, 0, none⟩) 1 1] 59)).alloc (.cells #[.string ⟨#[97]⟩, .string ⟨#[50]⟩, .bool false] 56)).alloc (.cells #[.int .i64 2, .slice (some ⟨N + 1 + 1, 0, none⟩) 1 1] 59)) = w4 := ⟨_, rfl⟩
  have s1 : (w.alloc (.cells #[.string ⟨#[97]⟩, .string ⟨#[49]⟩, .bool false] 56)).heap.size = N + 1 := by simp [hN]
  have s2 : ((w.alloc (.cells #[.string ⟨#[97]⟩, .string ⟨#[49]⟩, .bool false] 56)).alloc (.cells #[.int .i64 1, .slice (some ⟨N, 0, none⟩) 1 1] 59)).heap.size = N + 1 + 1 := by simp [hN]
  have s3 : (((w.alloc (.cells #[.string ⟨#[97]⟩, .string ⟨#[49]⟩, .bool false] 56)).alloc (.cells #[.int .i64 1, .slice (some ⟨N, 0, none⟩) 1 1] 59)).alloc (.cells #[.string ⟨#[97]⟩, .string ⟨#[50]⟩, .bool false] 56)).heap.size = N + 1 + 1 + 1 := by simp [hN]
  have r0 : w4.heap[N]? = some (.cells #[.string ⟨#[97]⟩, .string ⟨#[49]⟩, .bool false] 56 (0, 0)) := by
    rw [← hw4]
    exact (((Fr.alloc [] _ _).then (Fr.alloc [] _ _)).then (Fr.alloc [] _ _)).keep (by rw [← hN]; exact heap_alloc_new _ _) (by simp)
  have r1 : w4.heap[N + 1]? = some (.cells #[.int .i64 1, .slice (some ⟨N, 0, none⟩) 1 1] 59 (0, 0)) := by
    rw [← hw4]
    exact ((Fr.alloc [] _ _).then (Fr.alloc [] _ _)).keep (by rw [← s1]; exact heap_alloc_new _ _) (by simp)
  have r2 : w4.heap[N + 1 + 1]? = some (.cells #[.string ⟨#[97]⟩, .string ⟨#[50]⟩, .bool false] 56 (0, 0)) := by
    rw [← hw4]
    exact (Fr.alloc [] _ _).keep (by rw [← s2]; exact heap_alloc_new _ _) (by simp)
  have r3 : w4.heap[N + 1 + 1 + 1]? = some (.cells #[.int .i64 2, .slice (some ⟨N + 1 + 1, 0, none⟩) 1 1] 59 (0, 0)) := by
    rw [← hw4, ← s3]
    exact heap_alloc_new _ _
  have hf4 : Fr [] w w4 := by
    rw [← hw4]
    exact (((Fr.alloc [] _ _).then (Fr.alloc [] _ _)).then (Fr.alloc [] _ _)).then (Fr.alloc [] _ _)
  have c0 : w4.cell? ⟨N + 1, 0, none⟩ = some (.int .i64 1) := by rw [cell_of_row _ _ _ _ _ _ r1]; rfl
  have c1 : w4.cell? ⟨N + 1, 1, none⟩ = some (.slice (some ⟨N, 0, none⟩) 1 1) := by rw [cell_of_row _ _ _ _ _ _ r1]; rfl
  have d0 : w4.cell? ⟨N + 1 + 1 + 1, 0, none⟩ = some (.int .i64 2) := by rw [cell_of_row _ _ _ _ _ _ r3]; rfl
  have d1 : w4.cell? ⟨N + 1 + 1 + 1, 1, none⟩ = some (.slice (some ⟨N + 1 + 1, 0, none⟩) 1 1) := by rw [cell_of_row _ _ _ _ _ _ r3]; rfl
  obtain ⟨K, hK⟩ : ∃ K, w4.heap.size = K := ⟨_, rfl⟩
  obtain ⟨w5, hw5⟩ : ∃ w5, w4.alloc (.cells #[.int .i64 1, .slice (some ⟨N, 0, none⟩) 1 1, .int .i64 2, .slice (some ⟨N + 1 + 1, 0, none⟩) 1 1] 59) = w5 := ⟨_, rfl⟩
  have hf5 : Fr [] w4 w5 := by rw [← hw5]; exact Fr.alloc _ _ _
  have r5 : w5.heap[K]? = some (.cells #[.int .i64 1, .slice (some ⟨N, 0, none⟩) 1 1, .int .i64 2, .slice (some ⟨N + 1 + 1, 0, none⟩) 1 1] 59 (0, 0)) := by rw [← hw5, ← hK]; exact heap_alloc_new _ _
  have hTs : TRs w5 (some ⟨K, 0, none⟩) [⟨1, some ⟨N, 0, none⟩, 1, 1, [⟨kA, vOne, false⟩]⟩, ⟨2, some ⟨N + 1 + 1, 0, none⟩, 1, 1, [⟨kA, vTwo, false⟩]⟩] := by
    refine ⟨fun _ => ⟨K, 0, rfl, lt_of_block r5, fun i hi => ?_⟩, by simp, fun t ht => ?_⟩
    · have : i = 0 ∨ i = 1 := by simp at hi; omega
      rcases this with rfl | rfl
      · exact ⟨by rw [cell_of_row _ _ _ _ _ _ r5]; rfl, by rw [cell_of_row _ _ _ _ _ _ r5]; rfl⟩
      · exact ⟨by rw [cell_of_row _ _ _ _ _ _ r5]; rfl, by rw [cell_of_row _ _ _ _ _ _ r5]; rfl⟩
    · simp only [List.mem_cons, List.not_mem_nil, or_false] at ht
      rcases ht with rfl | rfl
      · exact ⟨WRs.of_ok (n := 1) ⟨by decide, by decide, by simp, fun x hx => by rw [List.mem_singleton.1 hx]; exact okW20 _ rfl⟩ (hf5.keep r0 (by simp)), rfl, by show (-9223372036854775808 : Int) ≤ 1; decide, by show (1 : Int) ≤ 9223372036854775807; decide⟩
      · exact ⟨WRs.of_ok (n := 2) ⟨by decide, by decide, by simp, fun x hx => by rw [List.mem_singleton.1 hx]; exact okW20 _ rfl⟩ (hf5.keep r2 (by simp)), rfl, by show (-9223372036854775808 : Int) ≤ 2; decide, by show (2 : Int) ≤ 9223372036854775807; decide⟩
  have hSt := started_ok (w := w5) (l := 2) (s := 1) (x := 2) (q := 1) (C := 0) (fd := 2) (ao := some ⟨K, 0, none⟩) (po := none) (L := 2) (cap := 2) (P := 0) (pc := 0) hTs rfl t20_ok (by decide) (by decide) c20_may
  unfold wdC at hSt
  have HSt : Hid (Calls Tryz.prog 4 #[.agg #[.int .i64 2, .int .i64 1, .int .i64 2, .int .i64 1, .slice (some ⟨K, 0, none⟩) 2 2, .int .i64 0, .int .i64 2, .slice none 0 0]] w5 fun e w' => ∃ (p : Nat) (dv : Value), e = .returned (.tuple #[.pointer (some ⟨p, 0, none⟩), dv]) ∧ Hid (KnS w p 0 w')) := by
    refine Calls.mono hSt ?_
    rintro e w' ⟨p, dv, Z, w0, rfl, h1, h2, h3⟩
    exact ⟨p, dv, rfl, kn_first (hf4.then (hf5.then h1)) h2 h3⟩
  have HW4 : Hid (_ = w4) := hw4
  have HW5 : Hid (_ = w5) := hw5
  have HK : Hid (w4.heap.size = K) := hK
  have hg := Tryz.guardEnK
  have he : ∀ w, (Op.equalIn 10000 61 (.agg #[.string ⟨#[97]⟩, .string ⟨#[50]⟩]) (.agg #[.string ⟨#[97]⟩, .string ⟨#[50]⟩])).run Tryz.prog w = .ok true w := fun w => by rw [en_fields]; simp
  clear hN hw4 s1 s2 s3 r0 r1 r2 r3 hf4 hK hw5 hf5 r5 hTs hSt
  go_enter Tryz.func5, Tryz.ntmps5
  go_upto_region 3 with fail
  rw [HN.out, HW4.out]
  clear HW4 HN
  go_wp2_with fail
  rw [HK.out, HW5.out]
  refine Calls.mono HSt.out ?_
  rintro e w6 ⟨p, dv, rfl, HS⟩
  clear HSt HW5 HK c0 c1 d0 d1
  go_wp2_with fail
  go_loopw [5] (fun nn wr => ∃ n : Nat, nn = .int .i64 n ∧ Hid (KnS w p n wr)) (fun nn _ => 50 - (RowKit.intOf nn).toNat)
  case atStart => exact ⟨0, rfl, HS⟩
  case round =>
    obtain ⟨n, rfl, HR⟩ := hrel
    have hle := kn_le HR.out
    have hlt : (n : Int) < 50 := by omega
    have HP : Hid (Calls _ _ _ _ _) := kn_pick HR.out
    clear HR
    go_wp2_with fail
    refine Calls.mono HP.out ?_
    rintro e w7 (⟨t, k, m, sh, ct, ma, rfl, h7⟩ | ⟨rfl, h7, h8, w0, Z, s, q1, q2, q3, q4, q5⟩)
    · have H7 : Hid (KnS w p (n + 1) (w7.alloc (.cells #[.int .i64 t, .int .u8 k, .int .i64 m, .int .i64 sh, .int .i64 ct, .int .i64 ma] 35))) := h7.quiet (Fr.alloc _ _ _)
      clear h7 HP
      go_wp2_with fail
      go_roundw
      case rel => exact ⟨n + 1, by simp, H7⟩
      case measure => simp [RowKit.intOf]; omega
    · subst h7
      have HQ : Hid (Calls _ _ _ _ _) := kn_store (w1 := w) (q1.quiet (Fr.alloc [] w7 (.cells #[.int .i64 0, .int .u8 0, .int .i64 0, .int .i64 0, .int .i64 0, .int .i64 0] 35))) q2 q3 q4 (by omega) q5
      have HF : Hid (Fr [] w (w7.alloc (.cells #[.int .i64 0, .int .u8 0, .int .i64 0, .int .i64 0, .int .i64 0, .int .i64 0] 35))) := h8.fr.then (Fr.alloc _ _ _)
      clear h8 q1 q2 q3 q4 q5 HP
      go_wp2_with fail
      refine Calls.mono HQ.out ?_
      rintro e w8 ⟨g, rc, rfl, hrc, e0, e1, hf8⟩
      have HF8 : Hid (Fr [] w w8) := HF.out.then hf8
      clear hf8 HQ HF
      go_wp2
      go_ret
      exact ⟨rfl, HF8.out⟩
end Go.Proofs.YtakbodlicfmkjaaGreat.Ap
