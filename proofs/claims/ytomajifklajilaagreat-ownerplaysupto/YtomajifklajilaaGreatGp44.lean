/- Texts of this claim laid together, one behind the other: contracts and plain lemmas; conditions as each names them. -/
import Derived.Test.YtomajifklajilaaGreatGp43
import Derived.Test.YtomajifklajilaaGreatGp36
import Derived.Test.YtomajifklajilaaGreatGp42
/- The document's Install. Conditions as it names them. -/
namespace Go.Proofs.YtomajifklajilaaGreat
open BigFrame Go.ChangeShapes Go.WideShapes Go.ChangeAt Go.RowKit Go.Lib Go.Maps
set_option linter.unusedVariables false
set_option linter.unusedSimpArgs false

theorem updM_same (M : ByteArray → List Vn) (k : ByteArray) : updM M k (M k) = M := by
  funext s
  unfold updM
  split
  · rename_i e; rw [e]
  · rfl
theorem HRo.keepG {w1 w w' : World} {ro : Option Addr} {N rc g : Nat} {hs : List Hd} {cs : Array Value} {z : Nat × Nat} (h : HRo w1 w ro N rc hs) (hf : Fr [g] w w') (hg : w.heap[g]? = some (.cells cs 103 z)) (hlt : g < w1.heap.size) : HRo w1 w' ro N rc hs := by
  have hap : ∀ y ∈ hs, ∀ j, VB y j → j ∉ [g] := fun y hy j hj hm => by
    obtain ⟨c1, e1⟩ := h.ty y hy j hj
    simp at hm
    rw [hm, hg] at e1
    simp only [Option.some.injEq, Obj.cells.injEq] at e1
    exact absurd e1.2.1 (by decide)
  refine ⟨h.len, owns_keepB h.row hf ?_, fun x hx => (h.each x hx).keepS hf (hap x hx), fun x hx => (h.ty x hx).keepS hf (hap x hx)⟩
  intro j hj hm
  simp at hm
  have := (owns_cells h.row hj).1
  omega
section
variable {w0 w : World} {g N lc : Nat} {lo : Option Addr} {hs : List Hd}
set_option maxHeartbeats 4000000 in
set_option maxRecDepth 100000 in
theorem kinstall_any (h : KSh w0 w g N lc lo hs) (h0 : w0.heap.size ≤ w.heap.size) (hN : N < 3518437208882) (num : Int) (key val : ByteArray) (drop : Bool) (hE : PEach ⟨num, key, val, drop⟩) :
    Calls Tryz.prog 34 #[.pointer (some ⟨g, 0, none⟩), .int .i64 num, .agg #[.string key, .string val, .bool drop]] w fun e w' => ∃ ok c N' lc' lo' gs, e = .returned (.tuple #[.bool ok, .int .i64 ((c : Nat) : Int)]) ∧ InTold (mOf hs) ⟨num, key, val, drop⟩ (mOf gs) ok c ∧ KSh w0 w' g N' lc' lo' gs ∧ N' ≤ N + 1 ∧ KNw w hs gs ∧ (∀ j, (Value.slice lo' N' lc').ownBlock = some j → (Value.slice lo N lc).ownBlock = some j ∨ w.heap.size ≤ j) ∧ Fr (g :: (Value.slice lo N lc).ownBlock.toList) w w' := by
  obtain ⟨W, HW⟩ : ∃ W, Hid (w.alloc (.cells #[.string key, .string val, .bool drop] 33) = W) := ⟨_, rfl⟩
  have hF0 : Fr [] w W := by rw [← HW.out]; exact Fr.alloc [] w _
  have hb0 : W.heap[w.heap.size]? = some (.cells #[.string key, .string val, .bool drop] 33 (0, 0)) := by rw [← HW.out]; exact heap_alloc_new w _
  obtain ⟨bx, Hbx⟩ : ∃ bx, Hid (bx = w.heap.size) := ⟨_, rfl⟩
  rw [← Hbx.out] at hb0
  have HZ : Hid (∀ V, Fr [] W V → V.cell? ⟨bx, 0, none⟩ = some (.string key) ∧ V.cell? ⟨bx, 1, none⟩ = some (.string val) ∧ V.cell? ⟨bx, 2, none⟩ = some (.bool drop)) := fun V hf => by
    have h1 := hf.keep hb0 (by simp)
    exact ⟨by rw [cell_of_row _ _ _ _ _ _ h1]; rfl, by rw [cell_of_row _ _ _ _ _ _ h1]; rfl, by rw [cell_of_row _ _ _ _ _ _ h1]; rfl⟩
  have HK : Hid (∀ V, Fr [] W V → KSh w0 V g N lc lo hs) := fun V hf => h.keep (hF0.then hf)
  obtain ⟨B, HB⟩ : ∃ B : Bool, Hid (B = true ↔ 1 ≤ num ∧ num ≤ 65536) := by classical exact ⟨decide (1 ≤ num ∧ num ≤ 65536), by show _ ↔ _; simp⟩
  have HEk : Hid (PEach ⟨num, key, val, drop⟩) := hE
  have HF0 : Hid (Fr [] w W) := hF0
  have HKw : Hid (KSh w0 w g N lc lo hs) := h
  clear h hE hb0 hF0
  go_enter Tryz.func34, Tryz.ntmps34
  go_upto_region 1 with fail
  rw [HW.out, ← Hbx.out]
  obtain ⟨z0, z1, z2⟩ := HZ.out _ (Fr.refl _ _)
  go_wp2_with fail
  refine (xNumber_any num B W HB.out).mono ?_
  rintro e w1 ⟨rfl, rfl⟩
  cases B with
  | false =>
    have HIn : Hid (InTold (mOf hs) ⟨num, key, val, drop⟩ (mOf hs) false 1) := Or.inl ⟨rfl, rfl, (fun hp => by have := HB.out.2 ⟨hp.2.1, hp.2.2.1⟩; cases this), rfl⟩
    go_wp2
    go_ret2
    exact ⟨false, 1, N, lc, lo, hs, rfl, HIn.out, HK.out _ (Fr.refl _ _), by omega, KNw.refl _ _, fun j hj => Or.inl hj, HF0.out.mono (by simp)⟩
  | true =>
    go_wp2_with fail
    refine (xWrite_any key val drop W HEk.out.k HEk.out.v).mono ?_
    rintro e w2 ⟨⟨B2, rfl, hB2⟩, hF2⟩
    have HB2 : Hid (B2 = true ↔ okW ⟨key, val, drop⟩) := hB2
    have HF2 : Hid (Fr [] W w2) := hF2
    clear z0 z1 z2 hB2
    obtain ⟨z0, z1, z2⟩ := HZ.out _ hF2
    clear hF2
    cases B2 with
    | false =>
      have HIn : Hid (InTold (mOf hs) ⟨num, key, val, drop⟩ (mOf hs) false 1) := Or.inl ⟨rfl, rfl, (fun hp => by have := HB2.out.2 ⟨hp.1.1, hp.1.2, hp.2.2.2.1, hp.2.2.2.2⟩; cases this), rfl⟩
      go_wp2
      go_ret2
      exact ⟨false, 1, N, lc, lo, hs, rfl, HIn.out, HK.out _ HF2.out, by omega, KNw.refl _ _, fun j hj => Or.inl hj, (HF0.out.then HF2.out).mono (by simp)⟩
    | true =>
      have hOkP : okP ⟨num, key, val, drop⟩ := by
        have h1 := HB.out.1 (by trivial)
        have h2 := HB2.out.1 (by trivial)
        exact ⟨⟨h2.1, h2.2.1⟩, h1.1, h1.2, h2.2.2.1, h2.2.2.2⟩
      have HOkP : Hid (okP ⟨num, key, val, drop⟩) := hOkP
      clear hOkP
      obtain ⟨w3, HW3⟩ : ∃ w3, Hid (w2.alloc (.cells #[.int .i64 num, .string val, .bool drop] 110) = w3) := ⟨_, rfl⟩
      have hF3 : Fr [] w2 w3 := by rw [← HW3.out]; exact Fr.alloc [] w2 _
      have hb3 : w3.heap[w2.heap.size]? = some (.cells #[.int .i64 num, .string val, .bool drop] 110 (0, 0)) := by rw [← HW3.out]; exact heap_alloc_new w2 _
      obtain ⟨vb, Hvb⟩ : ∃ vb, Hid (vb = w2.heap.size) := ⟨_, rfl⟩
      rw [← Hvb.out] at hb3
      have HY : Hid (∀ V, Fr [] w3 V → V.cell? ⟨vb, 0, none⟩ = some (.int .i64 num) ∧ V.cell? ⟨vb, 1, none⟩ = some (.string val) ∧ V.cell? ⟨vb, 2, none⟩ = some (.bool drop)) := fun V hf => by
        have h1 := hf.keep hb3 (by simp)
        exact ⟨by rw [cell_of_row _ _ _ _ _ _ h1]; rfl, by rw [cell_of_row _ _ _ _ _ _ h1]; rfl, by rw [cell_of_row _ _ _ _ _ _ h1]; rfl⟩
      have HF3 : Hid (Fr [] W w3) := HF2.out.then hF3
      clear hF3 hb3
      go_upto_region 6 with fail
      rw [HW3.out, ← Hvb.out]
      clear HW3 z0 z1 z2
      obtain ⟨z0, z1, z2⟩ := HZ.out _ HF3.out
      go_wp2_with fail
      refine (kplace_any (HK.out _ HF3.out) key).mono ?_
      rintro e w4 ⟨i, ok, rfl, hP, hF4⟩
      have HP : Hid (PlH hs key i ok) := hP
      have HF4 : Hid (Fr [] W w4) := HF3.out.then hF4
      have HF43 : Hid (Fr [] w3 w4) := hF4
      clear hP hF4 z0 z1 z2
      have hK4 := HK.out _ HF4.out
      have HN : Hid (N = hs.length) := hK4.log.len
      cases ok with
      | true =>
        obtain ⟨hi', hkey, hmo⟩ := HP.out.at hK4.ok
        have hi : i < N := by rw [HN.out]; exact hi'
        obtain ⟨b, cur, e9, hcur, hbg⟩ := hK4.lies (by omega)
        subst e9
        have hR := hK4.rs
        obtain ⟨b2, off, e8, hbl, hc⟩ := hR.lies (by omega)
        cases e8
        obtain ⟨d0, d1⟩ := hc i hi'
        rw [Nat.zero_add] at d0 d1
        have hE := hR.each _ (hgetD_mem hs i hi')
        have hTy := hK4.log.ty _ (hgetD_mem hs i hi')
        have HHm : Hid (hs.getD i Hd.zero ∈ hs) := hgetD_mem hs i hi'
        have HMo : Hid (mOf hs key = (hs.getD i Hd.zero).vs) := hmo
        have HOk0 : Hid (okH (hs.getD i Hd.zero)) := hK4.ok.2 _ (hgetD_mem hs i hi')
        obtain ⟨x, hx⟩ : ∃ x, x = hs.getD i Hd.zero := ⟨_, rfl⟩
        rw [← hx] at d0 d1 hE hTy HMo HOk0 hkey HHm
        have HX : Hid (x = hs.getD i Hd.zero) := hx
        clear hc hx hR hmo
        obtain ⟨k2, vo, M, cm, vs⟩ := x
        simp only at d0 d1 hkey
        subst hkey
        have HM2 : Hid (M = vs.length) := hE.len
        have HV : Hid (∀ V, Fr [] w4 V → VRs V vo vs) := fun V hf => hE.rs.keep hf
        have HCp : Hid (M ≤ cm) := hE.cp
        have HTy0 : Hid (HTy w4 ⟨k2, vo, M, cm, vs⟩) := hTy
        have HcF : Hid (∃ cur, w4.heap[b]? = some (.cells cur 70 (0, 0))) := ⟨cur, hcur⟩
        have HC : Hid (∀ V, Fr [] w4 V → V.cell? ⟨g, 0, none⟩ = some (.slice (some ⟨b, 0, none⟩) N lc) ∧ V.cell? ⟨b, i * 2 + 1, none⟩ = some (.slice vo M cm)) := fun V hf => ⟨((HK.out _ (HF4.out.then hf))).c0, (World.cell?_of_block (hf.block b hbl (by simp))).trans d1⟩
        clear hE hTy hcur d0 d1 hK4
        obtain ⟨c0, d1⟩ := HC.out _ (Fr.refl _ _)
        obtain ⟨y0, y1, y2⟩ := HY.out _ HF43.out
        have HPut : Hid (∀ V, Fr [] w4 V → Calls Tryz.prog 72 #[.slice vo M cm, .agg #[.int .i64 num, .string val, .bool drop]] V fun e w' => ∃ uo U uc us ok2 cc, (e = .returned (.tuple #[.slice uo U uc, .bool ok2, .int .i64 ((cc : Nat) : Int)]) ∧ PuTold vs ⟨num, val, drop⟩ us ok2 cc ∧ Hid (U = us.length) ∧ VRs w' uo us ∧ Fr [] w4 w' ∧ Nr9 w4 w' vo uo U uc) ∧ (w'.cell? ⟨g, 0, none⟩ = some (.slice (some ⟨b, 0, none⟩) N lc) ∧ w'.cell? ⟨b, i * 2 + 1, none⟩ = some (.slice vo M cm) ∧ w'.cell? ⟨vb, 0, none⟩ = some (.int .i64 num) ∧ w'.cell? ⟨vb, 1, none⟩ = some (.string val) ∧ w'.cell? ⟨vb, 2, none⟩ = some (.bool drop))) := fun V hf => by
          refine (uput_any vo M cm num val drop vs V (HV.out V hf) HM2.out ⟨HEk.out.v, HEk.out.lo, HEk.out.hi⟩ HCp.out).mono ?_
          rintro e w' ⟨uo, U, uc, us, ok2, cc, rfl, q1, q2, q3, q4, q5, q6⟩
          obtain ⟨r0, r1⟩ := HC.out _ (hf.then q4)
          obtain ⟨s0, s1, s2⟩ := HY.out _ (HF43.out.then (hf.then q4))
          exact ⟨uo, U, uc, us, ok2, cc, ⟨rfl, q1, q2, q3, hf.then q4, q5, fun a ha => by
            rcases q6 a ha with h1 | h1
            · exact Or.inl ⟨Nat.le_trans hf.size h1.1, h1.2⟩
            · exact Or.inr h1⟩, r0, r1, s0, s1, s2⟩
        go_wp2_with fail
        go_region_held3 (fun V => V.cell? ⟨g, 0, none⟩ = some (.slice (some ⟨b, 0, none⟩) N lc) ∧ V.cell? ⟨b, i * 2 + 1, none⟩ = some (.slice vo M cm) ∧ V.cell? ⟨vb, 0, none⟩ = some (.int .i64 num) ∧ V.cell? ⟨vb, 1, none⟩ = some (.string val) ∧ V.cell? ⟨vb, 2, none⟩ = some (.bool drop)) (go_keep)
          (first | (go_at_call 72; with_reducible refine (HPut.out _ (Fr.drew _ _)).mono ?_; rintro e w6 ⟨uo, U, uc, us, ok2, cc, ⟨rfl, hq⟩, f0, f1, f2, f3, f4⟩))
        obtain ⟨q1, q2, q3, q4, q5⟩ := hq
        have hM : okV (mOf hs k2) := by rw [HMo.out]; exact HOk0.out.2.2
        have hp : PuTold (mOf hs k2) ⟨num, val, drop⟩ us ok2 cc := by rw [HMo.out]; exact q1
        obtain ⟨rfl, hcase⟩ := putM_of hM HOkP.out.2 hp
        have hall : okV us ∧ us ≠ [] ∧ InTold (mOf hs) ⟨num, k2, val, drop⟩ (updM (mOf hs) k2 us) ok2 0 := by
          rcases hcase with ⟨e1, e2⟩ | ⟨e1, e2, e3, e4⟩
          · have hus : us = vs := by
              rcases q1 with ⟨h1, _⟩ | ⟨_, _, _, d, _, ⟨_, h2, _⟩ | ⟨_, _, h3⟩⟩
              · cases h1
              · exact h2
              · rw [e1] at h3; cases h3
            refine ⟨by rw [hus]; exact HOk0.out.2.2, by rw [hus]; exact HOk0.out.2.1, Or.inr ⟨rfl, HOkP.out, ?_⟩⟩
            rw [hus, show vs = mOf hs k2 from HMo.out.symm, updM_same, e1]
            exact e2
          · exact ⟨e2, List.length_pos_iff.1 e3, Or.inr ⟨rfl, HOkP.out, by rw [e1]; exact e4⟩⟩
        have HIn : Hid (InTold (mOf hs) ⟨num, k2, val, drop⟩ (updM (mOf hs) k2 us) ok2 0) := hall.2.2
        have hOn : okH ⟨k2, uo, U, uc, us⟩ := ⟨HOk0.out.1, hall.2.1, hall.1⟩
        have hK6 := HK.out _ (HF4.out.then q4)
        obtain ⟨cur4, hcur4⟩ := HcF.out
        have hcu6 : w6.heap[b]? = some (.cells cur4 70 (0, 0)) := q4.keep hcur4 (by simp)
        have hfz : w6.frozen? ⟨b, i * 2 + 1, none⟩ = false := kfrz hcu6 _
        have hkk : k2 = (hs.getD i Hd.zero).key := by rw [← HX.out]
        have hTn : HTy w6 ⟨k2, uo, U, uc, us⟩ := fun j hj => by
          obtain ⟨_, a, ea, rfl⟩ := hj
          rcases q5.2 a ea with h1 | ⟨c, h1, h2⟩
          · exact h1.2
          · obtain ⟨cu, hcu⟩ := HTy0.out a.block ⟨List.length_pos_iff.2 HOk0.out.2.1, c, h1, h2⟩
            exact ⟨cu, q4.keep hcu (by simp)⟩
        have hset := hK6.ok.set (x := ⟨k2, uo, U, uc, us⟩) hi' hkk hOn
        have hst := hK6.setV (x := ⟨k2, uo, U, uc, us⟩) hi hkk ⟨HEk.out.k, q2.out, q5.1, q3⟩ hTn hset.1
        have HSt : Hid (KSh w0 (w6.setCell ⟨b, i * 2 + 1, none⟩ (.slice uo U uc)) g N lc (some ⟨b, 0, none⟩) (hs.set i ⟨k2, uo, U, uc, us⟩)) := hst.1
        have HMs : Hid (mOf (hs.set i ⟨k2, uo, U, uc, us⟩) = updM (mOf hs) k2 us) := hset.2
        have HFs : Hid (Fr (g :: (Value.slice (some ⟨b, 0, none⟩) N lc).ownBlock.toList) w (w6.setCell ⟨b, i * 2 + 1, none⟩ (.slice uo U uc))) := ((HF0.out.then (HF4.out.then q4)).mono (by simp)).then (hst.2.mono (fun x hx _ => List.mem_cons_of_mem _ hx))
        have HNw : Hid (KNw w hs (hs.set i ⟨k2, uo, U, uc, us⟩)) := fun y hy j hj => by
          rcases List.mem_or_eq_of_mem_set hy with h1 | h1
          · exact KNw.refl w hs y h1 j hj
          · subst h1
            obtain ⟨_, a, ea, rfl⟩ := hj
            rcases q5.2 a ea with h1 | ⟨c, h1, h2⟩
            · exact Or.inl (Nat.le_trans (HF0.out.then HF4.out).size h1.1)
            · exact Or.inr ⟨_, HHm.out, List.length_pos_iff.2 HOk0.out.2.1, c, h1, h2⟩
        clear q1 q2 q3 q4 q5 hM hp hcase hall hOn hK6 hcur4 hcu6 hkk hTn hset hst
        go_wp2
        go_ret2
        exact ⟨ok2, 0, N, lc, _, _, rfl, by rw [HMs.out]; exact HIn.out, HSt.out, by omega, HNw.out, fun j hj => Or.inl hj, HFs.out⟩
      | false =>
        have hiN : i ≤ N := by rw [HN.out]; exact HP.out.1
        have hlc : N ≤ lc := by
          rcases hK4.log.row.2 with ⟨e, hn⟩ | ⟨_, _, _, e, _, _, hc, _⟩
          · omega
          · cases e; exact hc
        have HR4 : Hid (∀ V, Fr [] w4 V → KSh w0 V g N lc lo hs) := fun V hf => HK.out V (HF4.out.then hf)
        have s1 : ∀ V, (Instr.sliceAt 22 (.slice lo N lc) none (some (.int .i64 (i : Int))) none).run Tryz.prog V = .ok (.slice lo i lc) V := slH_h lo N lc i (by omega)
        have s2 : ∀ V, (Instr.sliceAt 22 (.slice lo N lc) (some (.int .i64 (i : Int))) none none).run Tryz.prog V = .ok (.slice (fromH lo lc i) (N - i) (lc - i)) V := slH_l lo N lc i hiN
        have c0 := hK4.c0
        have HT1 : Hid (i = (hs.take i).length) := by show _ = _; rw [List.length_take]; have := HN.out; omega
        have HT2 : Hid (N - i = (hs.drop i).length) := by show _ = _; rw [List.length_drop]; have := HN.out; omega
        have HR1 : Hid (HRs w4 lo (hs.take i)) := hK4.rs.take i
        have HTy1 : Hid (∀ y ∈ hs.take i, HTy w4 y) := fun y hy => hK4.log.ty y (List.mem_of_mem_take hy)
        have HNil : Hid (HRo w4 w4 none 0 0 []) := ⟨rfl, World.ownsRow_nil _ _ _ _, by simp, by simp⟩
        have hgl : Hid (g < w4.heap.size) := hK4.lt
        clear hK4
        go_wp2_with (at_builtin; refine wpList_appMany w4 w4 rfl _ _ rfl none 0 0 [] rfl HNil.out lo i lc (hs.take i) rfl HR1.out HTy1.out HT1.out (by omega) (Nat.le_refl _) ?_)
        intro so1 c1 w5 hK5 hF5
        have HK5 : Hid (HRo w4 w5 so1 i c1 (hs.take i)) := hK5
        have HF5 : Hid (Fr [] w4 w5) := hF5.mono (by simp [Value.ownBlock])
        clear hK5 hF5
        obtain ⟨z0, z1, z2⟩ := HZ.out _ (HF4.out.then HF5.out)
        obtain ⟨y0, y1, y2⟩ := HY.out _ (HF43.out.then HF5.out)
        have hF6 : Fr [] w5 (w5.alloc (.cells #[.int .i64 num, .string val, .bool drop] 110)) := Fr.alloc _ _ _
        have hb6 := heap_alloc_new w5 (.cells #[.int .i64 num, .string val, .bool drop] 110)
        have hV6 : VRs (w5.alloc (.cells #[.int .i64 num, .string val, .bool drop] 110)) (some ⟨w5.heap.size, 0, none⟩) [⟨num, val, drop⟩] := ⟨fun _ => ⟨_, 0, rfl, lt_of_block hb6, fun j hj => by
          obtain rfl : j = 0 := by simpa using hj
          exact ⟨by rw [cell_of_row _ _ _ _ _ _ hb6]; rfl, by rw [cell_of_row _ _ _ _ _ _ hb6]; rfl, by rw [cell_of_row _ _ _ _ _ _ hb6]; rfl⟩⟩, by simp, fun x hx => by simp at hx; subst hx; exact ⟨HEk.out.v, HEk.out.lo, HEk.out.hi⟩⟩
        have HEp : Hid (HEach (w5.alloc (.cells #[.int .i64 num, .string val, .bool drop] 110)) ⟨key, some ⟨w5.heap.size, 0, none⟩, 1, 1, [⟨num, val, drop⟩]⟩) := ⟨HEk.out.k, rfl, Nat.le_refl _, hV6⟩
        have HTp : Hid (HTy (w5.alloc (.cells #[.int .i64 num, .string val, .bool drop] 110)) ⟨key, some ⟨w5.heap.size, 0, none⟩, 1, 1, [⟨num, val, drop⟩]⟩) := fun j hj => by
          obtain ⟨_, a, ea, rfl⟩ := hj
          cases ea
          exact ⟨_, hb6⟩
        have HK6 : Hid (HRo w4 (w5.alloc (.cells #[.int .i64 num, .string val, .bool drop] 110)) so1 i c1 (hs.take i)) := HK5.out.keep hF6
        have HG6 : Hid (Fr [] w4 (w5.alloc (.cells #[.int .i64 num, .string val, .bool drop] 110))) := HF5.out.then hF6
        have H45 : Hid (w4.heap.size ≤ w5.heap.size) := HF5.out.size
        clear hF6 hb6 hV6 c0
        go_wp2_with (at_builtin; refine wpList_appR w4 (w5.alloc (.cells #[.int .i64 num, .string val, .bool drop] 110)) rfl (.tmp 48) (.tmp 54) rfl so1 i c1 (hs.take i) rfl HK6.out (by omega) HG6.out.size ⟨key, some ⟨w5.heap.size, 0, none⟩, 1, 1, [⟨num, val, drop⟩]⟩ HEp.out HTp.out (by first | rfl | simp [Act.eval, Array.size_push]) ?_)
        intro so2 c2 w7 hK7 hF7
        have HK7 : Hid (HRo w4 w7 so2 (i + 1) c2 (hs.take i ++ [⟨key, some ⟨w5.heap.size, 0, none⟩, 1, 1, [⟨num, val, drop⟩]⟩])) := hK7
        have HG7 : Hid (Fr [] w4 w7) := HG6.out.on hF7 (fun x hx => (owns_cells HK6.out.row (Option.mem_toList.1 hx)).1)
        clear hK7 hF7 HEp HTp HK6 HG6 z0 z1 z2 y0 y1 y2
        have hK4 := HR4.out _ HG7.out
        have c0 := hK4.c0
        have HR2 : Hid (HRs w7 (fromH lo lc i) (hs.drop i)) := hK4.rs.from lc i (by rw [← HN.out]; exact hiN) (by rw [← HN.out]; exact hlc)
        have HTy2 : Hid (∀ y ∈ hs.drop i, HTy w7 y) := fun y hy => hK4.log.ty y (List.mem_of_mem_drop hy)
        clear hK4
        go_wp2_with (at_builtin; refine wpList_appMany w4 w7 rfl _ _ rfl so2 (i + 1) c2 _ rfl HK7.out (fromH lo lc i) (N - i) (lc - i) (hs.drop i) rfl HR2.out HTy2.out HT2.out (by omega) HG7.out.size ?_)
        intro so3 c3 w8 hK8 hF8
        have HK8 : Hid (HRo w4 w8 so3 (i + 1 + (N - i)) c3 (hs.take i ++ [⟨key, some ⟨w5.heap.size, 0, none⟩, 1, 1, [⟨num, val, drop⟩]⟩] ++ hs.drop i)) := by show HRo _ _ _ _ _ _; rw [List.append_assoc]; exact hK8
        have HG8 : Hid (Fr [] w4 w8) := HG7.out.on hF8 (fun x hx => (owns_cells HK7.out.row (Option.mem_toList.1 hx)).1)
        clear hK8 hF8 HK7 HR2 HTy2 c0
        have hK8s := HR4.out _ HG8.out
        have c0 := hK8s.c0
        have hfz : w8.frozen? ⟨g, 0, none⟩ = false := kfrz hK8s.box 0
        obtain ⟨R, HRn⟩ : ∃ R, Hid (R = i + 1 + (N - i)) := ⟨_, rfl⟩
        rw [← HRn.out] at HK8 ⊢
        have hF9 : Fr [g] w8 (w8.setCell ⟨g, 0, none⟩ (.slice so3 R c3)) := Fr.set _ _ _ (by simp)
        have hins := hK8s.ok.ins (x := ⟨key, some ⟨w5.heap.size, 0, none⟩, 1, 1, [⟨num, val, drop⟩]⟩) HP.out ⟨HOkP.out.1, by simp, (okV_one _).2 HOkP.out.2⟩
        have hRN : Hid (R = N + 1) := by show _ = _; have := HRn.out; omega
        have HKf : Hid (KSh w0 (w8.setCell ⟨g, 0, none⟩ (.slice so3 R c3)) g R c3 so3 (hs.take i ++ [⟨key, some ⟨w5.heap.size, 0, none⟩, 1, 1, [⟨num, val, drop⟩]⟩] ++ hs.drop i)) := ⟨krow_setCell _ hK8s.box, ((HK8.out.keepG hF9 hK8s.box hgl.out).later (Nat.le_trans h0 (HF0.out.then HF4.out).size)), hins.1, by have := hRN.out; omega, HKw.out.gn⟩
        have HMf : Hid (mOf (hs.take i ++ [⟨key, some ⟨w5.heap.size, 0, none⟩, 1, 1, [⟨num, val, drop⟩]⟩] ++ hs.drop i) = updM (mOf hs) key [⟨num, val, drop⟩]) := hins.2
        have HIn : Hid (InTold (mOf hs) ⟨num, key, val, drop⟩ (updM (mOf hs) key [⟨num, val, drop⟩]) true 0) := by
          have hz : mOf hs key = [] := mOf_off (HP.out.off hK8s.ok)
          refine Or.inr ⟨rfl, HOkP.out, Or.inr ⟨rfl, fun y hy => ?_, [⟨num, val, drop⟩], rfl, (okV_one _).2 HOkP.out.2, fun x => ?_⟩⟩
          · rw [hz] at hy; cases hy
          · rw [hz]; simp [Pt.v]
        have HNw : Hid (KNw w hs (hs.take i ++ [⟨key, some ⟨w5.heap.size, 0, none⟩, 1, 1, [⟨num, val, drop⟩]⟩] ++ hs.drop i)) := fun y hy j hj => by
          rcases List.mem_append.1 hy with h1 | h1
          · rcases List.mem_append.1 h1 with h2 | h2
            · exact Or.inr ⟨y, List.mem_of_mem_take h2, hj⟩
            · simp at h2
              subst h2
              obtain ⟨_, a, ea, rfl⟩ := hj
              cases ea
              exact Or.inl (Nat.le_trans (HF0.out.then HF4.out).size H45.out)
          · exact Or.inr ⟨y, List.mem_of_mem_drop h1, hj⟩
        have HFs : Hid (Fr (g :: (Value.slice lo N lc).ownBlock.toList) w (w8.setCell ⟨g, 0, none⟩ (.slice so3 R c3))) := ((HF0.out.then (HF4.out.then HG8.out)).mono (by simp)).then (hF9.mono (fun x hx _ => by simp at hx; simp [hx]))
        have HRw : Hid (∀ j, (Value.slice so3 R c3).ownBlock = some j → w.heap.size ≤ j) := fun j hj => Nat.le_trans (HF0.out.then HF4.out).size (owns_cells HK8.out.row hj).1
        clear hK8s hF9 hins HK8
        go_wp2
        go_ret2
        exact ⟨true, 0, R, c3, so3, _, rfl, by rw [HMf.out]; exact HIn.out, HKf.out, by have := hRN.out; omega, HNw.out, fun j hj => Or.inr (HRw.out j hj), HFs.out⟩
end
end Go.Proofs.YtomajifklajilaaGreat
/- A shard that is not there: a nil one, or a zero struct: what its calls answer. Install of the document's nil. No conditions. -/
namespace Go.Proofs.YtomajifklajilaaGreat
open Go.ChangeShapes Go.WideShapes Go.ChangeAt Go.RowKit Go.Lib Go.Maps
set_option linter.unusedVariables false
set_option linter.unusedSimpArgs false

/-- A shard that is not there. -/
def NoSh (w : World) (p : Option Addr) : Prop := p = none ∨ ∃ z, p = some ⟨z, 0, none⟩ ∧ w.heap[z]? = some (.cells #[.map none] 129 (0, 0))
theorem NoSh.keep {S : List Nat} {w w' : World} {p : Option Addr} (h : NoSh w p) (hf : Fr S w w') (hn : ∀ a, p = some a → a.block ∉ S) : NoSh w' p := by
  rcases h with h | ⟨z, h1, h2⟩
  · exact Or.inl h
  · exact Or.inr ⟨z, h1, hf.keep h2 (hn _ h1)⟩
set_option maxHeartbeats 1000000 in
theorem hthere_no (p : Option Addr) (w : World) (h : NoSh w p) : Calls Tryz.prog 87 #[.pointer p] w fun e w' => e = .returned (.bool false) ∧ w = w' := by
  have qT : ∀ (w : World) (r : Option Nat), (binOp .neq 125 (.map r) (.map none)).run Tryz.prog w = .ok (.bool (!r.isNone)) w := fun w r => run_neq_map_nil w _ _ _ r Tryz.undVMap
  rcases h with rfl | ⟨z, rfl, hz⟩
  · go_enter Tryz.func87, Tryz.ntmps87
    go_wp2
    go_ret
    exact ⟨rfl, rfl⟩
  · have c0 : w.cell? ⟨z, 0, none⟩ = some (.map none) := by simp [World.cell?, hz]
    go_enter Tryz.func87, Tryz.ntmps87
    go_wp2
    go_ret
    exact ⟨rfl, rfl⟩
set_option maxHeartbeats 1000000 in
theorem hall_no (p : Option Addr) (w : World) (h : NoSh w p) : Calls Tryz.prog 49 #[.pointer p] w fun e w' => e = .returned (.slice none 0 0) ∧ w = w' := by
  go_enter Tryz.func49, Tryz.ntmps49
  go_wp2_with fail
  refine (hthere_no p w h).mono ?_
  rintro e w1 ⟨rfl, rfl⟩
  go_wp2_with fail
  go_ret
  exact ⟨rfl, rfl⟩
set_option maxHeartbeats 1000000 in
theorem hget_no (p : Option Addr) (w : World) (h : NoSh w p) (key : ByteArray) (k : Int) : Calls Tryz.prog 62 #[.pointer p, .string key, .int .i64 k] w fun e w' => e = .returned (.tuple #[.string ⟨#[]⟩, .bool false]) ∧ w = w' := by
  go_enter Tryz.func62, Tryz.ntmps62
  go_wp2_with fail
  refine (hthere_no p w h).mono ?_
  rintro e w1 ⟨rfl, rfl⟩
  go_wp2_with fail
  go_ret2
  exact ⟨rfl, rfl⟩
set_option maxHeartbeats 1000000 in
theorem hScan_no (p : Option Addr) (w : World) (h : NoSh w p) (key en : ByteArray) (k : Int) : Calls Tryz.prog 64 #[.pointer p, .string key, .string en, .int .i64 k] w fun e w' => e = .returned (.slice none 0 0) ∧ w = w' := by
  go_enter Tryz.func64, Tryz.ntmps64
  go_wp2_with fail
  refine (hthere_no p w h).mono ?_
  rintro e w1 ⟨rfl, rfl⟩
  go_wp2_with fail
  go_ret
  exact ⟨rfl, rfl⟩
set_option maxHeartbeats 1000000 in
theorem hcollect_no (p : Option Addr) (w : World) (h : NoSh w p) (k : Int) : Calls Tryz.prog 66 #[.pointer p, .int .i64 k] w fun e w' => e = .returned (.int .i64 0) ∧ w = w' := by
  go_enter Tryz.func66, Tryz.ntmps66
  go_wp2_with fail
  refine (hthere_no p w h).mono ?_
  rintro e w1 ⟨rfl, rfl⟩
  go_wp2_with fail
  go_ret
  exact ⟨rfl, rfl⟩
set_option maxHeartbeats 1000000 in
theorem hdump_no (p : Option Addr) (w : World) (h : NoSh w p) (k : Int) (bo : Option Addr) (Mn cb : Nat) : Calls Tryz.prog 68 #[.pointer p, .int .i64 k, .slice bo Mn cb] w fun e w' => e = .returned (.slice none 0 0) ∧ Fr [] w w' := by
  have HF : Hid (Fr [] w ((w.alloc (.cells #[.int .i64 k] 3)).alloc (.cells #[.slice bo Mn cb] 34))) := (Fr.alloc _ _ _).then (Fr.alloc _ _ _)
  have HN := h.keep HF.out (by simp)
  go_enter Tryz.func68, Tryz.ntmps68
  go_wp2_with fail
  refine (hthere_no p _ HN).mono ?_
  rintro e w1 ⟨rfl, rfl⟩
  go_wp2_with fail
  go_ret
  exact ⟨rfl, HF.out⟩
set_option maxHeartbeats 1000000 in
theorem hinstall_no (p : Option Addr) (w : World) (h : NoSh w p) (num : Int) (key val : ByteArray) (drop : Bool) : Calls Tryz.prog 60 #[.pointer p, .int .i64 num, .agg #[.string key, .string val, .bool drop]] w fun e w' => e = .returned (.tuple #[.bool false, .int .i64 2]) ∧ Fr [] w w' := by
  have HF : Hid (Fr [] w (w.alloc (.cells #[.string key, .string val, .bool drop] 33))) := Fr.alloc _ _ _
  have HN := h.keep HF.out (by simp)
  go_enter Tryz.func60, Tryz.ntmps60
  go_wp2_with fail
  refine (hthere_no p _ HN).mono ?_
  rintro e w1 ⟨rfl, rfl⟩
  go_wp2_with fail
  go_ret2
  exact ⟨rfl, HF.out⟩
set_option maxHeartbeats 1000000 in
theorem kinstall_nil (w : World) (num : Int) (key val : ByteArray) (drop : Bool) : Calls Tryz.prog 34 #[.pointer none, .int .i64 num, .agg #[.string key, .string val, .bool drop]] w fun e w' => e = .returned (.tuple #[.bool false, .int .i64 2]) ∧ Fr [] w w' := by
  go_enter Tryz.func34, Tryz.ntmps34
  go_wp2
  go_ret2
  exact ⟨rfl, Fr.alloc _ _ _⟩
end Go.Proofs.YtomajifklajilaaGreat
/- Both shards side by side, there or not: which blocks are theirs, what leaves them alone, each call on both sides. Conditions as each names them. -/
namespace Go.Proofs.YtomajifklajilaaGreat
open Go.ChangeShapes Go.WideShapes Go.ChangeAt Go.RowKit Go.Lib Go.Maps
set_option linter.unusedVariables false
set_option linter.unusedSimpArgs false

/-- The program's blocks, the document's. -/
def PB (w : World) (sb b j : Nat) : Prop := j = sb ∨ j = b ∨ RowOf w b j
def DB (g : Nat) (lo : Option Addr) (N lc : Nat) (hs : List Hd) (j : Nat) : Prop := j = g ∨ (Value.slice lo N lc).ownBlock = some j ∨ ∃ x ∈ hs, VB x j
/-- Both shards are there, and have the same versions. -/
structure Lv (w0 w : World) (sb b g N lc n : Nat) (lo : Option Addr) (hs : List Hd) (Own : Nat → Prop) : Prop where
  sh : Sh w0 w sb b n (mOf hs)
  ks : KSh w0 w g N lc lo hs
  le : N ≤ n
  ap : ∀ j, PB w sb b j → ¬ DB g lo N lc hs j
  own : ∀ j, Own j ↔ PB w sb b j ∨ DB g lo N lc hs j
  nw : ∀ j, Own j → w0.heap.size ≤ j
/-- Both shards: there, or neither. -/
def Pr9 (w0 w : World) (s r : Option Addr) (n : Nat) (Own : Nat → Prop) : Prop :=
  (∃ sb b g N lc lo hs, s = some ⟨sb, 0, none⟩ ∧ r = some ⟨g, 0, none⟩ ∧ Lv w0 w sb b g N lc n lo hs Own) ∨ (NoSh w s ∧ r = none ∧ (∀ j, Own j ↔ ∃ a, s = some a ∧ a.block = j) ∧ ∀ j, Own j → w0.heap.size ≤ j)
/-- Only blocks of one's own, and new ones, may differ. -/
def FrM (w w' : World) (Own : Nat → Prop) : Prop := ∃ S, Fr S w w' ∧ ∀ j ∈ S, j < w.heap.size → Own j
theorem FrM.of {w w' : World} {Own : Nat → Prop} (h : Fr [] w w') : FrM w w' Own := ⟨[], h, by simp⟩
theorem FrM.size {w w' : World} {Own : Nat → Prop} (h : FrM w w' Own) : w.heap.size ≤ w'.heap.size := by
  obtain ⟨S, h, _⟩ := h
  exact h.size
theorem FrM.to {w w' : World} {Own : Nat → Prop} (h : FrM w w' Own) : ∃ T, Fr T w w' ∧ ∀ j ∈ T, Own j := by
  obtain ⟨S, h1, h2⟩ := h
  classical
  refine ⟨S.filter fun j => decide (j < w.heap.size), h1.mono (fun x hx hl => List.mem_filter.2 ⟨hx, by simpa using hl⟩), fun j hj => ?_⟩
  obtain ⟨a, b⟩ := List.mem_filter.1 hj
  exact h2 j a (by simpa using b)
theorem FrM.trans {w w1 w2 : World} {Own Own1 : Nat → Prop} (h : FrM w w1 Own) (k : FrM w1 w2 Own1) (hO : ∀ j, Own1 j → Own j ∨ w.heap.size ≤ j) : FrM w w2 Own := by
  obtain ⟨S, h1, h2⟩ := h
  obtain ⟨T, k1, k2⟩ := k
  refine ⟨S ++ T, h1.trans k1 (fun x hx _ => List.mem_append_left _ hx) (fun x hx _ => List.mem_append_right _ hx), fun j hj hl => ?_⟩
  rcases List.mem_append.1 hj with e | e
  · exact h2 j e hl
  · rcases hO j (k2 j e (Nat.lt_of_lt_of_le hl h1.size)) with q | q
    · exact q
    · omega
section
variable {w0 w w' : World} {sb b g N lc n : Nat} {lo : Option Addr} {hs : List Hd} {Own : Nat → Prop} {s r : Option Addr} {S : List Nat}
theorem KSh.keepS (h : KSh w0 w g N lc lo hs) (hf : Fr S w w') (hn : ∀ j ∈ S, ¬ DB g lo N lc hs j) : KSh w0 w' g N lc lo hs :=
  ⟨hf.keep h.box (fun hm => hn g hm (Or.inl rfl)), ⟨h.log.len, owns_keepB h.log.row hf (fun k hk hm => hn k hm (Or.inr (Or.inl hk))), fun x hx => (h.log.each x hx).keepS hf (fun j hj hm => hn j hm (Or.inr (Or.inr ⟨x, hx, hj⟩))), fun x hx => (h.log.ty x hx).keepS hf (fun j hj hm => hn j hm (Or.inr (Or.inr ⟨x, hx, hj⟩)))⟩, h.ok, h.few, h.gn⟩
theorem KSh.blk (h : KSh w0 w g N lc lo hs) {j : Nat} (hj : DB g lo N lc hs j) : j < w.heap.size := by
  rcases hj with rfl | hj | ⟨x, hx, hj⟩
  · exact h.lt
  · obtain ⟨_, cur, e⟩ := owns_cells h.log.row hj
    exact lt_of_block e
  · exact (h.log.each x hx).blk hj
theorem Sh.blk9 {M : ByteArray → List Vn} (h : Sh w0 w sb b n M) {j : Nat} (hj : PB w sb b j) : j < w.heap.size := by
  rcases hj with rfl | rfl | hj
  · exact lt_of_block h.box
  · exact h.bl
  · obtain ⟨_, cur, e⟩ := h.rowLt hj
    exact lt_of_block e
theorem PB.same (hf : Fr S w w') (hb : b ∉ S) (hl : b < w.heap.size) (j : Nat) : PB w' sb b j ↔ PB w sb b j := by
  unfold PB
  constructor
  · rintro (e | e | e)
    · exact Or.inl e
    · exact Or.inr (Or.inl e)
    · exact Or.inr (Or.inr (e.back hf hb hl))
  · rintro (e | e | e)
    · exact Or.inl e
    · exact Or.inr (Or.inl e)
    · obtain ⟨G, m, k, L, c, hM, hk, hG⟩ := e
      exact Or.inr (Or.inr ⟨G, m, k, L, c, hM.keep hf hb, hk, hG⟩)
theorem Lv.keep (h : Lv w0 w sb b g N lc n lo hs Own) (hf : Fr S w w') (hS : ∀ j ∈ S, ¬ Own j) : Lv w0 w' sb b g N lc n lo hs Own := by
  have h1 : ∀ j ∈ S, ¬ PB w sb b j := fun j hj hm => hS j hj ((h.own j).2 (Or.inl hm))
  have h2 : ∀ j ∈ S, ¬ DB g lo N lc hs j := fun j hj hm => hS j hj ((h.own j).2 (Or.inr hm))
  have hb : b ∉ S := fun hm => h1 b hm (Or.inr (Or.inl rfl))
  have hP := PB.same (sb := sb) hf hb h.sh.bl
  refine ⟨h.sh.keepS hf (fun hm => h1 sb hm (Or.inl rfl)) (fun j hj hm => h1 j hj ?_), h.ks.keepS hf h2, h.le, fun j hj => h.ap j ((hP j).1 hj), fun j => ?_, h.nw⟩
  · rcases hm with e | e
    · exact Or.inr (Or.inl e)
    · exact Or.inr (Or.inr e.2)
  · rw [hP j]; exact h.own j
theorem Pr9.keep (h : Pr9 w0 w s r n Own) (hf : Fr S w w') (hS : ∀ j ∈ S, ¬ Own j) : Pr9 w0 w' s r n Own := by
  rcases h with ⟨sb, b, g, N, lc, lo, hs, e1, e2, h⟩ | ⟨h1, h2, h3, h4⟩
  · exact Or.inl ⟨sb, b, g, N, lc, lo, hs, e1, e2, h.keep hf hS⟩
  · exact Or.inr ⟨h1.keep hf (fun a ha hm => hS _ hm ((h3 _).2 ⟨a, ha, rfl⟩)), h2, h3, h4⟩
theorem Pr9.quiet (h : Pr9 w0 w s r n Own) (hf : Fr [] w w') : Pr9 w0 w' s r n Own := h.keep hf (by simp)
theorem Pr9.nw (h : Pr9 w0 w s r n Own) : ∀ j, Own j → w0.heap.size ≤ j := by
  rcases h with ⟨sb, b, g, N, lc, lo, hs, e1, e2, h⟩ | ⟨h1, h2, h3, h4⟩
  · exact h.nw
  · exact h4
theorem Pr9.lt (h : Pr9 w0 w s r n Own) : ∀ j, Own j → j < w.heap.size := by
  rcases h with ⟨sb, b, g, N, lc, lo, hs, e1, e2, h⟩ | ⟨h1, h2, h3, h4⟩
  · intro j hj
    rcases (h.own j).1 hj with e | e
    · exact h.sh.blk9 e
    · exact h.ks.blk e
  · intro j hj
    obtain ⟨a, ha, rfl⟩ := (h3 j).1 hj
    rcases h1 with e | ⟨z, e, hz⟩
    · rw [e] at ha; cases ha
    · rw [e] at ha; cases ha
      exact lt_of_block hz
/-- What a call that moves things leaves. -/
def Nx9 (w0 w w2 : World) (s r : Option Addr) (n : Nat) (Own : Nat → Prop) : Prop := ∃ Own', Pr9 w0 w2 s r n Own' ∧ FrM w w2 Own ∧ ∀ j, Own' j → Own j ∨ w.heap.size ≤ j
theorem InTold.one {M M1 M2 : ByteArray → List Vn} {p : Pt} {o1 o2 : Bool} {c1 c2 : Nat} (h : InTold M p M1 o1 c1) (k : InTold M p M2 o2 c2) : M1 = M2 ∧ o1 = o2 ∧ c1 = c2 := by
  rcases h with ⟨a1, a2, a3, a4⟩ | ⟨a1, a2, a3⟩ <;> rcases k with ⟨b1, b2, b3, b4⟩ | ⟨b1, b2, b3⟩
  · exact ⟨by rw [a4, b4], by rw [a2, b2], by rw [a1, b1]⟩
  · exact absurd b2 a3
  · exact absurd a2 b3
  · refine ⟨?_, ?_, by rw [a1, b1]⟩ <;> rcases a3 with ⟨p1, p2, y, hy, ey⟩ | ⟨p1, p2, us, p3, p4, p5⟩ <;> rcases b3 with ⟨q1, q2, z, hz, ez⟩ | ⟨q1, q2, vs, q3, q4, q5⟩
    · rw [p2, q2]
    · exact absurd ey (q2 y hy)
    · exact absurd ez (p2 z hz)
    · rw [p3, q3, ris_unique us vs p4.2 q4.2 (fun x => (p5 x).trans (q5 x).symm)]
    · rw [p1, q1]
    · exact absurd ey (q2 y hy)
    · exact absurd ez (p2 z hz)
    · rw [p1, q1]
theorem SzT.one {M : ByteArray → List Vn} {a c : Nat} (h : SzT M a) (k : SzT M c) : a = c := by
  obtain ⟨ks, h1, h2, rfl⟩ := h
  obtain ⟨qs, k1, k2, rfl⟩ := k
  exact sum_same _ h1 k1 (fun x => (h2 x).trans (k2 x).symm)
theorem GoT.one {M : ByteArray → List Vn} {q : Int} {a c : Nat} (h : GoT M q a) (k : GoT M q c) : a = c := by
  obtain ⟨ks, h1, h2, rfl⟩ := h
  obtain ⟨qs, k1, k2, rfl⟩ := k
  exact sum_same _ h1 k1 (fun x => (h2 x).trans (k2 x).symm)
theorem GtH.is {key : ByteArray} {mk : Int} {q : ByteArray} {o : Bool} (h : GtH hs key mk q o) (hl : LoOk hs) : o = (valAt (mOf hs key) mk).isSome ∧ q = (valAt (mOf hs key) mk).getD noS := by
  obtain ⟨i, ok, hP, ⟨rfl, rfl, rfl⟩ | ⟨rfl, hA⟩⟩ := h
  · have e : mOf hs key = [] := mOf_off (fun x hx => hP.off hl x hx)
    rw [e, valAt_nil]
    exact ⟨rfl, rfl⟩
  · obtain ⟨h1, h2, h3⟩ := hP.at hl
    rw [h3]
    exact hA.is (hl.2 _ (hgetD_mem hs i h1)).2.2
/-- What the program's call leaves of the document's shard. -/
theorem Lv.mid (h : Lv w0 w sb b g N lc n lo hs Own) (hf : FrS w0 b w w') : KSh w0 w' g N lc lo hs ∧ FrM w w' Own := by
  obtain ⟨S, hS, hm⟩ := hf
  obtain ⟨m1, m2⟩ := hm h.sh.bl
  have hin : ∀ j ∈ S, j < w.heap.size → PB w sb b j := fun j hj hl => by
    rcases m1 j hj hl with e | e
    · exact Or.inr (Or.inl e)
    · exact Or.inr (Or.inr e.2)
  refine ⟨?_, S, hS, fun j hj hl => (h.own j).2 (Or.inl (hin j hj hl))⟩
  obtain ⟨T, hT, hT2⟩ := FrM.to (Own := PB w sb b) ⟨S, hS, hin⟩
  exact h.ks.keepS hT (fun j hj hm => h.ap j (hT2 j hj) hm)
/-- And what the document's then leaves of both. -/
theorem Lv.next {w1 w2 : World} {n' N' lc' : Nat} {lo' : Option Addr} {gs : List Hd} (h : Lv w0 w sb b g N lc n lo hs Own) (hf : FrS w0 b w w1) (h1 : Sh w0 w1 sb b n' (mOf gs)) (h2 : KSh w0 w2 g N' lc' lo' gs) (hle : N' ≤ n') (hF : Fr (g :: (Value.slice lo N lc).ownBlock.toList) w1 w2) (hN : KNw w1 hs gs) (hrow : ∀ j, (Value.slice lo' N' lc').ownBlock = some j → (Value.slice lo N lc).ownBlock = some j ∨ w1.heap.size ≤ j) :
    ∃ Own', Lv w0 w2 sb b g N' lc' n' lo' gs Own' ∧ FrM w w2 Own ∧ ∀ j, Own' j → Own j ∨ w.heap.size ≤ j := by
  obtain ⟨_, hM⟩ := h.mid hf
  have hs1 : w.heap.size ≤ w1.heap.size := hf.size
  have hD : ∀ j, DB g lo' N' lc' gs j → DB g lo N lc hs j ∨ w1.heap.size ≤ j := fun j hj => by
    rcases hj with e | e | ⟨x, hx, e⟩
    · exact Or.inl (Or.inl e)
    · rcases hrow j e with q | q
      · exact Or.inl (Or.inr (Or.inl q))
      · exact Or.inr q
    · rcases hN x hx j e with q | ⟨y, hy, q⟩
      · exact Or.inr q
      · exact Or.inl (Or.inr (Or.inr ⟨y, hy, q⟩))
  have hFD : ∀ j ∈ g :: (Value.slice lo N lc).ownBlock.toList, DB g lo N lc hs j := fun j hj => by
    rcases List.mem_cons.1 hj with e | e
    · exact Or.inl e
    · exact Or.inr (Or.inl (Option.mem_toList.1 e))
  have hP1 : ∀ j, PB w1 sb b j → PB w sb b j ∨ w.heap.size ≤ j := fun j hj => by
    rcases hj with e | e | e
    · exact Or.inl (Or.inl e)
    · exact Or.inl (Or.inr (Or.inl e))
    · rcases hf.rows h.sh.bl e with q | q
      · exact Or.inl (Or.inr (Or.inr q))
      · exact Or.inr q
  have hDl : ∀ j, DB g lo N lc hs j → j < w.heap.size := fun j hj => h.ks.blk hj
  have hno : ∀ j, PB w1 sb b j → ¬ DB g lo N lc hs j := fun j hj hd => by
    rcases hP1 j hj with q | q
    · exact h.ap j q hd
    · have := hDl j hd; omega
  have hb : b ∉ g :: (Value.slice lo N lc).ownBlock.toList := fun hm => hno b (Or.inr (Or.inl rfl)) (hFD b hm)
  have hPs := PB.same (sb := sb) hF hb h1.bl
  have hown : ∀ j, (PB w2 sb b j ∨ DB g lo' N' lc' gs j) → Own j ∨ w.heap.size ≤ j := fun j hj => by
    rcases hj with e | e
    · rcases hP1 j ((hPs j).1 e) with q | q
      · exact Or.inl ((h.own j).2 (Or.inl q))
      · exact Or.inr q
    · rcases hD j e with q | q
      · exact Or.inl ((h.own j).2 (Or.inr q))
      · exact Or.inr (Nat.le_trans hs1 q)
  have h0 : w0.heap.size ≤ w.heap.size := by have := h.sh.bn; have := h.sh.bl; omega
  refine ⟨fun j => PB w2 sb b j ∨ DB g lo' N' lc' gs j, ⟨h1.keepS hF (fun hm => hno sb (Or.inl rfl) (hFD sb hm)) (fun j hj hm => ?_), h2, hle, fun j hj hd => ?_, fun j => Iff.rfl, fun j hj => ?_⟩, ?_, hown⟩
  · refine hno j ?_ (hFD j hj)
    rcases hm with e | e
    · exact Or.inr (Or.inl e)
    · exact Or.inr (Or.inr e.2)
  · have hj1 := (hPs j).1 hj
    rcases hD j hd with q | q
    · exact hno j hj1 q
    · have := h1.blk9 hj1; omega
  · rcases hown j hj with q | q
    · exact h.nw j q
    · omega
  · exact hM.trans (Own1 := DB g lo N lc hs) ⟨_, hF, fun j hj _ => hFD j hj⟩ (fun j hj => Or.inl ((h.own j).2 (Or.inr hj)))
end
end Go.Proofs.YtomajifklajilaaGreat
/- The document's shard: contract of Scan. Conditions as it names them. -/
namespace Go.Proofs.YtomajifklajilaaGreat
open Go.ChangeShapes Go.WideShapes Go.ChangeAt Go.RowKit Go.Lib Go.Maps
set_option linter.unusedVariables false
set_option linter.unusedSimpArgs false

theorem EOut.keep9 {w w1 w2 : World} {ro : Option Addr} {N rc : Nat} {ps : List Pr} (h : EOut w w1 ro N rc ps) (hf : Fr [] w1 w2) : EOut w w2 ro N rc ps := ⟨h.len, owns_keepB h.row hf (by simp)⟩
section
variable {w0 w : World} {g N lc : Nat} {lo : Option Addr} {hs : List Hd}
set_option maxHeartbeats 4000000 in
set_option maxRecDepth 100000 in
theorem kscan_any (h : KSh w0 w g N lc lo hs) (key en : ByteArray) (k : Int) : Calls Tryz.prog 36 #[.pointer (some ⟨g, 0, none⟩), .string key, .string en, .int .i64 k] w fun e w' => ∃ ro R rc, e = .returned (.slice ro R rc) ∧ EOut w w' ro R rc (hs.filterMap (scOf key en k)) ∧ R ≤ N ∧ Fr [] w w' := by
  have HK : Hid (∀ W, Fr [] w W → KSh w0 W g N lc lo hs) := fun W hf => h.keep hf
  have HN : Hid (N = hs.length) := h.log.len
  have hfew := h.few
  have HOk : Hid (LoOk hs) := h.ok
  clear h
  go_enter Tryz.func36, Tryz.ntmps36
  have c0 := (HK.out _ (Fr.refl _ _)).c0
  go_wp2_with fail
  go_loopw [9, 10] (fun vv ii wr => ∃ (i R rc : Nat) (ro : Option Addr), vv = .slice ro R rc ∧ ii = .int .i64 i ∧ i ≤ N ∧ R ≤ i ∧ Hid (EOut w wr ro R rc ((hs.take i).filterMap (scOf key en k))) ∧ Fr [] w wr) (fun _ ii _ => N - (RowKit.intOf ii).toNat)
  case atStart => exact ⟨0, 0, 0, none, rfl, rfl, Nat.zero_le _, Nat.le_refl _, ⟨rfl, ⟨rfl, .inl ⟨rfl, rfl⟩⟩⟩, Fr.refl _ _⟩
  case round =>
    clear c0
    obtain ⟨i, R, rc, ro, rfl, rfl, hiN, hRi, HO, hFr⟩ := hrel
    have c0 := (HK.out _ hFr).c0
    by_cases hi : i < N
    · have hi' : i < hs.length := by rw [← HN.out]; exact hi
      have hR := (HK.out _ hFr).rs
      obtain ⟨b, off, e9, hbl, hc⟩ := hR.lies (by omega)
      obtain ⟨d0, d1⟩ := hc i hi'
      have hE := hR.each _ (hgetD_mem hs i hi')
      have HT : Hid ((hs.take (i + 1)).filterMap (scOf key en k) = (hs.take i).filterMap (scOf key en k) ++ (scOf key en k (hs.getD i Hd.zero)).toList) := by
        show _ = _
        rw [htake_snoc hs i hi', List.filterMap_append]
        congr 1
      have HX : Hid (okV (hs.getD i Hd.zero).vs) := (HOk.out.2 _ (hgetD_mem hs i hi')).2.2
      obtain ⟨x, hx⟩ : ∃ x, x = hs.getD i Hd.zero := ⟨_, rfl⟩
      rw [← hx] at d0 d1 hE HT HX
      clear hc hx hR
      obtain ⟨k2, vo, M, cm, vs⟩ := x
      simp only at d0 d1
      have HM2 : Hid (M = vs.length) := hE.len
      have HV : Hid (VRs wr vo vs) := hE.rs
      have HC : Hid (∀ W, Fr [] wr W → W.cell? ⟨b, off + i * 2, none⟩ = some (.string k2)) := fun W hf => (World.cell?_of_block (hf.block b hbl (by simp))).trans d0
      subst e9
      clear hE
      go_wp2_with fail
      refine (kat_any vo M cm k vs wr HV.out HM2.out).mono ?_
      rintro e w4 ⟨r, o, rfl, hA, hF4⟩
      obtain ⟨hA1, hA2⟩ := hA.is HX.out
      have HA1 : Hid (o = (valAt vs k).isSome) := hA1
      have HA2 : Hid (r = (valAt vs k).getD noS) := hA2
      have hG4 := hFr.then hF4
      have e0 := (HK.out _ hG4).c0
      have e1 := HC.out _ hF4
      have HC4 : Hid (∀ W, Fr [] w4 W → W.cell? ⟨b, off + i * 2, none⟩ = some (.string k2)) := fun W hf => HC.out W (hF4.then hf)
      have HO4 : Hid (EOut w w4 ro R rc ((hs.take i).filterMap (scOf key en k))) := HO.out.keep9 hF4
      clear hA hA1 hA2 hF4 hFr HO HC d0 d1 c0 HV
      cases o with
      | false =>
        have HO2 : Hid (EOut w w4 ro R rc ((hs.take (i + 1)).filterMap (scOf key en k))) := by
          show EOut _ _ _ _ _ _
          have hz : valAt vs k = none := by
            cases hv : valAt vs k with
            | none => rfl
            | some v => have := HA1.out; rw [hv] at this; cases this
          have hz2 : scOf key en k ⟨k2, vo, M, cm, vs⟩ = none := by unfold scOf; rw [hz]; simp
          rw [HT.out, hz2]
          simpa using HO4.out
        clear HO4 HT HA1 HA2
        go_wp2
        go_roundw
        case rel => exact ⟨i + 1, R, rc, ro, rfl, by simp, by omega, by omega, HO2, hG4⟩
        case measure => simp [RowKit.intOf]; omega
      | true =>
        have HVa : Hid (valAt vs k = some r) := by
          show _ = _
          have h1 := HA1.out
          have h2 := HA2.out
          cases hv : valAt vs k with
          | none => rw [hv] at h1; cases h1
          | some v => rw [hv] at h2; rw [h2]; rfl
        clear HA1 HA2
        obtain ⟨B, HB⟩ : ∃ B, Hid (B = inS key en k2) := ⟨_, rfl⟩
        go_wp2_with fail
        refine (zIn_any k2 key en B w4 HB.out).mono ?_
        rintro e w5 ⟨rfl, hF5⟩
        have hG5 := hG4.then hF5
        have f0 := (HK.out _ hG5).c0
        have f1 := HC4.out _ hF5
        have HO5 : Hid (EOut w w5 ro R rc ((hs.take i).filterMap (scOf key en k))) := HO4.out.keep9 hF5
        clear hF5 HO4 HC4 e0 e1 hG4
        cases B with
        | false =>
          have HO2 : Hid (EOut w w5 ro R rc ((hs.take (i + 1)).filterMap (scOf key en k))) := by
            show EOut _ _ _ _ _ _
            have hz2 : scOf key en k ⟨k2, vo, M, cm, vs⟩ = none := by unfold scOf; rw [if_neg (by rw [← HB.out]; simp)]
            rw [HT.out, hz2]
            simpa using HO5.out
          clear HO5 HT
          go_wp2
          go_roundw
          case rel => exact ⟨i + 1, R, rc, ro, rfl, by simp, by omega, by omega, HO2, hG5⟩
          case measure => simp [RowKit.intOf]; omega
        | true =>
          obtain ⟨qs, hqs⟩ : ∃ qs, qs = (hs.take i).filterMap (scOf key en k) := ⟨_, rfl⟩
          have HQ : Hid (qs ++ [(k2, r)] = (hs.take (i + 1)).filterMap (scOf key en k)) := by
            show _ = _
            have hz2 : scOf key en k ⟨k2, vo, M, cm, vs⟩ = some (k2, r) := by unfold scOf; rw [if_pos HB.out.symm, HVa.out]; rfl
            rw [HT.out, ← hqs, hz2]
            rfl
          have hlen := HO5.out.len
          rw [← hqs] at hlen
          have HLn : Hid (R = qs.length) := hlen
          have HRow : Hid (w5.ownsRow w.heap.size 67 2 (.slice ro R rc) qs.length (celsE qs)) := by
            show World.ownsRow _ _ _ _ _ _ _
            rw [← hlen, hqs]
            exact HO5.out.row
          have hlb : qs.length + 1 < 3518437208884 := by rw [← hlen]; omega
          have hsz := hG5.size
          clear hlen hqs HO5 HT
          go_wp2_with (first
            | (at_builtin; refine wpList_appE _ rfl _ _ rfl w.heap.size (.slice ro R rc) qs rfl (owns_keepB HRow.out (Fr.alloc [] w5 _) (by simp)) (some ⟨w5.heap.size, 0, none⟩) 1 1 [(k2, r)] rfl (esl_new w5 (k2, r)) hlb (by simp; omega) ?_
               intro bo n1 cap1 w6 hn1 hO6 hF6
               have hG6 : Fr [] w w6 := (hG5.then (Fr.alloc [] w5 _)).on hF6 (fun y hy => (owns_cells HRow.out (Option.mem_toList.1 hy)).1)
               have hn2 : n1 = R + 1 := by rw [hn1, HLn.out]; simp
               go_frame))
          go_roundw
          case rel => exact ⟨i + 1, n1, cap1, bo, rfl, by simp, by omega, by omega, ⟨by rw [← HQ.out]; exact hn1, by rw [← HQ.out]; exact hO6⟩, hG6⟩
          case measure => simp [RowKit.intOf]; omega
    · obtain rfl : i = N := by omega
      have HO2 : Hid (EOut w wr ro R rc (hs.filterMap (scOf key en k))) := by
        have h1 := HO.out
        rw [List.take_of_length_le (by rw [← HN.out]; omega)] at h1
        exact h1
      go_wp2
      go_ret
      exact ⟨ro, R, rc, rfl, HO2.out, hRi, hFr⟩
end
end Go.Proofs.YtomajifklajilaaGreat
