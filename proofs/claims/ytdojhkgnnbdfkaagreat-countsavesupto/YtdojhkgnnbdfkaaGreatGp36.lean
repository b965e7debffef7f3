/- Texts of this claim laid together, one behind the other: contracts and plain lemmas; conditions as each names them. -/
import Derived.Test.YtdojhkgnnbdfkaaGreatGp34
import Derived.Test.YtdojhkgnnbdfkaaGreatGp35
/- What a slot's bytes say: contract of read. Conditions: fewer than 2^41 bytes. -/
namespace Go.Proofs.YtdojhkgnnbdfkaaGreat
open BigFrame Go.ChangeShapes Go.WideShapes Go.ChangeAt Go.RowKit Go.Lib Go.Maps
set_option linter.unusedVariables false
set_option linter.unusedSimpArgs false

theorem results_ctt19 {fn : Func} {p u v : Tmp} {ty : TypeId} (h : fn.results = #[.cell p ty, .tmp u, .tmp v]) (tmps : Array Value) (P : Program) (w : World) (g : Nat) (x : Value) (hp : tmps.getD p undef = .pointer (some ⟨g, 0, none⟩)) (hld : (loadVar ty ⟨g, 0, none⟩).run P w = .ok x w) :
    (results fn tmps).run P w = .ok (.tuple #[x, tmps.getD u undef, tmps.getD v undef]) w := by
  simp only [results, h]
  simp [Sem.run_bind, Result.andThen, ← Array.getD_eq_getD_getElem?, hp, asAddr, hld]
theorem load_sv {w : World} {g : Nat} {a b c : Value} (h : w.heap[g]? = some (.cells #[a, b, c] 27 (0, 0))) : (loadVar 27 ⟨g, 0, none⟩).run Tryz.prog w = .ok (.agg #[a, b, c]) w :=
  run_loadVar_row (P := Tryz.prog) _ g _ 27 _ _ (.struct (Tryz.prog.fieldsOf 27)) h (by kernel_rfl) rfl (by kernel_rfl)
/-- What read answers. -/
def ReP (ys : List Nat) (w : World) (e : Ending) (w' : World) : Prop := ∃ (ok : Bool) (g : Nat) (m : Int) (bo : Option Addr) (Lb cb : Nat) (ho : Option Addr) (Lh ch : Nat) (bs : List Int) (hs : List Hd), e = .returned (.tuple #[.agg #[.int .i64 m, .slice bo Lb cb, .slice ho Lh ch], .int .i64 (g : Int), .bool ok]) ∧ Wh ys ok g m bs (hs.map Hd.kv) ∧ Lb ≤ 65536 ∧ Lh ≤ 65536 ∧ (∀ p ∈ hs.map Hd.kv, limK p) ∧ IOw w.heap.size w' bo Lb cb bs ∧ HOut w w' ho Lh ch hs ∧ Fr [] w w'
theorem hout_nil (w w' : World) : HOut w w' none 0 0 [] := ⟨rfl, ⟨rfl, .inl ⟨rfl, rfl⟩⟩, by simp, List.Pairwise.nil⟩
theorem ReP.no {ys : List Nat} {w w' : World} (h : Wh ys false 0 0 [] []) (hf : Fr [] w w') : ReP ys w (.returned (.tuple #[.agg #[.int .i64 0, .slice none 0 0, .slice none 0 0], .int .i64 0, .bool false])) w' :=
  ⟨false, 0, 0, none, 0, 0, none, 0, 0, [], [], rfl, h, by omega, by omega, by simp, IOw.nil _ _, hout_nil _ _, hf⟩
theorem quiet_load_row {P : Program} {o : Oper} {a : Act} {C : World → Prop} {K : Act → Prop} (ty : TypeId) (x : Operand) (ho : o.op = .load ty x) (g : Nat) (hx : a.eval x = .pointer (some ⟨g, 0, none⟩)) (t : TypeId) (cs : Array Value) (fr : Nat × Nat) (d : TypeDesc) (hg : ∀ w, C w → w.heap[g]? = some (.cells cs t fr))
    (hu : P.underlying ty = some d) (hd : (match d with | .struct _ | .array _ _ => true | _ => false) = true) (hi : (P.info? ty).map (·.size) = some cs.size) (h : K (a.put o.dst (.agg cs))) : o.quiet P a C K := by
  refine ⟨.agg cs, fun w hw => ?_, h⟩
  unfold Oper.quietAt execOp
  simp only [ho, hx, Instr.loadAt, Instr.sureAddr, Sem.run_bind, Sem.run_pure, Result.andThen_ok, run_loadVar_row w g t ty cs fr d (hg w hw) hu hd hi]
  exact ⟨rfl, rfl⟩
theorem svnew (w : World) : (w.alloc (.cells #[.int .i64 0, .slice none 0 0, .slice none 0 0] 27)).heap[w.heap.size]? = some (.cells #[.int .i64 0, .slice none 0 0, .slice none 0 0] 27 (0, 0)) := heap_alloc_new w _
theorem SB.fr0 {w : World} {b : Nat} {x y z : Value} (h : SB w b x y z) (v1 v2 v3 : Value) : SB (((w.setCell ⟨b, 0, none⟩ v1).setCell ⟨b, 1, none⟩ v2).setCell ⟨b, 2, none⟩ v3) b v1 v2 v3 ∧ Fr [b] w (((w.setCell ⟨b, 0, none⟩ v1).setCell ⟨b, 1, none⟩ v2).setCell ⟨b, 2, none⟩ v3) :=
  ⟨((h.set0 v1).set1 v2).set2 v3, (Fr.set w ⟨b, 0, none⟩ _ (by simp)).then ((Fr.set _ ⟨b, 1, none⟩ _ (by simp)).then (Fr.set _ ⟨b, 2, none⟩ _ (by simp)))⟩
set_option maxHeartbeats 8000000 in
set_option maxRecDepth 100000 in
theorem sread_any (ao : Option Addr) (L cap : Nat) (ys : List Nat) (w : World) (hA : BArg w ao L cap ys) (hlen : ys.length < 2^41) :
    Calls Tryz.prog 71 #[.slice ao L cap] w fun e w' => ReP ys w e w' := by
  have HL : Hid (L = ys.length) := hA.len
  have hLm := hA.most
  have hfits := hA.fits
  have HLen : Hid (ys.length < 2^41) := hlen
  have HLow : Hid (∀ x ∈ ys, x < 256) := hA.low
  obtain ⟨w1, HW1⟩ : ∃ w1, Hid (w.alloc (.cells #[.int .i64 0, .slice none 0 0, .slice none 0 0] 27) = w1) := ⟨_, rfl⟩
  have hF1 : Fr [] w w1 := by rw [← HW1.out]; exact Fr.alloc [] w _
  have hs1 : SB w1 w.heap.size (.int .i64 0) (.slice none 0 0) (.slice none 0 0) := ⟨by rw [← HW1.out]; exact svnew w⟩
  obtain ⟨A, hAe⟩ : ∃ A, A = w.heap.size := ⟨_, rfl⟩
  rw [← hAe] at hs1
  have HF1 : Hid (Fr [] w w1 ∧ w.heap.size ≤ A) := ⟨hF1, by omega⟩
  have HS1 : Hid (∀ W, Fr [] w1 W → SB W A (.int .i64 0) (.slice none 0 0) (.slice none 0 0)) := fun W hf => hs1.keep hf (by simp)
  have HA : Hid (∀ W, Fr [] w1 W → BArg W ao L cap ys) := fun W hf => hA.keep (hF1.then hf)
  have HNo : Hid (∀ W, Fr [] w1 W → Wh ys false 0 0 [] [] → (loadVar 27 ⟨A, 0, none⟩).run Tryz.prog (((W.setCell ⟨A, 0, none⟩ (.int .i64 0)).setCell ⟨A, 1, none⟩ (.slice none 0 0)).setCell ⟨A, 2, none⟩ (.slice none 0 0)) = .ok (.agg #[.int .i64 0, .slice none 0 0, .slice none 0 0]) (((W.setCell ⟨A, 0, none⟩ (.int .i64 0)).setCell ⟨A, 1, none⟩ (.slice none 0 0)).setCell ⟨A, 2, none⟩ (.slice none 0 0)) ∧ ReP ys w (.returned (.tuple #[.agg #[.int .i64 0, .slice none 0 0, .slice none 0 0], .int .i64 0, .bool false])) (((W.setCell ⟨A, 0, none⟩ (.int .i64 0)).setCell ⟨A, 1, none⟩ (.slice none 0 0)).setCell ⟨A, 2, none⟩ (.slice none 0 0))) := fun W hf hW => by
    obtain ⟨q1, q2⟩ := (HS1.out W hf).fr0 (.int .i64 0) (.slice none 0 0) (.slice none 0 0)
    exact ⟨load_sv q1.box, ReP.no hW ((HF1.out.1.then hf).on q2 (fun j hj => by have := HF1.out.2; simp at hj; omega))⟩
  have a0 := hs1.c0
  have a1 := hs1.c1
  have a2 := hs1.c2
  have b0 := hs1.fz 0
  have b1 := hs1.fz 1
  have b2 := hs1.fz 2
  clear hs1 hF1 hA hlen
  by_cases hL20 : L < 20
  · have hlt : (L : Int) < 20 := by omega
    obtain ⟨n1, n2⟩ := HNo.out w1 (Fr.refl _ _) (Wh.short (by rw [← HL.out]; exact hL20))
    have N1 : Hid ((loadVar _ _).run _ _ = _) := n1
    have N2 : Hid (ReP ys w _ _) := n2
    clear n1 n2 HNo
    go_enter Tryz.func71, Tryz.ntmps71
    go_upto_region 1 with fail
    rw [HW1.out, ← hAe]
    clear HW1 hAe
    go_wp2
    refine bodyPost_ret (v := .tuple #[.agg #[.int .i64 0, .slice none 0 0, .slice none 0 0], .int .i64 0, .bool false]) (by rw [results_ctt19 rfl _ _ _ A _ rfl N1.out]; rfl) rfl ?_
    exact N2.out
  · have hlt : ¬ (L : Int) < 20 := by omega
    obtain ⟨w2, HW2⟩ : ∃ w2, Hid (w1.alloc (.cells #[.int .u8 0, .int .u8 0, .int .u8 0, .int .u8 0, .int .u8 0, .int .u8 0, .int .u8 0, .int .u8 0, .int .u8 0, .int .u8 0, .int .u8 0, .int .u8 0, .int .u8 0, .int .u8 0, .int .u8 0, .int .u8 0, .int .u8 0, .int .u8 0, .int .u8 0, .int .u8 0] 106) = w2) := ⟨_, rfl⟩
    have hF2 : Fr [] w1 w2 := by rw [← HW2.out]; exact Fr.alloc [] w1 _
    obtain ⟨R, hR⟩ : ∃ R, R = w1.heap.size := ⟨_, rfl⟩
    have hR2 : w2.heap[R]? = some (.cells #[.int .u8 0, .int .u8 0, .int .u8 0, .int .u8 0, .int .u8 0, .int .u8 0, .int .u8 0, .int .u8 0, .int .u8 0, .int .u8 0, .int .u8 0, .int .u8 0, .int .u8 0, .int .u8 0, .int .u8 0, .int .u8 0, .int .u8 0, .int .u8 0, .int .u8 0, .int .u8 0] 106 (0, 0)) := by rw [← HW2.out, hR]; exact heap_alloc_new w1 _
    obtain ⟨b, off, hao, hb, hc⟩ := (HA.out _ hF2).lies (by omega)
    obtain ⟨ts, hts⟩ : ∃ ts, ts = ys.take 20 := ⟨_, rfl⟩
    have htl : ts.length = 20 := by rw [hts]; simp; have := HL.out; omega
    have htlow : ∀ x ∈ ts, x < 256 := fun x hx => HLow.out x (List.mem_of_mem_take (by rw [← hts]; exact hx))
    have hcp := run_copy_row (P := Tryz.prog) w2 76 76 3 5 R 0 20 20 ⟨b, off, none⟩ L cap #[.int .u8 0, .int .u8 0, .int .u8 0, .int .u8 0, .int .u8 0, .int .u8 0, .int .u8 0, .int .u8 0, .int .u8 0, .int .u8 0, .int .u8 0, .int .u8 0, .int .u8 0, .int .u8 0, .int .u8 0, .int .u8 0, .int .u8 0, .int .u8 0, .int .u8 0, .int .u8 0] 106 (bts ts) Tryz.undBs Tryz.sizeB hR2 (by rw [bts_length, htl]; show 20 = min L 20; omega) (by
      intro j u hj
      have hj' : j < ts.length := by have := (List.getElem?_eq_some_iff.1 hj).1; rwa [bts_length] at this
      rw [bts_get ts j hj'] at hj
      rw [show (⟨b, off, none⟩ : Addr).add j = ⟨b, off + j, none⟩ from by simp [Addr.add], hc j (by omega)]
      rw [← hj, hts]
      simp [List.getD, show j < 20 by omega]) (by rw [bts_length, htl]; decide) (bts_oneCell ts)
    have hbl : (bts ts).length = 20 := by rw [bts_length, htl]
    rw [hbl] at hcp
    subst hao
    obtain ⟨CA, HCA⟩ : ∃ CA : Array Value, Hid (CA = (bts ts).toArray) := ⟨_, rfl⟩
    obtain ⟨w3, HW3⟩ : ∃ w3, Hid (w2.setRow R CA = w3) := ⟨_, rfl⟩
    have hA3 : Ha w3 R ts := ⟨by rw [← HW3.out, HCA.out]; exact setRow_heap w2 R _ _ 106 _ hR2, htl, htlow⟩
    have hF3 : Fr [] w1 w3 := hF2.on (by rw [← HW3.out]; exact Fr.setRow w2 R _) (fun j hj => by simp at hj; omega)
    rw [show (Array.toList #[.int .u8 0, .int .u8 0, .int .u8 0, .int .u8 0, .int .u8 0, .int .u8 0, .int .u8 0, .int .u8 0, .int .u8 0, .int .u8 0, .int .u8 0, .int .u8 0, .int .u8 0, .int .u8 0, .int .u8 0, .int .u8 0, .int .u8 0, .int .u8 0, .int .u8 0, .int .u8 0]).take 0 ++ bts ts ++ (Array.toList #[.int .u8 0, .int .u8 0, .int .u8 0, .int .u8 0, .int .u8 0, .int .u8 0, .int .u8 0, .int .u8 0, .int .u8 0, .int .u8 0, .int .u8 0, .int .u8 0, .int .u8 0, .int .u8 0, .int .u8 0, .int .u8 0, .int .u8 0, .int .u8 0, .int .u8 0, .int .u8 0]).drop (0 + 20) = bts ts from by simp] at hcp
    have hcp2 : (Builtin.copy_ #[76, 76] 3 #[.slice (some ⟨R, 0, none⟩) 20 20, .slice (some ⟨b, off, none⟩) L cap]).run Tryz.prog w2 = .ok (.int .i64 20) w3 := by rw [hcp, ← HW3.out, HCA.out]; rfl
    have HTk : Hid (ys.take 20 = ts) := hts.symm
    have HF3 : Hid (Fr [] w1 w3) := hF3
    have HRow : Hid (∀ W, Fr [] w3 W → W.heap[R]? = some (.cells CA 106 (0, 0))) := fun W hf => by rw [HCA.out]; exact (hA3.keep hf (by simp)).box
    have HTL : Hid (ts.length = 20) := htl
    have HlowT : Hid (∀ x ∈ ts, x < 256) := htlow
    have hi20 : (Tryz.prog.info? 106).map (·.size) = some CA.size := by rw [HCA.out, List.size_toArray, bts_length, htl]; exact Tryz.infoHead
    clear hcp hA3 hF3 hF2 hR2 hb hc hts htl htlow hbl
    go_enter Tryz.func71, Tryz.ntmps71
    go_upto_region 1 with fail
    rw [HW1.out, ← hAe]
    go_upto_region 4 with fail
    rw [HW2.out, ← hR]
    clear HW1 HW2 hAe hR
    go_wp2_with fail
    as_aux_lemma =>
      have HXw3 : Hid (Fr [] w3 w3) := Fr.refl _ _
      obtain ⟨G, HG⟩ : ∃ G, Hid (G = leN ((ts.drop 4).take 8)) := ⟨_, rfl⟩
      have hGen : ∀ y : Wd13 w3, Calls Tryz.prog 89 #[.agg CA] y.W fun e w' => e = .returned (.int .u64 (G : Int)) ∧ Fr [] y.W w' := fun y => by
        have h9 := gen_any ts y.W HTL.out HlowT.out
        rw [← HG.out, ← HCA.out] at h9
        exact h9
      obtain ⟨so, HSo⟩ : ∃ so, Hid (so = fromB (some ⟨b, off, none⟩) cap 20) := ⟨_, rfl⟩
      have hsl : ∀ W : World, (Instr.sliceAt 76 (.slice (some ⟨b, off, none⟩) L cap) (some (.int .i64 20)) none none).run Tryz.prog W = .ok (.slice so (L - 20) (cap - 20)) W := fun W => by rw [HSo.out]; exact slB_l (some ⟨b, off, none⟩) L cap 20 (by omega) W
      clear a0 a1 a2 b0 b1 b2
      refine wp_region_wd13 (w1 := w3) (by kernel_rfl) (by kernel_rfl) (Fr.refl _ _) ?_
      go_big_quiet_want
      refine quiet_load_row 106 _ rfl R rfl 106 CA (0, 0) _ (fun W hW => (by obtain ⟨x, rfl⟩ := hW; exact HRow.out _ (HXw3.out.then x.h))) Tryz.underlying106 rfl hi20 ?_
      simp only [Act.put, List.setIfInBounds_toArray, List.set_cons_succ, List.set_cons_zero]
      go_big_quiet_on
      repeat (go_big_quiet_step (first
        | (go_at_call 89; with_reducible refine (hGen _).mono ?_; exact fun e w3 hh => ⟨hh.1, ⟨_, Fr.then (Wd13.h _) hh.2⟩, rfl⟩)))
      refine wpQuiet_nil ?_
      rintro _ ⟨y, rfl⟩
      clear hGen hsl
      obtain ⟨w4, hF4⟩ := y
      simp only
      have HXw4 : Hid (Fr [] w3 w4) := hF4
      have HF14 : Hid (Fr [] w1 w4) := HF3.out.then hF4
      have HSa : Hid (∀ W, Fr [] w1 W → BArg W so (L - 20) (cap - 20) (ys.drop 20)) := fun W hf => by rw [HSo.out]; exact (HA.out W hf).tail 20 (by omega)
      have HGe : Hid (leN ((ys.drop 4).take 8) = G) := by
        have e : (ys.drop 4).take 8 = ((ys.take 20).drop 4).take 8 := by rw [List.drop_take, List.take_take]; rfl
        show _ = _
        rw [e, HTk.out, HG.out]
      have hG64 : G < 2^64 := by
        have h9 := leN_lt ((ys.drop 4).take 8) (fun x hx => HLow.out x (List.mem_of_mem_drop (List.mem_of_mem_take hx)))
        have h8 : ((ys.drop 4).take 8).length ≤ 8 := by simp; omega
        rw [HGe.out] at h9
        exact Nat.lt_of_lt_of_le h9 (Nat.le_trans (Nat.pow_le_pow_right (by omega) h8) (by decide))
      clear hF4
      as_aux_lemma =>
        by_cases hr : G < 1 ∨ 4611686018427387904 < G
        · as_aux_lemma =>
            have HW : Hid (Wh ys false 0 0 [] []) := Wh.range (by rw [HGe.out]; exact hr)
            rcases hr with hr | hr
            · have hr1 : (G : Int) < 1 := by omega
              obtain ⟨n1, n2⟩ := HNo.out w4 HF14.out HW.out
              have N1 : Hid ((loadVar _ _).run _ _ = _) := n1
              have N2 : Hid (ReP ys w _ _) := n2
              have a0 := (HS1.out _ (HF14.out)).c0
              have a1 := (HS1.out _ (HF14.out)).c1
              have a2 := (HS1.out _ (HF14.out)).c2
              have b0 := (HS1.out _ (HF14.out)).fz 0
              have b1 := (HS1.out _ (HF14.out)).fz 1
              have b2 := (HS1.out _ (HF14.out)).fz 2
              clear n1 n2
              go_wp2
              refine bodyPost_ret (v := .tuple #[.agg #[.int .i64 0, .slice none 0 0, .slice none 0 0], .int .i64 0, .bool false]) (by rw [results_ctt19 rfl _ _ _ A _ rfl N1.out]; rfl) rfl ?_
              exact N2.out
            · as_aux_lemma =>
                have hr1 : ¬ (G : Int) < 1 := by omega
                have hr2 : (4611686018427387904 : Int) < (G : Int) := by omega
                obtain ⟨n1, n2⟩ := HNo.out w4 HF14.out HW.out
                have N1 : Hid ((loadVar _ _).run _ _ = _) := n1
                have N2 : Hid (ReP ys w _ _) := n2
                have a0 := (HS1.out _ (HF14.out)).c0
                have a1 := (HS1.out _ (HF14.out)).c1
                have a2 := (HS1.out _ (HF14.out)).c2
                have b0 := (HS1.out _ (HF14.out)).fz 0
                have b1 := (HS1.out _ (HF14.out)).fz 1
                have b2 := (HS1.out _ (HF14.out)).fz 2
                clear n1 n2
                go_wp2
                refine bodyPost_ret (v := .tuple #[.agg #[.int .i64 0, .slice none 0 0, .slice none 0 0], .int .i64 0, .bool false]) (by rw [results_ctt19 rfl _ _ _ A _ rfl N1.out]; rfl) rfl ?_
                exact N2.out
        · have hr1 : ¬ (G : Int) < 1 := by omega
          have hr2 : ¬ (4611686018427387904 : Int) < (G : Int) := by omega
          obtain ⟨HV, HHV⟩ : ∃ HV : Array Value, Hid (HV = (bts (hdB G (ys.drop 20))).toArray) := ⟨_, rfl⟩
          obtain ⟨B, HB⟩ : ∃ B, Hid (B = decide (ts = hdB G (ys.drop 20))) := ⟨_, rfl⟩
          have hHd : ∀ y : Wd13 w4, Calls Tryz.prog 52 #[.int .u64 (G : Int), .slice so (L - 20) (cap - 20)] y.W fun e w' => e = .returned (.agg HV) ∧ Fr [] y.W w' := fun y => by
            have h9 := headOf_any G so (L - 20) (cap - 20) (ys.drop 20) y.W (HSa.out _ (HF14.out.then y.h)) hG64
            rw [← HHV.out] at h9
            exact h9
          have heq : ∀ W : World, (Op.equalIn 10000 106 (.agg CA) (.agg HV)).run Tryz.prog W = .ok B W := fun W => by
            have h9 := eq_heads ts (hdB G (ys.drop 20)) HlowT.out (hdB_lt _ _) HTL.out (hdB_length _ _) W
            rw [HCA.out, HHV.out, HB.out]
            exact h9
          have hgd := Tryz.guardHead
          go_upto_region 8 with fail
          refine wp_region_wd13 (w1 := w4) (by kernel_rfl) (by kernel_rfl) (Fr.refl _ _) ?_
          go_big_quiet_want
          refine quiet_load_row 106 _ rfl R rfl 106 CA (0, 0) _ (fun W hW => (by obtain ⟨x, rfl⟩ := hW; exact HRow.out _ (HXw4.out.then x.h))) Tryz.underlying106 rfl hi20 ?_
          simp only [Act.put, List.setIfInBounds_toArray, List.set_cons_succ, List.set_cons_zero]
          go_big_quiet_on
          repeat (go_big_quiet_step (first
            | (go_at_call 52; with_reducible refine (hHd _).mono ?_; exact fun e w3 hh => ⟨hh.1, ⟨_, Fr.then (Wd13.h _) hh.2⟩, rfl⟩)))
          refine wpQuiet_nil ?_
          rintro _ ⟨y, rfl⟩
          clear hHd heq hgd
          obtain ⟨w5, hF5⟩ := y
          simp only
          have HF15 : Hid (Fr [] w1 w5) := HF14.out.then hF5
          clear hF5
          as_aux_lemma =>
            cases B with
            | false =>
              have HW : Hid (Wh ys false 0 0 [] []) := Wh.head (by
                rw [HGe.out, HTk.out]
                have := HB.out
                simpa using this.symm)
              obtain ⟨n1, n2⟩ := HNo.out w5 HF15.out HW.out
              have N1 : Hid ((loadVar _ _).run _ _ = _) := n1
              have N2 : Hid (ReP ys w _ _) := n2
              have a0 := (HS1.out _ (HF15.out)).c0
              have a1 := (HS1.out _ (HF15.out)).c1
              have a2 := (HS1.out _ (HF15.out)).c2
              have b0 := (HS1.out _ (HF15.out)).fz 0
              have b1 := (HS1.out _ (HF15.out)).fz 1
              have b2 := (HS1.out _ (HF15.out)).fz 2
              clear n1 n2
              go_wp2
              refine bodyPost_ret (v := .tuple #[.agg #[.int .i64 0, .slice none 0 0, .slice none 0 0], .int .i64 0, .bool false]) (by rw [results_ctt19 rfl _ _ _ A _ rfl N1.out]; rfl) rfl ?_
              exact N2.out
            | true =>
              have HGd : Hid (Good ys G (ys.drop 20)) := Good.of (by
                rw [HTk.out]
                have := HB.out
                simpa using this.symm) (by omega) (by omega)
              have HD : Hid (Calls _ _ _ _ _) := ddecode_any so (L - 20) (cap - 20) (ys.drop 20) w5 (HSa.out _ HF15.out) (HSa.out _ HF15.out).len (by have := HLen.out; simp; omega)
              go_wp2_with fail
              refine Calls.mono HD.out ?_
              intro e w6 hp
              obtain ⟨c, m, bo, Lb, cb, ho, Lh, ch, bs, hs, rfl, hans, hLb, hLh, hlim, hio, hho, hF6⟩ := hp.one (fun x hx => HLow.out x (List.mem_of_mem_drop hx))
              have HAns : Hid (AnsD (ys.drop 20) c m bs (hs.map Hd.kv)) := hans
              obtain ⟨w7, HW7⟩ : ∃ w7, Hid (w6.alloc (.cells #[.int .i64 m, .slice bo Lb cb, .slice ho Lh ch] 27) = w7) := ⟨_, rfl⟩
              have hF7 : Fr [] w6 w7 := by rw [← HW7.out]; exact Fr.alloc [] w6 _
              have hs7 : SB w7 w6.heap.size (.int .i64 m) (.slice bo Lb cb) (.slice ho Lh ch) := ⟨by rw [← HW7.out]; exact heap_alloc_new w6 _⟩
              have HF17 : Hid (Fr [] w1 w7) := HF15.out.then (hF6.then hF7)
              have HOut7 : Hid (Lb ≤ 65536 ∧ Lh ≤ 65536 ∧ (∀ p ∈ hs.map Hd.kv, limK p) ∧ IOw w5.heap.size w7 bo Lb cb bs ∧ HOut w5 w7 ho Lh ch hs) := ⟨hLb, hLh, hlim, hio.keepS hF7 (by simp), hho.keep hF7⟩
              have j0 := hs7.c0
              have j1 := hs7.c1
              have j2 := hs7.c2
              obtain ⟨Q, hQ⟩ : ∃ Q, Q = w6.heap.size := ⟨_, rfl⟩
              clear HD hp hans hLb hLh hlim hio hho hF6 hF7 hs7
              by_cases hc : c = 0
              · subst hc
                have HR : Hid (ReP ys w (.returned (.tuple #[.agg #[.int .i64 m, .slice bo Lb cb, .slice ho Lh ch], .int .i64 (G : Int), .bool true])) (((w7.setCell ⟨A, 0, none⟩ (.int .i64 m)).setCell ⟨A, 1, none⟩ (.slice bo Lb cb)).setCell ⟨A, 2, none⟩ (.slice ho Lh ch))) := by
                  obtain ⟨p1, p2, p3, p4, p5⟩ := HOut7.out
                  have q0 := HS1.out w7 HF17.out
                  obtain ⟨q1, q2⟩ := q0.fr0 (.int .i64 m) (.slice bo Lb cb) (.slice ho Lh ch)
                  have hz : w.heap.size ≤ w5.heap.size := (HF1.out.1.then HF15.out).size
                  refine ⟨true, G, m, bo, Lb, cb, ho, Lh, ch, bs, hs, rfl, Wh.ok HGd.out HAns.out, p1, p2, p3, ?_, ?_, (HF1.out.1.then HF17.out).on q2 (fun j hj => by have := HF1.out.2; simp at hj; omega)⟩
                  · have h8 := p4.offS q0 q2
                    exact ⟨h8.len, own_base h8.row hz⟩
                  · have h8 := p5.offS q0 q2
                    exact ⟨h8.len, own_base h8.row hz, fun x hx => (h8.each x hx).later hz, h8.apart⟩
                have HLd : Hid ((loadVar 27 ⟨A, 0, none⟩).run Tryz.prog (((w7.setCell ⟨A, 0, none⟩ (.int .i64 m)).setCell ⟨A, 1, none⟩ (.slice bo Lb cb)).setCell ⟨A, 2, none⟩ (.slice ho Lh ch)) = .ok (.agg #[.int .i64 m, .slice bo Lb cb, .slice ho Lh ch]) (((w7.setCell ⟨A, 0, none⟩ (.int .i64 m)).setCell ⟨A, 1, none⟩ (.slice bo Lb cb)).setCell ⟨A, 2, none⟩ (.slice ho Lh ch))) := load_sv ((HS1.out w7 HF17.out).fr0 (.int .i64 m) (.slice bo Lb cb) (.slice ho Lh ch)).1.box
                have a0 := (HS1.out _ HF17.out).c0
                have a1 := (HS1.out _ HF17.out).c1
                have a2 := (HS1.out _ HF17.out).c2
                have b0 := (HS1.out _ HF17.out).fz 0
                have b1 := (HS1.out _ HF17.out).fz 1
                have b2 := (HS1.out _ HF17.out).fz 2
                have hwi : IntKind.i64.wrap (G : Int) = (G : Int) := by rw [IntKind.wrap_i64]; omega
                go_upto_region 11 with fail
                rw [HW7.out]
                rw [← hQ] at j0 j1 j2 ⊢
                clear HW7 hQ
                go_wp2
                refine bodyPost_ret (v := .tuple #[.agg #[.int .i64 m, .slice bo Lb cb, .slice ho Lh ch], .int .i64 (G : Int), .bool true]) (by rw [results_ctt19 rfl _ _ _ A _ rfl HLd.out]; rfl) rfl ?_
                exact HR.out
              · have HW : Hid (Wh ys false 0 0 [] []) := Wh.bad HGd.out HAns.out hc
                have hc1 : ((c : Int) != 0) = true := by simp; omega
                go_upto_region 11 with fail
                rw [HW7.out]
                clear HW7 hQ
                obtain ⟨n1, n2⟩ := HNo.out w7 HF17.out HW.out
                have N1 : Hid ((loadVar _ _).run _ _ = _) := n1
                have N2 : Hid (ReP ys w _ _) := n2
                have a0 := (HS1.out _ (HF17.out)).c0
                have a1 := (HS1.out _ (HF17.out)).c1
                have a2 := (HS1.out _ (HF17.out)).c2
                have b0 := (HS1.out _ (HF17.out)).fz 0
                have b1 := (HS1.out _ (HF17.out)).fz 1
                have b2 := (HS1.out _ (HF17.out)).fz 2
                clear n1 n2
                go_wp2
                refine bodyPost_ret (v := .tuple #[.agg #[.int .i64 0, .slice none 0 0, .slice none 0 0], .int .i64 0, .bool false]) (by rw [results_ctt19 rfl _ _ _ A _ rfl N1.out]; rfl) rfl ?_
                exact N2.out
end Go.Proofs.YtdojhkgnnbdfkaaGreat
