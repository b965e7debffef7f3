/- What the reference's 'one' answers: the next write. Conditions: where its bytes lie, fewer than 2^41. -/
import Derived.Test.YtaefninikmaiiaaGreatDoorRef2
import Derived.Deep.CutRange
import Derived.Deep.RegionHeld3
import Derived.Deep.LoopGhost
namespace Go.Proofs.YtaefninikmaiiaaGreatDoor
open Go.ChangeShapes Go.WideShapes Go.ChangeAt Go.RowKit Go.Lib
set_option linter.unusedVariables false

theorem results_cct {fn : Func} {p q u : Tmp} {t1 t2 : TypeId} (h : fn.results = #[.cell p t1, .cell q t2, .tmp u]) (tmps : Array Value) (P : Program) (w : World) :
    (results fn tmps).run P w = ((asAddr (tmps.getD p undef)).run P w).andThen fun a w1 => ((loadVar t1 a).run P w1).andThen fun v w2 => ((asAddr (tmps.getD q undef)).run P w2).andThen fun b w3 => ((loadVar t2 b).run P w3).andThen fun x w4 => .ok (.tuple #[v, x, tmps.getD u undef]) w4 := by
  simp only [results, h]
  simp [Sem.run_bind, Result.andThen]
theorem Bx.set {w : World} {b : Nat} {g : Bool} {s : Value} {p c : Int} (h : Bx w b g s p c) (g' : Bool) (s' : Value) (p' c' : Int) :
    Bx ((((w.setCell ⟨b, 0, none⟩ (.bool g')).setCell ⟨b, 1, none⟩ s').setCell ⟨b, 2, none⟩ (.int .i64 p')).setCell ⟨b, 3, none⟩ (.int .i64 c')) b g' s' p' c' := by
  refine ⟨?_⟩
  rw [row_put _ (row_put _ (row_put _ (row_put _ h.box)))]
  rfl
/-- What 'one' holds: the reader, and the boxes of its answers. -/
structure O3 (w W : World) (b : Nat) (s : Value) (p c : Int) : Prop where
  r : Bx W b false s p c
  z : Bx W (b + 1) false (.slice none 0 0) 0 0
  x : B3 W (b + 1 + 1) (.string ⟨#[]⟩) (.string ⟨#[]⟩) (.bool false)
  fr : Fr [] w W
  lo : w.heap.size ≤ b
theorem O3.keep {w W W' : World} {b : Nat} {s : Value} {p c : Int} (h : O3 w W b s p c) (hf : Fr [] W W') : O3 w W' b s p c :=
  ⟨h.r.keep hf (by simp), h.z.keep hf (by simp), h.x.keep hf (by simp), h.fr.then hf, h.lo⟩
theorem O3.set {w W : World} {b : Nat} {s : Value} {p c : Int} (h : O3 w W b s p c) (s' : Value) (p' c' : Int) :
    O3 w ((((W.setCell ⟨b, 0, none⟩ (.bool false)).setCell ⟨b, 1, none⟩ s').setCell ⟨b, 2, none⟩ (.int .i64 p')).setCell ⟨b, 3, none⟩ (.int .i64 c')) b s' p' c' := by
  have hf := Fr.sets4 W b (.bool false) s' (.int .i64 p') (.int .i64 c')
  exact ⟨h.r.set false s' p' c', h.z.keep hf (by simp), h.x.keep hf (by simp; omega), h.fr.on hf (by intro x hx; simp at hx; have := h.lo; omega), h.lo⟩
theorem O3.end_ {w W : World} {b : Nat} {s : Value} {p c : Int} (h : O3 w W b s p c) (a0 a1 a2 a3 u v x : Value) :
    Fr [] w ((((((((W.setCell ⟨b + 1, 0, none⟩ a0).setCell ⟨b + 1, 1, none⟩ a1).setCell ⟨b + 1, 2, none⟩ a2).setCell ⟨b + 1, 3, none⟩ a3).setCell ⟨b + 1 + 1, 0, none⟩ u).setCell ⟨b + 1 + 1, 1, none⟩ v).setCell ⟨b + 1 + 1, 2, none⟩ x)) := by
  have h1 := Fr.sets4 W (b + 1) a0 a1 a2 a3
  have h2 := Fr.at3 ((((W.setCell ⟨b + 1, 0, none⟩ a0).setCell ⟨b + 1, 1, none⟩ a1).setCell ⟨b + 1, 2, none⟩ a2).setCell ⟨b + 1, 3, none⟩ a3) (b + 1 + 1) 0 1 2 u v x
  have hl := h.lo
  exact (h.fr.on h1 (by intro x hx; simp at hx; omega)).on h2 (by intro x hx; simp at hx; omega)
theorem drop_step (xs : List Nat) (p k : Nat) : (xs.drop p).drop k = xs.drop (p + k) := by rw [List.drop_drop]
/-- The reader's struct as a value. -/
def rdV (ao : Option Addr) (L cap : Nat) (p c : Int) : Value := .agg #[.bool false, .slice ao L cap, .int .i64 p, .int .i64 c]


theorem decW_e1 {ys : List Nat} {key : ByteArray} {k e : Nat} (h : textF 64 ys = (key, k, e)) (he : e ≠ 0) : decW ys = .error e := by
  unfold decW; rw [tk_err h he]
theorem decW_e2 {ys : List Nat} {key : ByteArray} {k : Nat} (h : textF 64 ys = (key, k, 0)) (hk : key.size = 0) : decW ys = .error 1 := by
  unfold decW; simp [tk, h, refK, hk]
theorem decW_s {ys : List Nat} {key : ByteArray} {k : Nat} (h : textF 64 ys = (key, k, 0)) (hk : ¬ key.size = 0) : decW ys = decD key (ys.drop k) := by
  unfold decW; rw [tk_ok h (by simp [refK, hk])]
theorem decD_e3 {key : ByteArray} {ys : List Nat} {d k e : Nat} (h : fixF 1 ys = (d, k, e)) (he : e ≠ 0) : decD key ys = .error e := by
  unfold decD; rw [tk_err h he]
theorem decD_e4 {key : ByteArray} {ys : List Nat} {d k : Nat} (h : fixF 1 ys = (d, k, 0)) (hd : 1 < d) : decD key ys = .error 4 := by
  unfold decD; simp [tk, h, refD, show ¬ (d = 0 ∨ d = 1) by omega]
theorem decD_1 {key : ByteArray} {ys : List Nat} {k : Nat} (h : fixF 1 ys = (1, k, 0)) : decD key ys = .ok (⟨key, noS, true⟩, ys.drop k) := by
  unfold decD; rw [tk_ok h (by simp [refD])]; simp
theorem decD_0 {key : ByteArray} {ys : List Nat} {k : Nat} (h : fixF 1 ys = (0, k, 0)) : decD key ys = decV key (ys.drop k) := by
  unfold decD; rw [tk_ok h (by simp [refD])]; simp
theorem decV_e {key v : ByteArray} {ys : List Nat} {k e : Nat} (h : textF 1024 ys = (v, k, e)) (he : e ≠ 0) : decV key ys = .error e := by
  unfold decV; rw [tk_err h he]
theorem decV_ok {key v : ByteArray} {ys : List Nat} {k : Nat} (h : textF 1024 ys = (v, k, 0)) : decV key ys = .ok (⟨key, v, false⟩, ys.drop k) := by
  unfold decV; rw [tk_ok h rfl]
/-- What 'one' answers of the bytes ahead. -/
def OneAns (ao : Option Addr) (L cap : Nat) (xs ys : List Nat) (e : Ending) : Prop :=
  match decW ys with
  | .error c => ∃ (p' c' : Int) (k v : ByteArray) (d : Bool), e = .returned (.tuple #[.agg #[.bool false, .slice ao L cap, .int .i64 p', .int .i64 c'], .agg #[.string k, .string v, .bool d], .int .i64 (c : Int)])
  | .ok (x, zs) => ∃ p' : Nat, p' ≤ L ∧ zs = xs.drop p' ∧ e = .returned (.tuple #[.agg #[.bool false, .slice ao L cap, .int .i64 (p' : Int), .int .i64 0], .agg #[.string x.key, .string x.val, .bool x.drop], .int .i64 0])
theorem OneAns.err {ao : Option Addr} {L cap c : Nat} {xs ys : List Nat} {p' c' : Int} {k v : ByteArray} {d : Bool} (h : decW ys = .error c) : OneAns ao L cap xs ys (.returned (.tuple #[.agg #[.bool false, .slice ao L cap, .int .i64 p', .int .i64 c'], .agg #[.string k, .string v, .bool d], .int .i64 (c : Int)])) := by
  unfold OneAns; rw [h]; exact ⟨_, _, _, _, _, rfl⟩
theorem OneAns.ok {ao : Option Addr} {L cap p' : Nat} {xs ys zs : List Nat} {k v : ByteArray} {d : Bool} (h : decW ys = .ok (⟨k, v, d⟩, zs)) (hp : p' ≤ L) (hz : zs = xs.drop p') : OneAns ao L cap xs ys (.returned (.tuple #[.agg #[.bool false, .slice ao L cap, .int .i64 (p' : Int), .int .i64 0], .agg #[.string k, .string v, .bool d], .int .i64 0])) := by
  unfold OneAns; rw [h]; exact ⟨_, hp, hz, rfl⟩

set_option maxHeartbeats 8000000 in
set_option maxRecDepth 100000 in
theorem xOne_any (ao : Option Addr) (L cap p : Nat) (xs : List Nat) (w : World) (h : Rs w ao xs) (hb : ∀ x ∈ xs, x < 256) (hL : L = xs.length) (hcap : L ≤ cap) (hp : p ≤ L) :
    Calls Tryz.prog 144 #[.agg #[.bool false, .slice ao L cap, .int .i64 (p : Int), .int .i64 0]] w fun e w' => OneAns ao L cap xs (xs.drop p) e ∧ Fr [] w w' := by
  have hLl := h.len
  rw [← hL] at hLl
  have HL : Hid (L = xs.length) := hL
  have hlow : Hid (∀ x ∈ xs.drop p, x < 256) := fun x hx => hb x (List.mem_of_mem_drop hx)
  clear hL
  obtain ⟨w0, HW0⟩ : ∃ w0, Hid (((w.alloc (.cells #[.bool false, .slice ao L cap, .int .i64 (p : Int), .int .i64 0] 102)).alloc (.cells #[.bool false, .slice none 0 0, .int .i64 0, .int .i64 0] 102)).alloc (.cells #[.string ⟨#[]⟩, .string ⟨#[]⟩, .bool false] 124) = w0) := ⟨_, rfl⟩
  have hO0 : O3 w w0 w.heap.size (.slice ao L cap) (p : Int) 0 := by
    refine ⟨⟨?_⟩, ⟨?_⟩, ⟨?_⟩, ?_, Nat.le_refl _⟩
    · rw [← HW0.out]; exact ((Fr.alloc [] _ _).then (Fr.alloc [] _ _)).keep (heap_alloc_new w _) (by simp)
    · rw [← HW0.out]
      have := (Fr.alloc [] _ (.cells #[.string ⟨#[]⟩, .string ⟨#[]⟩, .bool false] 124)).keep (heap_alloc_new (w.alloc (.cells #[.bool false, .slice ao L cap, .int .i64 (p : Int), .int .i64 0] 102)) (.cells #[.bool false, .slice none 0 0, .int .i64 0, .int .i64 0] 102)) (by simp)
      simpa using this
    · rw [← HW0.out]
      have := heap_alloc_new ((w.alloc (.cells #[.bool false, .slice ao L cap, .int .i64 (p : Int), .int .i64 0] 102)).alloc (.cells #[.bool false, .slice none 0 0, .int .i64 0, .int .i64 0] 102)) (.cells #[.string ⟨#[]⟩, .string ⟨#[]⟩, .bool false] 124)
      simpa using this
    · rw [← HW0.out]; exact ((Fr.alloc [] w _).then (Fr.alloc [] _ _)).then (Fr.alloc [] _ _)
  have hR0 : Rs w0 ao xs := h.fr hO0.fr
  have hT := xText_live ao L cap p xs 64 (by decide) (by decide) hcap w0 hR0 hb HL.out hp
  obtain ⟨⟨key, k1, e1⟩, hf1⟩ : ∃ r, textF 64 (xs.drop p) = r := ⟨_, rfl⟩
  have HF1 : Hid (textF 64 (xs.drop p) = (key, k1, e1)) := hf1
  rw [hf1] at hT
  simp only at hT
  obtain ⟨sp, hsp⟩ : ∃ sp, stepAt (k1, e1) p = sp := ⟨_, rfl⟩
  rw [hsp] at hT
  have HSP : Hid (stepAt (k1, e1) p = sp) := hsp
  have hpos1 : e1 = 0 → 0 < k1 ∧ p + k1 ≤ L := by
    intro he
    have := text_pos 64 (xs.drop p) (by rw [show ((64 : Nat) : Int) = 64 from rfl, hf1]; exact he)
    rw [show ((64 : Nat) : Int) = 64 from rfl, hf1, List.length_drop, ← HL.out] at this
    simp only at this
    omega
  clear hf1 hsp
  go_enter Tryz.func144, Tryz.ntmps144
  go_wp2_with fail
  rw [HW0.out]
  refine hT.mono ?_
  rintro e w1 ⟨rfl, hFa⟩
  have hO1 := hO0.keep hFa
  by_cases he1 : e1 = 0
  · subst he1
    have hk1 := hpos1 rfl
    have HSPE : Hid (sp = p + k1) := by show _ = _; rw [← HSP.out]; simp [stepAt]
    have hspl : sp ≤ L := by have := HSPE.out; omega
    have hO2 := hO1.set (.slice ao L cap) (sp : Int) 0
    obtain ⟨w2, HW2⟩ : ∃ w2, Hid (((((w1.setCell ⟨w.heap.size, 0, none⟩ (.bool false)).setCell ⟨w.heap.size, 1, none⟩ (.slice ao L cap)).setCell ⟨w.heap.size, 2, none⟩ (.int .i64 (sp : Int))).setCell ⟨w.heap.size, 3, none⟩ (.int .i64 0)) = w2) := ⟨_, rfl⟩
    rw [HW2.out] at hO2
    have r0 := hO1.r.c0
    have r1 := hO1.r.c1
    have r2 := hO1.r.c2
    have r3 := hO1.r.c3
    have s0 := hO1.r.f 0
    have s1 := hO1.r.f 1
    have s2 := hO1.r.f 2
    have s3 := hO1.r.f 3
    by_cases hks : key.size = 0
    · have hkb : ((key.size : Int) == 0) = true := by rw [hks]; rfl
      have HA : Hid (decW (xs.drop p) = .error 1) := decW_e2 HF1.out hks
      clear hks
      go_upto_region 5 with fail
      clear r0 r1 r2 r3 s0 s1 s2 s3
      rw [HW2.out]
      have r0 := hO2.r.c0
      have r1 := hO2.r.c1
      have r2 := hO2.r.c2
      have r3 := hO2.r.c3
      have s0 := hO2.r.f 0
      have s1 := hO2.r.f 1
      have s2 := hO2.r.f 2
      have s3 := hO2.r.f 3
      have z0 := hO2.z.c0
      have z1 := hO2.z.c1
      have z2 := hO2.z.c2
      have z3 := hO2.z.c3
      have f0 := hO2.z.f 0
      have f1 := hO2.z.f 1
      have f2 := hO2.z.f 2
      have f3 := hO2.z.f 3
      have x0 := hO2.x.c0
      have x1 := hO2.x.c1
      have x2 := hO2.x.c2
      have y0 := hO2.x.f0
      have y1 := hO2.x.f1
      have y2 := hO2.x.f2
      have HE : Hid (Fr [] w _) := hO2.end_ (.bool false) (.slice ao L cap) (.int .i64 (sp : Int)) (.int .i64 0) (.string ⟨#[]⟩) (.string ⟨#[]⟩) (.bool false)
      go_wp2
      refine bodyPost_ret (v := .tuple #[.agg #[.bool false, .slice ao L cap, .int .i64 (sp : Int), .int .i64 0], .agg #[.string ⟨#[]⟩, .string ⟨#[]⟩, .bool false], .int .i64 1]) (by rw [results_cct rfl]; go_simp) rfl ⟨OneAns.err (c := 1) HA.out, HE.out⟩
    · have hkb : ((key.size : Int) == 0) = false := by rw [beq_eq_false_iff_ne]; omega
      have HS : Hid (decW (xs.drop p) = decD key (xs.drop sp)) := by show _ = _; rw [decW_s HF1.out hks, drop_step, ← HSPE.out]
      clear hks
      have hR2 : Rs w2 ao xs := h.fr hO2.fr
      have hT2 := xFixed_live ao L cap sp xs 1 w2 hR2 hb HL.out hspl
      obtain ⟨⟨d, k2, e2⟩, hf2⟩ : ∃ r, fixF 1 (xs.drop sp) = r := ⟨_, rfl⟩
      have HF2 : Hid (fixF 1 (xs.drop sp) = (d, k2, e2)) := hf2
      have hpos2 : e2 = 0 → 0 < k2 ∧ sp + k2 ≤ L := by
        intro he
        have := fix_pos (xs.drop sp) (by rw [hf2]; exact he)
        rw [hf2, List.length_drop, ← HL.out] at this
        simp only at this
        omega
      have hdv : d < 2 ^ 64 := by
        have := fix_val (xs.drop sp) (fun x hx => hb x (List.mem_of_mem_drop hx))
        rw [hf2] at this
        exact this
      rw [hf2] at hT2
      simp only at hT2
      obtain ⟨sq, hsq⟩ : ∃ sq, stepAt (k2, e2) sp = sq := ⟨_, rfl⟩
      rw [hsq] at hT2
      have HSQ : Hid (stepAt (k2, e2) sp = sq) := hsq
      clear hf2 hsq
      go_upto_region 6 with fail
      clear r0 r1 r2 r3 s0 s1 s2 s3
      rw [HW2.out]
      have r0 := hO2.r.c0
      have r1 := hO2.r.c1
      have r2 := hO2.r.c2
      have r3 := hO2.r.c3
      have s0 := hO2.r.f 0
      have s1 := hO2.r.f 1
      have s2 := hO2.r.f 2
      have s3 := hO2.r.f 3
      go_wp2_with fail
      refine hT2.mono ?_
      rintro e w3 ⟨rfl, hFb⟩
      have hO3 := hO2.keep hFb
      clear r0 r1 r2 r3 s0 s1 s2 s3
      have r0 := hO3.r.c0
      have r1 := hO3.r.c1
      have r2 := hO3.r.c2
      have r3 := hO3.r.c3
      have s0 := hO3.r.f 0
      have s1 := hO3.r.f 1
      have s2 := hO3.r.f 2
      have s3 := hO3.r.f 3
      have hO4 := hO3.set (.slice ao L cap) (sq : Int) (e2 : Int)
      by_cases he2 : e2 = 0
      · subst he2
        have hk2 := hpos2 rfl
        have HSQE : Hid (sq = sp + k2) := by show _ = _; rw [← HSQ.out]; simp [stepAt]
        have hsql : sq ≤ L := by have := HSQE.out; omega
        obtain ⟨w4, HW4⟩ : ∃ w4, Hid (((((w3.setCell ⟨w.heap.size, 0, none⟩ (.bool false)).setCell ⟨w.heap.size, 1, none⟩ (.slice ao L cap)).setCell ⟨w.heap.size, 2, none⟩ (.int .i64 (sq : Int))).setCell ⟨w.heap.size, 3, none⟩ (.int .i64 0)) = w4) := ⟨_, rfl⟩
        have hO4' : O3 w w4 w.heap.size (.slice ao L cap) (sq : Int) 0 := by rw [← HW4.out]; exact hO4
        by_cases hd1 : 1 < d
        · have hdb : (1 : Int) < d := by omega
          have HA : Hid (decW (xs.drop p) = .error 4) := by show _ = _; rw [HS.out, decD_e4 HF2.out hd1]
          go_upto_region 10 with fail
          clear r0 r1 r2 r3 s0 s1 s2 s3
          rw [HW4.out]
          have r0 := hO4'.r.c0
          have r1 := hO4'.r.c1
          have r2 := hO4'.r.c2
          have r3 := hO4'.r.c3
          have s0 := hO4'.r.f 0
          have s1 := hO4'.r.f 1
          have s2 := hO4'.r.f 2
          have s3 := hO4'.r.f 3
          have z0 := hO4'.z.c0
          have z1 := hO4'.z.c1
          have z2 := hO4'.z.c2
          have z3 := hO4'.z.c3
          have f0 := hO4'.z.f 0
          have f1 := hO4'.z.f 1
          have f2 := hO4'.z.f 2
          have f3 := hO4'.z.f 3
          have x0 := hO4'.x.c0
          have x1 := hO4'.x.c1
          have x2 := hO4'.x.c2
          have y0 := hO4'.x.f0
          have y1 := hO4'.x.f1
          have y2 := hO4'.x.f2
          have HE : Hid (Fr [] w _) := hO4'.end_ (.bool false) (.slice ao L cap) (.int .i64 (sq : Int)) (.int .i64 0) (.string ⟨#[]⟩) (.string ⟨#[]⟩) (.bool false)
          go_wp2
          refine bodyPost_ret (v := .tuple #[.agg #[.bool false, .slice ao L cap, .int .i64 (sq : Int), .int .i64 0], .agg #[.string ⟨#[]⟩, .string ⟨#[]⟩, .bool false], .int .i64 4]) (by rw [results_cct rfl]; go_simp) rfl ⟨OneAns.err (c := 4) HA.out, HE.out⟩
        · rcases (show d = 0 ∨ d = 1 by omega) with hd0 | hd0
          · subst hd0
            have HS2 : Hid (decW (xs.drop p) = decV key (xs.drop sq)) := by show _ = _; rw [HS.out, decD_0 HF2.out, drop_step, ← HSQE.out]
            have hR4 : Rs w4 ao xs := h.fr hO4'.fr
            have hT4 := xText_live ao L cap sq xs 1024 (by decide) (by decide) hcap w4 hR4 hb HL.out hsql
            obtain ⟨⟨val, k3, e3⟩, hf3⟩ : ∃ r, textF 1024 (xs.drop sq) = r := ⟨_, rfl⟩
            have HF3 : Hid (textF 1024 (xs.drop sq) = (val, k3, e3)) := hf3
            have hpos3 : e3 = 0 → sq + k3 ≤ L := by
              intro he
              have := text_pos 1024 (xs.drop sq) (by rw [show ((1024 : Nat) : Int) = 1024 from rfl, hf3]; exact he)
              rw [show ((1024 : Nat) : Int) = 1024 from rfl, hf3, List.length_drop, ← HL.out] at this
              simp only at this
              omega
            rw [hf3] at hT4
            simp only at hT4
            obtain ⟨sr, hsr⟩ : ∃ sr, stepAt (k3, e3) sq = sr := ⟨_, rfl⟩
            rw [hsr] at hT4
            have HSR : Hid (stepAt (k3, e3) sq = sr) := hsr
            clear hf3 hsr
            go_upto_region 13 with fail
            clear r0 r1 r2 r3 s0 s1 s2 s3
            rw [HW4.out]
            have r0 := hO4'.r.c0
            have r1 := hO4'.r.c1
            have r2 := hO4'.r.c2
            have r3 := hO4'.r.c3
            have s0 := hO4'.r.f 0
            have s1 := hO4'.r.f 1
            have s2 := hO4'.r.f 2
            have s3 := hO4'.r.f 3
            go_wp2_with fail
            refine hT4.mono ?_
            rintro e w5 ⟨rfl, hFc⟩
            have hO5 := hO4'.keep hFc
            clear r0 r1 r2 r3 s0 s1 s2 s3
            have r0 := hO5.r.c0
            have r1 := hO5.r.c1
            have r2 := hO5.r.c2
            have r3 := hO5.r.c3
            have s0 := hO5.r.f 0
            have s1 := hO5.r.f 1
            have s2 := hO5.r.f 2
            have s3 := hO5.r.f 3
            have hO6 := hO5.set (.slice ao L cap) (sr : Int) (e3 : Int)
            obtain ⟨w6, HW6⟩ : ∃ w6, Hid (((((w5.setCell ⟨w.heap.size, 0, none⟩ (.bool false)).setCell ⟨w.heap.size, 1, none⟩ (.slice ao L cap)).setCell ⟨w.heap.size, 2, none⟩ (.int .i64 (sr : Int))).setCell ⟨w.heap.size, 3, none⟩ (.int .i64 (e3 : Int))) = w6) := ⟨_, rfl⟩
            rw [HW6.out] at hO6
            have HA : Hid (OneAns ao L cap xs (xs.drop p) (.returned (.tuple #[.agg #[.bool false, .slice ao L cap, .int .i64 (sr : Int), .int .i64 (e3 : Int)], .agg #[.string key, .string val, .bool false], .int .i64 (e3 : Int)]))) := by
              by_cases he3 : e3 = 0
              · subst he3
                have hsre : sr = sq + k3 := by rw [← HSR.out]; simp [stepAt]
                subst hsre
                refine OneAns.ok ?_ (hpos3 rfl) rfl
                rw [HS2.out, decV_ok HF3.out, drop_step]
              · refine OneAns.err ?_
                rw [HS2.out, decV_e HF3.out he3]
            go_upto_region 14 with fail
            clear r0 r1 r2 r3 s0 s1 s2 s3
            rw [HW6.out]
            have r0 := hO6.r.c0
            have r1 := hO6.r.c1
            have r2 := hO6.r.c2
            have r3 := hO6.r.c3
            have s0 := hO6.r.f 0
            have s1 := hO6.r.f 1
            have s2 := hO6.r.f 2
            have s3 := hO6.r.f 3
            have z0 := hO6.z.c0
            have z1 := hO6.z.c1
            have z2 := hO6.z.c2
            have z3 := hO6.z.c3
            have f0 := hO6.z.f 0
            have f1 := hO6.z.f 1
            have f2 := hO6.z.f 2
            have f3 := hO6.z.f 3
            have x0 := hO6.x.c0
            have x1 := hO6.x.c1
            have x2 := hO6.x.c2
            have y0 := hO6.x.f0
            have y1 := hO6.x.f1
            have y2 := hO6.x.f2
            go_region
            have HE : Hid (Fr [] w _) := hO6.end_ (.bool false) (.slice ao L cap) (.int .i64 (sr : Int)) (.int .i64 (e3 : Int)) (.string key) (.string val) (.bool false)
            go_wp2
            refine bodyPost_ret (v := .tuple #[.agg #[.bool false, .slice ao L cap, .int .i64 (sr : Int), .int .i64 (e3 : Int)], .agg #[.string key, .string val, .bool false], .int .i64 (e3 : Int)]) (by rw [results_cct rfl]; go_simp) rfl ⟨HA.out, HE.out.then (Fr.drew [] _)⟩
          · subst hd0
            have HA : Hid (decW (xs.drop p) = .ok (⟨key, ⟨#[]⟩, true⟩, xs.drop sq)) := by show _ = _; rw [HS.out, decD_1 HF2.out, drop_step, ← HSQE.out]; rfl
            go_upto_region 12 with fail
            clear r0 r1 r2 r3 s0 s1 s2 s3
            rw [HW4.out]
            have r0 := hO4'.r.c0
            have r1 := hO4'.r.c1
            have r2 := hO4'.r.c2
            have r3 := hO4'.r.c3
            have s0 := hO4'.r.f 0
            have s1 := hO4'.r.f 1
            have s2 := hO4'.r.f 2
            have s3 := hO4'.r.f 3
            have z0 := hO4'.z.c0
            have z1 := hO4'.z.c1
            have z2 := hO4'.z.c2
            have z3 := hO4'.z.c3
            have f0 := hO4'.z.f 0
            have f1 := hO4'.z.f 1
            have f2 := hO4'.z.f 2
            have f3 := hO4'.z.f 3
            have x0 := hO4'.x.c0
            have x1 := hO4'.x.c1
            have x2 := hO4'.x.c2
            have y0 := hO4'.x.f0
            have y1 := hO4'.x.f1
            have y2 := hO4'.x.f2
            have HE : Hid (Fr [] w _) := hO4'.end_ (.bool false) (.slice ao L cap) (.int .i64 (sq : Int)) (.int .i64 0) (.string key) (.string ⟨#[]⟩) (.bool true)
            go_wp2
            refine bodyPost_ret (v := .tuple #[.agg #[.bool false, .slice ao L cap, .int .i64 (sq : Int), .int .i64 0], .agg #[.string key, .string ⟨#[]⟩, .bool true], .int .i64 0]) (by rw [results_cct rfl]; go_simp) rfl ⟨OneAns.ok HA.out hsql rfl, HE.out⟩
      · have hcb : ((e2 : Int) != 0) = true := by rw [bne_iff_ne]; omega
        have HA : Hid (decW (xs.drop p) = .error e2) := by show _ = _; rw [HS.out, decD_e3 HF2.out he2]
        obtain ⟨w4, HW4⟩ : ∃ w4, Hid (((((w3.setCell ⟨w.heap.size, 0, none⟩ (.bool false)).setCell ⟨w.heap.size, 1, none⟩ (.slice ao L cap)).setCell ⟨w.heap.size, 2, none⟩ (.int .i64 (sq : Int))).setCell ⟨w.heap.size, 3, none⟩ (.int .i64 (e2 : Int))) = w4) := ⟨_, rfl⟩
        rw [HW4.out] at hO4
        go_upto_region 8 with fail
        clear r0 r1 r2 r3 s0 s1 s2 s3
        rw [HW4.out]
        have r0 := hO4.r.c0
        have r1 := hO4.r.c1
        have r2 := hO4.r.c2
        have r3 := hO4.r.c3
        have s0 := hO4.r.f 0
        have s1 := hO4.r.f 1
        have s2 := hO4.r.f 2
        have s3 := hO4.r.f 3
        have z0 := hO4.z.c0
        have z1 := hO4.z.c1
        have z2 := hO4.z.c2
        have z3 := hO4.z.c3
        have f0 := hO4.z.f 0
        have f1 := hO4.z.f 1
        have f2 := hO4.z.f 2
        have f3 := hO4.z.f 3
        have x0 := hO4.x.c0
        have x1 := hO4.x.c1
        have x2 := hO4.x.c2
        have y0 := hO4.x.f0
        have y1 := hO4.x.f1
        have y2 := hO4.x.f2
        go_region
        have HE : Hid (Fr [] w _) := hO4.end_ (.bool false) (.slice ao L cap) (.int .i64 (sq : Int)) (.int .i64 (e2 : Int)) (.string ⟨#[]⟩) (.string ⟨#[]⟩) (.bool false)
        go_wp2
        refine bodyPost_ret (v := .tuple #[.agg #[.bool false, .slice ao L cap, .int .i64 (sq : Int), .int .i64 (e2 : Int)], .agg #[.string ⟨#[]⟩, .string ⟨#[]⟩, .bool false], .int .i64 (e2 : Int)]) (by rw [results_cct rfl]; go_simp) rfl ⟨OneAns.err HA.out, HE.out.then (Fr.drew [] _)⟩
  · have hcb : ((e1 : Int) != 0) = true := by rw [bne_iff_ne]; omega
    have HA : Hid (decW (xs.drop p) = .error e1) := decW_e1 HF1.out he1
    have hO2 := hO1.set (.slice ao L cap) (sp : Int) (e1 : Int)
    obtain ⟨w2, HW2⟩ : ∃ w2, Hid (((((w1.setCell ⟨w.heap.size, 0, none⟩ (.bool false)).setCell ⟨w.heap.size, 1, none⟩ (.slice ao L cap)).setCell ⟨w.heap.size, 2, none⟩ (.int .i64 (sp : Int))).setCell ⟨w.heap.size, 3, none⟩ (.int .i64 (e1 : Int))) = w2) := ⟨_, rfl⟩
    rw [HW2.out] at hO2
    have r0 := hO1.r.c0
    have r1 := hO1.r.c1
    have r2 := hO1.r.c2
    have r3 := hO1.r.c3
    have s0 := hO1.r.f 0
    have s1 := hO1.r.f 1
    have s2 := hO1.r.f 2
    have s3 := hO1.r.f 3
    go_upto_region 3 with fail
    clear r0 r1 r2 r3 s0 s1 s2 s3
    rw [HW2.out]
    have r0 := hO2.r.c0
    have r1 := hO2.r.c1
    have r2 := hO2.r.c2
    have r3 := hO2.r.c3
    have s0 := hO2.r.f 0
    have s1 := hO2.r.f 1
    have s2 := hO2.r.f 2
    have s3 := hO2.r.f 3
    have z0 := hO2.z.c0
    have z1 := hO2.z.c1
    have z2 := hO2.z.c2
    have z3 := hO2.z.c3
    have f0 := hO2.z.f 0
    have f1 := hO2.z.f 1
    have f2 := hO2.z.f 2
    have f3 := hO2.z.f 3
    have x0 := hO2.x.c0
    have x1 := hO2.x.c1
    have x2 := hO2.x.c2
    have y0 := hO2.x.f0
    have y1 := hO2.x.f1
    have y2 := hO2.x.f2
    go_region
    have HE : Hid (Fr [] w _) := hO2.end_ (.bool false) (.slice ao L cap) (.int .i64 (sp : Int)) (.int .i64 (e1 : Int)) (.string ⟨#[]⟩) (.string ⟨#[]⟩) (.bool false)
    go_wp2
    refine bodyPost_ret (v := .tuple #[.agg #[.bool false, .slice ao L cap, .int .i64 (sp : Int), .int .i64 (e1 : Int)], .agg #[.string ⟨#[]⟩, .string ⟨#[]⟩, .bool false], .int .i64 (e1 : Int)]) (by rw [results_cct rfl]; go_simp) rfl ⟨OneAns.err HA.out, HE.out.then (Fr.drew [] _)⟩
end Go.Proofs.YtaefninikmaiiaaGreatDoor
