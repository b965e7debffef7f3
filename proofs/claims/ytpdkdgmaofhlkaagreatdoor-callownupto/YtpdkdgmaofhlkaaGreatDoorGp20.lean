/- Texts of this claim laid together, one behind the other: contracts and plain lemmas; conditions as each names them. -/
import Derived.Test.YtpdkdgmaofhlkaaGreatDoorGp19
import Derived.SizedLaws
import Derived.ChangeMaps5
/- The statements' own helper lives. No conditions. -/
namespace Go.Proofs.YtpdkdgmaofhlkaaGreatDoor
open Go.ChangeShapes Go.WideShapes Go.ChangeAt Go.RowKit Go.Lib
set_option linter.unusedVariables false
set_option linter.unusedSimpArgs false

/-- The helper's task. -/
def lvT (bg : Bool) (ma : Int) (r : Rv) (ak rp : Nat) (ct : Int) : Tk := ⟨-2, 1, 2, 4, 1, 3, ⟨#[]⟩, ⟨#[]⟩, bg, ma, r, ak, rp, .slice none 0 0, .slice none 0 0, ct⟩
theorem lv_may : Cf.may ⟨1, 2, 4, 1⟩ := by unfold Cf.may; decide
theorem lv_ok : okC 3 (⟨#[]⟩ : ByteArray) (⟨#[]⟩ : ByteArray) := Or.inr (Or.inr ⟨Or.inl rfl, rfl, rfl⟩)
theorem lv_new : newE (-2) 1 2 4 1 3 (⟨#[]⟩ : ByteArray) (⟨#[]⟩ : ByteArray) = 0 := by
  unfold newE
  rw [if_neg (by decide), if_neg (not_not_intro lv_may)]
  exact if_pos lv_ok
theorem lv_bg : mayBg 5 3 [] := ⟨by decide, by decide, by decide, by decide, trivial⟩
theorem lv_neg : (-2 : Int) < 0 := by decide
theorem lv_nR (bg : Bool) (ma : Int) (r : Rv) (ak rp : Nat) (ct : Int) : (lvT bg ma r ak rp ct).nR = 2 := rfl
theorem lv_got {w : World} {t : Nat} {r : Rv} {ak rp : Nat} {ct : Int} (h : TkM w t (lvT true 5 r ak rp ct)) (hlt : rp < ak) (ha : ak ≤ 2) (n : Int) :
    Calls Tryz.prog 7 #[.pointer (some ⟨t, 0, none⟩), .agg #[.int .i64 (-2), .bool false, .slice none 0 0, .slice none 0 0, .int .i64 n]] w fun e w' => e = .returned (.int .i64 0) ∧ TkM w' t (lvT true 5 r ak (rp + 1) (wrap64 (ct + n))) ∧ Fr [t] w w' := by
  refine qGot_ok ⟨-2, false, none, 0, 0, none, 0, 0, n⟩ h lv_neg (by show rp ≠ ak; omega) (by show rp ≤ 16; omega) rfl (fun w' => TkM w' t (lvT true 5 r ak (rp + 1) (wrap64 (ct + n))) ∧ Fr [t] w w') (fun W hW hf => ?_)
  refine (qadd3 ⟨-2, false, none, 0, 0, none, 0, 0, n⟩ hW).mono ?_
  rintro e w' ⟨hv, hT, hf'⟩
  exact ⟨hv, ⟨hT, hf.then hf'⟩, hT.c5, [t], hf', fun x hx => by simp at hx; rw [hx]; exact h.lt⟩
theorem lv_ans {w : World} {t : Nat} {r : Rv} {ct : Int} (h : TkM w t (lvT true 5 r 2 2 ct)) :
    Calls Tryz.prog 11 #[.pointer (some ⟨t, 0, none⟩)] w fun e w' => e = .returned (.tuple #[.agg #[.int .i64 0, .int .i64 5, .bool true, .slice none 0 0, .int .i64 ct], .slice none 0 0, .int .i64 0]) ∧ Fr [] w w' := by
  refine (qAnswer_ok h lv_neg lv_may lv_ok (show (2 : Nat) ≤ 16 by omega) (show (2 : Nat) ≤ 16 by omega) rfl 0 (fun _ v => v = .slice none 0 0) (fun _ v => v = .slice none 0 0) (fun W hW => ?_) (fun W hW => qallH_none (h.keep hW (by simp)) rfl) (fun _ _ _ _ hv _ _ => hv) (fun _ _ _ hv _ => hv)).mono ?_
  · refine (qallE_none (h.keep hW (by simp)) rfl).mono ?_
    rintro e w' ⟨eo, ec, he, ⟨rfl, rfl⟩, hf⟩
    exact ⟨none, 0, he, rfl, hf⟩
  · rintro e w' ⟨eo, ec, v, rfl, he, rfl, hf⟩
    cases he
    exact ⟨rfl, hf⟩
set_option maxHeartbeats 4000000 in
set_option maxRecDepth 100000 in
theorem lives_any (w : World) : Calls Tryz.prog 5 #[] w fun e w' => e = .returned (.bool true) ∧ Fr [] w w' := by
  have HN : Hid (∀ W, Calls Tryz.prog 4 #[.int .i64 (-2), .agg #[.int .i64 1, .int .i64 2, .int .i64 4, .int .i64 1], .agg #[.int .u8 3, .string ⟨#[]⟩, .string ⟨#[]⟩]] W fun e w' => ∃ t, e = .returned (.tuple #[.pointer (some ⟨t, 0, none⟩), .int .i64 0]) ∧ W.heap.size ≤ t ∧ TkM w' t (lvT false 0 Rv.zero 0 0 0) ∧ Fr [] W w') := fun W => qnew_any (-2) 1 2 4 1 3 ⟨#[]⟩ ⟨#[]⟩ W ⟨by decide, by decide⟩ lv_new
  go_enter Tryz.func5, Tryz.ntmps5
  go_wp2_with fail
  refine (HN.out _).mono ?_
  rintro e w1 ⟨t, rfl, ht, hT, hf1⟩
  have HF1 : Hid (Fr [] w w1 ∧ w.heap.size ≤ t) := ⟨(Fr.alloc [] w _).then hf1, by simp at ht; omega⟩
  have HB : Hid (Calls Tryz.prog 6 #[.pointer (some ⟨t, 0, none⟩), .int .i64 5, .int .i64 3, .slice none 0 0] w1 fun e w' => ∃ r, e = .returned (.int .i64 0) ∧ TkM w' t (lvT true 5 r 0 0 0) ∧ RqOf 3 (-2) 5 3 ⟨#[]⟩ ⟨#[]⟩ [] r ∧ Fr [t] w1 w') := by
    refine (qbegin_any hT lv_neg 5 3 none 0 0 [] ⟨fun h => by simp at h, by simp⟩ rfl rfl lv_bg lv_ok (fun a e => by cases e)).mono ?_
    rintro e w' ⟨r, h1, h2, h3, _, h5⟩
    exact ⟨r, h1, h2, h3, h5⟩
  clear hT hf1 ht HN
  go_wp2_with fail
  refine HB.out.mono ?_
  rintro e w2 ⟨r, rfl, hT, hR, hf2⟩
  have HF2 : Hid (Fr [] w w2) := HF1.out.1.on hf2 (fun x hx => by simp at hx; have := HF1.out.2; omega)
  have hN := qNext_any (bs := []) hT lv_neg lv_may lv_ok (by show (0 : Nat) ≤ 16; omega) (by
    refine ⟨fun h => by simp at h, by simp⟩) (by have := hR.ebl; show r.bl = _; simpa [bsOf] using this) (by have := hR.ebl; simp [bsOf] at this; show r.bl ≤ 131072; omega)
  obtain ⟨rk, rf, rn, rkey, ren, ro, rl, rc⟩ := r
  obtain ⟨q1, q2, q3, q4, q5, q6⟩ := hR
  simp only at q1 q2 q3
  obtain rfl : rk = 4 := q1
  obtain rfl : rf = -2 := q2
  obtain rfl : rn = 3 := q3
  have HX : Hid (Calls Tryz.prog 10 #[.pointer (some ⟨t, 0, none⟩)] w2 fun e w' => ∃ ro rc, e = .returned (.tuple #[.int .i64 0, .agg #[.int .u8 4, .int .i64 (-2), .int .i64 3, .string ⟨#[]⟩, .string ⟨#[]⟩, .bool false, .string rkey, .string ren, .slice ro rl rc], .bool true]) ∧ Fr [] w2 w') := by
    refine hN.mono ?_
    rintro e w' ⟨ro', rc', h1, _, h3⟩
    exact ⟨ro', rc', h1, h3⟩
  have HT2 : Hid (TkM w2 t (lvT true 5 ⟨4, -2, 3, rkey, ren, ro, rl, rc⟩ 0 0 0)) := hT
  clear hN q4 q5 q6 hT hf2 HB
  go_wp2_with fail
  refine HX.out.mono ?_
  rintro e w3 ⟨ro', rc', rfl, hf3⟩
  have hT3 := HT2.out.keep (hf3.then (Fr.alloc [] w3 (.cells #[.int .u8 4, .int .i64 (-2), .int .i64 3, .string ⟨#[]⟩, .string ⟨#[]⟩, .bool false, .string rkey, .string ren, .slice ro' rl rc'] 64))) (by simp)
  have HF3 : Hid (Fr [] w (w3.alloc (.cells #[.int .u8 4, .int .i64 (-2), .int .i64 3, .string ⟨#[]⟩, .string ⟨#[]⟩, .bool false, .string rkey, .string ren, .slice ro' rl rc'] 64))) := (HF2.out.then hf3).then (Fr.alloc [] w3 _)
  have HS1 : Hid (Calls Tryz.prog 9 #[.pointer (some ⟨t, 0, none⟩)] (w3.alloc (.cells #[.int .u8 4, .int .i64 (-2), .int .i64 3, .string ⟨#[]⟩, .string ⟨#[]⟩, .bool false, .string rkey, .string ren, .slice ro' rl rc'] 64)) fun e w' => e = .returned (.int .i64 0) ∧ TkM w' t (lvT true 5 ⟨4, -2, 3, rkey, ren, ro, rl, rc⟩ 1 0 0) ∧ Fr [t] _ w') := qSent_any hT3 lv_neg lv_may lv_ok (by show (0 : Nat) ≤ 16; omega)
  clear hf3 hT3 HX HT2
  go_wp2_with fail
  refine HS1.out.mono ?_
  rintro e w4 ⟨rfl, hT4, hf4⟩
  have HF4 : Hid (Fr [] w w4) := HF3.out.on hf4 (fun x hx => by simp at hx; have := HF1.out.2; omega)
  have HS2 : Hid (Calls Tryz.prog 9 #[.pointer (some ⟨t, 0, none⟩)] w4 fun e w' => e = .returned (.int .i64 0) ∧ TkM w' t (lvT true 5 ⟨4, -2, 3, rkey, ren, ro, rl, rc⟩ 2 0 0) ∧ Fr [t] w4 w') := qSent_any hT4 lv_neg lv_may lv_ok (by show (1 : Nat) ≤ 16; omega)
  clear hf4 hT4 HS1
  go_wp2_with fail
  refine HS2.out.mono ?_
  rintro e w5 ⟨rfl, hT5, hf5⟩
  have HF5 : Hid (Fr [] w w5) := HF4.out.on hf5 (fun x hx => by simp at hx; have := HF1.out.2; omega)
  have HS3 : Hid (Calls Tryz.prog 9 #[.pointer (some ⟨t, 0, none⟩)] w5 fun e w' => e = .returned (.int .i64 9) ∧ TkM w' t (lvT true 5 ⟨4, -2, 3, rkey, ren, ro, rl, rc⟩ 2 0 0) ∧ Fr [t] w5 w') := qSent_any hT5 lv_neg lv_may lv_ok (by show (2 : Nat) ≤ 16; omega)
  clear hf5 hT5 HS2
  go_wp2_with fail
  refine HS3.out.mono ?_
  rintro e w6 ⟨rfl, hT6, hf6⟩
  have HF6 : Hid (Fr [] w w6) := HF5.out.on hf6 (fun x hx => by simp at hx; have := HF1.out.2; omega)
  have HG1 : Hid (Calls _ _ _ _ _) := lv_got hT6 (by omega) (by omega) 2
  clear hf6 hT6 HS3
  go_wp2_with fail
  refine HG1.out.mono ?_
  rintro e w7 ⟨rfl, hT7, hf7⟩
  have HF7 : Hid (Fr [] w w7) := HF6.out.on hf7 (fun x hx => by simp at hx; have := HF1.out.2; omega)
  have HG2 : Hid (Calls _ _ _ _ _) := lv_got hT7 (by omega) (by omega) 1
  clear hf7 hT7 HG1
  go_wp2_with fail
  refine HG2.out.mono ?_
  rintro e w8 ⟨rfl, hT8, hf8⟩
  have HF8 : Hid (Fr [] w w8) := HF7.out.on hf8 (fun x hx => by simp at hx; have := HF1.out.2; omega)
  have HA : Hid (Calls Tryz.prog 11 #[.pointer (some ⟨t, 0, none⟩)] w8 fun e w' => e = .returned (.tuple #[.agg #[.int .i64 0, .int .i64 5, .bool true, .slice none 0 0, .int .i64 3], .slice none 0 0, .int .i64 0]) ∧ Fr [] w8 w') := by
    have h3 : wrap64 (wrap64 ((0 : Int) + 2) + 1) = 3 := by first | rfl | (simp [wrap64]; done) | (unfold wrap64; omega)
    rw [h3] at hT8
    exact lv_ans hT8
  clear hf8 hT8 HG2
  go_wp2_with fail
  refine HA.out.mono ?_
  rintro e w9 ⟨rfl, hf9⟩
  have HF9 : Hid (Fr [] w w9) := HF8.out.then hf9
  clear hf9 HA
  go_wp2
  go_ret
  exact ⟨rfl, HF9.out.then (Fr.alloc _ _ _)⟩
end Go.Proofs.YtpdkdgmaofhlkaaGreatDoor
/- A call, and how a task is made, as they come in. No conditions. -/
namespace Go.Proofs.YtpdkdgmaofhlkaaGreatDoor
open Go.ChangeShapes Go.WideShapes Go.ChangeAt Go.RowKit Go.Lib
set_option linter.unusedVariables false
set_option linter.unusedSimpArgs false

theorem Tryz.cS17 : Tryz.prog.cellsOf 9 = 1 := by kernel_rfl
theorem Tryz.cCk17 : Tryz.prog.cellsOf 24 = 1 := by kernel_rfl
theorem Tryz.undCk17 : Tryz.prog.underlying 24 = some (.int .u8) := by kernel_rfl
theorem Tryz.call_openC : Tryz.prog.cellsOf 26 = 3 := by kernel_rfl
theorem Tryz.call_openF : (match Tryz.prog.underlying 26 with | some (.struct fs) => fs.toList.map (fun f => (f.type, f.offset)) | _ => []) = [(24, 0), (9, 1), (9, 2)] := by kernel_rfl
theorem Tryz.made17_openC : Tryz.prog.cellsOf 28 = 8 := by kernel_rfl
theorem Tryz.made17_openF : (match Tryz.prog.underlying 28 with | some (.struct fs) => fs.toList.map (fun f => (f.type, f.offset)) | _ => []) = [(3, 0), (23, 1), (26, 5)] := by kernel_rfl
section
variable {H : Type} {enc : TypeId × Value → H}
set_option maxRecDepth 100000 in
theorem call_open {w : World} {fuel : Nat} {cs : List Value} {x : DataW H × List MemPlace} (h : DataW.trod enc Tryz.prog w 0 (fun _ => true) true fuel 26 cs = some x) (hsz : ∀ n ∈ x.1.weights Tryz.prog 26, n ≤ reachBytes) :
    ∃ (k : Int) (key en : ByteArray), cs = [.int .u8 k, .string key, .string en] ∧ (0 ≤ k ∧ k ≤ 255) ∧ key.size ≤ reachBytes ∧ en.size ≤ reachBytes := by
  have hF := Tryz.call_openF
  cases hu : Tryz.prog.underlying 26 with
  | none => rw [hu] at hF; simp at hF
  | some u =>
    rw [hu] at hF
    cases u with
    | struct fs =>
      simp only at hF
      obtain ⟨ys, n, _, hx, hlen, hys, hf⟩ := DataW.trod_struct hu h
      rw [Tryz.call_openC] at hlen
      match cs, hlen with
      | [v0, v1, v2], _ =>
        have hl2 : fs.toList.length = 3 := by have := congrArg List.length hF; simpa using this
        obtain ⟨l, hl⟩ : ∃ l, l = fs.toList := ⟨_, rfl⟩
        rw [← hl] at hF hl2
        match l, hl2 with
        | [f0, f1, f2], _ =>
          simp only [List.map_cons, List.map_nil, List.cons.injEq, Prod.mk.injEq, and_true] at hF
          obtain ⟨⟨t0, o0⟩, ⟨t1, o1⟩, ⟨t2, o2⟩⟩ := hF
          have g : ∀ (i : Nat) (f : Field), [f0, f1, f2][i]? = some f → fs[i]? = some f := by
            intro i f hi
            rw [hl] at hi
            simpa using hi
          have r0 := hf 0 f0 (g 0 f0 rfl)
          have r1 := hf 1 f1 (g 1 f1 rfl)
          have r2 := hf 2 f2 (g 2 f2 rfl)
          rw [t0, o0, Tryz.cCk17] at r0
          rw [t1, o1, Tryz.cS17] at r1
          rw [t2, o2, Tryz.cS17] at r2
          simp only [List.drop_zero, List.drop_succ_cons, List.take_succ_cons, List.take_zero] at r0 r1 r2
          have hy2 : ys.length = 3 := by rw [hys]; have := congrArg List.length hl; simpa using this.symm
          match ys, hy2 with
          | [y0, y1, y2], _ =>
            simp only [List.getElem?_cons_zero, List.getElem?_cons_succ] at r0 r1 r2
            have hty : fs.toList.map (·.type) = [24, 9, 9] := by rw [← hl]; simp [t0, t1, t2]
            have hw : ∀ (j : Nat) (t : TypeId) (d : DataW H), [24, 9, 9][j]? = some t → [y0.1, y1.1, y2.1][j]? = some d → ∀ q ∈ d.weights Tryz.prog t, q ≤ reachBytes := fun j t d h1 h2 q hq => by
              apply hsz
              rw [hx]
              simp only [DataW.weights, hu]
              rw [hty]
              exact DataW.weights_mem_each (j := j) (t := t) (d := d) h1 h2 _ hq
            obtain ⟨k0, e0, _, w0⟩ := DataW.trod_int Tryz.undCk17 r0
            obtain ⟨s1, e1, x1, _⟩ := DataW.trod_string Tryz.undStr r1
            obtain ⟨s2, e2, x2, _⟩ := DataW.trod_string Tryz.undStr r2
            have b0 := bounds_u8 w0
            simp only [List.cons.injEq, and_true] at e0 e1 e2
            have hk1 := hw 1 9 y1.1 rfl rfl s1.size (by rw [x1]; simp only [DataW.weights, List.mem_singleton]; show s1.data.size = _; simp)
            have hk2 := hw 2 9 y2.1 rfl rfl s2.size (by rw [x2]; simp only [DataW.weights, List.mem_singleton]; show s2.data.size = _; simp)
            exact ⟨k0, s1, s2, by rw [e0, e1, e2], by omega, hk1, hk2⟩
    | _ => simp at hF
set_option maxRecDepth 100000 in
theorem made17_open {w : World} {fuel : Nat} {cs : List Value} {x : DataW H × List MemPlace} (h : DataW.trod enc Tryz.prog w 0 (fun _ => true) true fuel 28 cs = some x) (hsz : ∀ n ∈ x.1.weights Tryz.prog 28, n ≤ reachBytes) :
    ∃ (n l s x q k : Int) (key en : ByteArray), cs = [.int .i64 n, .int .i64 l, .int .i64 s, .int .i64 x, .int .i64 q, .int .u8 k, .string key, .string en] ∧ (I6 n ∧ Cf.ok ⟨l, s, x, q⟩) ∧ (0 ≤ k ∧ k ≤ 255) ∧ key.size ≤ reachBytes ∧ en.size ≤ reachBytes := by
  have hF := Tryz.made17_openF
  cases hu : Tryz.prog.underlying 28 with
  | none => rw [hu] at hF; simp at hF
  | some u =>
    rw [hu] at hF
    cases u with
    | struct fs =>
      simp only at hF
      obtain ⟨ys, n, _, hx, hlen, hys, hf⟩ := DataW.trod_struct hu h
      rw [Tryz.made17_openC] at hlen
      match cs, hlen with
      | [v0, v1, v2, v3, v4, v5, v6, v7], _ =>
        have hl2 : fs.toList.length = 3 := by have := congrArg List.length hF; simpa using this
        obtain ⟨l, hl⟩ : ∃ l, l = fs.toList := ⟨_, rfl⟩
        rw [← hl] at hF hl2
        match l, hl2 with
        | [f0, f1, f2], _ =>
          simp only [List.map_cons, List.map_nil, List.cons.injEq, Prod.mk.injEq, and_true] at hF
          obtain ⟨⟨t0, o0⟩, ⟨t1, o1⟩, ⟨t2, o2⟩⟩ := hF
          have g : ∀ (i : Nat) (f : Field), [f0, f1, f2][i]? = some f → fs[i]? = some f := by
            intro i f hi
            rw [hl] at hi
            simpa using hi
          have r0 := hf 0 f0 (g 0 f0 rfl)
          have r1 := hf 1 f1 (g 1 f1 rfl)
          have r2 := hf 2 f2 (g 2 f2 rfl)
          rw [t0, o0, Tryz.cI13] at r0
          rw [t1, o1, Tryz.cellsCf] at r1
          rw [t2, o2, Tryz.call_openC] at r2
          simp only [List.drop_zero, List.drop_succ_cons, List.take_succ_cons, List.take_zero] at r0 r1 r2
          have hy2 : ys.length = 3 := by rw [hys]; have := congrArg List.length hl; simpa using this.symm
          match ys, hy2 with
          | [y0, y1, y2], _ =>
            simp only [List.getElem?_cons_zero, List.getElem?_cons_succ] at r0 r1 r2
            have hty : fs.toList.map (·.type) = [3, 23, 26] := by rw [← hl]; simp [t0, t1, t2]
            have hw : ∀ (j : Nat) (t : TypeId) (d : DataW H), [3, 23, 26][j]? = some t → [y0.1, y1.1, y2.1][j]? = some d → ∀ q ∈ d.weights Tryz.prog t, q ≤ reachBytes := fun j t d h1 h2 q hq => by
              apply hsz
              rw [hx]
              simp only [DataW.weights, hu]
              rw [hty]
              exact DataW.weights_mem_each (j := j) (t := t) (d := d) h1 h2 _ hq
            obtain ⟨k0, e0, _, w0⟩ := DataW.trod_int Tryz.undI13 r0
            obtain ⟨l, s, x', q, e1, hok⟩ := cf_open r1
            obtain ⟨k, key, en, e2, hk, hk1, hk2⟩ := call_open r2 (hw 2 26 y2.1 rfl rfl)
            have b0 := bounds_i64 w0
            simp only [List.cons.injEq, and_true] at e0 e1 e2
            obtain ⟨a1, a2, a3, a4⟩ := e1
            obtain ⟨c1, c2, c3⟩ := e2
            exact ⟨k0, l, s, x', q, k, key, en, by rw [e0, a1, a2, a3, a4, c1, c2, c3], ⟨b0, hok⟩, hk, hk1, hk2⟩
    | _ => simp at hF
end
end Go.Proofs.YtpdkdgmaofhlkaaGreatDoor
