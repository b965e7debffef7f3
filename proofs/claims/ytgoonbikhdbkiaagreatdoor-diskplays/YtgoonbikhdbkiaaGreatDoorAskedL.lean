/- What the statements' functions asked and looks answer of two live disks of one content. Conditions: an op that came in, its row of at most 2^20 bytes; fewer than 2^39 raw writes were done. -/
import Derived.Test.YtgoonbikhdbkiaaGreatDoorScript4
namespace Go.Proofs.YtgoonbikhdbkiaaGreatDoor
open Go.ChangeShapes Go.WideShapes Go.ChangeAt Go.RowKit Go.Lib

theorem To.fresh {S S' T : List Nat} {a b c : World} (h : To S S' a b) (hf : Fr T b c) (hT : ∀ k ∈ T, a.heap.size ≤ k) : To S S' a c :=
  ⟨h.fr.trans hf (fun _ hx _ => hx) (fun x hx hl => by have := hT x hx; omega), h.grew⟩
/-- Both disks went on alike. -/
def Both (w0 w : World) (gd gr : Nat) (SD SR : List Nat) (t : St) (w' : World) : Prop :=
  ∃ SD' SR' t', PR w0 w' gd gr SD' SR' t' t' ∧ t'.n ≤ t.n + 1 ∧ To (SD ++ SR) (SD' ++ SR') w w'
section
variable {w0 w w' : World} {gd gr : Nat} {SD SR : List Nat} {t : St}
theorem PR.ltD (h : PR w0 w gd gr SD SR t t) {b : Nat} (hb : w.heap.size ≤ b) : b ∉ SD := fun hm => by have := h.d.lt b hm; omega
theorem PR.ltR (h : PR w0 w gd gr SD SR t t) {b : Nat} (hb : w.heap.size ≤ b) : b ∉ SR := fun hm => by have := h.r.lt b hm; omega
theorem not_grown {S S' : List Nat} {a b : World} (h : To S S' a b) {x : Nat} (hx : x < a.heap.size) (hn : x ∉ S) : x ∉ S' := by
  intro hm
  rcases h.grew x hm with h1 | h1
  · exact hn h1
  · omega

set_option maxHeartbeats 4000000 in
set_option maxRecDepth 100000 in
theorem askedL_write (s a : Int) (bo : Option Addr) (M cb : Nat) (ys : List Nat) (n : Int) (h : PR w0 w gd gr SD SR t t) (hn : t.n < 2^39) (ha : a ≤ 9223372036854775807) (hB : BArg w0 bo M cb ys) (hM : M ≤ 1048576) :
    Calls Tryz.prog 7 #[ptr gd, ptr gr, opV 1 s a bo M cb n] w fun e w' => e = .returned (.bool true) ∧ Both w0 w gd gr SD SR t w' := by
  have HP : Hid (PR w0 w gd gr SD SR t t) := h
  have HB : Hid (BArg w0 bo M cb ys) := hB
  obtain ⟨E, t', HC⟩ : ∃ E t', Hid (Wrote t s a ys E t') := Wrote.some t s a ys
  clear h hB
  obtain ⟨ob, hob⟩ : ∃ ob, ob = w.heap.size := ⟨_, rfl⟩
  obtain ⟨w1, hw1⟩ : ∃ w1, w1 = w.alloc (.cells #[.int .u8 1, .int .i64 s, .int .i64 a, .slice bo M cb, .int .i64 n] 47) := ⟨_, rfl⟩
  have hO : OpBox w1 ob 1 s a bo M cb n := by rw [hw1, hob]; exact heap_alloc_new w _
  have hF1 : Fr [] w w1 := by rw [hw1]; exact Fr.alloc [] w _
  have HF1 : Hid (Fr [] w w1) := hF1
  have HO : Hid (OpBox w1 ob 1 s a bo M cb n) := hO
  have HOb : Hid (w.heap.size ≤ ob) := by show _ ≤ _; omega
  have c0 := hO.c0
  have c3 := hO.c3
  go_enter Tryz.func7, Tryz.ntmps7
  go_upto_region 1 with fail
  rw [← hw1, ← hob]
  clear hw1 hob hO hF1
  go_wp2_with fail
  refine (twin_any bo M cb ys w1 (HB.out.keep (HP.out.quiet HF1.out).d.fr) (by omega)).mono ?_
  rintro e w2 ⟨tb, rfl, htb, hrow, hF2⟩
  have hO2 := HO.out.keep hF2 (by simp)
  have HO2 : Hid (OpBox w2 ob 1 s a bo M cb n) := hO2
  have HR2 : Hid (w2.heap[tb]? = some (.cells (bts (ys ++ [77])).toArray 5 (0, 0))) := hrow
  have HF2 : Hid (Fr [] w w2) := HF1.out.then hF2
  have HP2 : Hid (PR w0 w2 gd gr SD SR t t) := HP.out.quiet HF2.out
  have HTB : Hid (w.heap.size ≤ tb) := by show _ ≤ _; have := HF1.out.size; omega
  have c1 := hO2.c1
  have c2 := hO2.c2
  have c3 := hO2.c3
  clear hO2 hrow hF2 htb
  go_wp2_with fail
  refine (lr_write HP2.out.r (by omega) ha (HB.out.keep HP2.out.r.fr) (HP2.out.r.apart HB.out) HC.out).mono ?_
  rintro e w3 ⟨rfl, SR3, hR3, hT3⟩
  have HO3 : Hid (OpBox w3 ob 1 s a bo M cb n) := HO2.out.keep hT3.fr (HP.out.ltR HOb.out)
  have HR3 : Hid (w3.heap[tb]? = some (.cells (bts (ys ++ [77])).toArray 5 (0, 0))) := hT3.fr.keep HR2.out (HP.out.ltR HTB.out)
  have HP3 : Hid (PR w0 w3 gd gr SD SR3 t t') := HP2.out.stepR hR3 hT3
  have HT3 : Hid (To (SD ++ SR) (SD ++ SR3) w w3) := (To.quiet HF2.out).then hT3.right
  have HN3 : Hid (tb ∉ SR3) := not_grown hT3 (lt_of_block HR2.out) (HP.out.ltR HTB.out)
  have c1 := HO3.out.c1
  have c2 := HO3.out.c2
  have c3 := HO3.out.c3
  clear hR3 hT3
  go_wp2_with fail
  refine (ld_write HP3.out.d (by omega) ha (twin_arg HB.out.len HB.out.low (by omega) HR3.out) (by intro _ x hx; cases hx; exact HP.out.ltD HTB.out) HC.out).mono ?_
  rintro e w4 ⟨rfl, SD4, hD4, hT4⟩
  have HO4 : Hid (OpBox w4 ob 1 s a bo M cb n) := HO3.out.keep hT4.fr (HP.out.ltD HOb.out)
  have HR4 : Hid (w4.heap[tb]? = some (.cells (bts (ys ++ [77])).toArray 5 (0, 0))) := hT4.fr.keep HR3.out (HP.out.ltD HTB.out)
  have HP4 : Hid (PR w0 w4 gd gr SD4 SR3 t' t') := HP3.out.stepD hD4 hT4
  have HT4 : Hid (To (SD ++ SR) (SD4 ++ SR3) w w4) := HT3.out.then hT4.left
  have HN4 : Hid (tb ∉ SD4) := not_grown hT4 (lt_of_block HR3.out) (HP.out.ltD HTB.out)
  have c3 := HO4.out.c3
  clear hD4 hT4
  go_wp2_with fail
  refine (leftBytes_any tb bo M cb ys w4 (HB.out.keep HP4.out.d.fr) (by omega) HR4.out).mono ?_
  rintro e w5 ⟨rfl, q, hw5⟩
  have HF5 : Hid (Fr [] w4 w5) := by rw [hw5]; exact Fr.drewN [] _ _
  have HR5 : Hid (w5.heap[tb]? = some (.cells (bts (ys ++ [77])).toArray 5 (0, 0))) := by rw [hw5]; exact HR4.out
  have HML : Hid ((bts (ys ++ [77])).toArray.size = M + 1) := by show _ = _; have := HB.out.len; simp [bts_length]; omega
  clear hw5 c0 c1 c2 c3
  go_wp2_with fail
  go_loopw [11] (fun ii wr => ∃ (i : Nat) (cur : Array Value), ii = .int .i64 i ∧ i ≤ M ∧ Hid (Fr [tb] w5 wr) ∧ Hid (wr.heap[tb]? = some (.cells cur 5 (0, 0))) ∧ Hid (cur.size = M + 1)) (fun ii _ => M - (intOf ii).toNat)
  case atStart => exact ⟨0, _, rfl, Nat.zero_le _, Fr.refl _ _, HR5, HML⟩
  case round =>
    obtain ⟨i, cur, rfl, hi, HFr, HCur, HCs⟩ := hrel
    by_cases hiM : i < M
    · have hcell : wr.cell? ⟨tb, i, none⟩ = some cur[i]! := by
        rw [cell_of_row _ _ _ _ _ _ HCur.out]
        have : i < cur.size := by rw [HCs.out]; omega
        simp [this]
      have hfz : wr.frozen? ⟨tb, i, none⟩ = false := by simp [World.frozen?, HCur.out]
      have HCur' : Hid ((wr.setCell ⟨tb, i, none⟩ (.int .u8 238)).heap[tb]? = some (.cells (cur.setIfInBounds i (.int .u8 238)) 5 (0, 0))) := row_put _ HCur.out
      have HCs' : Hid ((cur.setIfInBounds i (Value.int .u8 238)).size = M + 1) := by show _ = _; rw [Array.size_setIfInBounds]; exact HCs.out
      have HFr' : Hid (Fr [tb] w5 (wr.setCell ⟨tb, i, none⟩ (.int .u8 238))) := HFr.out.then (Fr.set _ _ _ (by simp))
      obtain ⟨x, hx⟩ : ∃ x, x = cur[i]! := ⟨_, rfl⟩
      rw [← hx] at hcell
      clear hx
      go_wp2
      go_roundw
      case rel => exact ⟨i + 1, _, by simp, by omega, HFr', HCur', HCs'⟩
      case measure => simp [intOf]; omega
    · have hi' : M ≤ i := by omega
      have HEnd : Hid (Both w0 w gd gr SD SR t wr) := by
        refine ⟨SD4, SR3, t', ?_, HC.out.n, ?_⟩
        · refine (HP4.out.quiet HF5.out).keepS HFr.out ?_ ?_
          · intro k hk
            rw [List.mem_singleton] at hk
            subst hk
            exact ⟨HN4.out, HN3.out⟩
          · intro k hk
            rw [List.mem_singleton] at hk
            subst hk
            have := HP.out.d.fr.size
            have := HTB.out
            omega
        · exact (HT4.out.then (To.quiet HF5.out)).fresh HFr.out (by intro k hk; rw [List.mem_singleton] at hk; subst hk; exact HTB.out)
      have hEE : (E == E) = true := by simp
      go_wp2
      go_ret
      exact ⟨by simp, HEnd.out⟩
set_option maxHeartbeats 4000000 in
set_option maxRecDepth 100000 in
theorem askedL_clear (s a : Int) (bo : Option Addr) (M cb : Nat) (n : Int) (h : PR w0 w gd gr SD SR t t) (hn : t.n < 2^39) :
    Calls Tryz.prog 7 #[ptr gd, ptr gr, opV 2 s a bo M cb n] w fun e w' => e = .returned (.bool true) ∧ Both w0 w gd gr SD SR t w' := by
  have HP : Hid (PR w0 w gd gr SD SR t t) := h
  obtain ⟨E, t', HC⟩ : ∃ E t', Hid (Cleared t s E t') := Cleared.some t s
  clear h
  obtain ⟨ob, hob⟩ : ∃ ob, ob = w.heap.size := ⟨_, rfl⟩
  obtain ⟨w1, hw1⟩ : ∃ w1, w1 = w.alloc (.cells #[.int .u8 2, .int .i64 s, .int .i64 a, .slice bo M cb, .int .i64 n] 47) := ⟨_, rfl⟩
  have hO : OpBox w1 ob 2 s a bo M cb n := by rw [hw1, hob]; exact heap_alloc_new w _
  have hF1 : Fr [] w w1 := by rw [hw1]; exact Fr.alloc [] w _
  have HF1 : Hid (Fr [] w w1) := hF1
  have HO : Hid (OpBox w1 ob 2 s a bo M cb n) := hO
  have HOb : Hid (w.heap.size ≤ ob) := by show _ ≤ _; omega
  have c0 := hO.c0
  have c1 := hO.c1
  have c4 := hO.c4
  go_enter Tryz.func7, Tryz.ntmps7
  go_upto_region 1 with fail
  rw [← hw1, ← hob]
  clear hw1 hob hO hF1
  go_upto_region 13 with fail
  have HPd : Hid (PR w0 w1.drew gd gr SD SR t t) := HP.out.quiet (HF1.out.then (Fr.drew [] w1))
  have HOd : Hid (OpBox w1.drew ob 2 s a bo M cb n) := HO.out.keep (Fr.drew [] w1) (by simp)
  have hd := ld_clear HPd.out.d (by omega) HC.out
  first
    | go_loud (go_region_held3 (fun W => W.cell? ⟨ob, 1, none⟩ = some (.int .i64 s)) (go_keep)
        (first
        | (go_at_call 17; with_reducible refine hr3.mono ?_; rintro e w4 ⟨rfl, SR4, hR4, hT4⟩; have HO4 := HO3.keep hT4.fr HbR; have k4 := HO4.c1; have HP4 := HP3.stepR hR4 hT4; have HT4 := HT3.then hT4.right; clear hR4 hT4)
        | (go_at_call 16; with_reducible refine hd.mono ?_; rintro e w3 ⟨rfl, SD3, hD3, hT3⟩; have HO3 := HOd.out.keep hT3.fr (HP.out.ltD HOb.out); have k3 := HO3.c1; have HP3 := HPd.out.stepD hD3 hT3; have HT3 : To (SD ++ SR) (SD3 ++ SR) w w3 := ((To.quiet (HF1.out.then (Fr.drew [] w1))).then hT3.left); have HbR := (HP.out.ltR HOb.out); have hr3 := lr_clear HP3.r (by omega) HC.out; clear hD3 hT3)))
    | fail
  have hEE : (E == E) = true := by simp
  have HEnd : Hid (Both w0 w gd gr SD SR t w4) := ⟨SD3, SR4, t', HP4, HC.out.n, HT4⟩
  clear HP4 HT4 HP3 HT3
  go_wp2
  go_ret
  exact ⟨by simp, HEnd.out⟩

set_option maxHeartbeats 4000000 in
set_option maxRecDepth 100000 in
theorem askedL_cut (s a : Int) (bo : Option Addr) (M cb : Nat) (n : Int) (h : PR w0 w gd gr SD SR t t) (hnn : n ≤ 9223372036854775807) :
    Calls Tryz.prog 7 #[ptr gd, ptr gr, opV 4 s a bo M cb n] w fun e w' => e = .returned (.bool true) ∧ Both w0 w gd gr SD SR t w' := by
  have HP : Hid (PR w0 w gd gr SD SR t t) := h
  obtain ⟨E, t', HC⟩ : ∃ E t', Hid (CutTo t n E t') := CutTo.some t n
  clear h
  obtain ⟨ob, hob⟩ : ∃ ob, ob = w.heap.size := ⟨_, rfl⟩
  obtain ⟨w1, hw1⟩ : ∃ w1, w1 = w.alloc (.cells #[.int .u8 4, .int .i64 s, .int .i64 a, .slice bo M cb, .int .i64 n] 47) := ⟨_, rfl⟩
  have hO : OpBox w1 ob 4 s a bo M cb n := by rw [hw1, hob]; exact heap_alloc_new w _
  have hF1 : Fr [] w w1 := by rw [hw1]; exact Fr.alloc [] w _
  have HF1 : Hid (Fr [] w w1) := hF1
  have HO : Hid (OpBox w1 ob 4 s a bo M cb n) := hO
  have HOb : Hid (w.heap.size ≤ ob) := by show _ ≤ _; omega
  have c0 := hO.c0
  have c1 := hO.c1
  have c4 := hO.c4
  go_enter Tryz.func7, Tryz.ntmps7
  go_upto_region 1 with fail
  rw [← hw1, ← hob]
  clear hw1 hob hO hF1
  go_upto_region 15 with fail
  have HPd : Hid (PR w0 w1.drew gd gr SD SR t t) := HP.out.quiet (HF1.out.then (Fr.drew [] w1))
  have HOd : Hid (OpBox w1.drew ob 4 s a bo M cb n) := HO.out.keep (Fr.drew [] w1) (by simp)
  have hd := ld_cutTo HPd.out.d hnn HC.out
  first
    | go_loud (go_region_held3 (fun W => W.cell? ⟨ob, 4, none⟩ = some (.int .i64 n)) (go_keep)
        (first
        | (go_at_call 19; with_reducible refine hr3.mono ?_; rintro e w4 ⟨rfl, SR4, hR4, hT4⟩; have HO4 := HO3.keep hT4.fr HbR; have k4 := HO4.c4; have HP4 := HP3.stepR hR4 hT4; have HT4 := HT3.then hT4.right; clear hR4 hT4)
        | (go_at_call 18; with_reducible refine hd.mono ?_; rintro e w3 ⟨rfl, SD3, hD3, hT3⟩; have HO3 := HOd.out.keep hT3.fr (HP.out.ltD HOb.out); have k3 := HO3.c4; have HP3 := HPd.out.stepD hD3 hT3; have HT3 : To (SD ++ SR) (SD3 ++ SR) w w3 := ((To.quiet (HF1.out.then (Fr.drew [] w1))).then hT3.left); have HbR := (HP.out.ltR HOb.out); have hr3 := lr_cut HP3.r hnn HC.out; clear hD3 hT3)))
    | fail
  have hEE : (E == E) = true := by simp
  have HEnd : Hid (Both w0 w gd gr SD SR t w4) := ⟨SD3, SR4, t', HP4, HC.out.n, HT4⟩
  clear HP4 HT4 HP3 HT3
  go_wp2
  go_ret
  exact ⟨by simp, HEnd.out⟩

set_option maxHeartbeats 4000000 in
set_option maxRecDepth 100000 in
theorem askedL_mend (s a : Int) (bo : Option Addr) (M cb : Nat) (n : Int) (h : PR w0 w gd gr SD SR t t) :
    Calls Tryz.prog 7 #[ptr gd, ptr gr, opV 5 s a bo M cb n] w fun e w' => e = .returned (.bool true) ∧ Both w0 w gd gr SD SR t w' := by
  have HP : Hid (PR w0 w gd gr SD SR t t) := h
  clear h
  obtain ⟨ob, hob⟩ : ∃ ob, ob = w.heap.size := ⟨_, rfl⟩
  obtain ⟨w1, hw1⟩ : ∃ w1, w1 = w.alloc (.cells #[.int .u8 5, .int .i64 s, .int .i64 a, .slice bo M cb, .int .i64 n] 47) := ⟨_, rfl⟩
  have hO : OpBox w1 ob 5 s a bo M cb n := by rw [hw1, hob]; exact heap_alloc_new w _
  have hF1 : Fr [] w w1 := by rw [hw1]; exact Fr.alloc [] w _
  have HF1 : Hid (Fr [] w w1) := hF1
  have HO : Hid (OpBox w1 ob 5 s a bo M cb n) := hO
  have HOb : Hid (w.heap.size ≤ ob) := by show _ ≤ _; omega
  have c0 := hO.c0
  have c1 := hO.c1
  have c4 := hO.c4
  go_enter Tryz.func7, Tryz.ntmps7
  go_upto_region 1 with fail
  rw [← hw1, ← hob]
  clear hw1 hob hO hF1
  have HP1 : Hid (PR w0 w1 gd gr SD SR t t) := HP.out.quiet HF1.out
  go_wp2_with fail
  refine (ld_mendTo HP1.out.d).mono ?_
  rintro e w3 ⟨rfl, SD3, hD3, hT3⟩
  have HP3 : Hid (PR w0 w3 gd gr SD3 SR t.mend t) := HP1.out.stepD hD3 hT3
  have HT3 : Hid (To (SD ++ SR) (SD3 ++ SR) w w3) := (To.quiet HF1.out).then hT3.left
  clear hD3 hT3
  go_wp2_with fail
  refine (lr_mend HP3.out.r).mono ?_
  rintro e w4 ⟨rfl, SR4, hR4, hT4⟩
  have HEnd : Hid (Both w0 w gd gr SD SR t w4) := ⟨SD3, SR4, t.mend, HP3.out.stepR hR4 hT4, by show t.n ≤ _; omega, HT3.out.then hT4.right⟩
  clear hR4 hT4
  go_wp2
  go_ret
  exact ⟨rfl, HEnd.out⟩

set_option maxHeartbeats 4000000 in
set_option maxRecDepth 100000 in
theorem askedL_read (k s a : Int) (bo : Option Addr) (M cb : Nat) (n : Int) (h : PR w0 w gd gr SD SR t t) (h1 : k ≠ 1) (h2 : k ≠ 2) (h4 : k ≠ 4) (h5 : k ≠ 5) :
    Calls Tryz.prog 7 #[ptr gd, ptr gr, opV k s a bo M cb n] w fun e w' => e = .returned (.bool true) ∧ Both w0 w gd gr SD SR t w' := by
  have HP : Hid (PR w0 w gd gr SD SR t t) := h
  obtain ⟨E, xs, HC⟩ : ∃ E xs, Hid (Told t s E xs) := Told.some t s
  have hxf := HC.out.few HP.out.d.ok
  have b1 : (k == 1) = false := by simp [h1]
  have b2 : (k == 2) = false := by simp [h2]
  have b4 : (k == 4) = false := by simp [h4]
  have b5 : (k == 5) = false := by simp [h5]
  clear h
  obtain ⟨ob, hob⟩ : ∃ ob, ob = w.heap.size := ⟨_, rfl⟩
  obtain ⟨w1, hw1⟩ : ∃ w1, w1 = w.alloc (.cells #[.int .u8 k, .int .i64 s, .int .i64 a, .slice bo M cb, .int .i64 n] 47) := ⟨_, rfl⟩
  have hO : OpBox w1 ob k s a bo M cb n := by rw [hw1, hob]; exact heap_alloc_new w _
  have hF1 : Fr [] w w1 := by rw [hw1]; exact Fr.alloc [] w _
  have HF1 : Hid (Fr [] w w1) := hF1
  have HO : Hid (OpBox w1 ob k s a bo M cb n) := hO
  have HOb : Hid (w.heap.size ≤ ob) := by show _ ≤ _; omega
  have c0 := hO.c0
  have c1 := hO.c1
  have c4 := hO.c4
  go_enter Tryz.func7, Tryz.ntmps7
  go_upto_region 1 with fail
  rw [← hw1, ← hob]
  clear hw1 hob hO hF1
  have HP1 : Hid (PR w0 w1 gd gr SD SR t t) := HP.out.quiet HF1.out
  go_wp2_with fail
  refine (ld_read HP1.out.d HC.out).mono ?_
  rintro e w3 ⟨ao, m, cap, rfl, hFre, hD3⟩
  have HP3 : Hid (PR w0 w3 gd gr SD SR t t) := HP1.out.quiet hFre.fr
  have HT3 : Hid (To (SD ++ SR) (SD ++ SR) w w3) := To.quiet (HF1.out.then hFre.fr)
  have HRs : Hid (Rs w3 ao xs) := own_rs hFre.own (by have := hFre.len; omega)
  have HLn : Hid (m = xs.length) := hFre.len
  have c1 := (HO.out.keep hFre.fr (by simp)).c1
  clear hFre hD3
  go_wp2_with fail
  refine (lr_read HP3.out.r HC.out).mono ?_
  rintro e _ ⟨bo2, m2, cap2, rfl, hRs2, hm2, rfl⟩
  have hEE : (E == E) = true := by simp
  have HRs2 : Hid (Rs w3 bo2 xs) := hRs2
  have HLn2 : Hid (m2 = xs.length) := hm2
  clear hRs2 hm2
  go_wp2_with fail
  refine (same_yes ao bo2 m m2 cap cap2 xs xs w3 HRs.out HRs2.out HLn.out HLn2.out rfl).mono ?_
  rintro e w4 ⟨rfl, q, hw4⟩
  have HEnd : Hid (Both w0 w gd gr SD SR t w4) := by
    have hF : Fr [] w3 w4 := by rw [hw4]; exact Fr.drewN [] _ _
    exact ⟨SD, SR, t, HP3.out.quiet hF, by omega, HT3.out.then (To.quiet hF)⟩
  clear hw4
  go_wp2
  go_ret
  exact ⟨rfl, HEnd.out⟩
theorem askedL (v : OV) (h : PR w0 w gd gr SD SR t t) (hn : t.n < 2^39) (hv : v.ok w0) (hM : v.M ≤ 1048576) :
    Calls Tryz.prog 7 #[ptr gd, ptr gr, opV v.k v.s v.a v.bo v.M v.cb v.n] w fun e w' => e = .returned (.bool true) ∧ Both w0 w gd gr SD SR t w' := by
  by_cases h1 : v.k = 1
  · rw [h1]
    exact askedL_write v.s v.a v.bo v.M v.cb v.ys v.n h hn hv.a1 hv.arg hM
  · by_cases h2 : v.k = 2
    · rw [h2]
      exact askedL_clear v.s v.a v.bo v.M v.cb v.n h hn
    · by_cases h4 : v.k = 4
      · rw [h4]
        exact askedL_cut v.s v.a v.bo v.M v.cb v.n h hv.n1
      · by_cases h5 : v.k = 5
        · rw [h5]
          exact askedL_mend v.s v.a v.bo v.M v.cb v.n h
        · exact askedL_read v.k v.s v.a v.bo v.M v.cb v.n h h1 h2 h4 h5
set_option maxHeartbeats 1000000 in
theorem looksL (h : PR w0 w gd gr SD SR t t) :
    Calls Tryz.prog 8 #[ptr gd, ptr gr] w fun e w' => e = .returned (.bool true) ∧ w = w' := by
  obtain ⟨b, hb⟩ : ∃ b, t.dd = b := ⟨_, rfl⟩
  obtain ⟨C, hC⟩ : ∃ C, t.C = C := ⟨_, rfl⟩
  obtain ⟨m, hm⟩ : ∃ m, t.n = m := ⟨_, rfl⟩
  have b1 : (b == b) = true := by simp
  go_enter Tryz.func8, Tryz.ntmps8
  go_wp2_with fail
  refine (ld_dead h.d hb).mono ?_
  rintro e _ ⟨rfl, rfl⟩
  go_wp2_with fail
  refine (lr_dead h.r hb).mono ?_
  rintro e _ ⟨rfl, rfl⟩
  go_wp2_with fail
  refine (ld_capacity h.d hC).mono ?_
  rintro e _ ⟨rfl, rfl⟩
  go_wp2_with fail
  refine (lr_capacity h.r hC).mono ?_
  rintro e _ ⟨rfl, rfl⟩
  go_wp2_with fail
  refine (ld_writes h.d hm).mono ?_
  rintro e _ ⟨rfl, rfl⟩
  go_wp2_with fail
  refine (lr_writes h.r hm).mono ?_
  rintro e _ ⟨rfl, rfl⟩
  go_wp2
  go_ret
  exact ⟨rfl, rfl⟩
end
end Go.Proofs.YtgoonbikhdbkiaaGreatDoor
