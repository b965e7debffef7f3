/- What the reference's Decode answers. Conditions: where its bytes lie, fewer than 2^41. -/
import Derived.Test.YtaefninikmaiiaaGreatDoorRef5
namespace Go.Proofs.YtaefninikmaiiaaGreatDoor
open Go.ChangeShapes Go.WideShapes Go.ChangeAt Go.RowKit Go.Lib
set_option linter.unusedVariables false

theorem Tryz.infoWt3 : (Tryz.prog.info? 124).map (fun i => (i.zero, i.size, i.bytes)) = some (some (.agg #[.string ⟨#[]⟩, .string ⟨#[]⟩, .bool false]), 3, 40) := by kernel_rfl
/-- The answer, and where its writes lie: in new memory. -/
def DecAns (w : World) (xs : List Nat) (e : Ending) (w' : World) : Prop :=
  match decT xs with
  | .error c => e = .returned (.tuple #[.agg #[.int .i64 0, .slice none 0 0], .int .i64 (c : Int)])
  | .ok (n, ws) => ∃ (ao : Option Addr) (L cap : Nat), L = ws.length ∧ e = .returned (.tuple #[.agg #[.int .i64 (n : Int), .slice ao L cap], .int .i64 0]) ∧ WRs w' ao ws ∧ ∀ a, ao = some a → w.heap.size ≤ a.block
theorem DecAns.err {w w' : World} {xs : List Nat} {c : Nat} (h : decT xs = .error c) : DecAns w xs (.returned (.tuple #[.agg #[.int .i64 0, .slice none 0 0], .int .i64 (c : Int)])) w' := by
  unfold DecAns; rw [h]
theorem DecAns.ok {w w' : World} {xs : List Nat} {n L cap : Nat} {ws : List Wt} {ao : Option Addr} (h : decT xs = .ok (n, ws)) (hL : L = ws.length) (hW : WRs w' ao ws) (ha : ∀ a, ao = some a → w.heap.size ≤ a.block) : DecAns w xs (.returned (.tuple #[.agg #[.int .i64 (n : Int), .slice ao L cap], .int .i64 0])) w' := by
  unfold DecAns; rw [h]; exact ⟨ao, L, cap, hL, rfl, hW, ha⟩
theorem decT_e1 {ys : List Nat} {n k e : Nat} (h : shortF 0 0 ys = (n, k, e)) (he : e ≠ 0) : decT ys = .error e := by
  unfold decT; rw [tk_err h he]
theorem decT_e2 {ys : List Nat} {n k : Nat} (h : shortF 0 0 ys = (n, k, 0)) (hn : n < 1 ∨ 65536 < n) : decT ys = .error 1 := by
  unfold decT; simp only [tk, h]; have e1 : refN n = 1 := if_pos hn; simp [e1]
theorem decT_s {ys : List Nat} {n k : Nat} (h : shortF 0 0 ys = (n, k, 0)) (hn : ¬ (n < 1 ∨ 65536 < n)) : decT ys = decC n (ys.drop k) := by
  unfold decT; rw [tk_ok h (by simp only [refN, if_neg hn])]
theorem decC_e1 {n : Nat} {ys : List Nat} {c k e : Nat} (h : shortF 0 0 ys = (c, k, e)) (he : e ≠ 0) : decC n ys = .error e := by
  unfold decC; rw [tk_err h he]
theorem decC_e2 {n : Nat} {ys : List Nat} {c k : Nat} (h : shortF 0 0 ys = (c, k, 0)) (hn : 32 < c) : decC n ys = .error 3 := by
  unfold decC; simp only [tk, h]; have e1 : refC c = 3 := if_pos hn; simp [e1]
/-- What comes behind the writes. -/
def decF (n : Nat) (x : Except Nat (List Wt × List Nat)) : Except Nat (Nat × List Wt) :=
  match x with
  | .error e => .error e
  | .ok (ws, s) => decE n ws s
theorem decC_s {n : Nat} {ys : List Nat} {c k : Nat} (h : shortF 0 0 ys = (c, k, 0)) (hn : ¬ 32 < c) : decC n ys = decF n (decWs c (ys.drop k)) := by
  unfold decC; rw [tk_ok h (by simp only [refC, if_neg hn])]
  rfl
/-- A row of writes of one's own: what it is, and that it is none of the boxes. -/
theorem wrow_ne {w : World} {v : Value} {n k : Nat} {vs : List Value} {cs : Array Value} {t : TypeId} (h : w.ownsRow 0 124 3 v n vs) (hb : w.heap[k]? = some (.cells cs t (0, 0))) (ht : t ≠ 124) : v.ownBlock ≠ some k := by
  intro hv
  rcases h.2 with ⟨rfl, _⟩ | ⟨g', cap', cur, rfl, _, hg, _⟩
  · simp [Value.ownBlock] at hv
  · simp [Value.ownBlock] at hv
    subst hv
    rw [hg] at hb
    simp at hb
    exact ht hb.2.symm
theorem wrow_rs {w : World} {ao : Option Addr} {n cap : Nat} {ws : List Wt} (h : w.ownsRow 0 124 3 (.slice ao n cap) n (wtsC ws)) (hn : n = ws.length) (hok : ∀ x ∈ ws, okW x) (hl : ws.length ≤ 32) : WRs w ao ws := by
  refine ⟨fun h0 => ?_, by omega, fun x hx => ?_⟩
  · rcases h.2 with ⟨hh, h1⟩ | ⟨g', cap', cur, hh, _, hg, _⟩
    · omega
    · cases hh
      refine ⟨g', 0, rfl, lt_of_block hg, fun i hi => ?_⟩
      have key : ∀ c, c < 3 → w.cell? ⟨g', 0 + i * 3 + c, none⟩ = (wtC (ws.getD i Wt.zero))[c]? := by
        intro c hc
        have hlt : i * 3 + c < (wtsC ws).length := by rw [wtsC_length]; omega
        have hget := wtsC_get ws i c hi hc
        rw [List.getElem?_eq_getElem hlt] at hget
        have := h.cells (g := g') rfl (i * 3 + c) _ (List.getElem?_eq_getElem hlt)
        rw [show (⟨g', 0, none⟩ : Addr).add (i * 3 + c) = ⟨g', 0 + i * 3 + c, none⟩ from by simp [Addr.add]; omega] at this
        rw [this]
        exact hget
      exact ⟨key 0 (by omega), key 1 (by omega), key 2 (by omega)⟩
  · obtain ⟨_, a, b, _⟩ := hok x hx
    exact ⟨by omega, by omega⟩
theorem wrow_shape {w : World} {v : Value} {n : Nat} {vs : List Value} (h : w.ownsRow 0 124 3 v n vs) : ∃ ao cap, v = .slice ao n cap := by
  rcases h.2 with ⟨hh, h0⟩ | ⟨g, cap', _, hh, _⟩
  · exact ⟨none, 0, by rw [hh, h0]⟩
  · exact ⟨_, cap', hh⟩
/-- What Decode holds ahead of its loop: the answer's box and the reader. -/
structure D2 (w W : World) (b : Nat) (s : Value) (p c : Int) : Prop where
  t : B2 W b (.int .i64 0) (.slice none 0 0)
  r : Bx W (b + 1) false s p c
  fr : Fr [] w W
  lo : w.heap.size ≤ b
theorem D2.keep {w W W' : World} {b : Nat} {s : Value} {p c : Int} (h : D2 w W b s p c) (hf : Fr [] W W') : D2 w W' b s p c :=
  ⟨h.t.keep hf, h.r.keep hf (by simp), h.fr.then hf, h.lo⟩
theorem D2.keepS {S : List Nat} {w W W' : World} {b : Nat} {s : Value} {p c : Int} (h : D2 w W b s p c) (hf : Fr S W W') (hb : b ∉ S) (hb1 : b + 1 ∉ S) (hS : ∀ x ∈ S, w.heap.size ≤ x) : D2 w W' b s p c :=
  ⟨⟨hf.keep h.t.box hb⟩, h.r.keep hf hb1, h.fr.on hf hS, h.lo⟩
theorem D2.set {w W : World} {b : Nat} {s : Value} {p c : Int} (h : D2 w W b s p c) (s' : Value) (p' c' : Int) :
    D2 w ((((W.setCell ⟨b + 1, 0, none⟩ (.bool false)).setCell ⟨b + 1, 1, none⟩ s').setCell ⟨b + 1, 2, none⟩ (.int .i64 p')).setCell ⟨b + 1, 3, none⟩ (.int .i64 c')) b s' p' c' := by
  have hf := Fr.sets4 W (b + 1) (.bool false) s' (.int .i64 p') (.int .i64 c')
  exact ⟨⟨hf.keep h.t.box (by simp)⟩, h.r.set false s' p' c', h.fr.on hf (by intro x hx; simp at hx; have := h.lo; omega), h.lo⟩
theorem D2.end_ {w W : World} {b : Nat} {s : Value} {p c : Int} (h : D2 w W b s p c) (u v : Value) : Fr [] w ((W.setCell ⟨b, 0, none⟩ u).setCell ⟨b, 1, none⟩ v) := h.fr.set2 h.lo u v

set_option maxHeartbeats 8000000 in
set_option maxRecDepth 100000 in
theorem xDecode_any (ao : Option Addr) (L cap : Nat) (xs : List Nat) (w : World) (h : Rs w ao xs) (hb : ∀ x ∈ xs, x < 256) (hL : L = xs.length) (hcap : L ≤ cap) :
    Calls Tryz.prog 90 #[.slice ao L cap] w fun e w' => DecAns w xs e w' ∧ Fr [] w w' := by
  have hLl := h.len
  rw [← hL] at hLl
  have HL : Hid (L = xs.length) := hL
  have hlowD : ∀ k, ∀ x ∈ xs.drop k, x < 256 := fun k x hx => hb x (List.mem_of_mem_drop hx)
  clear hL
  obtain ⟨iW, hiW, hzW, hsW, hbW⟩ := info_parts Tryz.infoWt3
  obtain ⟨w0, HW0⟩ : ∃ w0, Hid ((w.alloc (.cells #[.int .i64 0, .slice none 0 0] 63)).alloc (.cells #[.bool false, .slice ao L cap, .int .i64 0, .int .i64 0] 102) = w0) := ⟨_, rfl⟩
  have hO0 : D2 w w0 w.heap.size (.slice ao L cap) 0 0 := by
    refine ⟨⟨?_⟩, ⟨?_⟩, ?_, Nat.le_refl _⟩
    · rw [← HW0.out]; exact (Fr.alloc [] _ _).keep (heap_alloc_new w _) (by simp)
    · rw [← HW0.out]
      have := heap_alloc_new (w.alloc (.cells #[.int .i64 0, .slice none 0 0] 63)) (.cells #[.bool false, .slice ao L cap, .int .i64 0, .int .i64 0] 102)
      simpa using this
    · rw [← HW0.out]; exact (Fr.alloc [] w _).then (Fr.alloc [] _ _)
  have hT := xVar_live ao L cap 0 xs w0 (h.fr hO0.fr) hb HL.out (Nat.zero_le _)
  rw [List.drop_zero, show ((0 : Nat) : Int) = 0 from rfl] at hT
  obtain ⟨⟨n, k1, e1⟩, hf1⟩ : ∃ r, shortF 0 0 xs = r := ⟨_, rfl⟩
  have HF1 : Hid (shortF 0 0 xs = (n, k1, e1)) := hf1
  have hnv : n < 2 ^ 64 := by have := shortF_val xs 0 0 (by omega) (by omega) hb; rw [hf1] at this; exact this
  have hpos1 : e1 = 0 → k1 ≤ L := by
    intro he
    have := short_pos xs (by rw [hf1]; exact he)
    rw [hf1, ← HL.out] at this
    exact this.2
  rw [hf1] at hT
  simp only at hT
  obtain ⟨sp, hsp⟩ : ∃ sp, stepAt (k1, e1) 0 = sp := ⟨_, rfl⟩
  rw [hsp] at hT
  have HSP : Hid (stepAt (k1, e1) 0 = sp) := hsp
  clear hf1 hsp
  go_enter Tryz.func90, Tryz.ntmps90
  go_wp2_with fail
  rw [HW0.out]
  refine hT.mono ?_
  rintro e w1 ⟨rfl, hFa⟩
  have hO1 := hO0.keep hFa
  have r0 := hO1.r.c0
  have r1 := hO1.r.c1
  have r2 := hO1.r.c2
  have r3 := hO1.r.c3
  have s0 := hO1.r.f 0
  have s1 := hO1.r.f 1
  have s2 := hO1.r.f 2
  have s3 := hO1.r.f 3
  have hO2 := hO1.set (.slice ao L cap) (sp : Int) (e1 : Int)
  by_cases he1 : e1 = 0
  · subst he1
    have hk1 := hpos1 rfl
    have HSPE : Hid (sp = k1) := by show _ = _; rw [← HSP.out]; simp [stepAt]
    have hspl : sp ≤ L := by have := HSPE.out; omega
    obtain ⟨w2, HW2⟩ : ∃ w2, Hid (((((w1.setCell ⟨w.heap.size + 1, 0, none⟩ (.bool false)).setCell ⟨w.heap.size + 1, 1, none⟩ (.slice ao L cap)).setCell ⟨w.heap.size + 1, 2, none⟩ (.int .i64 (sp : Int))).setCell ⟨w.heap.size + 1, 3, none⟩ (.int .i64 0)) = w2) := ⟨_, rfl⟩
    have hO2' : D2 w w2 w.heap.size (.slice ao L cap) (sp : Int) 0 := by rw [← HW2.out]; exact hO2
    by_cases hnn : n < 1 ∨ 65536 < n
    · have HA : Hid (decT xs = .error 1) := decT_e2 HF1.out hnn
      rcases hnn with hnn | hnn
      · obtain rfl : n = 0 := by omega
        go_upto_region 6 with fail
        clear r0 r1 r2 r3 s0 s1 s2 s3
        rw [HW2.out]
        have r0 := hO2'.r.c0
        have r1 := hO2'.r.c1
        have r2 := hO2'.r.c2
        have r3 := hO2'.r.c3
        have s0 := hO2'.r.f 0
        have s1 := hO2'.r.f 1
        have s2 := hO2'.r.f 2
        have s3 := hO2'.r.f 3
        have t0 := hO2'.t.c0
        have t1 := hO2'.t.c1
        have v0 := hO2'.t.f0
        have v1 := hO2'.t.f1
        have HE : Hid (Fr [] w _) := hO2'.end_ (.int .i64 0) (.slice none 0 0)
        go_wp2
        refine bodyPost_ret (v := .tuple #[.agg #[.int .i64 0, .slice none 0 0], .int .i64 1]) (by rw [results_cell_tmp rfl]; go_simp) rfl ⟨DecAns.err (c := 1) HA.out, HE.out⟩
      · have hn1 : (1 : Int) ≤ n := by omega
        have hn2 : (65536 : Int) < n := by omega
        go_upto_region 6 with fail
        clear r0 r1 r2 r3 s0 s1 s2 s3
        rw [HW2.out]
        have r0 := hO2'.r.c0
        have r1 := hO2'.r.c1
        have r2 := hO2'.r.c2
        have r3 := hO2'.r.c3
        have s0 := hO2'.r.f 0
        have s1 := hO2'.r.f 1
        have s2 := hO2'.r.f 2
        have s3 := hO2'.r.f 3
        have t0 := hO2'.t.c0
        have t1 := hO2'.t.c1
        have v0 := hO2'.t.f0
        have v1 := hO2'.t.f1
        have HE : Hid (Fr [] w _) := hO2'.end_ (.int .i64 0) (.slice none 0 0)
        go_wp2
        refine bodyPost_ret (v := .tuple #[.agg #[.int .i64 0, .slice none 0 0], .int .i64 1]) (by rw [results_cell_tmp rfl]; go_simp) rfl ⟨DecAns.err (c := 1) HA.out, HE.out⟩
    · have HS : Hid (decT xs = decC n (xs.drop sp)) := by show _ = _; rw [decT_s HF1.out hnn, ← HSPE.out]
      have hn1 : (1 : Int) ≤ n := by omega
      have hn2 : (n : Int) ≤ 65536 := by omega
      clear hnn
      have hT2 := xVar_live ao L cap sp xs w2 (h.fr hO2'.fr) hb HL.out hspl
      obtain ⟨⟨C, k2, e2⟩, hf2⟩ : ∃ r, shortF 0 0 (xs.drop sp) = r := ⟨_, rfl⟩
      have HF2 : Hid (shortF 0 0 (xs.drop sp) = (C, k2, e2)) := hf2
      have hCv : C < 2 ^ 64 := by have := shortF_val (xs.drop sp) 0 0 (by omega) (by omega) (hlowD sp); rw [hf2] at this; exact this
      have hpos2 : e2 = 0 → sp + k2 ≤ L := by
        intro he
        have := short_pos (xs.drop sp) (by rw [hf2]; exact he)
        rw [hf2, List.length_drop, ← HL.out] at this
        have := this.2
        simp only at this
        omega
      rw [hf2] at hT2
      simp only at hT2
      obtain ⟨sq, hsq⟩ : ∃ sq, stepAt (k2, e2) sp = sq := ⟨_, rfl⟩
      rw [hsq] at hT2
      have HSQ : Hid (stepAt (k2, e2) sp = sq) := hsq
      clear hf2 hsq
      go_upto_region 7 with fail
      clear r0 r1 r2 r3 s0 s1 s2 s3
      rw [HW2.out]
      have r0 := hO2'.r.c0
      have r1 := hO2'.r.c1
      have r2 := hO2'.r.c2
      have r3 := hO2'.r.c3
      have s0 := hO2'.r.f 0
      have s1 := hO2'.r.f 1
      have s2 := hO2'.r.f 2
      have s3 := hO2'.r.f 3
      go_wp2_with fail
      refine hT2.mono ?_
      rintro e w3 ⟨rfl, hFb⟩
      have hO3 := hO2'.keep hFb
      clear r0 r1 r2 r3 s0 s1 s2 s3
      have r0 := hO3.r.c0
      have r1 := hO3.r.c1
      have r2 := hO3.r.c2
      have r3 := hO3.r.c3
      have s0 := hO3.r.f 0
      have s1 := hO3.r.f 1
      have s2 := hO3.r.f 2
      have s3 := hO3.r.f 3
      have hO4 := hO3.set (.slice ao L cap) (sq : Int) (e2 : Int)
      by_cases he2 : e2 = 0
      · subst he2
        have hk2 := hpos2 rfl
        have HSQE : Hid (sq = sp + k2) := by show _ = _; rw [← HSQ.out]; simp [stepAt]
        have hsql : sq ≤ L := by have := HSQE.out; omega
        obtain ⟨w4, HW4⟩ : ∃ w4, Hid (((((w3.setCell ⟨w.heap.size + 1, 0, none⟩ (.bool false)).setCell ⟨w.heap.size + 1, 1, none⟩ (.slice ao L cap)).setCell ⟨w.heap.size + 1, 2, none⟩ (.int .i64 (sq : Int))).setCell ⟨w.heap.size + 1, 3, none⟩ (.int .i64 0)) = w4) := ⟨_, rfl⟩
        have hO4' : D2 w w4 w.heap.size (.slice ao L cap) (sq : Int) 0 := by rw [← HW4.out]; exact hO4
        by_cases hC : 32 < C
        · have HA : Hid (decT xs = .error 3) := by show _ = _; rw [HS.out, decC_e2 HF2.out hC]
          have hC' : (32 : Int) < C := by omega
          go_upto_region 11 with fail
          clear r0 r1 r2 r3 s0 s1 s2 s3
          rw [HW4.out]
          have r0 := hO4'.r.c0
          have r1 := hO4'.r.c1
          have r2 := hO4'.r.c2
          have r3 := hO4'.r.c3
          have s0 := hO4'.r.f 0
          have s1 := hO4'.r.f 1
          have s2 := hO4'.r.f 2
          have s3 := hO4'.r.f 3
          have t0 := hO4'.t.c0
          have t1 := hO4'.t.c1
          have v0 := hO4'.t.f0
          have v1 := hO4'.t.f1
          have HE : Hid (Fr [] w _) := hO4'.end_ (.int .i64 0) (.slice none 0 0)
          go_wp2
          refine bodyPost_ret (v := .tuple #[.agg #[.int .i64 0, .slice none 0 0], .int .i64 3]) (by rw [results_cell_tmp rfl]; go_simp) rfl ⟨DecAns.err (c := 3) HA.out, HE.out⟩
        · have HS2 : Hid (decT xs = decF n (decWs C (xs.drop sq))) := by show _ = _; rw [HS.out, decC_s HF2.out hC, drop_step, ← HSQE.out]
          have hC' : (C : Int) ≤ 32 := by omega
          have hC32 : C ≤ 32 := by omega
          clear hC
          go_upto_region 12 with fail
          clear r0 r1 r2 r3 s0 s1 s2 s3
          rw [HW4.out]
          go_wp2_with fail
          have hd1 : decide ((n : Int) < 1) = false := by simp; omega
          have hd2 : decide ((65536 : Int) < n) = false := by simp; omega
          have hd3 : decide ((32 : Int) < C) = false := by simp; omega
          simp only [hd1, hd2, hd3, Bool.or_false]
          have hF5 : Fr [] w4 (w4.alloc (.cells #[.int .i64 (n : Int), .slice none 0 0] 63)) := Fr.alloc _ _ _
          have c5 : (w4.alloc (.cells #[.int .i64 (n : Int), .slice none 0 0] 63)).heap[w4.heap.size]? = some (.cells #[.int .i64 (n : Int), .slice none 0 0] 63 (0, 0)) := heap_alloc_new w4 _
          obtain ⟨w5, HW5⟩ : ∃ w5, Hid (w4.alloc (.cells #[.int .i64 (n : Int), .slice none 0 0] 63) = w5) := ⟨_, rfl⟩
          rw [HW5.out] at hF5 c5 ⊢
          have hO5 := hO4'.keep hF5
          obtain ⟨b7, hb7⟩ : ∃ b7, b7 = w4.heap.size := ⟨_, rfl⟩
          have hb7l : w.heap.size + 1 < b7 := by have := hO4'.r.lt; omega
          have hX5 : B2 w5 b7 (.int .i64 (n : Int)) (.slice none 0 0) := ⟨by rw [hb7]; exact c5⟩
          rw [← hb7]
          clear hd1 hd2 hd3 hF5 c5 hO0 hO1 hO2 hO2' hO3 hO4 hO4' hb7 hFa hFb hT hT2 hlowD
          go_loopw [8] (fun ii wr => ∃ (i pp : Nat) (ds : List Wt) (v : Value), ii = .int .i64 i ∧ i ≤ C ∧ pp ≤ L ∧ Hid (ds.length = i) ∧ Hid (decWs C (xs.drop sq) = glue ds (decWs (C - i) (xs.drop pp))) ∧ D2 w wr w.heap.size (.slice ao L cap) (pp : Int) 0 ∧ B2 wr b7 (.int .i64 (n : Int)) v ∧ wr.ownsRow 0 124 3 v i (wtsC ds) ∧ Hid (∀ k, v.ownBlock = some k → w.heap.size ≤ k) ∧ Hid (∀ x ∈ ds, okW x)) (fun ii _ => C - (intOf ii).toNat)
          case atStart => exact ⟨0, sq, [], _, rfl, Nat.zero_le _, hsql, rfl, by show _ = _; rw [glue_nil]; rfl, hO5, hX5, World.ownsRow_nil _ _ _ _, by intro k hk; simp [Value.ownBlock] at hk, by intro x hx; cases hx⟩
          case round =>
            obtain ⟨i, pp, ds, v, rfl, hiC, hpp, HI, HG, hD, hX, hV, HV, HK⟩ := hrel
            clear hO5 hX5
            by_cases hi : i < C
            · obtain ⟨m, hm⟩ : ∃ m, C - i = m + 1 := ⟨C - i - 1, by omega⟩
              have hlt : (i : Int) < C := by omega
              have hONE := xOne_any ao L cap pp xs wr (h.fr hD.fr) hb HL.out hcap hpp
              have r0 := hD.r.c0
              have r1 := hD.r.c1
              have r2 := hD.r.c2
              have r3 := hD.r.c3
              have s0 := hD.r.f 0
              have s1 := hD.r.f 1
              have s2 := hD.r.f 2
              have s3 := hD.r.f 3
              go_wp2_with fail
              refine hONE.mono ?_
              rintro e w6 ⟨hans, hF6⟩
              clear hONE r0 r1 r2 r3 s0 s1 s2 s3
              have hD6 := hD.keep hF6
              have hX6 := hX.keep hF6
              have hV6 : w6.ownsRow 0 124 3 v i (wtsC ds) := owns_keep hV hF6 (by simp)
              clear hD hX hV
              unfold OneAns at hans
              cases hdw : decW (xs.drop pp) with
              | error c =>
                rw [hdw] at hans
                obtain ⟨p', c', k', v', d', rfl⟩ := hans
                have hc0 : c ≠ 0 := decW_code hdw
                have hcb : ((c : Int) != 0) = true := by rw [bne_iff_ne]; omega
                have HA : Hid (decT xs = .error c) := by show _ = _; rw [HS2.out, HG.out, hm, glue_err hdw]; rfl
                clear hc0
                obtain ⟨w7, HW7⟩ : ∃ w7, Hid (((w6.alloc (.cells #[.bool false, .slice ao L cap, .int .i64 p', .int .i64 c'] 102)).alloc (.cells #[.string k', .string v', .bool d'] 124)) = w7) := ⟨_, rfl⟩
                have hF7 : Fr [] w6 w7 := by rw [← HW7.out]; exact (Fr.alloc [] _ _).then (Fr.alloc [] _ _)
                have hD7 := hD6.keep hF7
                go_upto_region 18 with fail
                rw [HW7.out]
                have t0 := hD7.t.c0
                have t1 := hD7.t.c1
                have v0 := hD7.t.f0
                have v1 := hD7.t.f1
                have HE : Hid (Fr [] w _) := hD7.end_ (.int .i64 0) (.slice none 0 0)
                clear hX6 hV6 hF6 hF7
                go_wp2
                refine bodyPost_ret (v := .tuple #[.agg #[.int .i64 0, .slice none 0 0], .int .i64 (c : Int)]) (by rw [results_cell_tmp rfl]; go_simp) rfl ⟨DecAns.err HA.out, HE.out⟩
              | ok x =>
                rw [hdw] at hans
                obtain ⟨⟨key, val, drop⟩, zs⟩ := x
                obtain ⟨p', hp', rfl, rfl⟩ := hans
                have hokx : okW ⟨key, val, drop⟩ := (decW_inv (fun y hy => hb y (List.mem_of_mem_drop hy)) hdw).2
                have HG2 : Hid (decWs C (xs.drop sq) = glue (ds ++ [⟨key, val, drop⟩]) (decWs (C - (i + 1)) (xs.drop p'))) := by
                  show _ = _
                  rw [HG.out, hm, glue_ok hdw, show C - (i + 1) = m by omega]
                simp only
                obtain ⟨w7, HW7⟩ : ∃ w7, Hid (((w6.alloc (.cells #[.bool false, .slice ao L cap, .int .i64 (p' : Int), .int .i64 0] 102)).alloc (.cells #[.string key, .string val, .bool drop] 124)) = w7) := ⟨_, rfl⟩
                have hF7 : Fr [] w6 w7 := by rw [← HW7.out]; exact (Fr.alloc [] _ _).then (Fr.alloc [] _ _)
                have hN7 : Bx w7 w6.heap.size false (.slice ao L cap) (p' : Int) 0 := ⟨by rw [← HW7.out]; exact (Fr.alloc [] _ _).keep (heap_alloc_new w6 _) (by simp)⟩
                have hM7 : B3 w7 (w6.heap.size + 1) (.string key) (.string val) (.bool drop) := ⟨by
                  rw [← HW7.out]
                  have := heap_alloc_new (w6.alloc (.cells #[.bool false, .slice ao L cap, .int .i64 (p' : Int), .int .i64 0] 102)) (.cells #[.string key, .string val, .bool drop] 124)
                  simpa using this⟩
                have hD7 := hD6.keep hF7
                have hX7 := hX6.keep hF7
                have hV7 : w7.ownsRow 0 124 3 v i (wtsC ds) := owns_keep hV6 hF7 (by simp)
                have hlo6 : w.heap.size + 1 < w6.heap.size := by have := hD6.r.lt; omega
                have hb76 : b7 < w6.heap.size := hX6.lt
                clear hD6 hX6 hV6 hF6 hF7
                go_upto_region 19 with fail
                rw [HW7.out]
                have r0 := hD7.r.c0
                have r1 := hD7.r.c1
                have r2 := hD7.r.c2
                have r3 := hD7.r.c3
                have s0 := hD7.r.f 0
                have s1 := hD7.r.f 1
                have s2 := hD7.r.f 2
                have s3 := hD7.r.f 3
                have n0 := hN7.c0
                have n1 := hN7.c1
                have n2 := hN7.c2
                have n3 := hN7.c3
                have hF8 := Fr.sets4 w7 (w.heap.size + 1) (.bool false) (.slice ao L cap) (.int .i64 (p' : Int)) (.int .i64 0)
                have hD8 := hD7.set (.slice ao L cap) (p' : Int) 0
                have hX8 : B2 _ b7 (.int .i64 (n : Int)) v := ⟨hF8.keep hX7.box (by simp; omega)⟩
                have hM8 := hM7.keep hF8 (by simp; omega)
                have hV8 := owns_keep hV7 hF8 (by intro k hk; simp only [List.mem_singleton]; intro e; exact wrow_ne hV7 hD7.r.box (by decide) (e ▸ hk))
                obtain ⟨w8, HW8⟩ : ∃ w8, Hid (((((w7.setCell ⟨w.heap.size + 1, 0, none⟩ (.bool false)).setCell ⟨w.heap.size + 1, 1, none⟩ (.slice ao L cap)).setCell ⟨w.heap.size + 1, 2, none⟩ (.int .i64 (p' : Int))).setCell ⟨w.heap.size + 1, 3, none⟩ (.int .i64 0)) = w8) := ⟨_, rfl⟩
                go_upto_region 20 with fail
                rw [HW8.out] at hD8 hX8 hM8 hV8 ⊢
                clear r0 r1 r2 r3 s0 s1 s2 s3 n0 n1 n2 n3 hF8 hD7 hX7 hV7 hN7 hM7
                have x0 := hX8.c0
                have x1 := hX8.c1
                have y1 := hX8.f1
                have m0 := hM8.c0
                have m1 := hM8.c1
                have m2 := hM8.c2
                have HV8 : Hid (w8.ownsRow 0 124 3 v i (wtsC ds)) := hV8
                clear hV8
                go_wp2_with (at_builtin; refine wpList_app1 _ rfl (.tmp 67) (.tmp 69) 61 rfl 124 iW _ 3 40 Tryz.undWs hiW hzW hsW hbW rfl (by decide) v i (wtsC ds) rfl (HV8.out.alloc _) ⟨w8.heap.size, 0, none⟩ 1 [.string key, .string val, .bool drop] rfl rfl ?c1 ?c2 ?c3 ?c4 ?_)
                case c1 => intro j u hj; match j, hj with | 0, hj => simp at hj; subst hj; simp [Addr.add] | 1, hj => simp at hj; subst hj; simp [Addr.add] | 2, hj => simp at hj; subst hj; simp [Addr.add]
                case c2 => intro u hu; simp at hu; rcases hu with rfl | rfl | rfl <;> rfl
                case c3 => omega
                case c4 => unfold maxLen; omega
                intro g' cap' w9 hown hgrow hmov
                have hA8 : Fr [] w8 (w8.alloc (.cells #[.string key, .string val, .bool drop] 124)) := Fr.alloc _ _ _
                have hnb : v.ownBlock ≠ some b7 := wrow_ne HV8.out hX8.box (by decide)
                have hnt : v.ownBlock ≠ some w.heap.size := wrow_ne HV8.out hD8.t.box (by decide)
                have hnr : v.ownBlock ≠ some (w.heap.size + 1) := wrow_ne HV8.out hD8.r.box (by decide)
                have hF9 : Fr v.ownBlock.toList w8 w9 := (hA8.wide).then (Fr.grown hgrow (by intro k hk _; simp [hk]))
                have hX9 : B2 w9 b7 (.int .i64 (n : Int)) v := ⟨hF9.keep hX8.box (by simp only [Option.mem_toList]; exact hnb)⟩
                have hD9 := hD8.keepS hF9 (by simp only [Option.mem_toList]; exact hnt) (by simp only [Option.mem_toList]; exact hnr) (by intro x hx; exact HV.out x (by simpa using hx))
                have z0 := hX9.c0
                have z1 := hX9.c1
                have zf := hX9.f1
                have hF10 : Fr [b7] w9 (w9.setCell ⟨b7, 1, none⟩ (.slice (some ⟨g', 0, none⟩) (i + 1) cap')) := Fr.set _ _ _ (by simp)
                have HX10 : Hid (B2 (w9.setCell ⟨b7, 1, none⟩ (.slice (some ⟨g', 0, none⟩) (i + 1) cap')) b7 (.int .i64 (n : Int)) (.slice (some ⟨g', 0, none⟩) (i + 1) cap')) := ⟨two_setCell1 hX9.box⟩
                have HD10 : Hid (D2 w (w9.setCell ⟨b7, 1, none⟩ (.slice (some ⟨g', 0, none⟩) (i + 1) cap')) w.heap.size (.slice ao L cap) (p' : Int) 0) := hD9.keepS hF10 (by simp; omega) (by simp; omega) (by intro x hx; simp at hx; omega)
                have hgb : g' ≠ b7 := fun e => wrow_ne hown hX9.box (by decide) (by rw [← e]; rfl)
                have HV10 : Hid ((w9.setCell ⟨b7, 1, none⟩ (.slice (some ⟨g', 0, none⟩) (i + 1) cap')).ownsRow 0 124 3 (.slice (some ⟨g', 0, none⟩) (i + 1) cap') (i + 1) (wtsC (ds ++ [⟨key, val, drop⟩]))) := by
                  have e : wtsC (ds ++ [⟨key, val, drop⟩]) = wtsC ds ++ [.string key, .string val, .bool drop] := by rw [wtsC_append]; rfl
                  rw [e]
                  exact owns_keep hown hF10 (by intro k hk; simp [Value.ownBlock] at hk; subst hk; simp; exact hgb)
                have HVn : Hid (∀ k, (Value.slice (some ⟨g', 0, none⟩) (i + 1) cap').ownBlock = some k → w.heap.size ≤ k) := hmov.lt (by have := hD8.fr.size; simp; omega) HV.out
                have HKn : Hid (∀ x ∈ ds ++ [⟨key, val, drop⟩], okW x) := by
                  intro x hx
                  rcases List.mem_append.1 hx with h' | h'
                  · exact HK.out x h'
                  · simp at h'; subst h'; exact hokx
                clear hX8 hM8 hD8 hF9 hX9 hD9 hF10 hown hgrow hmov hA8 HV8 x0 x1 y1 m0 m1 m2
                go_wp2
                go_roundw
                case rel => exact ⟨i + 1, p', ds ++ [⟨key, val, drop⟩], _, by simp, by omega, hp', by show _ = _; simp [HI.out], HG2, HD10.out, HX10.out, HV10.out, HVn, HKn⟩
                case measure => simp [intOf]; omega
            · have HIC : Hid (i = C) := by show i = C; omega
              have hlt : (C : Int) ≤ i := by omega
              obtain ⟨ao', cap', rfl⟩ := wrow_shape hV
              have hEND := xEnd_any ao L cap pp 0 wr hLl hpp
              rw [show ((0 : Nat) : Int) = 0 from rfl] at hEND
              have HS3 : Hid (decT xs = decE n ds (xs.drop pp)) := by
                show _ = _
                rw [HS2.out, HG.out, HIC.out, Nat.sub_self, glue_end]
                rfl
              have hdl : (xs.drop pp).length = L - pp := by rw [List.length_drop, ← HL.out]
              have r0 := hD.r.c0
              have r1 := hD.r.c1
              have r2 := hD.r.c2
              have r3 := hD.r.c3
              have s0 := hD.r.f 0
              have s1 := hD.r.f 1
              have s2 := hD.r.f 2
              have s3 := hD.r.f 3
              by_cases hpL : pp < L
              · have HA : Hid (decT xs = .error 4) := by show _ = _; rw [HS3.out]; unfold decE; rw [if_neg (by rw [hdl]; omega)]
                rw [endOf_4 _ (by omega)] at hEND
                go_wp2_with fail
                refine hEND.mono ?_
                rintro e w6 ⟨rfl, hF6⟩
                have hD6 := hD.keep hF6
                clear r0 r1 r2 r3 s0 s1 s2 s3
                have t0 := hD6.t.c0
                have t1 := hD6.t.c1
                have v0 := hD6.t.f0
                have v1 := hD6.t.f1
                have HE : Hid (Fr [] w _) := hD6.end_ (.int .i64 0) (.slice none 0 0)
                clear hD hX hV hF6
                go_wp2
                refine bodyPost_ret (v := .tuple #[.agg #[.int .i64 0, .slice none 0 0], .int .i64 4]) (by rw [results_cell_tmp rfl]; go_simp) rfl ⟨DecAns.err (c := 4) HA.out, HE.out⟩
              · have HA : Hid (decT xs = .ok (n, ds)) := by show _ = _; rw [HS3.out]; unfold decE; rw [if_pos (by rw [hdl]; omega)]
                rw [show L - pp = 0 by omega, endOf_0] at hEND
                go_wp2_with fail
                refine hEND.mono ?_
                rintro e w6 ⟨rfl, hF6⟩
                have hD6 := hD.keep hF6
                have hX6 := hX.keep hF6
                have hV6 : w6.ownsRow 0 124 3 (.slice ao' i cap') i (wtsC ds) := owns_keep hV hF6 (by simp)
                clear r0 r1 r2 r3 s0 s1 s2 s3
                have t0 := hD6.t.c0
                have t1 := hD6.t.c1
                have v0 := hD6.t.f0
                have v1 := hD6.t.f1
                have z0 := hX6.c0
                have z1 := hX6.c1
                have HE : Hid (Fr [] w _) := hD6.end_ (.int .i64 (n : Int)) (.slice ao' i cap')
                have HWR : Hid (WRs ((w6.setCell ⟨w.heap.size, 0, none⟩ (.int .i64 (n : Int))).setCell ⟨w.heap.size, 1, none⟩ (.slice ao' i cap')) ao' ds) := by
                  have hne : (Value.slice ao' i cap').ownBlock ≠ some w.heap.size := wrow_ne hV6 hD6.t.box (by decide)
                  have hFs : Fr [w.heap.size] w6 ((w6.setCell ⟨w.heap.size, 0, none⟩ (.int .i64 (n : Int))).setCell ⟨w.heap.size, 1, none⟩ (.slice ao' i cap')) := (Fr.set w6 ⟨w.heap.size, 0, none⟩ _ (by simp)).then (Fr.set _ ⟨w.heap.size, 1, none⟩ _ (by simp))
                  exact wrow_rs (owns_keep hV6 hFs (by intro k hk; simp; intro e; exact hne (e ▸ hk))) HI.out.symm HK.out (by rw [HI.out]; omega)
                have HAD : Hid (∀ a, ao' = some a → w.heap.size ≤ a.block) := by
                  intro a ha
                  subst ha
                  exact HV.out a.block rfl
                clear hD hX hV hF6 hD6 hX6 hV6
                go_wp2
                refine bodyPost_ret (v := .tuple #[.agg #[.int .i64 (n : Int), .slice ao' i cap'], .int .i64 0]) (by rw [results_cell_tmp rfl]; go_simp) rfl ⟨DecAns.ok HA.out HI.out.symm HWR.out HAD.out, HE.out⟩
      · have hcb : ((e2 : Int) != 0) = true := by rw [bne_iff_ne]; omega
        have HA : Hid (decT xs = .error e2) := by show _ = _; rw [HS.out, decC_e1 HF2.out he2]
        obtain ⟨w4, HW4⟩ : ∃ w4, Hid (((((w3.setCell ⟨w.heap.size + 1, 0, none⟩ (.bool false)).setCell ⟨w.heap.size + 1, 1, none⟩ (.slice ao L cap)).setCell ⟨w.heap.size + 1, 2, none⟩ (.int .i64 (sq : Int))).setCell ⟨w.heap.size + 1, 3, none⟩ (.int .i64 (e2 : Int))) = w4) := ⟨_, rfl⟩
        rw [HW4.out] at hO4
        go_upto_region 9 with fail
        clear r0 r1 r2 r3 s0 s1 s2 s3
        rw [HW4.out]
        have r0 := hO4.r.c0
        have r1 := hO4.r.c1
        have r2 := hO4.r.c2
        have r3 := hO4.r.c3
        have s0 := hO4.r.f 0
        have s1 := hO4.r.f 1
        have s2 := hO4.r.f 2
        have s3 := hO4.r.f 3
        have t0 := hO4.t.c0
        have t1 := hO4.t.c1
        have v0 := hO4.t.f0
        have v1 := hO4.t.f1
        go_region
        have HE : Hid (Fr [] w _) := hO4.end_ (.int .i64 0) (.slice none 0 0)
        go_wp2
        refine bodyPost_ret (v := .tuple #[.agg #[.int .i64 0, .slice none 0 0], .int .i64 (e2 : Int)]) (by rw [results_cell_tmp rfl]; go_simp) rfl ⟨DecAns.err HA.out, HE.out.then (Fr.drew [] _)⟩
  · have hcb : ((e1 : Int) != 0) = true := by rw [bne_iff_ne]; omega
    have HA : Hid (decT xs = .error e1) := decT_e1 HF1.out he1
    obtain ⟨w2, HW2⟩ : ∃ w2, Hid (((((w1.setCell ⟨w.heap.size + 1, 0, none⟩ (.bool false)).setCell ⟨w.heap.size + 1, 1, none⟩ (.slice ao L cap)).setCell ⟨w.heap.size + 1, 2, none⟩ (.int .i64 (sp : Int))).setCell ⟨w.heap.size + 1, 3, none⟩ (.int .i64 (e1 : Int))) = w2) := ⟨_, rfl⟩
    rw [HW2.out] at hO2
    go_upto_region 4 with fail
    clear r0 r1 r2 r3 s0 s1 s2 s3
    rw [HW2.out]
    have r0 := hO2.r.c0
    have r1 := hO2.r.c1
    have r2 := hO2.r.c2
    have r3 := hO2.r.c3
    have s0 := hO2.r.f 0
    have s1 := hO2.r.f 1
    have s2 := hO2.r.f 2
    have s3 := hO2.r.f 3
    have t0 := hO2.t.c0
    have t1 := hO2.t.c1
    have v0 := hO2.t.f0
    have v1 := hO2.t.f1
    go_region
    have HE : Hid (Fr [] w _) := hO2.end_ (.int .i64 0) (.slice none 0 0)
    go_wp2
    refine bodyPost_ret (v := .tuple #[.agg #[.int .i64 0, .slice none 0 0], .int .i64 (e1 : Int)]) (by rw [results_cell_tmp rfl]; go_simp) rfl ⟨DecAns.err HA.out, HE.out.then (Fr.drew [] _)⟩
end Go.Proofs.YtaefninikmaiiaaGreatDoor
