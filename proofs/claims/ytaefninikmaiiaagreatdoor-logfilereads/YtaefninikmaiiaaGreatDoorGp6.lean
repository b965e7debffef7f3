/- Texts of this claim laid together, one behind the other: contracts and plain lemmas; conditions as each names them. -/
import Derived.Test.YtaefninikmaiiaaGreatDoorGp5
import Derived.Test.YtaefninikmaiiaaGreatDoorGp2
import Derived.Deep.RegionLaw
import Derived.Deep.RegionWith
import Derived.Deep.RegionHeld3
import Derived.Deep.CutRange
import Derived.Lib.ConvBytes
import Derived.RangeFuncNested
import Derived.RangeFuncBound
import Derived.RangeFuncCalls
import Derived.RangeFuncLeaves
import Derived.Shelf.Abstract
import Derived.Shelf.RegionOpen
import Derived.OwnWalkIn
import Derived.TacticsInMore
import Derived.LoopNIn
import Derived.LoopIn
/- Texts of this claim laid together, one behind the other: contracts and plain lemmas; conditions as each names them. -/
/- What the reference's Decode answers. Conditions: where its bytes lie, fewer than 2^41. -/
namespace Go.Proofs.YtaefninikmaiiaaGreatDoor
open Go.ChangeShapes Go.WideShapes Go.ChangeAt Go.RowKit Go.Lib
set_option linter.unusedVariables false

theorem Tryz.infoWt3 : (Tryz.prog.info? 124).map (fun i => (i.zero, i.size, i.bytes)) = some (some (.agg #[.string ⟨#[]⟩, .string ⟨#[]⟩, .bool false]), 3, 40) := by kernel_rfl
/-- The answer, and where its writes lie: in new memory. -/
def DecAns (w : World) (xs : List Nat) (e : Ending) (w' : World) : Prop :=
  match decT xs with
  | .error c => e = .returned (.tuple #[.agg #[.int .i64 0, .slice none 0 0], .int .i64 (c : Int)])
  | .ok (n, ws) => ∃ (ao : Option Addr) (L cap : Nat), L = ws.length ∧ e = .returned (.tuple #[.agg #[.int .i64 (n : Int), .slice ao L cap], .int .i64 0]) ∧ WRs w' ao ws ∧ ∀ a, ao = some a → w.heap.size ≤ a.block
theorem DecAns.err {w w' : World} {xs : List Nat} {c : Nat} (h : decT xs = .error c) : DecAns w xs (.returned (.tuple #[.agg #[.int .i64 0, .slice none 0 0], .int .i64 (c : Int)])) w' := by
  unfold DecAns; rw [h]
theorem DecAns.ok {w w' : World} {xs : List Nat} {n L cap : Nat} {ws : List Wt} {ao : Option Addr} (h : decT xs = .ok (n, ws)) (hL : L = ws.length) (hW : WRs w' ao ws) (ha : ∀ a, ao = some a → w.heap.size ≤ a.block) : DecAns w xs (.returned (.tuple #[.agg #[.int .i64 (n : Int), .slice ao L cap], .int .i64 0])) w' := by
  unfold DecAns; rw [h]; exact ⟨ao, L, cap, hL, rfl, hW, ha⟩
theorem decT_e1 {ys : List Nat} {n k e : Nat} (h : shortF 0 0 ys = (n, k, e)) (he : e ≠ 0) : decT ys = .error e := by
  unfold decT; rw [tk_err h he]
theorem decT_e2 {ys : List Nat} {n k : Nat} (h : shortF 0 0 ys = (n, k, 0)) (hn : n < 1 ∨ 65536 < n) : decT ys = .error 1 := by
  unfold decT; simp only [tk, h]; have e1 : refN n = 1 := if_pos hn; simp [e1]
theorem decT_s {ys : List Nat} {n k : Nat} (h : shortF 0 0 ys = (n, k, 0)) (hn : ¬ (n < 1 ∨ 65536 < n)) : decT ys = decC n (ys.drop k) := by
  unfold decT; rw [tk_ok h (by simp only [refN, if_neg hn])]
theorem decC_e1 {n : Nat} {ys : List Nat} {c k e : Nat} (h : shortF 0 0 ys = (c, k, e)) (he : e ≠ 0) : decC n ys = .error e := by
  unfold decC; rw [tk_err h he]
theorem decC_e2 {n : Nat} {ys : List Nat} {c k : Nat} (h : shortF 0 0 ys = (c, k, 0)) (hn : 32 < c) : decC n ys = .error 3 := by
  unfold decC; simp only [tk, h]; have e1 : refC c = 3 := if_pos hn; simp [e1]
/-- What comes behind the writes. -/
def decF (n : Nat) (x : Except Nat (List Wt × List Nat)) : Except Nat (Nat × List Wt) :=
  match x with
  | .error e => .error e
  | .ok (ws, s) => decE n ws s
theorem decC_s {n : Nat} {ys : List Nat} {c k : Nat} (h : shortF 0 0 ys = (c, k, 0)) (hn : ¬ 32 < c) : decC n ys = decF n (decWs c (ys.drop k)) := by
  unfold decC; rw [tk_ok h (by simp only [refC, if_neg hn])]
  rfl
/-- A row of writes of one's own: what it is, and that it is none of the boxes. -/
theorem wrow_ne {w : World} {v : Value} {n k : Nat} {vs : List Value} {cs : Array Value} {t : TypeId} (h : w.ownsRow 0 124 3 v n vs) (hb : w.heap[k]? = some (.cells cs t (0, 0))) (ht : t ≠ 124) : v.ownBlock ≠ some k := by
  intro hv
  rcases h.2 with ⟨rfl, _⟩ | ⟨g', cap', cur, rfl, _, hg, _⟩
  · simp [Value.ownBlock] at hv
  · simp [Value.ownBlock] at hv
    subst hv
    rw [hg] at hb
    simp at hb
    exact ht hb.2.symm
theorem wrow_rs {w : World} {ao : Option Addr} {n cap : Nat} {ws : List Wt} (h : w.ownsRow 0 124 3 (.slice ao n cap) n (wtsC ws)) (hn : n = ws.length) (hok : ∀ x ∈ ws, okW x) (hl : ws.length ≤ 32) : WRs w ao ws := by
  refine ⟨fun h0 => ?_, by omega, fun x hx => ?_⟩
  · rcases h.2 with ⟨hh, h1⟩ | ⟨g', cap', cur, hh, _, hg, _⟩
    · omega
    · cases hh
      refine ⟨g', 0, rfl, lt_of_block hg, fun i hi => ?_⟩
      have key : ∀ c, c < 3 → w.cell? ⟨g', 0 + i * 3 + c, none⟩ = (wtC (ws.getD i Wt.zero))[c]? := by
        intro c hc
        have hlt : i * 3 + c < (wtsC ws).length := by rw [wtsC_length]; omega
        have hget := wtsC_get ws i c hi hc
        rw [List.getElem?_eq_getElem hlt] at hget
        have := h.cells (g := g') rfl (i * 3 + c) _ (List.getElem?_eq_getElem hlt)
        rw [show (⟨g', 0, none⟩ : Addr).add (i * 3 + c) = ⟨g', 0 + i * 3 + c, none⟩ from by simp [Addr.add]; omega] at this
        rw [this]
        exact hget
      exact ⟨key 0 (by omega), key 1 (by omega), key 2 (by omega)⟩
  · obtain ⟨_, a, b, _⟩ := hok x hx
    exact ⟨by omega, by omega⟩
theorem wrow_shape {w : World} {v : Value} {n : Nat} {vs : List Value} (h : w.ownsRow 0 124 3 v n vs) : ∃ ao cap, v = .slice ao n cap := by
  rcases h.2 with ⟨hh, h0⟩ | ⟨g, cap', _, hh, _⟩
  · exact ⟨none, 0, by rw [hh, h0]⟩
  · exact ⟨_, cap', hh⟩
/-- What Decode holds ahead of its loop: the answer's box and the reader. -/
structure D2 (w W : World) (b : Nat) (s : Value) (p c : Int) : Prop where
  t : B2 W b (.int .i64 0) (.slice none 0 0)
  r : Bx W (b + 1) false s p c
  fr : Fr [] w W
  lo : w.heap.size ≤ b
theorem D2.keep {w W W' : World} {b : Nat} {s : Value} {p c : Int} (h : D2 w W b s p c) (hf : Fr [] W W') : D2 w W' b s p c :=
  ⟨h.t.keep hf, h.r.keep hf (by simp), h.fr.then hf, h.lo⟩
theorem D2.keepS {S : List Nat} {w W W' : World} {b : Nat} {s : Value} {p c : Int} (h : D2 w W b s p c) (hf : Fr S W W') (hb : b ∉ S) (hb1 : b + 1 ∉ S) (hS : ∀ x ∈ S, w.heap.size ≤ x) : D2 w W' b s p c :=
  ⟨⟨hf.keep h.t.box hb⟩, h.r.keep hf hb1, h.fr.on hf hS, h.lo⟩
theorem D2.set {w W : World} {b : Nat} {s : Value} {p c : Int} (h : D2 w W b s p c) (s' : Value) (p' c' : Int) :
    D2 w ((((W.setCell ⟨b + 1, 0, none⟩ (.bool false)).setCell ⟨b + 1, 1, none⟩ s').setCell ⟨b + 1, 2, none⟩ (.int .i64 p')).setCell ⟨b + 1, 3, none⟩ (.int .i64 c')) b s' p' c' := by
  have hf := Fr.sets4 W (b + 1) (.bool false) s' (.int .i64 p') (.int .i64 c')
  exact ⟨⟨hf.keep h.t.box (by simp)⟩, h.r.set false s' p' c', h.fr.on hf (by intro x hx; simp at hx; have := h.lo; omega), h.lo⟩
theorem D2.end_ {w W : World} {b : Nat} {s : Value} {p c : Int} (h : D2 w W b s p c) (u v : Value) : Fr [] w ((W.setCell ⟨b, 0, none⟩ u).setCell ⟨b, 1, none⟩ v) := h.fr.set2 h.lo u v

set_option maxHeartbeats 8000000 in
set_option maxRecDepth 100000 in
theorem xDecode_any (ao : Option Addr) (L cap : Nat) (xs : List Nat) (w : World) (h : Rs w ao xs) (hb : ∀ x ∈ xs, x < 256) (hL : L = xs.length) (hcap : L ≤ cap) :
    Calls Tryz.prog 90 #[.slice ao L cap] w fun e w' => DecAns w xs e w' ∧ Fr [] w w' := by
  have hLl := h.len
  rw [← hL] at hLl
  have HL : Hid (L = xs.length) := hL
  have hlowD : ∀ k, ∀ x ∈ xs.drop k, x < 256 := fun k x hx => hb x (List.mem_of_mem_drop hx)
  clear hL
  obtain ⟨iW, hiW, hzW, hsW, hbW⟩ := info_parts Tryz.infoWt3
  obtain ⟨w0, HW0⟩ : ∃ w0, Hid ((w.alloc (.cells #[.int .i64 0, .slice none 0 0] 63)).alloc (.cells #[.bool false, .slice ao L cap, .int .i64 0, .int .i64 0] 102) = w0) := ⟨_, rfl⟩
  have hO0 : D2 w w0 w.heap.size (.slice ao L cap) 0 0 := by
    refine ⟨⟨?_⟩, ⟨?_⟩, ?_, Nat.le_refl _⟩
    · rw [← HW0.out]; exact (Fr.alloc [] _ _).keep (heap_alloc_new w _) (by simp)
    · rw [← HW0.out]
      have := heap_alloc_new (w.alloc (.cells #[.int .i64 0, .slice none 0 0] 63)) (.cells #[.bool false, .slice ao L cap, .int .i64 0, .int .i64 0] 102)
      simpa using this
    · rw [← HW0.out]; exact (Fr.alloc [] w _).then (Fr.alloc [] _ _)
  have hT := xVar_live ao L cap 0 xs w0 (h.fr hO0.fr) hb HL.out (Nat.zero_le _)
  rw [List.drop_zero, show ((0 : Nat) : Int) = 0 from rfl] at hT
  obtain ⟨⟨n, k1, e1⟩, hf1⟩ : ∃ r, shortF 0 0 xs = r := ⟨_, rfl⟩
  have HF1 : Hid (shortF 0 0 xs = (n, k1, e1)) := hf1
  have hnv : n < 2 ^ 64 := by have := shortF_val xs 0 0 (by omega) (by omega) hb; rw [hf1] at this; exact this
  have hpos1 : e1 = 0 → k1 ≤ L := by
    intro he
    have := short_pos xs (by rw [hf1]; exact he)
    rw [hf1, ← HL.out] at this
    exact this.2
  rw [hf1] at hT
  simp only at hT
  obtain ⟨sp, hsp⟩ : ∃ sp, stepAt (k1, e1) 0 = sp := ⟨_, rfl⟩
  rw [hsp] at hT
  have HSP : Hid (stepAt (k1, e1) 0 = sp) := hsp
  clear hf1 hsp
  go_enter Tryz.func90, Tryz.ntmps90
  go_wp2_with fail
  rw [HW0.out]
  refine hT.mono ?_
  rintro e w1 ⟨rfl, hFa⟩
  have hO1 := hO0.keep hFa
  have r0 := hO1.r.c0
  have r1 := hO1.r.c1
  have r2 := hO1.r.c2
  have r3 := hO1.r.c3
  have s0 := hO1.r.f 0
  have s1 := hO1.r.f 1
  have s2 := hO1.r.f 2
  have s3 := hO1.r.f 3
  have hO2 := hO1.set (.slice ao L cap) (sp : Int) (e1 : Int)
  by_cases he1 : e1 = 0
  · subst he1
    have hk1 := hpos1 rfl
    have HSPE : Hid (sp = k1) := by show _ = _; rw [← HSP.out]; simp [stepAt]
    have hspl : sp ≤ L := by have := HSPE.out; omega
    obtain ⟨w2, HW2⟩ : ∃ w2, Hid (((((w1.setCell ⟨w.heap.size + 1, 0, none⟩ (.bool false)).setCell ⟨w.heap.size + 1, 1, none⟩ (.slice ao L cap)).setCell ⟨w.heap.size + 1, 2, none⟩ (.int .i64 (sp : Int))).setCell ⟨w.heap.size + 1, 3, none⟩ (.int .i64 0)) = w2) := ⟨_, rfl⟩
    have hO2' : D2 w w2 w.heap.size (.slice ao L cap) (sp : Int) 0 := by rw [← HW2.out]; exact hO2
    by_cases hnn : n < 1 ∨ 65536 < n
    · have HA : Hid (decT xs = .error 1) := decT_e2 HF1.out hnn
      rcases hnn with hnn | hnn
      · obtain rfl : n = 0 := by omega
        go_upto_region 6 with fail
        clear r0 r1 r2 r3 s0 s1 s2 s3
        rw [HW2.out]
        have r0 := hO2'.r.c0
        have r1 := hO2'.r.c1
        have r2 := hO2'.r.c2
        have r3 := hO2'.r.c3
        have s0 := hO2'.r.f 0
        have s1 := hO2'.r.f 1
        have s2 := hO2'.r.f 2
        have s3 := hO2'.r.f 3
        have t0 := hO2'.t.c0
        have t1 := hO2'.t.c1
        have v0 := hO2'.t.f0
        have v1 := hO2'.t.f1
        have HE : Hid (Fr [] w _) := hO2'.end_ (.int .i64 0) (.slice none 0 0)
        go_wp2
        refine bodyPost_ret (v := .tuple #[.agg #[.int .i64 0, .slice none 0 0], .int .i64 1]) (by rw [results_cell_tmp rfl]; go_simp) rfl ⟨DecAns.err (c := 1) HA.out, HE.out⟩
      · have hn1 : (1 : Int) ≤ n := by omega
        have hn2 : (65536 : Int) < n := by omega
        go_upto_region 6 with fail
        clear r0 r1 r2 r3 s0 s1 s2 s3
        rw [HW2.out]
        have r0 := hO2'.r.c0
        have r1 := hO2'.r.c1
        have r2 := hO2'.r.c2
        have r3 := hO2'.r.c3
        have s0 := hO2'.r.f 0
        have s1 := hO2'.r.f 1
        have s2 := hO2'.r.f 2
        have s3 := hO2'.r.f 3
        have t0 := hO2'.t.c0
        have t1 := hO2'.t.c1
        have v0 := hO2'.t.f0
        have v1 := hO2'.t.f1
        have HE : Hid (Fr [] w _) := hO2'.end_ (.int .i64 0) (.slice none 0 0)
        go_wp2
        refine bodyPost_ret (v := .tuple #[.agg #[.int .i64 0, .slice none 0 0], .int .i64 1]) (by rw [results_cell_tmp rfl]; go_simp) rfl ⟨DecAns.err (c := 1) HA.out, HE.out⟩
    · have HS : Hid (decT xs = decC n (xs.drop sp)) := by show _ = _; rw [decT_s HF1.out hnn, ← HSPE.out]
      have hn1 : (1 : Int) ≤ n := by omega
      have hn2 : (n : Int) ≤ 65536 := by omega
      clear hnn
      have hT2 := xVar_live ao L cap sp xs w2 (h.fr hO2'.fr) hb HL.out hspl
      obtain ⟨⟨C, k2, e2⟩, hf2⟩ : ∃ r, shortF 0 0 (xs.drop sp) = r := ⟨_, rfl⟩
      have HF2 : Hid (shortF 0 0 (xs.drop sp) = (C, k2, e2)) := hf2
      have hCv : C < 2 ^ 64 := by have := shortF_val (xs.drop sp) 0 0 (by omega) (by omega) (hlowD sp); rw [hf2] at this; exact this
      have hpos2 : e2 = 0 → sp + k2 ≤ L := by
        intro he
        have := short_pos (xs.drop sp) (by rw [hf2]; exact he)
        rw [hf2, List.length_drop, ← HL.out] at this
        have := this.2
        simp only at this
        omega
      rw [hf2] at hT2
      simp only at hT2
      obtain ⟨sq, hsq⟩ : ∃ sq, stepAt (k2, e2) sp = sq := ⟨_, rfl⟩
      rw [hsq] at hT2
      have HSQ : Hid (stepAt (k2, e2) sp = sq) := hsq
      clear hf2 hsq
      go_upto_region 7 with fail
      clear r0 r1 r2 r3 s0 s1 s2 s3
      rw [HW2.out]
      have r0 := hO2'.r.c0
      have r1 := hO2'.r.c1
      have r2 := hO2'.r.c2
      have r3 := hO2'.r.c3
      have s0 := hO2'.r.f 0
      have s1 := hO2'.r.f 1
      have s2 := hO2'.r.f 2
      have s3 := hO2'.r.f 3
      go_wp2_with fail
      refine hT2.mono ?_
      rintro e w3 ⟨rfl, hFb⟩
      have hO3 := hO2'.keep hFb
      clear r0 r1 r2 r3 s0 s1 s2 s3
      have r0 := hO3.r.c0
      have r1 := hO3.r.c1
      have r2 := hO3.r.c2
      have r3 := hO3.r.c3
      have s0 := hO3.r.f 0
      have s1 := hO3.r.f 1
      have s2 := hO3.r.f 2
      have s3 := hO3.r.f 3
      have hO4 := hO3.set (.slice ao L cap) (sq : Int) (e2 : Int)
      by_cases he2 : e2 = 0
      · subst he2
        have hk2 := hpos2 rfl
        have HSQE : Hid (sq = sp + k2) := by show _ = _; rw [← HSQ.out]; simp [stepAt]
        have hsql : sq ≤ L := by have := HSQE.out; omega
        obtain ⟨w4, HW4⟩ : ∃ w4, Hid (((((w3.setCell ⟨w.heap.size + 1, 0, none⟩ (.bool false)).setCell ⟨w.heap.size + 1, 1, none⟩ (.slice ao L cap)).setCell ⟨w.heap.size + 1, 2, none⟩ (.int .i64 (sq : Int))).setCell ⟨w.heap.size + 1, 3, none⟩ (.int .i64 0)) = w4) := ⟨_, rfl⟩
        have hO4' : D2 w w4 w.heap.size (.slice ao L cap) (sq : Int) 0 := by rw [← HW4.out]; exact hO4
        by_cases hC : 32 < C
        · have HA : Hid (decT xs = .error 3) := by show _ = _; rw [HS.out, decC_e2 HF2.out hC]
          have hC' : (32 : Int) < C := by omega
          go_upto_region 11 with fail
          clear r0 r1 r2 r3 s0 s1 s2 s3
          rw [HW4.out]
          have r0 := hO4'.r.c0
          have r1 := hO4'.r.c1
          have r2 := hO4'.r.c2
          have r3 := hO4'.r.c3
          have s0 := hO4'.r.f 0
          have s1 := hO4'.r.f 1
          have s2 := hO4'.r.f 2
          have s3 := hO4'.r.f 3
          have t0 := hO4'.t.c0
          have t1 := hO4'.t.c1
          have v0 := hO4'.t.f0
          have v1 := hO4'.t.f1
          have HE : Hid (Fr [] w _) := hO4'.end_ (.int .i64 0) (.slice none 0 0)
          go_wp2
          refine bodyPost_ret (v := .tuple #[.agg #[.int .i64 0, .slice none 0 0], .int .i64 3]) (by rw [results_cell_tmp rfl]; go_simp) rfl ⟨DecAns.err (c := 3) HA.out, HE.out⟩
        · have HS2 : Hid (decT xs = decF n (decWs C (xs.drop sq))) := by show _ = _; rw [HS.out, decC_s HF2.out hC, drop_step, ← HSQE.out]
          have hC' : (C : Int) ≤ 32 := by omega
          have hC32 : C ≤ 32 := by omega
          clear hC
          go_upto_region 12 with fail
          clear r0 r1 r2 r3 s0 s1 s2 s3
          rw [HW4.out]
          go_wp2_with fail
          have hd1 : decide ((n : Int) < 1) = false := by simp; omega
          have hd2 : decide ((65536 : Int) < n) = false := by simp; omega
          have hd3 : decide ((32 : Int) < C) = false := by simp; omega
          simp only [hd1, hd2, hd3, Bool.or_false]
          have hF5 : Fr [] w4 (w4.alloc (.cells #[.int .i64 (n : Int), .slice none 0 0] 63)) := Fr.alloc _ _ _
          have c5 : (w4.alloc (.cells #[.int .i64 (n : Int), .slice none 0 0] 63)).heap[w4.heap.size]? = some (.cells #[.int .i64 (n : Int), .slice none 0 0] 63 (0, 0)) := heap_alloc_new w4 _
          obtain ⟨w5, HW5⟩ : ∃ w5, Hid (w4.alloc (.cells #[.int .i64 (n : Int), .slice none 0 0] 63) = w5) := ⟨_, rfl⟩
          rw [HW5.out] at hF5 c5 ⊢
          have hO5 := hO4'.keep hF5
          obtain ⟨b7, hb7⟩ : ∃ b7, b7 = w4.heap.size := ⟨_, rfl⟩
          have hb7l : w.heap.size + 1 < b7 := by have := hO4'.r.lt; omega
          have hX5 : B2 w5 b7 (.int .i64 (n : Int)) (.slice none 0 0) := ⟨by rw [hb7]; exact c5⟩
          rw [← hb7]
          clear hd1 hd2 hd3 hF5 c5 hO0 hO1 hO2 hO2' hO3 hO4 hO4' hb7 hFa hFb hT hT2 hlowD
          go_loopw [8] (fun ii wr => ∃ (i pp : Nat) (ds : List Wt) (v : Value), ii = .int .i64 i ∧ i ≤ C ∧ pp ≤ L ∧ Hid (ds.length = i) ∧ Hid (decWs C (xs.drop sq) = glue ds (decWs (C - i) (xs.drop pp))) ∧ D2 w wr w.heap.size (.slice ao L cap) (pp : Int) 0 ∧ B2 wr b7 (.int .i64 (n : Int)) v ∧ wr.ownsRow 0 124 3 v i (wtsC ds) ∧ Hid (∀ k, v.ownBlock = some k → w.heap.size ≤ k) ∧ Hid (∀ x ∈ ds, okW x)) (fun ii _ => C - (RowKit.intOf ii).toNat)
          case atStart => exact ⟨0, sq, [], _, rfl, Nat.zero_le _, hsql, rfl, by show _ = _; rw [glue_nil]; rfl, hO5, hX5, World.ownsRow_nil _ _ _ _, by intro k hk; simp [Value.ownBlock] at hk, by intro x hx; cases hx⟩
          case round =>
            obtain ⟨i, pp, ds, v, rfl, hiC, hpp, HI, HG, hD, hX, hV, HV, HK⟩ := hrel
            clear hO5 hX5
            by_cases hi : i < C
            · obtain ⟨m, hm⟩ : ∃ m, C - i = m + 1 := ⟨C - i - 1, by omega⟩
              have hlt : (i : Int) < C := by omega
              have hONE := xOne_any ao L cap pp xs wr (h.fr hD.fr) hb HL.out hcap hpp
              have r0 := hD.r.c0
              have r1 := hD.r.c1
              have r2 := hD.r.c2
              have r3 := hD.r.c3
              have s0 := hD.r.f 0
              have s1 := hD.r.f 1
              have s2 := hD.r.f 2
              have s3 := hD.r.f 3
              go_wp2_with fail
              refine hONE.mono ?_
              rintro e w6 ⟨hans, hF6⟩
              clear hONE r0 r1 r2 r3 s0 s1 s2 s3
              have hD6 := hD.keep hF6
              have hX6 := hX.keep hF6
              have hV6 : w6.ownsRow 0 124 3 v i (wtsC ds) := owns_keep hV hF6 (by simp)
              clear hD hX hV
              unfold OneAns at hans
              cases hdw : decW (xs.drop pp) with
              | error c =>
                rw [hdw] at hans
                obtain ⟨p', c', k', v', d', rfl⟩ := hans
                have hc0 : c ≠ 0 := decW_code hdw
                have hcb : ((c : Int) != 0) = true := by rw [bne_iff_ne]; omega
                have HA : Hid (decT xs = .error c) := by show _ = _; rw [HS2.out, HG.out, hm, glue_err hdw]; rfl
                clear hc0
                obtain ⟨w7, HW7⟩ : ∃ w7, Hid (((w6.alloc (.cells #[.bool false, .slice ao L cap, .int .i64 p', .int .i64 c'] 102)).alloc (.cells #[.string k', .string v', .bool d'] 124)) = w7) := ⟨_, rfl⟩
                have hF7 : Fr [] w6 w7 := by rw [← HW7.out]; exact (Fr.alloc [] _ _).then (Fr.alloc [] _ _)
                have hD7 := hD6.keep hF7
                go_upto_region 18 with fail
                rw [HW7.out]
                have t0 := hD7.t.c0
                have t1 := hD7.t.c1
                have v0 := hD7.t.f0
                have v1 := hD7.t.f1
                have HE : Hid (Fr [] w _) := hD7.end_ (.int .i64 0) (.slice none 0 0)
                clear hX6 hV6 hF6 hF7
                go_wp2
                refine bodyPost_ret (v := .tuple #[.agg #[.int .i64 0, .slice none 0 0], .int .i64 (c : Int)]) (by rw [results_cell_tmp rfl]; go_simp) rfl ⟨DecAns.err HA.out, HE.out⟩
              | ok x =>
                rw [hdw] at hans
                obtain ⟨⟨key, val, drop⟩, zs⟩ := x
                obtain ⟨p', hp', rfl, rfl⟩ := hans
                have hokx : okW ⟨key, val, drop⟩ := (decW_inv (fun y hy => hb y (List.mem_of_mem_drop hy)) hdw).2
                have HG2 : Hid (decWs C (xs.drop sq) = glue (ds ++ [⟨key, val, drop⟩]) (decWs (C - (i + 1)) (xs.drop p'))) := by
                  show _ = _
                  rw [HG.out, hm, glue_ok hdw, show C - (i + 1) = m by omega]
                simp only
                obtain ⟨w7, HW7⟩ : ∃ w7, Hid (((w6.alloc (.cells #[.bool false, .slice ao L cap, .int .i64 (p' : Int), .int .i64 0] 102)).alloc (.cells #[.string key, .string val, .bool drop] 124)) = w7) := ⟨_, rfl⟩
                have hF7 : Fr [] w6 w7 := by rw [← HW7.out]; exact (Fr.alloc [] _ _).then (Fr.alloc [] _ _)
                have hN7 : Bx w7 w6.heap.size false (.slice ao L cap) (p' : Int) 0 := ⟨by rw [← HW7.out]; exact (Fr.alloc [] _ _).keep (heap_alloc_new w6 _) (by simp)⟩
                have hM7 : B3 w7 (w6.heap.size + 1) (.string key) (.string val) (.bool drop) := ⟨by
                  rw [← HW7.out]
                  have := heap_alloc_new (w6.alloc (.cells #[.bool false, .slice ao L cap, .int .i64 (p' : Int), .int .i64 0] 102)) (.cells #[.string key, .string val, .bool drop] 124)
                  simpa using this⟩
                have hD7 := hD6.keep hF7
                have hX7 := hX6.keep hF7
                have hV7 : w7.ownsRow 0 124 3 v i (wtsC ds) := owns_keep hV6 hF7 (by simp)
                have hlo6 : w.heap.size + 1 < w6.heap.size := by have := hD6.r.lt; omega
                have hb76 : b7 < w6.heap.size := hX6.lt
                clear hD6 hX6 hV6 hF6 hF7
                go_upto_region 19 with fail
                rw [HW7.out]
                have r0 := hD7.r.c0
                have r1 := hD7.r.c1
                have r2 := hD7.r.c2
                have r3 := hD7.r.c3
                have s0 := hD7.r.f 0
                have s1 := hD7.r.f 1
                have s2 := hD7.r.f 2
                have s3 := hD7.r.f 3
                have n0 := hN7.c0
                have n1 := hN7.c1
                have n2 := hN7.c2
                have n3 := hN7.c3
                have hF8 := Fr.sets4 w7 (w.heap.size + 1) (.bool false) (.slice ao L cap) (.int .i64 (p' : Int)) (.int .i64 0)
                have hD8 := hD7.set (.slice ao L cap) (p' : Int) 0
                have hX8 : B2 _ b7 (.int .i64 (n : Int)) v := ⟨hF8.keep hX7.box (by simp; omega)⟩
                have hM8 := hM7.keep hF8 (by simp; omega)
                have hV8 := owns_keep hV7 hF8 (by intro k hk; simp only [List.mem_singleton]; intro e; exact wrow_ne hV7 hD7.r.box (by decide) (e ▸ hk))
                obtain ⟨w8, HW8⟩ : ∃ w8, Hid (((((w7.setCell ⟨w.heap.size + 1, 0, none⟩ (.bool false)).setCell ⟨w.heap.size + 1, 1, none⟩ (.slice ao L cap)).setCell ⟨w.heap.size + 1, 2, none⟩ (.int .i64 (p' : Int))).setCell ⟨w.heap.size + 1, 3, none⟩ (.int .i64 0)) = w8) := ⟨_, rfl⟩
                go_upto_region 20 with fail
                rw [HW8.out] at hD8 hX8 hM8 hV8 ⊢
                clear r0 r1 r2 r3 s0 s1 s2 s3 n0 n1 n2 n3 hF8 hD7 hX7 hV7 hN7 hM7
                have x0 := hX8.c0
                have x1 := hX8.c1
                have y1 := hX8.f1
                have m0 := hM8.c0
                have m1 := hM8.c1
                have m2 := hM8.c2
                have HV8 : Hid (w8.ownsRow 0 124 3 v i (wtsC ds)) := hV8
                clear hV8
                go_wp2_with (at_builtin; refine wpList_app1 _ rfl (.tmp 67) (.tmp 69) 61 rfl 124 iW _ 3 40 Tryz.undWs hiW hzW hsW hbW rfl (by decide) v i (wtsC ds) rfl (HV8.out.alloc _) ⟨w8.heap.size, 0, none⟩ 1 [.string key, .string val, .bool drop] rfl rfl ?c1 ?c2 ?c3 ?c4 ?_)
                case c1 => intro j u hj; match j, hj with | 0, hj => simp at hj; subst hj; simp [Addr.add] | 1, hj => simp at hj; subst hj; simp [Addr.add] | 2, hj => simp at hj; subst hj; simp [Addr.add]
                case c2 => intro u hu; simp at hu; rcases hu with rfl | rfl | rfl <;> rfl
                case c3 => omega
                case c4 => unfold maxLen; omega
                intro g' cap' w9 hown hgrow hmov
                have hA8 : Fr [] w8 (w8.alloc (.cells #[.string key, .string val, .bool drop] 124)) := Fr.alloc _ _ _
                have hnb : v.ownBlock ≠ some b7 := wrow_ne HV8.out hX8.box (by decide)
                have hnt : v.ownBlock ≠ some w.heap.size := wrow_ne HV8.out hD8.t.box (by decide)
                have hnr : v.ownBlock ≠ some (w.heap.size + 1) := wrow_ne HV8.out hD8.r.box (by decide)
                have hF9 : Fr v.ownBlock.toList w8 w9 := (hA8.wide).then (Fr.grown hgrow (by intro k hk _; simp [hk]))
                have hX9 : B2 w9 b7 (.int .i64 (n : Int)) v := ⟨hF9.keep hX8.box (by simp only [Option.mem_toList]; exact hnb)⟩
                have hD9 := hD8.keepS hF9 (by simp only [Option.mem_toList]; exact hnt) (by simp only [Option.mem_toList]; exact hnr) (by intro x hx; exact HV.out x (by simpa using hx))
                have z0 := hX9.c0
                have z1 := hX9.c1
                have zf := hX9.f1
                have hF10 : Fr [b7] w9 (w9.setCell ⟨b7, 1, none⟩ (.slice (some ⟨g', 0, none⟩) (i + 1) cap')) := Fr.set _ _ _ (by simp)
                have HX10 : Hid (B2 (w9.setCell ⟨b7, 1, none⟩ (.slice (some ⟨g', 0, none⟩) (i + 1) cap')) b7 (.int .i64 (n : Int)) (.slice (some ⟨g', 0, none⟩) (i + 1) cap')) := ⟨two_setCell1 hX9.box⟩
                have HD10 : Hid (D2 w (w9.setCell ⟨b7, 1, none⟩ (.slice (some ⟨g', 0, none⟩) (i + 1) cap')) w.heap.size (.slice ao L cap) (p' : Int) 0) := hD9.keepS hF10 (by simp; omega) (by simp; omega) (by intro x hx; simp at hx; omega)
                have hgb : g' ≠ b7 := fun e => wrow_ne hown hX9.box (by decide) (by rw [← e]; rfl)
                have HV10 : Hid ((w9.setCell ⟨b7, 1, none⟩ (.slice (some ⟨g', 0, none⟩) (i + 1) cap')).ownsRow 0 124 3 (.slice (some ⟨g', 0, none⟩) (i + 1) cap') (i + 1) (wtsC (ds ++ [⟨key, val, drop⟩]))) := by
                  have e : wtsC (ds ++ [⟨key, val, drop⟩]) = wtsC ds ++ [.string key, .string val, .bool drop] := by rw [wtsC_append]; rfl
                  rw [e]
                  exact owns_keep hown hF10 (by intro k hk; simp [Value.ownBlock] at hk; subst hk; simp; exact hgb)
                have HVn : Hid (∀ k, (Value.slice (some ⟨g', 0, none⟩) (i + 1) cap').ownBlock = some k → w.heap.size ≤ k) := hmov.lt (by have := hD8.fr.size; simp; omega) HV.out
                have HKn : Hid (∀ x ∈ ds ++ [⟨key, val, drop⟩], okW x) := by
                  intro x hx
                  rcases List.mem_append.1 hx with h' | h'
                  · exact HK.out x h'
                  · simp at h'; subst h'; exact hokx
                clear hX8 hM8 hD8 hF9 hX9 hD9 hF10 hown hgrow hmov hA8 HV8 x0 x1 y1 m0 m1 m2
                go_wp2
                go_roundw
                case rel => exact ⟨i + 1, p', ds ++ [⟨key, val, drop⟩], _, by simp, by omega, hp', by show _ = _; simp [HI.out], HG2, HD10.out, HX10.out, HV10.out, HVn, HKn⟩
                case measure => simp [RowKit.intOf]; omega
            · have HIC : Hid (i = C) := by show i = C; omega
              have hlt : (C : Int) ≤ i := by omega
              obtain ⟨ao', cap', rfl⟩ := wrow_shape hV
              have hEND := xEnd_any ao L cap pp 0 wr hLl hpp
              rw [show ((0 : Nat) : Int) = 0 from rfl] at hEND
              have HS3 : Hid (decT xs = decE n ds (xs.drop pp)) := by
                show _ = _
                rw [HS2.out, HG.out, HIC.out, Nat.sub_self, glue_end]
                rfl
              have hdl : (xs.drop pp).length = L - pp := by rw [List.length_drop, ← HL.out]
              have r0 := hD.r.c0
              have r1 := hD.r.c1
              have r2 := hD.r.c2
              have r3 := hD.r.c3
              have s0 := hD.r.f 0
              have s1 := hD.r.f 1
              have s2 := hD.r.f 2
              have s3 := hD.r.f 3
              by_cases hpL : pp < L
              · have HA : Hid (decT xs = .error 4) := by show _ = _; rw [HS3.out]; unfold decE; rw [if_neg (by rw [hdl]; omega)]
                rw [endOf_4 _ (by omega)] at hEND
                go_wp2_with fail
                refine hEND.mono ?_
                rintro e w6 ⟨rfl, hF6⟩
                have hD6 := hD.keep hF6
                clear r0 r1 r2 r3 s0 s1 s2 s3
                have t0 := hD6.t.c0
                have t1 := hD6.t.c1
                have v0 := hD6.t.f0
                have v1 := hD6.t.f1
                have HE : Hid (Fr [] w _) := hD6.end_ (.int .i64 0) (.slice none 0 0)
                clear hD hX hV hF6
                go_wp2
                refine bodyPost_ret (v := .tuple #[.agg #[.int .i64 0, .slice none 0 0], .int .i64 4]) (by rw [results_cell_tmp rfl]; go_simp) rfl ⟨DecAns.err (c := 4) HA.out, HE.out⟩
              · have HA : Hid (decT xs = .ok (n, ds)) := by show _ = _; rw [HS3.out]; unfold decE; rw [if_pos (by rw [hdl]; omega)]
                rw [show L - pp = 0 by omega, endOf_0] at hEND
                go_wp2_with fail
                refine hEND.mono ?_
                rintro e w6 ⟨rfl, hF6⟩
                have hD6 := hD.keep hF6
                have hX6 := hX.keep hF6
                have hV6 : w6.ownsRow 0 124 3 (.slice ao' i cap') i (wtsC ds) := owns_keep hV hF6 (by simp)
                clear r0 r1 r2 r3 s0 s1 s2 s3
                have t0 := hD6.t.c0
                have t1 := hD6.t.c1
                have v0 := hD6.t.f0
                have v1 := hD6.t.f1
                have z0 := hX6.c0
                have z1 := hX6.c1
                have HE : Hid (Fr [] w _) := hD6.end_ (.int .i64 (n : Int)) (.slice ao' i cap')
                have HWR : Hid (WRs ((w6.setCell ⟨w.heap.size, 0, none⟩ (.int .i64 (n : Int))).setCell ⟨w.heap.size, 1, none⟩ (.slice ao' i cap')) ao' ds) := by
                  have hne : (Value.slice ao' i cap').ownBlock ≠ some w.heap.size := wrow_ne hV6 hD6.t.box (by decide)
                  have hFs : Fr [w.heap.size] w6 ((w6.setCell ⟨w.heap.size, 0, none⟩ (.int .i64 (n : Int))).setCell ⟨w.heap.size, 1, none⟩ (.slice ao' i cap')) := (Fr.set w6 ⟨w.heap.size, 0, none⟩ _ (by simp)).then (Fr.set _ ⟨w.heap.size, 1, none⟩ _ (by simp))
                  exact wrow_rs (owns_keep hV6 hFs (by intro k hk; simp; intro e; exact hne (e ▸ hk))) HI.out.symm HK.out (by rw [HI.out]; omega)
                have HAD : Hid (∀ a, ao' = some a → w.heap.size ≤ a.block) := by
                  intro a ha
                  subst ha
                  exact HV.out a.block rfl
                clear hD hX hV hF6 hD6 hX6 hV6
                go_wp2
                refine bodyPost_ret (v := .tuple #[.agg #[.int .i64 (n : Int), .slice ao' i cap'], .int .i64 0]) (by rw [results_cell_tmp rfl]; go_simp) rfl ⟨DecAns.ok HA.out HI.out.symm HWR.out HAD.out, HE.out⟩
      · have hcb : ((e2 : Int) != 0) = true := by rw [bne_iff_ne]; omega
        have HA : Hid (decT xs = .error e2) := by show _ = _; rw [HS.out, decC_e1 HF2.out he2]
        obtain ⟨w4, HW4⟩ : ∃ w4, Hid (((((w3.setCell ⟨w.heap.size + 1, 0, none⟩ (.bool false)).setCell ⟨w.heap.size + 1, 1, none⟩ (.slice ao L cap)).setCell ⟨w.heap.size + 1, 2, none⟩ (.int .i64 (sq : Int))).setCell ⟨w.heap.size + 1, 3, none⟩ (.int .i64 (e2 : Int))) = w4) := ⟨_, rfl⟩
        rw [HW4.out] at hO4
        go_upto_region 9 with fail
        clear r0 r1 r2 r3 s0 s1 s2 s3
        rw [HW4.out]
        have r0 := hO4.r.c0
        have r1 := hO4.r.c1
        have r2 := hO4.r.c2
        have r3 := hO4.r.c3
        have s0 := hO4.r.f 0
        have s1 := hO4.r.f 1
        have s2 := hO4.r.f 2
        have s3 := hO4.r.f 3
        have t0 := hO4.t.c0
        have t1 := hO4.t.c1
        have v0 := hO4.t.f0
        have v1 := hO4.t.f1
        go_region
        have HE : Hid (Fr [] w _) := hO4.end_ (.int .i64 0) (.slice none 0 0)
        go_wp2
        refine bodyPost_ret (v := .tuple #[.agg #[.int .i64 0, .slice none 0 0], .int .i64 (e2 : Int)]) (by rw [results_cell_tmp rfl]; go_simp) rfl ⟨DecAns.err HA.out, HE.out.then (Fr.drew [] _)⟩
  · have hcb : ((e1 : Int) != 0) = true := by rw [bne_iff_ne]; omega
    have HA : Hid (decT xs = .error e1) := decT_e1 HF1.out he1
    obtain ⟨w2, HW2⟩ : ∃ w2, Hid (((((w1.setCell ⟨w.heap.size + 1, 0, none⟩ (.bool false)).setCell ⟨w.heap.size + 1, 1, none⟩ (.slice ao L cap)).setCell ⟨w.heap.size + 1, 2, none⟩ (.int .i64 (sp : Int))).setCell ⟨w.heap.size + 1, 3, none⟩ (.int .i64 (e1 : Int))) = w2) := ⟨_, rfl⟩
    rw [HW2.out] at hO2
    go_upto_region 4 with fail
    clear r0 r1 r2 r3 s0 s1 s2 s3
    rw [HW2.out]
    have r0 := hO2.r.c0
    have r1 := hO2.r.c1
    have r2 := hO2.r.c2
    have r3 := hO2.r.c3
    have s0 := hO2.r.f 0
    have s1 := hO2.r.f 1
    have s2 := hO2.r.f 2
    have s3 := hO2.r.f 3
    have t0 := hO2.t.c0
    have t1 := hO2.t.c1
    have v0 := hO2.t.f0
    have v1 := hO2.t.f1
    go_region
    have HE : Hid (Fr [] w _) := hO2.end_ (.int .i64 0) (.slice none 0 0)
    go_wp2
    refine bodyPost_ret (v := .tuple #[.agg #[.int .i64 0, .slice none 0 0], .int .i64 (e1 : Int)]) (by rw [results_cell_tmp rfl]; go_simp) rfl ⟨DecAns.err HA.out, HE.out.then (Fr.drew [] _)⟩
end Go.Proofs.YtaefninikmaiiaaGreatDoor
/- What CRC answers, and the document's More and CRC; what Hash answers, and the document's. Conditions: a slice of bytes that came in, a sum of 32 bits; a key of fewer than 2^62 bytes. -/
namespace Go.Proofs.YtaefninikmaiiaaGreatDoor
open Go.ChangeShapes Go.WideShapes Go.ChangeAt Go.RowKit Go.Lib

set_option maxHeartbeats 4000000 in
set_option maxRecDepth 100000 in
theorem refMore_any (s m : Nat) (ao : Option Addr) (L cap : Nat) (xs : List Nat) (w : World) (hs : s < 4294967296) (hA : BArg w ao L cap xs) (hm : more s xs = m) :
    Calls Tryz.prog 111 #[.int .u32 (s : Int), .slice ao L cap] w fun e w' => e = .returned (.int .u32 (m : Int)) ∧ Fr [] w w' := by
  have HM : Hid (more s xs = m) := hm
  clear hm
  have HL : Hid (L = xs.length) := hA.len
  have hLm := hA.most
  obtain ⟨c0, HC0⟩ : ∃ c0, Hid (c0 = 4294967295 - s) := ⟨_, rfl⟩
  have hc0 : c0 < 4294967296 := by have := HC0.out; omega
  have hsub : (4294967295 : Int) - (s : Int) = (c0 : Int) := by have := HC0.out; omega
  go_enter Tryz.func111, Tryz.ntmps111
  go_wp2_with fail
  go_loop [5, 6] (fun cc ii => ∃ (c i : Nat), cc = .int .u32 (c : Int) ∧ ii = .int .i64 i ∧ i ≤ L ∧ c < 4294967296 ∧ Hid (c = runB c0 (xs.take i))) (fun _ ii => L - (RowKit.intOf ii).toNat)
  case atStart => exact ⟨c0, 0, rfl, rfl, Nat.zero_le _, hc0, rfl⟩
  case round =>
    obtain ⟨c, i, rfl, rfl, hi, hc, HR⟩ := hrel
    by_cases hiL : i < L
    · obtain ⟨b, off, e, _, hcs⟩ := hA.lies (by omega)
      subst e
      have hcx := hcs i hiL
      have hx := getD_mem_lt xs i (by rw [← HL.out]; exact hiL) hA.low
      obtain ⟨x, HX⟩ : ∃ x, Hid (x = xs.getD i 0) := ⟨_, rfl⟩
      rw [← HX.out] at hcx hx
      obtain ⟨d0, HD0⟩ : ∃ d0, Hid (d0 = c ^^^ x) := ⟨_, rfl⟩
      have hd0 : d0 < 4294967296 := by rw [HD0.out]; exact Nat.xor_lt_two_pow (n := 32) hc (by omega)
      have hx32 : bits .xor .u32 (c : Int) (x : Int) = (d0 : Int) := by rw [HD0.out]; exact u32_xor_nat c x hc (by omega)
      have hc' := stepB_lt c x hc hx
      have HR' : Hid (shN 8 d0 = runB c0 (xs.take (i + 1))) := by
        show _ = _
        rw [take_snoc xs i x (by rw [← HL.out]; exact hiL) HX.out, runB_snoc, ← HR.out, HD0.out]
        rfl
      clear hcs
      go_wp2_with fail
      go_loop [5, 7] (fun cc kk => ∃ (d k : Nat), cc = .int .u32 (d : Int) ∧ kk = .int .i64 k ∧ k ≤ 8 ∧ d < 4294967296 ∧ Hid (d = shN k d0)) (fun _ kk => 8 - (RowKit.intOf kk).toNat)
      case atStart => exact ⟨d0, 0, rfl, rfl, by omega, hd0, rfl⟩
      case round =>
        obtain ⟨d, k, rfl, rfl, hk, hd, HD⟩ := hrel
        by_cases hk8 : k < 8
        · have hlt := sh_lt d hd
          have HS : Hid (sh d = shN (k + 1) d0) := by show _ = _; rw [shN_succ, ← HD.out]
          by_cases hp : d % 2 = 1
          · have HE : Hid (sh d = (d / 2) ^^^ 2197175160) := by show _ = _; unfold sh; rw [if_pos hp]
            have hp' : ((d : Int) % 2 == 1) = true := by rw [beq_iff_eq]; omega
            have hx2 : bits .xor .u32 ((d : Int) / 2) 2197175160 = ((sh d : Nat) : Int) := by
              have := u32_xor_nat (d / 2) 2197175160 (by omega) (by omega)
              rw [HE.out]
              simpa using this
            clear hp
            go_wp2_with fail
            go_round
            case rel => exact ⟨sh d, k + 1, rfl, by simp, by omega, hlt, HS⟩
            case measure => simp [RowKit.intOf]; omega
          · have HE : Hid (sh d = d / 2) := by show _ = _; unfold sh; rw [if_neg hp]
            have hp' : ((d : Int) % 2 == 1) = false := by rw [beq_eq_false_iff_ne]; omega
            have hx2 : (d : Int) / 2 = ((sh d : Nat) : Int) := by rw [HE.out]; simp
            clear hp
            go_wp2_with fail
            go_round
            case rel => exact ⟨sh d, k + 1, rfl, by simp, by omega, hlt, HS⟩
            case measure => simp [RowKit.intOf]; omega
        · obtain rfl : k = 8 := by omega
          have HS : Hid (d = runB c0 (xs.take (i + 1))) := by show _ = _; rw [HD.out, HR'.out]
          go_wp2_with fail
          go_round
          case rel => exact ⟨d, i + 1, rfl, by simp, by omega, hd, HS⟩
          case measure => simp [RowKit.intOf]; omega
    · obtain rfl : i = L := by omega
      have HM' : Hid (4294967295 - c = m) := by
        show _ = _
        rw [← HM.out, more, ← HC0.out, HR.out, List.take_of_length_le (by rw [← HL.out]; omega)]
      have hn : (4294967295 : Int) - (c : Int) = (m : Int) := by have := HM'.out; omega
      go_wp2_with fail
      go_ret
      exact ⟨rfl, Fr.refl _ _⟩

set_option maxHeartbeats 2000000 in
theorem refCrc_any (m : Nat) (ao : Option Addr) (L cap : Nat) (xs : List Nat) (w : World) (hA : BArg w ao L cap xs) (hm : more 0 xs = m) :
    Calls Tryz.prog 48 #[.slice ao L cap] w fun e w' => e = .returned (.int .u32 (m : Int)) ∧ Fr [] w w' := by
  go_enter Tryz.func48, Tryz.ntmps48
  go_wp2_with fail
  refine (refMore_any 0 m ao L cap xs w (by omega) hA hm).mono ?_
  rintro e w1 ⟨rfl, hF1⟩
  go_wp2_with fail
  go_ret
  exact ⟨rfl, hF1⟩
end Go.Proofs.YtaefninikmaiiaaGreatDoor
/- An append to a row of one's own, told sharply; rows of one's own. Conditions as each lemma names them. -/
namespace Go.Proofs.YtaefninikmaiiaaGreatDoor
open Go.ChangeShapes Go.WideShapes Go.ChangeAt Go.RowKit Go.Lib

/-- Where a row of one's own lies behind an append: where it lay (its block alone may differ), or in a new block (no old one differs). -/
def Went (w : World) (v : Value) (g : Nat) (w' : World) : Prop := (v.ownBlock = some g ∧ w.grownBy w' (some g)) ∨ (w.heap.size ≤ g ∧ w.grownBy w' none)
theorem Went.fr {w w' : World} {v : Value} {g : Nat} (h : Went w v g w') : Fr v.ownBlock.toList w w' := by
  rcases h with ⟨h1, h2⟩ | ⟨_, h2⟩
  · refine Fr.grown h2 ?_
    intro k hk _
    cases hk
    simp [h1]
  · exact Fr.grown h2 (by simp)
theorem Went.moved {w w' : World} {v : Value} {g n cap : Nat} (h : Went w v g w') : Moved w.heap.size v (.slice (some ⟨g, 0, none⟩) n cap) := by
  rcases h with ⟨h1, _⟩ | ⟨h1, _⟩
  · exact Or.inl (by rw [h1]; rfl)
  · exact Or.inr ⟨g, rfl, h1⟩

section
variable {P : Program} (w : World)
theorem run_app_sharp (t ty e : TypeId) (i : TypeInfo) (z : Value) (size bytes : Nat) (ht : P.underlying t = some (.slice e)) (hi : P.info? e = some i) (hz : i.zero = some z)
    (hsize : i.size = size) (hby : i.bytes = bytes) (hzs : z.cells.size = size) (hsz : 0 < size)
    (v : Value) (n : Nat) (xs : List Value) (hown : w.ownsRow 0 e size v n xs)
    (a : Addr) (m c : Nat) (news : List Value) (hm : 0 < m) (hl : news.length = m * size) (hnews : ∀ j u, news[j]? = some u → w.cell? (a.add j) = some u) (h1 : ∀ u ∈ news, u.oneCell' = true)
    (h63 : n + m ≤ maxLen) (hbytes : (n + m) * bytes ≤ 140737488355328) :
    ∃ g cap w', (Builtin.append_ #[t, t] ty #[v, .slice (some a) m c]).run P w = .ok (.slice (some ⟨g, 0, none⟩) (n + m) cap) w' ∧ w'.ownsRow 0 e size (.slice (some ⟨g, 0, none⟩) (n + m) cap) (n + m) (xs ++ news) ∧ Went w v g w' := by
  obtain ⟨v', w', hr, h2, h3, h4⟩ := run_append_own (P := P) w 0 t ty e i z size bytes ht hi hz hsize hby hzs hsz v n xs hown a m c news hl hnews h1 h63 hbytes (Nat.zero_le _)
  obtain ⟨g, cap, rfl⟩ : ∃ g cap, v' = .slice (some ⟨g, 0, none⟩) (n + m) cap := by
    rcases h2.2 with ⟨_, hh⟩ | ⟨g, cap', _, hh, _⟩
    · omega
    · exact ⟨g, cap', hh⟩
  refine ⟨g, cap, w', hr, h2, ?_⟩
  subst hsize
  subst hby
  have hsmall : n + m ≤ 9223372036854775807 := by simp only [maxLen] at h63; omega
  rcases hown.2 with ⟨rfl, rfl⟩ | ⟨g0, cap0, cur, rfl, hbg, hg, hnc, hcm, hcs, htake⟩
  · have hr2 := run_append_nil (P := P) w t ty e i z ht hi hz a m c news hl hnews (by omega) (by omega) (by have hb := hbytes; simp only [Nat.zero_add] at hb; omega)
    rw [hr] at hr2
    injection hr2 with e1 e2
    simp only [Value.slice.injEq, Option.some.injEq, Addr.mk.injEq] at e1
    obtain ⟨⟨rfl, _⟩, _⟩ := e1
    subst e2
    exact Or.inr ⟨Nat.le_refl _, ⟨rfl, rfl, rfl, by simp, fun k hk _ => Below.heap_alloc w.drew _ _ hk⟩⟩
  · by_cases hroom : n + m ≤ cap0
    · have hfit : n * i.size + news.length ≤ cur.size := by rw [hl, hcs, ← Nat.add_mul]; exact Nat.mul_le_mul_right _ hroom
      have hr2 := run_append_room (P := P) w t ty e i ht hi g0 n cap0 cur hg a m c news hl hnews h1 hroom hfit
      rw [hr] at hr2
      cases hr2
      exact Or.inl ⟨rfl, h3⟩
    · have holds : ∀ j u, xs[j]? = some u → w.cell? ((⟨g0, 0, none⟩ : Addr).add j) = some u := hown.cells (g := g0) rfl
      have hr2 := run_append_grow (P := P) w t ty e i z ht hi hz ⟨g0, 0, none⟩ n cap0 xs hown.1 holds a m c news hl hnews (by omega) (by omega) (growslice_fits (by omega) hbytes)
      rw [hr] at hr2
      cases hr2
      exact Or.inr ⟨Nat.le_refl _, ⟨rfl, rfl, rfl, by simp, fun k hk _ => Below.heap_alloc w.drew _ _ hk⟩⟩

/-- One more element behind a row of one's own. -/
theorem wpList_app {ops : Array Oper} {rest : List Oper} {o : Oper} {a : Act} {Q : Exit → Act → World → Prop} (hgd : o.guard = none) (s x : Operand) (t : TypeId)
    (ho : o.op = .call { callee := .builtin .append, args := #[s, x], argTypes := #[t, t] })
    (e : TypeId) (i : TypeInfo) (z : Value) (size bytes : Nat) (ht : P.underlying t = some (.slice e)) (hi : P.info? e = some i) (hz : i.zero = some z)
    (hsize : i.size = size) (hby : i.bytes = bytes) (hzs : z.cells.size = size) (hsz : 0 < size)
    (v : Value) (n : Nat) (xs : List Value) (hs : a.eval s = v) (hown : w.ownsRow 0 e size v n xs)
    (ad : Addr) (c : Nat) (news : List Value) (hx : a.eval x = .slice (some ad) 1 c) (hl : news.length = size) (hnews : ∀ j u, news[j]? = some u → w.cell? (ad.add j) = some u) (h1 : ∀ u ∈ news, u.oneCell' = true)
    (hbytes : (n + 1) * bytes ≤ 140737488355328) (h63 : n + 1 ≤ maxLen)
    (h : ∀ g cap w', w'.ownsRow 0 e size (.slice (some ⟨g, 0, none⟩) (n + 1) cap) (n + 1) (xs ++ news) → Went w v g w' → wpList P ops Q rest (a.put o.dst (.slice (some ⟨g, 0, none⟩) (n + 1) cap)) w') : wpList P ops Q (o :: rest) a w := by
  refine wpList_plain hgd fun K hK => ?_
  obtain ⟨g, cap, w', hr, h2, h3⟩ := run_app_sharp (P := P) w t o.type e i z size bytes ht hi hz hsize hby hzs hsz v n xs hown ad 1 c news (by omega) (by omega) hnews h1 h63 hbytes
  unfold Oper.wp execOp
  simp only [ho, resolve, invoke, builtin, Sem.run_bind, Sem.run_pure, Result.andThen_ok, List.map_toArray, List.map_cons, List.map_nil, hs, hx, hr]
  exact hK _ _ (h g cap w' h2 h3)

/-- The same as one step of a region that draws its order. -/
theorem step_app {ops : Array Oper} {o : Oper} {a : Act} {K : Act → World → Prop} {Q : Exit → Act → World → Prop} {E : Prop} (hg : o.guard = none) (s x : Operand) (t : TypeId)
    (ho : o.op = .call { callee := .builtin .append, args := #[s, x], argTypes := #[t, t] })
    (e : TypeId) (i : TypeInfo) (z : Value) (size bytes : Nat) (ht : P.underlying t = some (.slice e)) (hi : P.info? e = some i) (hz : i.zero = some z)
    (hsize : i.size = size) (hby : i.bytes = bytes) (hzs : z.cells.size = size) (hsz : 0 < size)
    (v : Value) (n : Nat) (xs : List Value) (hs : a.eval s = v) (hown : w.ownsRow 0 e size v n xs)
    (ad : Addr) (c : Nat) (news : List Value) (hx : a.eval x = .slice (some ad) 1 c) (hl : news.length = size) (hnews : ∀ j u, news[j]? = some u → w.cell? (ad.add j) = some u) (h1 : ∀ u ∈ news, u.oneCell' = true)
    (hbytes : (n + 1) * bytes ≤ 140737488355328) (h63 : n + 1 ≤ maxLen)
    (h : ∀ g cap w', w'.ownsRow 0 e size (.slice (some ⟨g, 0, none⟩) (n + 1) cap) (n + 1) (xs ++ news) → Went w v g w' → K (a.put o.dst (.slice (some ⟨g, 0, none⟩) (n + 1) cap)) w') :
    if Region.wanted o (yielded ops a.tmps) = true then Oper.wp P o a w K Q else E := by
  have hw : Region.wanted o (yielded ops a.tmps) = true := by simp [Region.wanted, hg]
  rw [if_pos hw]
  obtain ⟨g, cap, w', hr, h2, h3⟩ := run_app_sharp (P := P) w t o.type e i z size bytes ht hi hz hsize hby hzs hsz v n xs hown ad 1 c news (by omega) (by omega) hnews h1 h63 hbytes
  unfold Oper.wp execOp
  simp only [ho, resolve, invoke, builtin, Sem.run_bind, Sem.run_pure, Result.andThen_ok, List.map_toArray, List.map_cons, List.map_nil, hs, hx, hr]
  exact h g cap w' h2 h3
end

theorem own_put {w : World} {e : TypeId} {g n cap size : Nat} {vs : List Value} (h : w.ownsRow 0 e size (.slice (some ⟨g, 0, none⟩) n cap) n vs) (j : Nat) (x : Value) :
    (w.setCell ⟨g, j, none⟩ x).ownsRow 0 e size (.slice (some ⟨g, 0, none⟩) n cap) n (vs.set j x) := by
  have hl := h.1
  rcases h.2 with ⟨hh, _⟩ | ⟨g', cap', cur, hh, hb, hg, hnc, hcm, hcs, ht⟩
  · cases hh
  · cases hh
    refine ⟨by rw [List.length_set]; exact hl, .inr ⟨g, cap, cur.setIfInBounds j x, rfl, hb, row_setCell x hg, hnc, hcm, by simpa using hcs, ?_⟩⟩
    rw [Array.toList_setIfInBounds, List.take_set, ht]
theorem own_free {w : World} {e : TypeId} {g n cap size : Nat} {vs : List Value} (h : w.ownsRow 0 e size (.slice (some ⟨g, 0, none⟩) n cap) n vs) (j : Nat) : w.frozen? ⟨g, j, none⟩ = false := by
  rcases h.2 with ⟨hh, _⟩ | ⟨g', cap', cur, hh, hb, hg, _⟩
  · cases hh
  · cases hh
    simp [World.frozen?, hg]
theorem own_type {w : World} {e : TypeId} {size : Nat} {v : Value} {n : Nat} {vs : List Value} (h : w.ownsRow 0 e size v n vs) : ∀ k, v.ownBlock = some k → ∃ cs, w.heap[k]? = some (.cells cs e (0, 0)) := by
  intro k hk
  rcases h.2 with ⟨rfl, _⟩ | ⟨g', cap', cur, rfl, hb, hg, _⟩
  · simp [Value.ownBlock] at hk
  · simp [Value.ownBlock] at hk
    subst hk
    exact ⟨cur, hg⟩
theorem own_form {w : World} {e : TypeId} {size : Nat} {v : Value} {n : Nat} {vs : List Value} (h : w.ownsRow 0 e size v n vs) (h0 : 0 < n) : ∃ g cap, v = .slice (some ⟨g, 0, none⟩) n cap ∧ n ≤ cap := by
  rcases h.2 with ⟨_, hh⟩ | ⟨g', cap', cur, rfl, hb, hg, hn, _⟩
  · omega
  · exact ⟨g', cap', rfl, hn⟩
theorem own_slice {w : World} {e : TypeId} {size : Nat} {v : Value} {n : Nat} {vs : List Value} (h : w.ownsRow 0 e size v n vs) : ∃ ao cap, v = .slice ao n cap := by
  rcases h.2 with ⟨rfl, rfl⟩ | ⟨g', cap', cur, rfl, _⟩
  · exact ⟨none, 0, rfl⟩
  · exact ⟨_, _, rfl⟩

end Go.Proofs.YtaefninikmaiiaaGreatDoor
/- May a log be: contracts of inTurn, of the closure that it makes, of Check. Conditions as each names them. -/
namespace Go.Proofs.YtaefninikmaiiaaGreatDoor
open Go.ChangeShapes Go.WideShapes Go.ChangeAt Go.RowKit Go.Lib
set_option linter.unusedVariables false

/-- A variable in a block of its own. -/
structure Bv (w : World) (b : Nat) (t : TypeId) (v : Value) : Prop where
  box : w.heap[b]? = some (.cells #[v] t (0, 0))
theorem Bv.lt {w : World} {b : Nat} {t : TypeId} {v : Value} (h : Bv w b t v) : b < w.heap.size := lt_of_block h.box
theorem Bv.c {w : World} {b : Nat} {t : TypeId} {v : Value} (h : Bv w b t v) : w.cell? ⟨b, 0, none⟩ = some v := by simp [World.cell?, h.box]
theorem Bv.f {w : World} {b : Nat} {t : TypeId} {v : Value} (h : Bv w b t v) : w.frozen? ⟨b, 0, none⟩ = false := by simp [World.frozen?, h.box]
theorem Bv.keep {S : List Nat} {w w' : World} {b : Nat} {t : TypeId} {v : Value} (h : Bv w b t v) (hf : Fr S w w') (hn : b ∉ S) : Bv w' b t v := ⟨hf.keep h.box hn⟩
theorem Bv.set {w : World} {b : Nat} {t : TypeId} {v : Value} (h : Bv w b t v) (u : Value) : Bv (w.setCell ⟨b, 0, none⟩ u) b t u := by
  have := row_setCell (j := 0) u h.box
  exact ⟨by simpa using this⟩
theorem Bv.new (w : World) (t : TypeId) (v : Value) : Bv (w.alloc (.cells #[v] t)) w.heap.size t v := ⟨heap_alloc_new w _⟩

theorem inTurn_any (w : World) : Calls Tryz.prog 49 #[] w fun e w' => e = .returned (.func (Fn.func 112) #[] #[.pointer (some ⟨w.heap.size, 0, none⟩)]) ∧ w' = w.alloc (.cells #[.int .i64 1] 3) := by
  go_enter Tryz.func49, Tryz.ntmps49
  go_wp2
  go_ret
  exact ⟨rfl, rfl⟩

set_option maxHeartbeats 2000000 in
set_option maxRecDepth 100000 in
theorem turn1_no (b k c : Nat) (n : Int) (ao : Option Addr) (L cap : Nat) (ws : List Wt) (w : World) (hb : Bv w b 3 (.int .i64 (k : Int))) (ht : TArg w n ao L cap ws) (hk : k ≤ 140737488355329)
    (hc : (¬ okT n ws ∧ c = 1) ∨ (okT n ws ∧ n ≠ (k : Int) ∧ c = 6)) :
    Calls Tryz.prog 112 #[.agg #[.int .i64 n, .slice ao L cap], .pointer (some ⟨b, 0, none⟩)] w fun e w' => e = .returned (.int .i64 (c : Int)) ∧ Fr [] w w' := by
  have HL : Hid (L = ws.length) := ht.len
  have hn0 := ht.n0
  have hn1 := ht.n1
  have hF0 : Fr [] w (w.alloc (.cells #[.int .i64 n, .slice ao L cap] 63)) := Fr.alloc _ _ _
  have hW0 := ht.rs.keep hF0
  have hb0 := hb.keep hF0 (by simp)
  have c0 : (w.alloc (.cells #[.int .i64 n, .slice ao L cap] 63)).cell? ⟨w.heap.size, 0, none⟩ = some (.int .i64 n) := cell_of_row _ _ _ _ _ _ (heap_alloc_new w _)
  have hsz : w.heap.size < (w.alloc (.cells #[.int .i64 n, .slice ao L cap] 63)).heap.size := by simp
  obtain ⟨w0, HW0⟩ : ∃ w0, Hid (w.alloc (.cells #[.int .i64 n, .slice ao L cap] 63) = w0) := ⟨_, rfl⟩
  rw [HW0.out] at hF0 hW0 hb0 c0 hsz
  clear hb
  rcases hc with ⟨hno, rfl⟩ | ⟨hok, hne, rfl⟩
  · have HN : Hid (¬ okT n ws) := hno
    clear hno
    go_enter Tryz.func112, Tryz.ntmps112
    go_wp2_with fail
    rw [HW0.out]
    refine (check_any n ao L cap 1 ws _ hW0 HL.out hn0 hn1 (Or.inr ⟨HN.out, rfl⟩)).mono ?_
    rintro e w1 ⟨rfl, hF1⟩
    have hF := hF0.then hF1
    clear hF0 hF1 hW0
    go_wp2
    go_ret
    exact ⟨rfl, hF⟩
  · have HK : Hid (okT n ws) := hok
    have hnb : (n != (k : Int)) = true := by rw [bne_iff_ne]; exact hne
    clear hok
    go_enter Tryz.func112, Tryz.ntmps112
    go_wp2_with fail
    rw [HW0.out]
    refine (check_any n ao L cap 0 ws _ hW0 HL.out hn0 hn1 (Or.inl ⟨HK.out, rfl⟩)).mono ?_
    rintro e w1 ⟨rfl, hF1⟩
    have hF := hF0.then hF1
    have d0 : w1.cell? ⟨w.heap.size, 0, none⟩ = some (.int .i64 n) := (World.cell?_of_block (hF1.block _ hsz (by simp))).trans c0
    have d1 := (hb0.keep hF1 (by simp)).c
    clear hF0 hF1 hW0 hne
    go_wp2
    go_ret
    exact ⟨rfl, hF⟩

set_option maxHeartbeats 2000000 in
set_option maxRecDepth 100000 in
theorem turn1_ok (b k : Nat) (n : Int) (ao : Option Addr) (L cap : Nat) (ws : List Wt) (w : World) (hb : Bv w b 3 (.int .i64 (k : Int))) (ht : TArg w n ao L cap ws) (hk : k ≤ 140737488355329)
    (hok : okT n ws) (hn : n = (k : Int)) :
    Calls Tryz.prog 112 #[.agg #[.int .i64 n, .slice ao L cap], .pointer (some ⟨b, 0, none⟩)] w fun e w' => e = .returned (.int .i64 0) ∧ Bv w' b 3 (.int .i64 ((k + 1 : Nat) : Int)) ∧ Fr [b] w w' := by
  subst hn
  have HL : Hid (L = ws.length) := ht.len
  have hn0 := ht.n0
  have hn1 := ht.n1
  have HK : Hid (okT (k : Int) ws) := hok
  clear hok
  have hF0 : Fr [] w (w.alloc (.cells #[.int .i64 (k : Int), .slice ao L cap] 63)) := Fr.alloc _ _ _
  have hW0 := ht.rs.keep hF0
  have hb0 := hb.keep hF0 (by simp)
  have c0 : (w.alloc (.cells #[.int .i64 (k : Int), .slice ao L cap] 63)).cell? ⟨w.heap.size, 0, none⟩ = some (.int .i64 (k : Int)) := cell_of_row _ _ _ _ _ _ (heap_alloc_new w _)
  have hsz : w.heap.size < (w.alloc (.cells #[.int .i64 (k : Int), .slice ao L cap] 63)).heap.size := by simp
  obtain ⟨w0, HW0⟩ : ∃ w0, Hid (w.alloc (.cells #[.int .i64 (k : Int), .slice ao L cap] 63) = w0) := ⟨_, rfl⟩
  rw [HW0.out] at hF0 hW0 hb0 c0 hsz
  clear hb
  have hnb : ((k : Int) != (k : Int)) = false := by simp
  go_enter Tryz.func112, Tryz.ntmps112
  go_wp2_with fail
  rw [HW0.out]
  refine (check_any (k : Int) ao L cap 0 ws _ hW0 HL.out hn0 hn1 (Or.inl ⟨HK.out, rfl⟩)).mono ?_
  rintro e w1 ⟨rfl, hF1⟩
  have hF := hF0.then hF1
  have d0 : w1.cell? ⟨w.heap.size, 0, none⟩ = some (.int .i64 (k : Int)) := (World.cell?_of_block (hF1.block _ hsz (by simp))).trans c0
  have hb1 := hb0.keep hF1 (by simp)
  have d1 := hb1.c
  have d2 := hb1.f
  have hR : Bv (w1.setCell ⟨b, 0, none⟩ (.int .i64 ((k : Int) + 1))) b 3 (.int .i64 ((k + 1 : Nat) : Int)) := by
    have := hb1.set (.int .i64 ((k : Int) + 1))
    simpa using this
  have HR : Hid (_ ∧ Fr [b] w (w1.setCell ⟨b, 0, none⟩ (.int .i64 ((k : Int) + 1)))) := ⟨hR, (hF.mono (by simp)).then (Fr.set _ _ _ (by simp))⟩
  clear hF0 hF1 hW0 hb0 hR hb1 hF
  go_wp2
  go_ret
  exact ⟨rfl, HR.out⟩

theorem tdrop_cons (ts : List Tm) (i : Nat) (h : i < ts.length) : ts.drop i = ts.getD i Tm.zero :: ts.drop (i + 1) := by
  rw [List.drop_eq_getElem_cons h]
  simp [List.getD, h]
set_option maxHeartbeats 4000000 in
set_option maxRecDepth 100000 in
theorem lcheck_any (ao : Option Addr) (L cap c : Nat) (ts : List Tm) (w : World) (hT : TRs w ao ts) (hL : L = ts.length) (hc : Bad 1 (txs ts) c) :
    Calls Tryz.prog 12 #[.slice ao L cap] w fun e w' => e = .returned (.int .i64 (c : Int)) ∧ Fr [] w w' := by
  have HC : Hid (Bad 1 (txs ts) c) := hc
  have HL : Hid (L = ts.length) := hL
  have hLm : L ≤ 140737488355328 := by have := hT.few; omega
  clear hc hL
  have hF0 : Fr [] w (w.alloc (.cells #[.int .i64 1] 3)) := Fr.alloc _ _ _
  have hB0 : Bv (w.alloc (.cells #[.int .i64 1] 3)) w.heap.size 3 (.int .i64 ((1 : Nat) : Int)) := Bv.new w _ _
  go_enter Tryz.func12, Tryz.ntmps12
  go_wp2_with fail
  refine (inTurn_any _).mono ?_
  rintro e w0 ⟨rfl, HW0⟩
  rw [← HW0] at hF0 hB0
  obtain ⟨b, hb⟩ : ∃ b, b = w.heap.size := ⟨_, rfl⟩
  rw [← hb] at hB0 ⊢
  have hbw : w.heap.size ≤ b := by omega
  clear hb HW0
  go_wp2_with fail
  go_loopw [10] (fun ii wr => ∃ (i : Nat), ii = .int .i64 i ∧ i ≤ L ∧ Hid (Bad (1 + i) (txs (ts.drop i)) c) ∧ Bv wr b 3 (.int .i64 ((1 + i : Nat) : Int)) ∧ Fr [] w wr) (fun ii _ => L - (RowKit.intOf ii).toNat)
  case atStart => exact ⟨0, rfl, Nat.zero_le _, HC.out, hB0, hF0⟩
  case round =>
    obtain ⟨i, rfl, hiL, HE, hBi, hFr⟩ := hrel
    by_cases hi : i < L
    · have hi' : i < ts.length := by rw [← HL.out]; exact hi
      obtain ⟨bb, off, rfl, _, hc⟩ := (hT.keep hFr).lies (by omega)
      have hx := hc i hi'
      have hat := (hT.keep hFr).each _ (tgetD_mem ts i hi')
      obtain ⟨x, hxx⟩ : ∃ x, x = ts.getD i Tm.zero := ⟨_, rfl⟩
      rw [← hxx] at hx hat
      have HX : Hid (x = ts.getD i Tm.zero) := hxx
      clear hxx hc
      obtain ⟨n, ao, M, cm, ws⟩ := x
      obtain ⟨c0, c1⟩ := hx
      simp only at c0 c1
      have e1 := HE.out
      rw [tdrop_cons ts i hi', ← HX.out] at e1
      have hF1 : Fr [] wr (wr.alloc (.cells #[.int .i64 n, .slice ao M cm] 63)) := Fr.alloc _ _ _
      have hB1 := hBi.keep hF1 (by simp)
      have hat1 : TArg (wr.alloc (.cells #[.int .i64 n, .slice ao M cm] 63)) n ao M cm ws := TArg.keep hat hF1
      have hG := hFr.then hF1
      clear HE HC
      rcases e1 with ⟨h1, rfl⟩ | ⟨h1, h2, rfl⟩ | ⟨h1, h2, h3⟩
      · have HN : Hid (¬ okT n ws) := h1
        clear h1
        go_wp2_with fail
        refine (turn1_no b (1 + i) 1 n ao M cm ws _ hB1 hat1 (by omega) (Or.inl ⟨HN.out, rfl⟩)).mono ?_
        rintro e w2 ⟨rfl, hF2⟩
        have hG2 := hG.then hF2
        clear hG hF2 hB1 hat1 hF1
        go_wp2
        go_ret
        exact ⟨rfl, hG2⟩
      · have HN : Hid (okT n ws ∧ n ≠ ((1 + i : Nat) : Int)) := ⟨h1, h2⟩
        clear h1 h2
        go_wp2_with fail
        refine (turn1_no b (1 + i) 6 n ao M cm ws _ hB1 hat1 (by omega) (Or.inr ⟨HN.out.1, HN.out.2, rfl⟩)).mono ?_
        rintro e w2 ⟨rfl, hF2⟩
        have hG2 := hG.then hF2
        clear hG hF2 hB1 hat1 hF1
        go_wp2
        go_ret
        exact ⟨rfl, hG2⟩
      · have HN : Hid (okT n ws ∧ n = ((1 + i : Nat) : Int) ∧ Bad (1 + i + 1) (txs (ts.drop (i + 1))) c) := ⟨h1, h2, h3⟩
        clear h1 h2 h3
        go_wp2_with fail
        refine (turn1_ok b (1 + i) n ao M cm ws _ hB1 hat1 (by omega) HN.out.1 HN.out.2.1).mono ?_
        rintro e w2 ⟨rfl, hB2, hF2⟩
        have hG2 := hG.on hF2 (by intro x hx; simp at hx; omega)
        clear hG hF2 hB1 hat1 hF1
        go_wp2
        go_roundw
        case rel => exact ⟨i + 1, by simp, by omega, by show Bad _ _ _; rw [show 1 + (i + 1) = 1 + i + 1 by omega]; exact HN.out.2.2, by rw [show 1 + (i + 1) = 1 + i + 1 by omega]; exact hB2, hG2⟩
        case measure => simp [RowKit.intOf]; omega
    · have hc0 : c = 0 := by
        have e1 := HE.out
        rw [List.drop_eq_nil_of_le (by rw [← HL.out]; omega)] at e1
        exact e1
      subst hc0
      clear HC HE
      go_wp2
      go_ret
      exact ⟨rfl, hFr⟩
end Go.Proofs.YtaefninikmaiiaaGreatDoor
/- A log as bytes: contracts of CRC, put and Encode. Conditions as each names them. -/
namespace Go.Proofs.YtaefninikmaiiaaGreatDoor
open Go.ChangeShapes Go.WideShapes Go.ChangeAt Go.RowKit Go.Lib
set_option linter.unusedVariables false

theorem row_arg {w : World} {k N : Nat} {ys : List Nat} (h : w.heap[k]? = some (.cells (bts ys).toArray 5 (0, 0))) (hN : N = ys.length) (hl : ∀ y ∈ ys, y < 256) (hm : N < 2^40) : BArg w (some ⟨k, 0, none⟩) N N ys :=
  ⟨hN, hl, Nat.le_refl _, by omega, fun _ => ⟨k, 0, rfl, lt_of_block h, fun j hj => by rw [cell_of_row _ _ _ _ _ _ h, Nat.zero_add]; simpa using bts_get ys j (by omega)⟩⟩
theorem arg_take {w : World} {k N : Nat} {ys : List Nat} (h : BArg w (some ⟨k, 0, none⟩) N N ys) (m : Nat) (hm : m ≤ N) : BArg w (some ⟨k, 0, none⟩) m N (ys.take m) := by
  have hN := h.len
  refine ⟨by rw [List.length_take]; omega, fun x hx => h.low x (List.mem_of_mem_take hx), by have := h.fits; omega, by have := h.most; omega, fun h0 => ?_⟩
  obtain ⟨b, off, e, hb, hc⟩ := h.lies (by omega)
  refine ⟨b, off, e, hb, fun j hj => ?_⟩
  rw [hc j (by omega)]
  simp [List.getD, hj]

set_option maxHeartbeats 2000000 in
theorem crc_any (m : Nat) (ao : Option Addr) (L cap : Nat) (xs : List Nat) (w : World) (hA : BArg w ao L cap xs) (hm : crcN xs = m) :
    Calls Tryz.prog 106 #[.slice ao L cap] w fun e w' => e = .returned (.int .u32 (m : Int)) ∧ Fr [] w w' := by
  have HM : Hid (more 0 xs = m) := hm
  clear hm
  have hC := more_any 0 m ao L cap xs w (by omega) hA HM.out
  rw [show ((0 : Nat) : Int) = 0 from rfl] at hC
  go_enter Tryz.func106, Tryz.ntmps106
  go_wp2_with fail
  refine hC.mono ?_
  rintro e w1 ⟨rfl, hF⟩
  go_wp2
  go_ret
  exact ⟨rfl, hF⟩

theorem Wr.far {w : World} {g : Nat} {v : Value} {xs : List Nat} (h : Wr w g v xs) {k : Nat} (hk : w.heap.size ≤ k) : k ∉ Wr.own g v := by
  have h1 := h.lt
  intro hh
  simp only [Wr.own, List.mem_cons, Option.mem_toList] at hh
  rcases hh with hh | hh
  · omega
  · have := h.rowlt k hh; omega

set_option maxHeartbeats 4000000 in
set_option maxRecDepth 100000 in
theorem lput_any (g : Nat) (v : Value) (xs zs : List Nat) (n : Int) (ao : Option Addr) (L cap : Nat) (ws : List Wt) (w : World) (h : Wr w g v xs) (ht : TArg w n ao L cap ws) (hok : okT n ws) (hlen : xs.length < 2^39) (hz : zs = xs ++ encR ⟨n, ws⟩) :
    Calls Tryz.prog 42 #[.pointer (some ⟨g, 0, none⟩), .agg #[.int .i64 n, .slice ao L cap]] w fun e w' => e = .returned (.tuple #[]) ∧ ∃ v', Wr w' g v' zs ∧ Fr (Wr.own g v) w w' ∧ Moved w.heap.size v v' := by
  have HZ : Hid (zs = xs ++ encR ⟨n, ws⟩) := hz
  have HL : Hid (L = ws.length) := ht.len
  have HK : Hid (okT n ws) := hok
  have hyl : 2 ≤ (encT n.toNat ws).length ∧ (encT n.toNat ws).length ≤ 65000 := encT_length n.toNat ws (Tx.okN (t := ⟨n, ws⟩) hok)
  have hylt := encT_lt n.toNat ws
  obtain ⟨ys, hys⟩ : ∃ ys, ys = encT n.toNat ws := ⟨_, rfl⟩
  rw [← hys] at hyl hylt
  have HY : Hid (ys = encT n.toNat ws) := hys
  obtain ⟨N, hN⟩ : ∃ N, N = ys.length := ⟨_, rfl⟩
  have HN : Hid (N = ys.length) := hN
  have hN1 : N ≤ 65000 := by omega
  clear hz hok hys hyl hN
  have hF0 : Fr [] w (w.alloc (.cells #[.int .i64 n, .slice ao L cap] 63)) := Fr.alloc _ _ _
  have hW0 := ht.rs.keep hF0
  have h0 := h.keep hF0 (by simp) (by simp)
  have hs0 : w.heap.size ≤ (w.alloc (.cells #[.int .i64 n, .slice ao L cap] 63)).heap.size := hF0.size
  obtain ⟨w0, HW0⟩ : ∃ w0, Hid (w.alloc (.cells #[.int .i64 n, .slice ao L cap] 63) = w0) := ⟨_, rfl⟩
  rw [HW0.out] at hF0 hW0 h0 hs0
  go_enter Tryz.func42, Tryz.ntmps42
  go_wp2_with fail
  rw [HW0.out]
  refine (encode_ok n ao L cap N ws ys _ hW0 HL.out HK.out HY.out HN.out).mono ?_
  rintro e w1 ⟨k, rfl, hk, hrow, hF1⟩
  have h1 := h0.keep hF1 (by simp) (by simp)
  have hA1 := row_arg hrow HN.out hylt (by omega)
  have hconv : Sem.run Tryz.prog (convert 26 9 (.slice (some ⟨k, 0, none⟩) N N)) w1 = .ok (.string (toBA ys)) w1 := conv_eq w1 k 0 N N ys HN.out.symm (fun j hj => by
    obtain ⟨b, off, e, _, hc⟩ := hA1.lies (by omega)
    cases e
    exact hc j hj)
  have hG1 := hF0.then hF1
  have hk0 : k ∉ Wr.own g v := h0.far hk
  clear hA1 hF1 hF0 h0
  have hsz : (toBA ys).size < 2 ^ 40 := by have := HN.out; rw [toBA_size]; omega
  obtain ⟨s, hs⟩ : ∃ s, s = toBA ys := ⟨_, rfl⟩
  have HS : Hid (s = toBA ys) := hs
  rw [← hs] at hconv hsz
  clear hs
  go_wp2_with fail
  refine (text_any g v xs s _ h1 (by omega) hsz).mono ?_
  rintro e w2 ⟨rfl, v2, hW2, hF2, hM2⟩
  have hrow2 := hF2.keep hrow hk0
  have hA2 := row_arg hrow2 HN.out hylt (by omega)
  obtain ⟨_, hG2, hMM2⟩ := Wr.chain (hG1.mono (by simp) : Fr (Wr.own g v) w w1) (Moved.refl _ _) hW2 hF2 hM2
  obtain ⟨us, hus⟩ : ∃ us, us = xs ++ (enc s.size ++ strNs s) := ⟨_, rfl⟩
  have hul : us.length < 2^40 := by
    have := enc_length s.size
    rw [hus, List.length_append, List.length_append, strNs_length, HS.out, toBA_size]
    rw [HS.out, toBA_size] at this
    have := HN.out
    omega
  rw [← hus] at hW2
  have HU : Hid (us = xs ++ (enc s.size ++ strNs s)) := hus
  obtain ⟨m, hm⟩ : ∃ m, crcN ys = m := ⟨_, rfl⟩
  have hml : m < 4294967296 := by rw [← hm]; exact crcN_lt ys
  have HM : Hid (crcN ys = m) := hm
  have hfit : (m : Int) / 2 ^ (8 * (4 : Int)).toNat = 0 := by
    rw [show (8 * (4 : Int)).toNat = 32 from rfl]
    omega
  clear hus hm hconv hsz h1 hG1 hF2 hM2 hrow hrow2
  go_wp2_with fail
  refine (crc_any m (some ⟨k, 0, none⟩) N N ys _ hA2 HM.out).mono ?_
  rintro e w3 ⟨rfl, hF3⟩
  have hW3 := hW2.keep hF3 (by simp) (by simp)
  have hG3 := hG2.then (hF3.mono (by simp))
  have hMM3 := hMM2
  clear hA2 hF3 hW2 hG2
  go_wp2_with fail
  refine (fixed_any g v2 us (m : Int) 4 _ hW3 (by omega) (by omega) (by decide) (by decide) hfit hul).mono ?_
  rintro e w4 ⟨rfl, v4, hW4, hF4, hM4⟩
  have R := Wr.chain hG3 hMM3 hW4 hF4 hM4
  have HE : Hid (zs = us ++ leB (4 : Int).toNat (m : Int).toNat) := by
    show _ = _
    rw [HZ.out, HU.out]
    unfold encR encB
    rw [← HY.out, HM.out, HS.out, toBA_size, strNs_toBA ys hylt, Int.toNat_natCast]
    simp only [List.append_assoc]
    rfl
  clear hW4 hF4 hM4 hW3
  go_wp2
  go_end0
  rw [HE.out]
  exact ⟨rfl, v4, R⟩

/-- Bytes that were handed out: none, or a row of their own made since w. -/
structure Hand (w w' : World) (ao : Option Addr) (ys : List Nat) : Prop where
  nil : ys.length = 0 → ao = none
  row : 0 < ys.length → ∃ k, ao = some ⟨k, 0, none⟩ ∧ w.heap.size ≤ k ∧ w'.heap[k]? = some (.cells (bts ys).toArray 5 (0, 0))
theorem Hand.arg {w w' : World} {ao : Option Addr} {ys : List Nat} {N : Nat} (h : Hand w w' ao ys) (hN : N = ys.length) (hl : ∀ y ∈ ys, y < 256) (hm : N < 2^40) : BArg w' ao N N ys := by
  by_cases h0 : 0 < ys.length
  · obtain ⟨k, rfl, _, hr⟩ := h.row h0
    exact row_arg hr hN hl hm
  · obtain rfl := h.nil (by omega)
    exact ⟨hN, hl, Nat.le_refl _, by omega, fun h1 => by omega⟩
theorem Hand.keep {S : List Nat} {w w1 w2 : World} {ao : Option Addr} {ys : List Nat} (h : Hand w w1 ao ys) (hf : Fr S w1 w2) (hS : ∀ x ∈ S, x < w.heap.size) : Hand w w2 ao ys := by
  refine ⟨h.nil, fun h0 => ?_⟩
  obtain ⟨k, e, hk, hr⟩ := h.row h0
  exact ⟨k, e, hk, hf.keep hr (fun hh => by have := hS k hh; omega)⟩
theorem Hand.since {w w1 w' : World} {ao : Option Addr} {ys : List Nat} (h : Hand w1 w' ao ys) (hs : w.heap.size ≤ w1.heap.size) : Hand w w' ao ys := by
  refine ⟨h.nil, fun h0 => ?_⟩
  obtain ⟨k, e, hk, hr⟩ := h.row h0
  exact ⟨k, e, by omega, hr⟩

set_option maxHeartbeats 4000000 in
set_option maxRecDepth 100000 in
theorem lencode_no (ao : Option Addr) (L cap c : Nat) (ts : List Tm) (w : World) (hT : TRs w ao ts) (hL : L = ts.length) (hc : Bad 1 (txs ts) c) (hc0 : c ≠ 0) :
    Calls Tryz.prog 10 #[.slice ao L cap] w fun e w' => e = .returned (.tuple #[.slice none 0 0, .int .i64 (c : Int)]) ∧ Fr [] w w' := by
  have HC : Hid (Bad 1 (txs ts) c) := hc
  have HL : Hid (L = ts.length) := hL
  have hcb : ((c : Int) != 0) = true := by rw [bne_iff_ne]; omega
  clear hc hL hc0
  go_enter Tryz.func10, Tryz.ntmps10
  go_wp2_with fail
  refine (lcheck_any ao L cap c ts _ hT HL.out HC.out).mono ?_
  rintro e w1 ⟨rfl, hF1⟩
  go_wp2
  go_ret2
  exact ⟨rfl, hF1⟩

set_option maxHeartbeats 8000000 in
set_option maxRecDepth 100000 in
theorem lencode_ok (ao : Option Addr) (L cap N : Nat) (ts : List Tm) (ys : List Nat) (w : World) (hT : TRs w ao ts) (hL : L = ts.length) (hok : okL 1 (txs ts)) (hys : ys = encL (txs ts)) (hN : N = ys.length) :
    Calls Tryz.prog 10 #[.slice ao L cap] w fun e w' => ∃ ro, e = .returned (.tuple #[.slice ro N N, .int .i64 0]) ∧ Hand w w' ro ys ∧ Fr [] w w' := by
  have HK : Hid (okL 1 (txs ts)) := hok
  have HL : Hid (L = ts.length) := hL
  have HY : Hid (ys = encL (txs ts)) := hys
  have HN : Hid (N = ys.length) := hN
  have hL2 : L ≤ 65536 := by have := okL_few hok; rw [txs_length] at this; omega
  have hyl : ys.length < 2 ^ 33 := by rw [hys]; exact encL_few hok
  have hN2 : N < 2 ^ 33 := by omega
  clear hok hL hys hN
  go_enter Tryz.func10, Tryz.ntmps10
  go_wp2_with fail
  refine (lcheck_any ao L cap 0 ts _ hT HL.out (okL_bad HK.out)).mono ?_
  rintro e w1 ⟨rfl, hF1⟩
  go_wp2_with fail
  refine (newWriter_wr w w1 hF1).mono ?_
  rintro e w2 ⟨g, rfl, hg, hB2, hF2⟩
  clear hF2 hF1 hg
  go_wp2_with fail
  go_loopw [16] (fun ii wr => ∃ (i : Nat) (v : Value) (us : List Nat), ii = .int .i64 i ∧ i ≤ L ∧ Hid (us = encL (txs (ts.take i))) ∧ WB w wr g v us) (fun ii _ => L - (RowKit.intOf ii).toNat)
  case atStart => exact ⟨0, _, [], rfl, Nat.zero_le _, by simp [Hid, encL, txs], hB2⟩
  case round =>
    obtain ⟨i, v, us, rfl, hiL, HU, hB⟩ := hrel
    by_cases hi : i < L
    · have hi' : i < ts.length := by rw [← HL.out]; exact hi
      obtain ⟨bb, off, rfl, _, hc⟩ := (hT.keep hB.fr).lies (by omega)
      have hx := hc i hi'
      have hat := (hT.keep hB.fr).each _ (tgetD_mem ts i hi')
      have hokx := (okL_get HK.out i (by rw [txs_length]; exact hi')).1
      rw [txs_getD] at hokx
      have hul : us.length ≤ 65100 * i := by
        have a := (encL_length (l := txs (ts.take i)) (by rw [← txs_take]; exact okL_mem (okL_take HK.out i))).2
        rw [txs_length, List.length_take] at a
        rw [HU.out]
        have : 65100 * min i ts.length ≤ 65100 * i := Nat.mul_le_mul_left _ (Nat.min_le_left _ _)
        omega
      have HU2 : Hid (us ++ encR (ts.getD i Tm.zero).tx = encL (txs (ts.take (i + 1)))) := by
        show _ = _
        rw [ttake_snoc ts i hi', txs_append, HU.out]
        exact (encL_snoc _ _).symm
      obtain ⟨x, hxx⟩ : ∃ x, x = ts.getD i Tm.zero := ⟨_, rfl⟩
      rw [← hxx] at hx hat hokx HU2
      clear hxx hc
      obtain ⟨n, ao, M, cm, ws⟩ := x
      obtain ⟨c0, c1⟩ := hx
      simp only at c0 c1
      have hF3 : Fr [] wr (wr.alloc (.cells #[.int .i64 n, .slice ao M cm] 63)) := Fr.alloc _ _ _
      have hB3 := hB.quiet hF3
      have hat3 : TArg (wr.alloc (.cells #[.int .i64 n, .slice ao M cm] 63)) n ao M cm ws := TArg.keep hat hF3
      have HK3 : Hid (okT n ws) := hokx
      clear hokx hat hF3
      go_wp2_with fail
      refine (lput_any g v us _ n ao M cm ws _ hB3.wr hat3 HK3.out (by omega) rfl).mono ?_
      rintro e w5 ⟨rfl, v5, hW5, hF5, hM5⟩
      have hB5 := hB3.next hW5 hF5 hM5
      clear hW5 hF5 hM5 hB3 hat3 hB
      go_wp2
      go_roundw
      case rel => exact ⟨i + 1, v5, _, by simp, by omega, HU2, hB5⟩
      case measure => simp [RowKit.intOf]; omega
    · have HU3 : Hid (us = ys) := by
        show us = ys
        rw [HU.out, HY.out, List.take_of_length_le (by rw [← HL.out]; omega)]
      have hB' : WB w wr g v ys := HU3.out ▸ hB
      have hs := hB.fr.size
      by_cases h0 : 0 < ys.length
      · go_wp2_with fail
        refine (done_some g v ys _ hB'.wr h0 (by omega)).mono ?_
        rintro e w5 ⟨rfl, hrow, hF5⟩
        rw [← HN.out]
        go_wp2
        go_ret2
        exact ⟨_, rfl, ⟨fun h1 => by omega, fun _ => ⟨_, rfl, hs, hrow⟩⟩, hB'.fr.then hF5⟩
      · have hy0 : ys = [] := List.eq_nil_of_length_eq_zero (by omega)
        have hN0 : N = 0 := by have := HN.out; omega
        have hW5 : Wr wr g v [] := hy0 ▸ hB'.wr
        have hFF := hB'.fr
        clear hB hB' HU3 HU
        subst hN0
        go_wp2_with fail
        refine (done_none g v _ hW5).mono ?_
        rintro e w5 ⟨rfl, rfl⟩
        go_wp2
        go_ret2
        exact ⟨none, rfl, ⟨fun _ => rfl, fun h1 => absurd h1 h0⟩, hFF⟩
end Go.Proofs.YtaefninikmaiiaaGreatDoor
/- A record taken off a reader: contracts of the gates, of the closures, of takeRecord. Conditions: the reader is one of NewReader with nothing wrong. -/
namespace Go.Proofs.YtaefninikmaiiaaGreatDoor
open Go.ChangeShapes Go.WideShapes Go.ChangeAt Go.RowKit Go.Lib
set_option linter.unusedVariables false

theorem conv_bytes (s : ByteArray) (w : World) (hs : s.size ≤ 1099511627776) : ∃ cap w', Sem.run Tryz.prog (convert 9 26 (.string s)) w = .ok (.slice (some ⟨w.heap.size, 0, none⟩) s.size cap) w' ∧ BArg w' (some ⟨w.heap.size, 0, none⟩) s.size cap (strNs s) ∧ Fr [] w w' := by
  have hr := Lib.run_convert_string_bytes (P := Tryz.prog) w 9 26 5 s Tryz.undStr Tryz.undBs Tryz.undB
  refine ⟨_, _, hr, ⟨(strNs_length s).symm, strNs_lt s, grownCap_ge _ _ _ _, by omega, fun h0 => ⟨w.heap.size, 0, rfl, ?_, fun j hj => ?_⟩⟩, ?_⟩
  · rw [Lib.bytesWorld_size]; omega
  · rw [Nat.zero_add, Lib.bytesWorld_cell w _ s j hj]
    simp only [strNs, List.getD, List.getElem?_map]
    cases s.data.toList[j]? <;> rfl
  · refine ⟨?_, ?_, ?_, by rw [Lib.bytesWorld_size]; omega, fun k hk _ => Lib.bytesWorld_at_old w _ s k hk⟩ <;> simp [Lib.bytesWorld, World.freeze, World.alloc, World.drew, -World.alloc_eq, -World.drew_eq]

set_option maxHeartbeats 2000000 in
set_option maxRecDepth 100000 in
theorem lgateS_wrong (p : Value) (g r c : Nat) (xs : List Nat) (ao : Option Addr) (cap : Nat) (w : World) (h : Rd w g r xs 0 ao cap) (hc : c ≠ 0) (hD : Dn 163 #[p] w (.string ⟨#[]⟩) g r xs c) :
    Dn 162 #[.pointer (some ⟨g, 0, none⟩), .func (Fn.func 163) #[] #[p]] w (.tuple #[.string ⟨#[]⟩, .int .i64 (c : Int)]) g r xs c := by
  show Calls _ _ _ _ _
  have HE : Hid (endOf c xs.length = c) := endOf_wrong _ _ hc
  clear hc
  obtain ⟨L, hL⟩ : ∃ L, L = xs.length := ⟨_, rfl⟩
  have HL : Hid (L = xs.length) := hL
  have hl1 := left_any g r xs 0 ao cap w h
  rw [← hL] at hl1
  clear hL
  go_enter Tryz.func162, Tryz.ntmps162
  go_wp2_with fail
  refine hl1.mono ?_
  rintro e w1 ⟨rfl, rfl⟩
  go_wp2_with fail
  refine hD.calls.mono ?_
  rintro e w1 ⟨rfl, ao1, cap1, hR1, hF1⟩
  have hl2 := left_any g r xs c ao1 cap1 w1 hR1
  have hl3 := end_any g r xs c ao1 cap1 w1 hR1
  rw [← HL.out] at hl2
  rw [HE.out] at hl3
  have HF : Hid (Fr [g] w w1) := hF1
  clear hF1 hD
  go_wp2_with fail
  refine hl2.mono ?_
  rintro e w2 ⟨rfl, rfl⟩
  go_wp2_with fail
  refine hl3.mono ?_
  rintro e w2 ⟨rfl, rfl⟩
  go_wp2
  go_ret2
  exact ⟨rfl, ao1, cap1, hR1, HF.out⟩
set_option maxHeartbeats 2000000 in
set_option maxRecDepth 100000 in
theorem lgateS_good (p : Value) (g r : Nat) (v : ByteArray) (xs ys : List Nat) (ao : Option Addr) (cap : Nat) (w : World) (h : Rd w g r xs 0 ao cap) (hlt : ys.length < xs.length) (hD : Dn 163 #[p] w (.string v) g r ys 0) :
    Dn 162 #[.pointer (some ⟨g, 0, none⟩), .func (Fn.func 163) #[] #[p]] w (.tuple #[.string v, .int .i64 0]) g r ys 0 := by
  show Calls _ _ _ _ _
  obtain ⟨L, hL⟩ : ∃ L, L = xs.length := ⟨_, rfl⟩
  obtain ⟨M, hM⟩ : ∃ M, M = ys.length := ⟨_, rfl⟩
  have hlb : ((M : Int) == L) = false := by rw [beq_eq_false_iff_ne]; omega
  have HM : Hid (M = ys.length) := hM
  have hl1 := left_any g r xs 0 ao cap w h
  rw [← hL] at hl1
  clear hL hM hlt
  go_enter Tryz.func162, Tryz.ntmps162
  go_wp2_with fail
  refine hl1.mono ?_
  rintro e w1 ⟨rfl, rfl⟩
  go_wp2_with fail
  refine hD.calls.mono ?_
  rintro e w1 ⟨rfl, ao1, cap1, hR1, hF1⟩
  have hl2 := left_any g r ys 0 ao1 cap1 w1 hR1
  rw [← HM.out] at hl2
  have HF : Hid (Fr [g] w w1) := hF1
  clear hF1 hD
  go_wp2_with fail
  refine hl2.mono ?_
  rintro e w2 ⟨rfl, rfl⟩
  go_wp2
  go_ret2
  exact ⟨rfl, ao1, cap1, hR1, HF.out⟩

set_option maxHeartbeats 1000000 in
theorem tr1_any (g r bx : Nat) (xs : List Nat) (ao : Option Addr) (cap : Nat) (w : World) (h : Rd w g r xs 0 ao cap) (hb : w.cell? ⟨bx, 0, none⟩ = some (.pointer (some ⟨g, 0, none⟩))) :
    Dn 163 #[.pointer (some ⟨bx, 0, none⟩)] w (.string (rdBy (textF 65536) ⟨#[]⟩ xs 0).1) g r (rdBy (textF 65536) ⟨#[]⟩ xs 0).2.1 (rdBy (textF 65536) ⟨#[]⟩ xs 0).2.2 := by
  show Calls _ _ _ _ _
  have hC := rText_any g r xs 0 ao cap 65536 _ h (by decide) (by decide)
  obtain ⟨R, hR⟩ : ∃ R, R = rdBy (textF 65536) ⟨#[]⟩ xs 0 := ⟨_, rfl⟩
  rw [← hR] at hC ⊢
  clear hR
  obtain ⟨R1, R2, R3⟩ := R
  simp only at hC ⊢
  go_enter Tryz.func163, Tryz.ntmps163
  go_wp2_with fail
  refine hC.mono ?_
  rintro e w1 ⟨rfl, hX⟩
  go_wp2
  go_ret
  exact ⟨rfl, hX⟩
theorem ltakeS_any (g r : Nat) (xs : List Nat) (ao : Option Addr) (cap : Nat) (w : World) (h : Rd w g r xs 0 ao cap) (bx : Nat) (hb : w.cell? ⟨bx, 0, none⟩ = some (.pointer (some ⟨g, 0, none⟩))) :
    (∃ c, c ≠ 0 ∧ tk (textF 65536) refV xs = .error c ∧ Dn 162 #[.pointer (some ⟨g, 0, none⟩), .func (Fn.func 163) #[] #[.pointer (some ⟨bx, 0, none⟩)]] w (.tuple #[.string ⟨#[]⟩, .int .i64 (c : Int)]) g r xs c) ∨
    (∃ v ys, tk (textF 65536) refV xs = .ok (v, ys) ∧ ys.length < xs.length ∧ Dn 162 #[.pointer (some ⟨g, 0, none⟩), .func (Fn.func 163) #[] #[.pointer (some ⟨bx, 0, none⟩)]] w (.tuple #[.string v, .int .i64 0]) g r ys 0) := by
  have hD := tr1_any g r bx xs ao cap w h hb
  rcases tk_split (textF 65536) refV ⟨#[]⟩ xs (text_pos 65536 xs) with ⟨c, hc, h1, h2⟩ | ⟨v, ys, h1, hc, hv, hl, h2⟩ | ⟨v, ys, h1, hc, hv, hl, h2⟩
  · rw [h2] at hD
    exact Or.inl ⟨c, hc, h1, lgateS_wrong _ g r c xs ao cap w h hc hD⟩
  · exact absurd rfl hc
  · rw [h2] at hD
    exact Or.inr ⟨v, ys, h1, hl, lgateS_good _ g r v xs ys ao cap w h hl hD⟩

set_option maxHeartbeats 2000000 in
set_option maxRecDepth 100000 in
theorem lgateU_wrong (p : Value) (g r c : Nat) (xs : List Nat) (ao : Option Addr) (cap : Nat) (w : World) (h : Rd w g r xs 0 ao cap) (hc : c ≠ 0) (hD : Dn 166 #[p] w (.int .u64 0) g r xs c) :
    Dn 165 #[.pointer (some ⟨g, 0, none⟩), .func (Fn.func 166) #[] #[p]] w (.tuple #[.int .u64 0, .int .i64 (c : Int)]) g r xs c := by
  show Calls _ _ _ _ _
  have HE : Hid (endOf c xs.length = c) := endOf_wrong _ _ hc
  clear hc
  obtain ⟨L, hL⟩ : ∃ L, L = xs.length := ⟨_, rfl⟩
  have HL : Hid (L = xs.length) := hL
  have hl1 := left_any g r xs 0 ao cap w h
  rw [← hL] at hl1
  clear hL
  go_enter Tryz.func165, Tryz.ntmps165
  go_wp2_with fail
  refine hl1.mono ?_
  rintro e w1 ⟨rfl, rfl⟩
  go_wp2_with fail
  refine hD.calls.mono ?_
  rintro e w1 ⟨rfl, ao1, cap1, hR1, hF1⟩
  have hl2 := left_any g r xs c ao1 cap1 w1 hR1
  have hl3 := end_any g r xs c ao1 cap1 w1 hR1
  rw [← HL.out] at hl2
  rw [HE.out] at hl3
  have HF : Hid (Fr [g] w w1) := hF1
  clear hF1 hD
  go_wp2_with fail
  refine hl2.mono ?_
  rintro e w2 ⟨rfl, rfl⟩
  go_wp2_with fail
  refine hl3.mono ?_
  rintro e w2 ⟨rfl, rfl⟩
  go_wp2
  go_ret2
  exact ⟨rfl, ao1, cap1, hR1, HF.out⟩
set_option maxHeartbeats 2000000 in
set_option maxRecDepth 100000 in
theorem lgateU_good (p : Value) (g r : Nat) (v : Nat) (xs ys : List Nat) (ao : Option Addr) (cap : Nat) (w : World) (h : Rd w g r xs 0 ao cap) (hlt : ys.length < xs.length) (hD : Dn 166 #[p] w (.int .u64 (v : Int)) g r ys 0) :
    Dn 165 #[.pointer (some ⟨g, 0, none⟩), .func (Fn.func 166) #[] #[p]] w (.tuple #[.int .u64 (v : Int), .int .i64 0]) g r ys 0 := by
  show Calls _ _ _ _ _
  obtain ⟨L, hL⟩ : ∃ L, L = xs.length := ⟨_, rfl⟩
  obtain ⟨M, hM⟩ : ∃ M, M = ys.length := ⟨_, rfl⟩
  have hlb : ((M : Int) == L) = false := by rw [beq_eq_false_iff_ne]; omega
  have HM : Hid (M = ys.length) := hM
  have hl1 := left_any g r xs 0 ao cap w h
  rw [← hL] at hl1
  clear hL hM hlt
  go_enter Tryz.func165, Tryz.ntmps165
  go_wp2_with fail
  refine hl1.mono ?_
  rintro e w1 ⟨rfl, rfl⟩
  go_wp2_with fail
  refine hD.calls.mono ?_
  rintro e w1 ⟨rfl, ao1, cap1, hR1, hF1⟩
  have hl2 := left_any g r ys 0 ao1 cap1 w1 hR1
  rw [← HM.out] at hl2
  have HF : Hid (Fr [g] w w1) := hF1
  clear hF1 hD
  go_wp2_with fail
  refine hl2.mono ?_
  rintro e w2 ⟨rfl, rfl⟩
  go_wp2
  go_ret2
  exact ⟨rfl, ao1, cap1, hR1, HF.out⟩
theorem fix4_pos (xs : List Nat) (h : (fixF 4 xs).2.2 = 0) : 0 < (fixF 4 xs).2.1 ∧ (fixF 4 xs).2.1 ≤ xs.length := by
  by_cases hl : xs.length < 4
  · rw [fix4_cut xs hl] at h; simp at h
  · have e : fixF 4 xs = (leN (xs.take 4), 4, 0) := by
      unfold fixF
      rw [if_neg (by decide), if_neg (by omega)]
      rfl
    rw [e]
    simp only
    omega

set_option maxHeartbeats 1000000 in
theorem tr2_any (g r bx : Nat) (xs : List Nat) (ao : Option Addr) (cap : Nat) (w : World) (h : Rd w g r xs 0 ao cap) (hb : w.cell? ⟨bx, 0, none⟩ = some (.pointer (some ⟨g, 0, none⟩))) :
    Dn 166 #[.pointer (some ⟨bx, 0, none⟩)] w (.int .u64 ((rdBy (fixF 4) 0 xs 0).1 : Nat)) g r (rdBy (fixF 4) 0 xs 0).2.1 (rdBy (fixF 4) 0 xs 0).2.2 := by
  show Calls _ _ _ _ _
  have hC := rFixed_any g r xs 0 ao cap 4 _ h
  obtain ⟨R, hR⟩ : ∃ R, R = rdBy (fixF 4) 0 xs 0 := ⟨_, rfl⟩
  rw [← hR] at hC ⊢
  clear hR
  obtain ⟨R1, R2, R3⟩ := R
  simp only at hC ⊢
  go_enter Tryz.func166, Tryz.ntmps166
  go_wp2_with fail
  refine hC.mono ?_
  rintro e w1 ⟨rfl, hX⟩
  go_wp2
  go_ret
  exact ⟨rfl, hX⟩
theorem ltakeU_any (g r : Nat) (xs : List Nat) (ao : Option Addr) (cap : Nat) (w : World) (h : Rd w g r xs 0 ao cap) (bx : Nat) (hb : w.cell? ⟨bx, 0, none⟩ = some (.pointer (some ⟨g, 0, none⟩))) :
    (∃ c, c ≠ 0 ∧ tk (fixF 4) ref0 xs = .error c ∧ Dn 165 #[.pointer (some ⟨g, 0, none⟩), .func (Fn.func 166) #[] #[.pointer (some ⟨bx, 0, none⟩)]] w (.tuple #[.int .u64 0, .int .i64 (c : Int)]) g r xs c) ∨
    (∃ v ys, tk (fixF 4) ref0 xs = .ok (v, ys) ∧ ys.length < xs.length ∧ Dn 165 #[.pointer (some ⟨g, 0, none⟩), .func (Fn.func 166) #[] #[.pointer (some ⟨bx, 0, none⟩)]] w (.tuple #[.int .u64 (v : Int), .int .i64 0]) g r ys 0) := by
  have hD := tr2_any g r bx xs ao cap w h hb
  rcases tk_split (fixF 4) ref0 0 xs (fix4_pos xs) with ⟨c, hc, h1, h2⟩ | ⟨v, ys, h1, hc, hv, hl, h2⟩ | ⟨v, ys, h1, hc, hv, hl, h2⟩
  · rw [h2] at hD
    exact Or.inl ⟨c, hc, h1, lgateU_wrong _ g r c xs ao cap w h hc hD⟩
  · exact absurd rfl hc
  · rw [h2] at hD
    exact Or.inr ⟨v, ys, h1, hl, lgateU_good _ g r v xs ys ao cap w h hl hD⟩
end Go.Proofs.YtaefninikmaiiaaGreatDoor
/- The document's Read of a log: its contract. Conditions as it names them. -/
namespace Go.Proofs.YtaefninikmaiiaaGreatDoor
open Go.ChangeShapes Go.WideShapes Go.ChangeAt Go.RowKit Go.Lib
set_option linter.unusedVariables false
set_option linter.unusedSimpArgs false

theorem Rds.err {k : Nat} {xs vs : List Nat} {ls : List Tx} {c e : Nat} (h : Rds k xs ls vs c) (h0 : xs ≠ []) (he : recF xs = .error e) : ls = [] ∧ vs = xs ∧ c = e := by
  cases ls with
  | nil =>
    obtain ⟨rfl, h⟩ := h
    rcases h with ⟨h, _⟩ | ⟨_, h⟩ | ⟨_, _, t, r, h, _⟩
    · exact absurd h h0
    · rw [he] at h; cases h; exact ⟨rfl, rfl, rfl⟩
    · rw [he] at h; cases h
  | cons t r =>
    obtain ⟨ys, _, h, _⟩ := h
    rw [he] at h; cases h
theorem Rds.none {k : Nat} {vs : List Nat} {ls : List Tx} {c : Nat} (h : Rds k [] ls vs c) : ls = [] ∧ vs = [] ∧ c = 0 := Rds.nil h
theorem Rds.out {k : Nat} {xs vs ys : List Nat} {ls : List Tx} {c : Nat} {t : Tx} (h : Rds k xs ls vs c) (h0 : xs ≠ []) (hr : recF xs = .ok (t, ys)) (hn : t.n ≠ (k : Int)) : ls = [] ∧ vs = xs ∧ c = 6 := by
  cases ls with
  | nil =>
    obtain ⟨rfl, h⟩ := h
    rcases h with ⟨h, _⟩ | ⟨_, h⟩ | ⟨_, h, _⟩
    · exact absurd h h0
    · rw [hr] at h; cases h
    · exact ⟨rfl, rfl, h⟩
  | cons u r =>
    obtain ⟨zs, _, h, h1, _⟩ := h
    rw [hr] at h; cases h; exact absurd h1 hn
theorem Rds.step {k : Nat} {xs vs ys : List Nat} {ls : List Tx} {c : Nat} {t : Tx} (h : Rds k xs ls vs c) (h0 : xs ≠ []) (hr : recF xs = .ok (t, ys)) (hn : t.n = (k : Int)) : ∃ r, ls = t :: r ∧ Rds (k + 1) ys r vs c := by
  cases ls with
  | nil =>
    obtain ⟨rfl, h⟩ := h
    rcases h with ⟨h, _⟩ | ⟨_, h⟩ | ⟨_, _, u, r, h, h1⟩
    · exact absurd h h0
    · rw [hr] at h; cases h
    · rw [hr] at h; cases h; exact absurd hn h1
  | cons u r =>
    obtain ⟨zs, _, h, h1, h2⟩ := h
    rw [hr] at h; cases h; exact ⟨r, rfl, h2⟩
/-- What Read holds: the row of what it told so far. -/
structure Yr (w wr : World) (B : Nat) (v : Value) (ds : List Tm) : Prop where
  row : wr.ownsRow 0 63 2 v ds.length (tmsC ds)
  new : ∀ k, v.ownBlock = some k → w.heap.size ≤ k ∧ k ≠ B
  each : ∀ t ∈ ds, t.at wr
  off : ∀ t ∈ ds, 0 < t.ws.length → ∀ a, t.ao = some a → a.block ≠ B ∧ v.ownBlock ≠ some a.block
theorem Tm.at.keepS {S : List Nat} {t : Tm} {w w' : World} (h : t.at w) (hf : Fr S w w') (hn : 0 < t.ws.length → ∀ a, t.ao = some a → a.block ∉ S) : t.at w' := ⟨h.rs.keepS hf hn, h.len, h.n0, h.n1⟩
theorem Yr.quiet {w W W' : World} {B : Nat} {v : Value} {ds : List Tm} (h : Yr w W B v ds) (hf : Fr [] W W') : Yr w W' B v ds :=
  ⟨owns_keep h.row hf (by simp), h.new, fun t ht => (h.each t ht).keep hf, h.off⟩
theorem Yr.box {w W W' : World} {B : Nat} {v : Value} {ds : List Tm} (h : Yr w W B v ds) (hf : Fr [B] W W') : Yr w W' B v ds :=
  ⟨owns_keep h.row hf (fun k hk => by simp; exact (h.new k hk).2), h.new, fun t ht => (h.each t ht).keepS hf (fun h0 a ha => by simp; exact (h.off t ht h0 a ha).1), h.off⟩
theorem Yr.app {w W W' : World} {B g cap : Nat} {v : Value} {ds : List Tm} (h : Yr w W B v ds) (hw : w.heap.size ≤ W.heap.size) (hB : B < W.heap.size) (t : Tm) (ht : t.at W) (hoff : 0 < t.ws.length → ∀ a, t.ao = some a → a.block ≠ B ∧ v.ownBlock ≠ some a.block)
    (hown : W'.ownsRow 0 63 2 (.slice (some ⟨g, 0, none⟩) (ds.length + 1) cap) (ds.length + 1) (tmsC ds ++ [.int .i64 t.n, .slice t.ao t.L t.cap])) (hwe : Went W v g W') : Yr w W' B (.slice (some ⟨g, 0, none⟩) (ds.length + 1) cap) (ds ++ [t]) := by
  have hF := hwe.fr
  have hge : v.ownBlock = some g ∨ W.heap.size ≤ g := by rcases hwe with ⟨h1, _⟩ | ⟨h1, _⟩; · exact Or.inl h1
                                                         · exact Or.inr h1
  have hall : ∀ u ∈ ds ++ [t], u.at W ∧ (0 < u.ws.length → ∀ a, u.ao = some a → a.block ≠ B ∧ v.ownBlock ≠ some a.block) := by
    intro u hu
    rcases List.mem_append.1 hu with hu | hu
    · exact ⟨h.each u hu, h.off u hu⟩
    · simp at hu; subst hu; exact ⟨ht, hoff⟩
  refine ⟨?_, ?_, ?_, ?_⟩
  · rw [List.length_append, tmsC_append]
    exact hown
  · intro k hk
    simp [Value.ownBlock] at hk
    subst hk
    rcases hge with hge | hge
    · exact h.new g hge
    · exact ⟨by omega, by omega⟩
  · intro u hu
    refine (hall u hu).1.keepS hF (fun h0 a ha hm => ?_)
    exact ((hall u hu).2 h0 a ha).2 (by simpa using hm)
  · intro u hu h0 a ha
    refine ⟨((hall u hu).2 h0 a ha).1, fun he => ?_⟩
    simp [Value.ownBlock] at he
    rcases hge with hge | hge
    · exact ((hall u hu).2 h0 a ha).2 (by rw [hge, he])
    · obtain ⟨b, off, e, hb, _⟩ := (hall u hu).1.rs.lies h0
      rw [ha] at e
      cases e
      simp only at he
      omega
theorem Yr.trs {w W : World} {B : Nat} {ro : Option Addr} {N rc : Nat} {ds : List Tm} (h : Yr w W B (.slice ro N rc) ds) (hN : N = ds.length) (hl : ds.length ≤ 140737488355328) : TRs W ro ds := by
  refine ⟨fun h0 => ?_, hl, h.each⟩
  have hr := h.row
  obtain ⟨g, c, hh, _⟩ := own_form hr h0
  cases hh
  refine ⟨g, 0, rfl, (hr.lt g rfl).2, fun i hi => ?_⟩
  have key : ∀ c, c < 2 → W.cell? ⟨g, 0 + i * 2 + c, none⟩ = (tmC (ds.getD i Tm.zero))[c]? := by
    intro c hc
    rw [Nat.zero_add, hr.cellAt (i * 2 + c) (by omega), tmsC_get ds i c hi hc]
  exact ⟨key 0 (by omega), key 1 (by omega)⟩
theorem Tryz.infoTR : (Tryz.prog.info? 63).map (fun i => (i.zero, i.size, i.bytes)) = some (some (.agg #[.int .i64 0, .slice none 0 0]), 2, 32) := by kernel_rfl
theorem Tryz.undTsR : Tryz.prog.underlying 22 = some (.slice 63) := by kernel_rfl
theorem textF_low (xs : List Nat) : (textF 65536 xs).1.size ≤ 65536 := by
  have h0 : (⟨#[]⟩ : ByteArray).size ≤ 65536 := by decide
  unfold textF
  rw [if_neg (by omega)]
  split
  · exact h0
  · split
    · exact h0
    · split
      · exact h0
      · rename_i h1 h2 h3
        simp only
        rw [toBA_size, List.length_take]
        omega
/-- A block made behind it is written. -/
theorem Yr.fresh {w W0 W W' : World} {B X : Nat} {v : Value} {ds : List Tm} (h : Yr w W0 B v ds) (hf : Fr [] W0 W) (hX : W0.heap.size ≤ X) (hs : Fr [X] W W') : Yr w W' B v ds := by
  have h1 := h.quiet hf
  refine ⟨owns_keep h1.row hs (fun k hk => ?_), h.new, fun t ht => (h1.each t ht).keepS hs (fun h0 a ha => ?_), h.off⟩
  · have := (h.row.lt k hk).2
    simp
    omega
  · obtain ⟨b, off, e, hb, _⟩ := (h.each t ht).rs.lies h0
    rw [ha] at e
    cases e
    simp
    omega
theorem textF_drop {xs : List Nat} {s : ByteArray} {k : Nat} (h : textF 65536 xs = (s, k, 0)) : k ≤ xs.length ∧ s.size ≤ 65536 := by
  have h1 := (textF_size 65536 xs (by rw [h])).2
  have h2 := textF_low xs
  rw [h] at h1 h2
  exact ⟨h1, h2⟩
theorem fix4_size {xs : List Nat} {m k : Nat} (h : fixF 4 xs = (m, k, 0)) : k ≤ xs.length := by
  have := (fixF_size 4 xs (by rw [h])).2
  rw [h] at this
  exact this
theorem stepAt_ok (k p : Nat) : stepAt (k, 0) p = p + k := by simp [stepAt]
theorem recF_e1 {xs : List Nat} {s : ByteArray} {k e : Nat} (h : textF 65536 xs = (s, k, e)) (he : e ≠ 0) : recF xs = .error e := by
  unfold recF; rw [tk_err h he]
theorem recF_s {xs : List Nat} {s : ByteArray} {k : Nat} (h : textF 65536 xs = (s, k, 0)) : recF xs = recS s (xs.drop k) := by
  unfold recF; rw [tk_ok h rfl]
theorem recS_e {s : ByteArray} {r : List Nat} {m k e : Nat} (h : fixF 4 r = (m, k, e)) (he : e ≠ 0) : recS s r = .error e := by
  unfold recS; rw [tk_err h he]
theorem recS_s {s : ByteArray} {r : List Nat} {m k : Nat} (h : fixF 4 r = (m, k, 0)) : recS s r = recC m (strNs s) (r.drop k) := by
  unfold recS; rw [tk_ok h rfl]
theorem recC_e {m : Nat} {ys r : List Nat} (h : m ≠ crcN ys) : recC m ys r = .error 4 := by unfold recC; rw [if_neg h]
theorem recC_d {m e : Nat} {ys r : List Nat} (h : m = crcN ys) (hd : decT ys = .error e) : recC m ys r = .error e := by unfold recC; rw [if_pos h, hd]
theorem recC_ok {m n : Nat} {ws : List Wt} {ys r : List Nat} (h : m = crcN ys) (hd : decT ys = .ok (n, ws)) : recC m ys r = .ok (⟨n, ws⟩, r) := by unfold recC; rw [if_pos h, hd]

set_option maxHeartbeats 16000000 in
set_option maxRecDepth 100000 in
theorem yRead_any (ao : Option Addr) (L cap c : Nat) (xs vs : List Nat) (ls : List Tx) (w : World) (hR0 : Rs w ao xs) (hb : ∀ x ∈ xs, x < 256) (hLe : L = xs.length) (hcap : L ≤ cap) (hlen : L < 2^40) (hR : Rds 1 xs ls vs c) (N G : Nat) (hN : N = ls.length) (hG : G + vs.length = xs.length) :
    Calls Tryz.prog 20 #[.slice ao L cap] w fun e w' => ∃ ro rc, e = .returned (.tuple #[.slice ro N rc, .int .i64 (G : Int), .int .i64 (c : Int)]) ∧ ∃ ds, txs ds = ls ∧ TRs w' ro ds ∧ N = ds.length ∧ Fr [] w w' := by
  obtain ⟨iT, hiT, hzT, hsT, hbT⟩ := info_parts Tryz.infoTR
  have HL : Hid (L = xs.length) := hLe
  have HN : Hid (N = ls.length) := hN
  have HG : Hid (G + vs.length = xs.length) := hG
  have HR : Hid (Rds 1 xs ls vs c) := hR
  have HRs : Hid (∀ W, Fr [] w W → Rs W ao xs) := fun W hf => hR0.fr hf
  have HD : Hid (∀ k, ∀ x ∈ xs.drop k, x < 256) := fun k x hx => hb x (List.mem_of_mem_drop hx)
  -- how many may be told
  have hlsL : ls.length ≤ L := by
    obtain ⟨h1, h2, _⟩ := Rds.inv hb hR
    have := (encL_length (okL_mem h2)).1
    have h3 := congrArg List.length h1
    rw [List.length_append] at h3
    omega
  obtain ⟨B, HBe⟩ : ∃ B, Hid (B = w.heap.size) := ⟨_, rfl⟩
  obtain ⟨w0, HW0⟩ : ∃ w0, Hid (w.alloc (.cells #[.bool false, .slice ao L cap, .int .i64 0, .int .i64 0] 102) = w0) := ⟨_, rfl⟩
  have hF0 : Fr [] w w0 := by rw [← HW0.out]; exact Fr.alloc [] w _
  have hX0 : Bx w0 B false (.slice ao L cap) 0 0 := ⟨by rw [← HW0.out, HBe.out]; exact heap_alloc_new w _⟩
  have hBw : w.heap.size ≤ B := by rw [HBe.out]; exact Nat.le_refl _
  clear hLe hN hG hR hR0
  go_enter Tryz.func20, Tryz.ntmps20
  go_wp2_with fail
  rw [HW0.out, ← HBe.out]
  go_loopw [5, 6] (fun vv gg wr => ∃ (p N' rc : Nat) (ro : Option Addr) (ds : List Tm) (ls' : List Tx), vv = .slice ro N' rc ∧ gg = .int .i64 p ∧ p ≤ L ∧ N' ≤ L ∧ Hid (N' = ds.length) ∧ Hid (txs ds ++ ls' = ls) ∧ Hid (Rds (1 + ds.length) (xs.drop p) ls' vs c) ∧ Bx wr B false (.slice ao L cap) p 0 ∧ Hid (Yr w wr B (.slice ro N' rc) ds) ∧ Fr [] w wr) (fun _ gg _ => L - (RowKit.intOf gg).toNat)
  case atStart => exact ⟨0, 0, 0, none, [], ls, rfl, rfl, Nat.zero_le _, Nat.zero_le _, rfl, rfl, HR.out, hX0, ⟨World.ownsRow_nil _ _ _ _, by intro k hk; simp [Value.ownBlock] at hk, by simp, by simp⟩, hF0⟩
  case round =>
    obtain ⟨p, N', rc, ro, ds, ls', rfl, rfl, hpL, hNL, HN', HLs, HRd, hX, HY, hFr⟩ := hrel
    -- where nothing more is told
    have HEnd : Hid (∀ W, Fr [] w W → Yr w W B (.slice ro N' rc) ds → ls' = [] → vs = xs.drop p → ∃ ds', txs ds' = ls ∧ TRs W ro ds' ∧ N' = ds'.length ∧ N' = N ∧ p = G) := by
      intro W hf hy h1 h2
      have h3 := HLs.out
      rw [h1, List.append_nil] at h3
      have h4 := congrArg List.length h3
      rw [txs_length] at h4
      have h5 := HG.out
      rw [h2, List.length_drop] at h5
      have h6 := HL.out
      have h7 := HN.out
      have h8 := HN'.out
      exact ⟨ds, h3, hy.trs HN'.out (by omega), HN'.out, by omega, by omega⟩
    have x0 := hX.c0
    have x1 := hX.c1
    have x2 := hX.c2
    have x3 := hX.c3
    have hLf := xLeft_any ao L cap p 0 wr (by omega) hpL
    obtain ⟨q, hq⟩ : ∃ q, q = L - p := ⟨_, rfl⟩
    rw [← hq] at hLf
    have HLf : Hid _ := hLf
    have Hq : Hid (q = L - p) := hq
    clear hq hLf
    by_cases hpl : p < L
    · have hq0 : (0 : Int) < (q : Int) := by have := Hq.out; omega
      have hne : xs.drop p ≠ [] := by
        intro h
        have := congrArg List.length h
        rw [List.length_drop, ← HL.out] at this
        simp at this
        omega
      have HNe : Hid (xs.drop p ≠ []) := hne
      clear hne
      go_wp2_with fail
      refine Calls.mono HLf.out ?_
      rintro e w1 ⟨rfl, hF1⟩
      have hX1 := hX.keep hF1 (by simp)
      have hG1 := hFr.then hF1
      have HY1 : Hid (Yr w w1 B (.slice ro N' rc) ds) := HY.out.quiet hF1
      have y0 := hX1.c0
      have y1 := hX1.c1
      have y2 := hX1.c2
      have y3 := hX1.c3
      obtain ⟨s, k1, e1, ht⟩ : ∃ s k1 e1, textF 65536 (xs.drop p) = (s, k1, e1) := ⟨_, _, _, rfl⟩
      have hTx := xText_live ao L cap p xs 65536 (by omega) (by omega) hcap w1 (HRs.out _ hG1) hb HL.out hpL
      rw [ht] at hTx
      simp only at hTx
      have HT : Hid (textF 65536 (xs.drop p) = (s, k1, e1)) := ht
      obtain ⟨p1, hp1⟩ : ∃ p1, p1 = stepAt (k1, e1) p := ⟨_, rfl⟩
      rw [← hp1] at hTx
      have HP1 : Hid (p1 = stepAt (k1, e1) p) := hp1
      have HTx : Hid _ := hTx
      clear ht hp1 hTx x0 x1 x2 x3 HLf hX HY
      go_wp2_with fail
      refine Calls.mono HTx.out ?_
      rintro e w2 ⟨rfl, hF2⟩
      obtain ⟨B8, HB8⟩ : ∃ B8, Hid (B8 = w2.heap.size) := ⟨_, rfl⟩
      obtain ⟨w3, HW3⟩ : ∃ w3, Hid (w2.alloc (.cells #[.bool false, .slice ao L cap, .int .i64 (p1 : Int), .int .i64 (e1 : Int)] 102) = w3) := ⟨_, rfl⟩
      have hF3 : Fr [] w1 w3 := by rw [← HW3.out]; exact hF2.then (Fr.alloc [] w2 _)
      have hF23 : Fr [] w2 w3 := by rw [← HW3.out]; exact Fr.alloc [] w2 _
      have HY2 : Hid (Yr w w2 B (.slice ro N' rc) ds) := HY1.out.quiet hF2
      have hB8w : w2.heap.size ≤ B8 := by rw [HB8.out]; exact Nat.le_refl _
      have hX8 : Bx w3 B8 false (.slice ao L cap) p1 e1 := ⟨by rw [← HW3.out, HB8.out]; exact heap_alloc_new w2 _⟩
      have hX3 := hX1.keep hF3 (by simp)
      have hG3 := hG1.then hF3
      have HY3 : Hid (Yr w w3 B (.slice ro N' rc) ds) := HY1.out.quiet hF3
      have hB8 : B < B8 := by have := hX1.lt; have := hF2.size; rw [HB8.out]; omega
      clear y0 y1 y2 y3 HTx hF2 HY1 hX1 hG1 hF3
      have z0 := hX8.c0
      have z1 := hX8.c1
      have z2 := hX8.c2
      have z3 := hX8.c3
      go_upto_region 6 with fail
      rw [HW3.out, ← HB8.out]
      by_cases he1 : e1 = 0
      · subst he1
        have hk1 := textF_drop HT.out
        have hkl : k1 ≤ L - p := by have := hk1.1; rw [List.length_drop, ← HL.out] at this; exact this
        have hss := hk1.2
        have HP1' : Hid (p1 = p + k1) := by show _ = _; rw [HP1.out, stepAt_ok]
        have hp1L : p1 ≤ L := by rw [HP1'.out]; omega
        rw [show ((0 : Nat) : Int) = 0 from rfl] at z3 hX8
        clear hk1
        -- the sum's four bytes
        have hG1b : Fr [] w w3 := hG3
        obtain ⟨m, k2, e2, hf4⟩ : ∃ m k2 e2, fixF 4 (xs.drop p1) = (m, k2, e2) := ⟨_, _, _, rfl⟩
        have hFx := xFixed_live ao L cap p1 xs 4 w3 (HRs.out _ hG3) hb HL.out hp1L
        rw [hf4] at hFx
        simp only at hFx
        have HF4 : Hid (fixF 4 (xs.drop p1) = (m, k2, e2)) := hf4
        obtain ⟨p2, hp2⟩ : ∃ p2, p2 = stepAt (k2, e2) p1 := ⟨_, rfl⟩
        rw [← hp2] at hFx
        have HP2 : Hid (p2 = stepAt (k2, e2) p1) := hp2
        have HFx : Hid _ := hFx
        have HDrop : Hid ((xs.drop p).drop k1 = xs.drop p1) := by show _ = _; rw [List.drop_drop, HP1'.out]
        clear hf4 hp2 hFx
        go_wp2_with fail
        refine Calls.mono HFx.out ?_
        rintro e w4 ⟨rfl, hF4⟩
        have hX84 := hX8.keep hF4 (by simp)
        have f0 := hX84.f 0
        have f1 := hX84.f 1
        have f2 := hX84.f 2
        have f3 := hX84.f 3
        have v0 := hX84.c0
        have v1 := hX84.c1
        have v2 := hX84.c2
        have v3 := hX84.c3
        obtain ⟨w5, HW5⟩ : ∃ w5, Hid ((((w4.setCell ⟨B8, 0, none⟩ (.bool false)).setCell ⟨B8, 1, none⟩ (.slice ao L cap)).setCell ⟨B8, 2, none⟩ (.int .i64 (p2 : Int))).setCell ⟨B8, 3, none⟩ (.int .i64 (e2 : Int)) = w5) := ⟨_, rfl⟩
        have hX85 : Bx w5 B8 false (.slice ao L cap) p2 e2 := by rw [← HW5.out]; exact hX84.set false _ _ _
        have hF5 : Fr [B8] w4 w5 := by rw [← HW5.out]; exact Fr.sets4 _ _ _ _ _ _
        have hwB8 : w.heap.size ≤ B8 := by omega
        have hG5 : Fr [] w w5 := (hG3.then hF4).on hF5 (by intro x hx; simp at hx; omega)
        have hX5 : Bx w5 B false (.slice ao L cap) p 0 := (hX3.keep hF4 (by simp)).keep hF5 (by simp; omega)
        have HY5 : Hid (Yr w w5 B (.slice ro N' rc) ds) := HY2.out.fresh (hF23.then hF4) hB8w hF5
        have c83 := hX85.c3
        go_upto_region 9 with fail
        rw [HW5.out]
        clear v0 v1 v2 v3 z0 z1 z2 z3 HFx hX84 hF5 f0 f1 f2 f3 HW5 HY2 HY3 hF23 hX8 hX3 hG3
        by_cases he2 : e2 = 0
        · subst he2
          have hkl2 : k2 ≤ L - p1 := by have := fix4_size HF4.out; rw [List.length_drop, ← HL.out] at this; exact this
          have HP2' : Hid (p2 = p1 + k2) := by show _ = _; rw [HP2.out, stepAt_ok]
          have hp2L : p2 ≤ L := by rw [HP2'.out]; omega
          rw [show ((0 : Nat) : Int) = 0 from rfl] at c83 hX85
          have hml : m < 18446744073709551616 := by
            have h1 := HF4.out
            have h2 := fix4_inv (HD.out p1) (c := m) (r := (xs.drop p1).drop k2) (by rw [tk_ok h1 rfl])
            have := h2.2
            omega
          have hrecS : recF (xs.drop p) = recC m (strNs s) (xs.drop p2) := by
            rw [recF_s HT.out, HDrop.out, recS_s HF4.out, List.drop_drop, HP2'.out]
          have HRec : Hid (recF (xs.drop p) = recC m (strNs s) (xs.drop p2)) := hrecS
          obtain ⟨cs, w6, hcv, hA6, hF6⟩ := conv_bytes s w5 (by omega)
          have hG6 := hG5.then hF6
          have hX86 := hX85.keep hF6 (by simp)
          have hX6 := hX5.keep hF6 (by simp)
          have HY6 : Hid (Yr w w6 B (.slice ro N' rc) ds) := HY5.out.quiet hF6
          have HA6 : Hid (BArg w6 (some ⟨w5.heap.size, 0, none⟩) s.size cs (strNs s)) := hA6
          obtain ⟨mc, hmc⟩ : ∃ mc, more 0 (strNs s) = mc := ⟨_, rfl⟩
          have HMc : Hid (crcN (strNs s) = mc) := hmc
          have hmcl : mc < 4294967296 := by rw [← HMc.out]; exact crcN_lt _
          obtain ⟨S, HS⟩ : ∃ S, Hid (S = s.size) := ⟨_, rfl⟩
          have hSb : S ≤ 65536 := by rw [HS.out]; exact hss
          obtain ⟨BA, HBA⟩ : ∃ BA, Hid (BA = w5.heap.size) := ⟨_, rfl⟩
          have HA6' : Hid (BArg w6 (some ⟨BA, 0, none⟩) S cs (strNs s)) := by rw [HBA.out, HS.out]; exact HA6.out
          have hcv' : Sem.run Tryz.prog (convert 9 26 (.string s)) w5 = .ok (.slice (some ⟨BA, 0, none⟩) S cs) w6 := by rw [HBA.out, HS.out]; exact hcv
          have hCr := refCrc_any mc (some ⟨BA, 0, none⟩) S cs (strNs s) w6 HA6'.out HMc.out
          have HCr : Hid _ := hCr
          clear hcv hA6 HA6 hmc hrecS hCr HY5 hX5 hX85
          go_wp2_with fail
          refine Calls.mono HCr.out ?_
          rintro e w7 ⟨rfl, hF7⟩
          have hG7 := hG6.then hF7
          have hX87 := hX86.keep hF7 (by simp)
          have hX7 := hX6.keep hF7 (by simp)
          have HY7 : Hid (Yr w w7 B (.slice ro N' rc) ds) := HY6.out.quiet hF7
          have HA7 : Hid (BArg w7 (some ⟨BA, 0, none⟩) S cs (strNs s)) := HA6'.out.keep hF7
          clear HCr hcv' HA6' hF7 HY6 hX86 hX6 hG6
          by_cases hmm : m = mc
          · have hmi : ((m : Int) != (mc : Int)) = false := by rw [hmm]; simp
            have HMM : Hid (m = crcN (strNs s)) := by show _ = _; rw [HMc.out]; exact hmm
            have HDc : Hid _ := xDecode_any (some ⟨BA, 0, none⟩) S cs (strNs s) w7 (HA7.out.rs (by omega)) HA7.out.low HA7.out.len HA7.out.fits
            clear hmm
            go_wp2_with fail
            refine Calls.mono HDc.out ?_
            rintro e w8 ⟨hDA, hF8⟩
            have hG8 := hG7.then hF8
            have hX88 := hX87.keep hF8 (by simp)
            have hX8' := hX7.keep hF8 (by simp)
            have HY8 : Hid (Yr w w8 B (.slice ro N' rc) ds) := HY7.out.quiet hF8
            have hs78 := hF8.size
            have hY7l : ∀ k, (Value.slice ro N' rc).ownBlock = some k → k < w7.heap.size := fun k hk => (HY7.out.row.lt k hk).2
            have hB7l := hX7.lt
            clear HDc HA7 hF8 hG7 hX87 hX7 HY7
            unfold DecAns at hDA
            cases hdt : decT (strNs s) with
            | error ed =>
              rw [hdt] at hDA
              simp only at hDA
              subst hDA
              have hed : ed ≠ 0 := decT_code hdt
              have hen : ((ed : Int) != 0) = true := by rw [bne_iff_ne]; omega
              obtain ⟨q1, q2, q3⟩ := Rds.err HRd.out HNe.out (by rw [HRec.out]; exact recC_d HMM.out hdt)
              obtain ⟨ds', h1, h2, h3, h4, h5⟩ := HEnd.out _ hG8 HY8.out q1 q2
              have HE : Hid (txs ds' = ls ∧ TRs w8 ro ds' ∧ N = ds'.length) := ⟨h1, h2, by omega⟩
              subst h4 h5 q3
              clear h1 h2 h3 HEnd hdt hed
              go_wp2
              go_ret3
              exact ⟨ro, rc, rfl, ds', HE.out.1, HE.out.2.1.keep (Fr.alloc [] _ _), HE.out.2.2, hG8.then (Fr.alloc [] _ _)⟩
            | ok pr =>
              obtain ⟨n, ws⟩ := pr
              rw [hdt] at hDA
              simp only at hDA
              obtain ⟨xo, M, cm, hM, rfl, hWR, hxn⟩ := hDA
              have hrok := recC_ok (r := xs.drop p2) HMM.out hdt
              rw [← HRec.out] at hrok
              have HRok : Hid (recF (xs.drop p) = .ok (⟨n, ws⟩, xs.drop p2)) := hrok
              have hokT := (recF_inv (HD.out p) hrok).2
              have hnb : n ≤ 65536 := by have := hokT.2.1; simp only at this; omega
              obtain ⟨w9, HW9⟩ : ∃ w9, Hid (w8.alloc (.cells #[.int .i64 (n : Int), .slice xo M cm] 63) = w9) := ⟨_, rfl⟩
              obtain ⟨B12, HB12⟩ : ∃ B12, Hid (B12 = w8.heap.size) := ⟨_, rfl⟩
              have hF9 : Fr [] w8 w9 := by rw [← HW9.out]; exact Fr.alloc [] w8 _
              have hbx : w9.heap[B12]? = some (.cells #[.int .i64 (n : Int), .slice xo M cm] 63 (0, 0)) := by rw [← HW9.out, HB12.out]; exact heap_alloc_new w8 _
              have hG9 := hG8.then hF9
              have hX89 := hX88.keep hF9 (by simp)
              have hX9 := hX8'.keep hF9 (by simp)
              have HY9 : Hid (Yr w w9 B (.slice ro N' rc) ds) := HY8.out.quiet hF9
              have hTm : (⟨n, xo, M, cm, ws⟩ : Tm).at w9 := ⟨hWR.keep hF9, hM, by simp only; omega, by simp only; omega⟩
              have HTm : Hid ((⟨n, xo, M, cm, ws⟩ : Tm).at w9) := hTm
              have HOff : Hid (0 < ws.length → ∀ a, xo = some a → a.block ≠ B ∧ (Value.slice ro N' rc).ownBlock ≠ some a.block) := fun _ a ha => by
                have h1 := hxn a ha
                refine ⟨by omega, fun e => ?_⟩
                have := hY7l _ e
                omega
              have b0 : w9.cell? ⟨B12, 0, none⟩ = some (.int .i64 (n : Int)) := by rw [cell_of_row _ _ _ _ _ _ hbx]; rfl
              have b1 : w9.cell? ⟨B12, 1, none⟩ = some (.slice xo M cm) := by rw [cell_of_row _ _ _ _ _ _ hbx]; rfl
              have HBx : Hid (w9.heap[B12]? = some (.cells #[.int .i64 (n : Int), .slice xo M cm] 63 (0, 0))) := hbx
              have hB12 : B < B12 := by have := hX8'.lt; rw [HB12.out]; exact this
              clear hrok hokT hdt hWR hM hxn hTm hbx hX88 hX8' HY8 hG8 hs78 hY7l hB7l HMM
              go_upto_region 15 with fail
              rw [HW9.out, ← HB12.out]
              clear HW9 HB12
              by_cases hnk : (n : Int) = (N' : Int) + 1
              · have hne : ((n : Int) != (N' : Int) + 1) = false := by rw [hnk]; simp
                obtain ⟨r, hls', hR'⟩ := Rds.step HRd.out HNe.out HRok.out (by show (n : Int) = _; rw [hnk, ← HN'.out]; omega)
                have HLs2 : Hid (txs (ds ++ [⟨n, xo, M, cm, ws⟩]) ++ r = ls) := by
                  show _ = _
                  rw [txs_append, ← HLs.out, hls', List.append_assoc]
                  rfl
                have hN'L : N' + 1 ≤ L := by
                  have h1 := congrArg List.length HLs2.out
                  rw [List.length_append, txs_length, List.length_append, ← HN'.out] at h1
                  simp at h1
                  omega
                have HR2 : Hid (Rds (1 + (ds ++ [(⟨n, xo, M, cm, ws⟩ : Tm)]).length) (xs.drop p2) r vs c) := by
                  show Rds _ _ _ _ _
                  rw [List.length_append, show 1 + (ds.length + [(⟨n, xo, M, cm, ws⟩ : Tm)].length) = 1 + ds.length + 1 from by simp; omega]
                  exact hR'
                have hpp : p < p2 := by
                  obtain ⟨e1, e2⟩ := recF_inv (HD.out p) HRok.out
                  have h1 := congrArg List.length e1
                  have h2 := (encR_length e2).1
                  rw [List.length_append, List.length_drop, List.length_drop, ← HL.out] at h1
                  omega
                have HOw : w9.ownsRow 0 63 2 (.slice ro N' rc) N' (tmsC ds) := by
                  have := HY9.out.row
                  rw [← HN'.out] at this
                  exact this
                have hB8ne : B8 ∉ (Value.slice ro N' rc).ownBlock.toList := by
                  intro hm
                  obtain ⟨cs', hc⟩ := own_type HOw B8 (by simpa using hm)
                  rw [hX89.box] at hc
                  simp at hc
                have hBne : B ∉ (Value.slice ro N' rc).ownBlock.toList := by
                  intro hm
                  exact (HY9.out.new B (by simpa using hm)).2 rfl
                clear hls' hR' hnk HEnd HRd
                go_upto_region 19 with fail
                go_wp2_with (at_builtin; refine wpList_app _ rfl (.tmp 70) (.tmp 72) 22 rfl 63 iT _ 2 32 Tryz.undTsR hiT hzT hsT hbT rfl (by decide) _ N' _ rfl (HOw.alloc _) ⟨w9.heap.size, 0, none⟩ 1 [.int .i64 (n : Int), .slice xo M cm] rfl rfl ?c1 ?c2 ?c3 ?c4 ?_)
                case c1 => intro j u hj; match j, hj with | 0, hj => simp at hj; subst hj; simp [Addr.add] | 1, hj => simp at hj; subst hj; simp [Addr.add]
                case c2 => intro u hu; simp at hu; rcases hu with rfl | rfl <;> rfl
                case c3 => omega
                case c4 => unfold maxLen; omega
                intro g' cap' w11 hown hwent
                have hFa : Fr [] w9 (w9.alloc (.cells #[.int .i64 (n : Int), .slice xo M cm] 63)) := Fr.alloc [] w9 _
                have hFg := hwent.fr
                have hX811 := (hX89.keep hFa (by simp)).keep hFg hB8ne
                have hX11 := (hX9.keep hFa (by simp)).keep hFg hBne
                have hG11 : Fr [] w w11 := (hG9.then hFa).on hFg (by intro x hx; exact (HY9.out.new x (by simpa using hx)).1)
                have HY11 : Hid (Yr w w11 B (.slice (some ⟨g', 0, none⟩) (N' + 1) cap') (ds ++ [⟨n, xo, M, cm, ws⟩])) := by
                  have h1 := HY9.out.quiet hFa
                  have h2 := Yr.app (g := g') (cap := cap') (W' := w11) h1 (hG9.then hFa).size (by have := hX9.lt; have := hFa.size; omega) ⟨n, xo, M, cm, ws⟩ (HTm.out.keep hFa) HOff.out (by rw [← HN'.out]; exact hown) hwent
                  rw [← HN'.out] at h2
                  exact h2
                have y0 := hX811.c0
                have y1 := hX811.c1
                have y2 := hX811.c2
                have y3 := hX811.c3
                have x0 := hX11.c0
                have x1 := hX11.c1
                have x2 := hX11.c2
                have x3 := hX11.c3
                have f0 := hX11.f 0
                have f1 := hX11.f 1
                have f2 := hX11.f 2
                have f3 := hX11.f 3
                obtain ⟨w12, HW12⟩ : ∃ w12, Hid ((((w11.setCell ⟨B, 0, none⟩ (.bool false)).setCell ⟨B, 1, none⟩ (.slice ao L cap)).setCell ⟨B, 2, none⟩ (.int .i64 (p2 : Int))).setCell ⟨B, 3, none⟩ (.int .i64 0) = w12) := ⟨_, rfl⟩
                have hX12 : Bx w12 B false (.slice ao L cap) p2 0 := by rw [← HW12.out]; exact hX11.set false _ _ _
                have hF12 : Fr [B] w11 w12 := by rw [← HW12.out]; exact Fr.sets4 _ _ _ _ _ _
                have hG12 : Fr [] w w12 := hG11.on hF12 (by intro x hx; simp at hx; omega)
                have HY12 : Hid (Yr w w12 B (.slice (some ⟨g', 0, none⟩) (N' + 1) cap') (ds ++ [⟨n, xo, M, cm, ws⟩])) := HY11.out.box hF12
                have c2 := hX12.c2
                have HN2 : Hid (N' + 1 = (ds ++ [(⟨n, xo, M, cm, ws⟩ : Tm)]).length) := by show _ = _; rw [List.length_append, ← HN'.out]; rfl
                clear hown hwent hFa hFg hX811 hX11 hG11 HY11 hF12 HOw hX89 hX9 HY9 hG9 HTm HOff HBx b0 b1 hB8ne hBne
                go_upto_region 21 with fail
                rw [HW12.out]
                clear y0 y1 y2 y3 x0 x1 x2 x3 f0 f1 f2 f3 HW12
                go_wp2
                go_roundw
                case rel => exact ⟨p2, N' + 1, cap', some ⟨g', 0, none⟩, ds ++ [⟨n, xo, M, cm, ws⟩], r, rfl, rfl, hp2L, hN'L, HN2, HLs2, HR2, hX12, HY12, hG12⟩
                case measure => simp [RowKit.intOf]; omega
              · have hne : ((n : Int) != (N' : Int) + 1) = true := by rw [bne_iff_ne]; exact hnk
                obtain ⟨q1, q2, q3⟩ := Rds.out HRd.out HNe.out HRok.out (by show (n : Int) ≠ _; rw [← HN'.out]; omega)
                obtain ⟨ds', h1, h2, h3, h4, h5⟩ := HEnd.out _ hG9 HY9.out q1 q2
                have HE : Hid (txs ds' = ls ∧ TRs w9 ro ds' ∧ N = ds'.length) := ⟨h1, h2, by omega⟩
                subst h4 h5 q3
                clear h1 h2 h3 HEnd hnk
                go_wp2
                go_ret3
                exact ⟨ro, rc, rfl, ds', HE.out.1, HE.out.2.1, HE.out.2.2, hG9⟩
          · have hmi : ((m : Int) != (mc : Int)) = true := by rw [bne_iff_ne]; omega
            obtain ⟨q1, q2, q3⟩ := Rds.err HRd.out HNe.out (by rw [HRec.out]; exact recC_e (by rw [HMc.out]; exact hmm))
            obtain ⟨ds', h1, h2, h3, h4, h5⟩ := HEnd.out _ hG7 HY7.out q1 q2
            have HE : Hid (txs ds' = ls ∧ TRs w7 ro ds' ∧ N = ds'.length) := ⟨h1, h2, by omega⟩
            subst h4 h5 q3
            clear h1 h2 h3 HEnd hmm
            go_wp2
            go_ret3
            exact ⟨ro, rc, rfl, ds', HE.out.1, HE.out.2.1, HE.out.2.2, hG7⟩
        · have hen : ((e2 : Int) != 0) = true := by rw [bne_iff_ne]; omega
          obtain ⟨q1, q2, q3⟩ := Rds.err HRd.out HNe.out (by rw [recF_s HT.out, HDrop.out]; exact recS_e HF4.out he2)
          obtain ⟨ds', h1, h2, h3, h4, h5⟩ := HEnd.out _ hG5 HY5.out q1 q2
          have HE : Hid (txs ds' = ls ∧ TRs w5 ro ds' ∧ N = ds'.length) := ⟨h1, h2, by omega⟩
          subst h4 h5 q3
          clear h1 h2 h3 HEnd
          go_wp2_with fail
          go_quiet (fail)
          go_wp2
          go_ret3
          exact ⟨ro, rc, rfl, ds', HE.out.1, HE.out.2.1.keep (Fr.drewN _ _ _), HE.out.2.2, hG5.then (Fr.drewN _ _ _)⟩
      · have hen : ((e1 : Int) != 0) = true := by rw [bne_iff_ne]; omega
        obtain ⟨q1, q2, q3⟩ := Rds.err HRd.out HNe.out (recF_e1 HT.out he1)
        obtain ⟨ds', h1, h2, h3, h4, h5⟩ := HEnd.out _ hG3 HY3.out q1 q2
        have HE : Hid (txs ds' = ls ∧ TRs w3 ro ds' ∧ N = ds'.length) := ⟨h1, h2, by omega⟩
        subst h4 h5 q3
        clear h1 h2 h3 HEnd
        go_wp2_with fail
        go_quiet (fail)
        go_wp2
        go_ret3
        exact ⟨ro, rc, rfl, ds', HE.out.1, HE.out.2.1.keep (Fr.drewN _ _ _), HE.out.2.2, hG3.then (Fr.drewN _ _ _)⟩
    · obtain rfl : p = L := by omega
      have hdn : xs.drop p = [] := List.drop_eq_nil_of_le (by rw [← HL.out]; exact Nat.le_refl _)
      have hrd := HRd.out
      rw [hdn] at hrd
      obtain ⟨q1, q2, q3⟩ := Rds.none hrd
      have hq0 : q = 0 := by have := Hq.out; omega
      subst hq0
      have HLf0 : Hid (Calls Tryz.prog 87 #[(.agg #[.bool false, .slice ao p cap, .int .i64 (p : Int), .int .i64 0])] wr fun e w' => e = .returned (.int .i64 0) ∧ Fr [] wr w') := HLf.out
      have HEn := HEnd.out
      clear hrd HEnd HLf
      subst q3
      go_wp2_with fail
      refine Calls.mono HLf0.out ?_
      rintro e w1 ⟨rfl, hF1⟩
      obtain ⟨ds', h1, h2, h3, h4, h5⟩ := HEn _ (hFr.then hF1) (HY.out.quiet hF1) q1 (by rw [hdn]; exact q2)
      have HE : Hid (txs ds' = ls ∧ TRs w1 ro ds' ∧ N = ds'.length) := ⟨h1, h2, by omega⟩
      have hG1 := hFr.then hF1
      subst h4 h5
      clear h1 h2 h3 HEn
      go_wp2
      go_ret3
      exact ⟨ro, rc, rfl, ds', HE.out.1, HE.out.2.1, HE.out.2.2, hG1⟩
end Go.Proofs.YtaefninikmaiiaaGreatDoor
/- A record taken off a reader: the contract of takeRecord. Conditions: the reader is one of NewReader with nothing wrong. -/
namespace Go.Proofs.YtaefninikmaiiaaGreatDoor
open Go.ChangeShapes Go.WideShapes Go.ChangeAt Go.RowKit Go.Lib
set_option linter.unusedVariables false

theorem B2.keepS {S : List Nat} {w w' : World} {b : Nat} {u v : Value} (h : B2 w b u v) (hf : Fr S w w') (hn : b ∉ S) : B2 w' b u v := ⟨hf.keep h.box hn⟩
theorem Fr.set2g {g : Nat} {w w1 : World} {b : Nat} (h : Fr [g] w w1) (hb : w.heap.size ≤ b) (u v : Value) : Fr [g] w ((w1.setCell ⟨b, 0, none⟩ u).setCell ⟨b, 1, none⟩ v) := by
  have k : Fr [b] w1 ((w1.setCell ⟨b, 0, none⟩ u).setCell ⟨b, 1, none⟩ v) := (Fr.set w1 ⟨b, 0, none⟩ u (by simp)).then (Fr.set _ ⟨b, 1, none⟩ v (by simp))
  exact h.trans k (fun _ x _ => x) (fun y hy hl => by simp at hy; omega)
theorem Fr.box2 (w1 : World) (b : Nat) (u v : Value) : Fr [b] w1 ((w1.setCell ⟨b, 0, none⟩ u).setCell ⟨b, 1, none⟩ v) := (Fr.set w1 ⟨b, 0, none⟩ u (by simp)).then (Fr.set _ ⟨b, 1, none⟩ v (by simp))
/-- What takeRecord answers where there is none. -/
def ErR (w : World) (xs : List Nat) (g r c : Nat) : Prop := Calls Tryz.prog 140 #[.pointer (some ⟨g, 0, none⟩)] w fun e w' => e = .returned (.tuple #[.agg #[.int .i64 0, .slice none 0 0], .int .i64 (c : Int)]) ∧ ∃ ys er ao' cap', Rd w' g r ys er ao' cap' ∧ ys.length ≤ xs.length ∧ Fr [g] w w'
/-- What it answers where there is one. -/
def OkR (w : World) (g r n : Nat) (ws : List Wt) (ys : List Nat) : Prop := Calls Tryz.prog 140 #[.pointer (some ⟨g, 0, none⟩)] w fun e w' => ∃ k C, e = .returned (.tuple #[.agg #[.int .i64 (n : Int), .slice (some ⟨k, 0, none⟩) C C], .int .i64 0]) ∧ w.heap.size ≤ k ∧ C = ws.length ∧ w'.heap[k]? = some (.cells (wtsC ws).toArray 124 (0, 0)) ∧ ∃ ao' cap', Rd w' g r ys 0 ao' cap' ∧ Fr [g] w w'
theorem ErR.calls {w : World} {xs : List Nat} {g r c : Nat} (h : ErR w xs g r c) : Calls Tryz.prog 140 #[.pointer (some ⟨g, 0, none⟩)] w fun e w' => e = .returned (.tuple #[.agg #[.int .i64 0, .slice none 0 0], .int .i64 (c : Int)]) ∧ ∃ ys er ao' cap', Rd w' g r ys er ao' cap' ∧ ys.length ≤ xs.length ∧ Fr [g] w w' := h
theorem OkR.calls {w : World} {g r n : Nat} {ws : List Wt} {ys : List Nat} (h : OkR w g r n ws ys) : Calls Tryz.prog 140 #[.pointer (some ⟨g, 0, none⟩)] w fun e w' => ∃ k C, e = .returned (.tuple #[.agg #[.int .i64 (n : Int), .slice (some ⟨k, 0, none⟩) C C], .int .i64 0]) ∧ w.heap.size ≤ k ∧ C = ws.length ∧ w'.heap[k]? = some (.cells (wtsC ws).toArray 124 (0, 0)) ∧ ∃ ao' cap', Rd w' g r ys 0 ao' cap' ∧ Fr [g] w w' := h

set_option maxHeartbeats 8000000 in
set_option maxRecDepth 100000 in
theorem takeRec_any (g r : Nat) (xs : List Nat) (ao : Option Addr) (cap : Nat) (w : World) (h : Rd w g r xs 0 ao cap) (hr : r < w.heap.size) :
    (∃ c : Nat, recF xs = .error c ∧ ErR w xs g r c) ∨ (∃ (n : Nat) (ws : List Wt) (ys : List Nat), recF xs = .ok (⟨(n : Int), ws⟩, ys) ∧ ys.length < xs.length ∧ OkR w g r n ws ys) := by
  have hgl := h.lt
  have hxl := h.sl.len
  have hlow := h.sl.low
  obtain ⟨w0, HW0⟩ : ∃ w0, Hid ((w.alloc (.cells #[.pointer (some ⟨g, 0, none⟩)] 187)).alloc (.cells #[.int .i64 0, .slice none 0 0] 63) = w0) := ⟨_, rfl⟩
  have hF0 : Fr [] w w0 := by rw [← HW0.out]; exact (Fr.alloc [] w _).then (Fr.alloc [] _ _)
  have hP0 : Bv w0 w.heap.size 187 (.pointer (some ⟨g, 0, none⟩)) := by
    rw [← HW0.out]; exact (Bv.new w _ _).keep (Fr.alloc [] _ _) (by simp)
  have hT0 : B2 w0 (w.heap.size + 1) (.int .i64 0) (.slice none 0 0) := ⟨by rw [← HW0.out]; have := heap_alloc_new (w.alloc (.cells #[.pointer (some ⟨g, 0, none⟩)] 187)) (.cells #[.int .i64 0, .slice none 0 0] 63); simpa using this⟩
  have hs0 : w0.heap.size = w.heap.size + 2 := by rw [← HW0.out]; simp
  have hR0 := h.keep hF0 (by simp) (by simp)
  have hgb : w.heap.size ∉ [g] := by simp; omega
  have hgt : w.heap.size + 1 ∉ [g] := by simp; omega
  have hgg : g ∉ [w.heap.size + 1] := by simp; omega
  have hrg : r ∉ [w.heap.size + 1] := by simp; omega
  have cb0 := hP0.c
  rcases ltakeS_any g r xs ao cap w0 hR0 w.heap.size cb0 with ⟨c, hc, h1, hE⟩ | ⟨s, ys, h1, hl1, hE⟩
  · refine Or.inl ⟨c, by unfold recF; rw [h1], ?_⟩
    show Calls _ _ _ _ _
    have hcb : ((c : Int) != 0) = true := by rw [bne_iff_ne]; omega
    clear hc h1 hlow
    go_enter Tryz.func140, Tryz.ntmps140
    go_wp2_with fail
    rw [HW0.out]
    refine hE.calls.mono ?_
    rintro e w1 ⟨rfl, ao1, cap1, hR1, hF1⟩
    have hT1 := hT0.keepS hF1 hgt
    obtain ⟨x0, x1, y0, y1⟩ : _ ∧ _ ∧ _ ∧ _ := ⟨hT1.c0, hT1.c1, hT1.f0, hT1.f1⟩
    have hG : Fr [g] w w1 := (hF0.mono (by simp)).then hF1
    have HF : Hid (_ ∧ _) := ⟨hR1.keep (Fr.box2 w1 (w.heap.size + 1) (.int .i64 0) (.slice none 0 0)) hgg hrg, hG.set2g (b := w.heap.size + 1) (by omega) (.int .i64 0) (.slice none 0 0)⟩
    clear hT1 hG hR1 hF1 hE hF0 hT0 hP0 hR0
    go_wp2
    refine bodyPost_ret (v := .tuple #[.agg #[.int .i64 0, .slice none 0 0], .int .i64 (c : Int)]) (by rw [results_cell_tmp rfl]; go_simp) rfl ⟨rfl, xs, c, ao1, cap1, HF.out.1, Nat.le_refl _, HF.out.2⟩
  · have hss : s.size ≤ 65536 := (tkS_inv (m := 65536) hlow h1).2.1
    have hyl : ys.length ≤ xs.length := by omega
    have hsl := strNs_lt s
    have hnl := strNs_length s
    have hdec : recF xs = recS s ys := by unfold recF; rw [h1]
    have HDEC : Hid (recF xs = recS s ys) := hdec
    clear hdec h1 hlow h
    cases h2 : tk (fixF 4) ref0 ys with
    | error c =>
      refine Or.inl ⟨c, by rw [HDEC.out]; unfold recS; rw [h2], ?_⟩
      show Calls _ _ _ _ _
      have H2 : Hid (tk (fixF 4) ref0 ys = .error c) := h2
      have hcb : ((c : Int) != 0) = true := by have := tk_code h2; rw [bne_iff_ne]; omega
      clear h2
      go_enter Tryz.func140, Tryz.ntmps140
      go_wp2_with fail
      rw [HW0.out]
      refine hE.calls.mono ?_
      rintro e w1 ⟨rfl, ao1, cap1, hR1, hF1⟩
      have hT1 := hT0.keepS hF1 hgt
      have hP1 := hP0.keep hF1 hgb
      have cb1 := hP1.c
      have hG : Fr [g] w w1 := (hF0.mono (by simp)).then hF1
      clear hE hF1 hT0 hP0 hR0 hF0 cb0
      go_wp2_with fail
      rcases ltakeU_any g r ys ao1 cap1 w1 hR1 w.heap.size cb1 with ⟨c2, hc2, h3, hE2⟩ | ⟨cr, zs, h3, hl2, hE2⟩
      · obtain rfl : c2 = c := by have := H2.out; rw [h3] at this; cases this; rfl
        refine hE2.calls.mono ?_
        rintro e w2 ⟨rfl, ao2, cap2, hR2, hF2⟩
        have hT2 := hT1.keepS hF2 hgt
        obtain ⟨x0, x1, y0, y1⟩ : _ ∧ _ ∧ _ ∧ _ := ⟨hT2.c0, hT2.c1, hT2.f0, hT2.f1⟩
        have hG2 := hG.then hF2
        have HF : Hid (_ ∧ _) := ⟨hR2.keep (Fr.box2 w2 (w.heap.size + 1) (.int .i64 0) (.slice none 0 0)) hgg hrg, hG2.set2g (b := w.heap.size + 1) (by omega) (.int .i64 0) (.slice none 0 0)⟩
        clear hT1 hT2 hG hR1 hR2 hF2 hE2 hG2
        go_wp2
        refine bodyPost_ret (v := .tuple #[.agg #[.int .i64 0, .slice none 0 0], .int .i64 (c2 : Int)]) (by rw [results_cell_tmp rfl]; go_simp) rfl ⟨rfl, ys, c2, ao2, cap2, HF.out.1, hyl, HF.out.2⟩
      · exfalso
        have := H2.out
        rw [h3] at this
        cases this
    | ok p =>
      obtain ⟨cr, zs⟩ := p
      have H2 : Hid (tk (fixF 4) ref0 ys = .ok (cr, zs)) := h2
      have hzl : zs.length ≤ ys.length := by
        obtain ⟨_, _, _, e4⟩ := tk_inv h2
        rw [← e4, List.length_drop]; omega
      have hdec2 : recF xs = recC cr (strNs s) zs := by rw [HDEC.out]; unfold recS; rw [h2]
      have HDEC2 : Hid (recF xs = recC cr (strNs s) zs) := hdec2
      clear hdec2 h2 HDEC
      by_cases hcrc : cr = crcN (strNs s)
      · cases h5 : decT (strNs s) with
        | error c =>
          refine Or.inl ⟨c, by rw [HDEC2.out]; unfold recC; rw [if_pos hcrc, h5], ?_⟩
          show Calls _ _ _ _ _
          have H5 : Hid (decT (strNs s) = .error c) := h5
          have HC : Hid (crcN (strNs s) = cr) := hcrc.symm
          clear h5 hcrc HDEC2
          go_enter Tryz.func140, Tryz.ntmps140
          go_wp2_with fail
          rw [HW0.out]
          refine hE.calls.mono ?_
          rintro e w1 ⟨rfl, ao1, cap1, hR1, hF1⟩
          have hT1 := hT0.keepS hF1 hgt
          have hP1 := hP0.keep hF1 hgb
          have cb1 := hP1.c
          have hG : Fr [g] w w1 := (hF0.mono (by simp)).then hF1
          clear hE hF1 hT0 hP0 hR0 hF0 cb0
          go_wp2_with fail
          rcases ltakeU_any g r ys ao1 cap1 w1 hR1 w.heap.size cb1 with ⟨c2, hc2, h3, hE2⟩ | ⟨cr2, zs2, h3, hl2, hE2⟩
          · exfalso
            have := H2.out
            rw [h3] at this
            cases this
          obtain ⟨rfl, rfl⟩ : cr2 = cr ∧ zs2 = zs := by have := H2.out; rw [h3] at this; cases this; exact ⟨rfl, rfl⟩
          refine hE2.calls.mono ?_
          rintro e w2 ⟨rfl, ao2, cap2, hR2, hF2⟩
          have hT2 := hT1.keepS hF2 hgt
          have hG2 := hG.then hF2
          clear hT1 hP1 cb1 hG hR1 hF2 hE2 h3 H2
          obtain ⟨ccap, w3, hconv, hA3, hF3⟩ := conv_bytes s w2 (by omega)
          have hT3 := hT2.keepS hF3 (by simp)
          have hG3 := hG2.then (hF3.mono (by simp))
          have hR3 := hR2.keep hF3 (by simp) (by simp)
          clear hT2 hG2 hR2 hF3
          go_wp2_with fail
          refine (crc_any cr2 _ _ ccap (strNs s) _ hA3 HC.out).mono ?_
          rintro e w4 ⟨rfl, hF4⟩
          have hcrl : cr2 < 4294967296 := by have := HC.out; rw [← this]; exact crcN_lt _
          have hT4 := hT3.keepS hF4 (by simp)
          have hG4 := hG3.then (hF4.mono (by simp))
          have hR4 := hR3.keep hF4 (by simp) (by simp)
          have hA4 := hA3.keep hF4
          clear hT3 hG3 hR3 hF4 hA3
          have hne : ((cr2 : Int) != cr2) = false := by simp
          go_wp2_with fail
          refine (decode_err _ _ ccap c (strNs s) _ hA4 hnl.symm (by rw [hnl]; omega) H5.out).mono ?_
          rintro e w5 ⟨rfl, hF5⟩
          have hT5 := hT4.keepS hF5 (by simp)
          obtain ⟨x0, x1, y0, y1⟩ : _ ∧ _ ∧ _ ∧ _ := ⟨hT5.c0, hT5.c1, hT5.f0, hT5.f1⟩
          have hG5 := hG4.then (hF5.mono (by simp))
          have hR5 := hR4.keep hF5 (by simp) (by simp)
          have HF : Hid (_ ∧ _) := ⟨hR5.keep (Fr.box2 w5 (w.heap.size + 1) (.int .i64 0) (.slice none 0 0)) hgg hrg, hG5.set2g (b := w.heap.size + 1) (by omega) (.int .i64 0) (.slice none 0 0)⟩
          clear hT4 hT5 hG4 hG5 hR4 hR5 hF5
          go_wp2
          refine bodyPost_ret (v := .tuple #[.agg #[.int .i64 0, .slice none 0 0], .int .i64 (c : Int)]) (by rw [results_cell_tmp rfl]; go_simp) rfl ⟨rfl, zs2, 0, ao2, cap2, HF.out.1, by omega, HF.out.2⟩
        | ok p =>
          obtain ⟨n, ws⟩ := p
          refine Or.inr ⟨n, ws, zs, by rw [HDEC2.out]; unfold recC; rw [if_pos hcrc, h5], by omega, ?_⟩
          show Calls _ _ _ _ _
          have H5 : Hid (decT (strNs s) = .ok (n, ws)) := h5
          have HC : Hid (crcN (strNs s) = cr) := hcrc.symm
          clear h5 hcrc HDEC2
          go_enter Tryz.func140, Tryz.ntmps140
          go_wp2_with fail
          rw [HW0.out]
          refine hE.calls.mono ?_
          rintro e w1 ⟨rfl, ao1, cap1, hR1, hF1⟩
          have hT1 := hT0.keepS hF1 hgt
          have hP1 := hP0.keep hF1 hgb
          have cb1 := hP1.c
          have hG : Fr [g] w w1 := (hF0.mono (by simp)).then hF1
          clear hE hF1 hT0 hP0 hR0 hF0 cb0
          go_wp2_with fail
          rcases ltakeU_any g r ys ao1 cap1 w1 hR1 w.heap.size cb1 with ⟨c2, hc2, h3, hE2⟩ | ⟨cr2, zs2, h3, hl2, hE2⟩
          · exfalso
            have := H2.out
            rw [h3] at this
            cases this
          obtain ⟨rfl, rfl⟩ : cr2 = cr ∧ zs2 = zs := by have := H2.out; rw [h3] at this; cases this; exact ⟨rfl, rfl⟩
          refine hE2.calls.mono ?_
          rintro e w2 ⟨rfl, ao2, cap2, hR2, hF2⟩
          have hT2 := hT1.keepS hF2 hgt
          have hG2 := hG.then hF2
          clear hT1 hP1 cb1 hG hR1 hF2 hE2 h3 H2
          obtain ⟨ccap, w3, hconv, hA3, hF3⟩ := conv_bytes s w2 (by omega)
          have hT3 := hT2.keepS hF3 (by simp)
          have hG3 := hG2.then (hF3.mono (by simp))
          have hR3 := hR2.keep hF3 (by simp) (by simp)
          clear hT2 hG2 hR2 hF3
          go_wp2_with fail
          refine (crc_any cr2 _ _ ccap (strNs s) _ hA3 HC.out).mono ?_
          rintro e w4 ⟨rfl, hF4⟩
          have hcrl : cr2 < 4294967296 := by have := HC.out; rw [← this]; exact crcN_lt _
          have hT4 := hT3.keepS hF4 (by simp)
          have hG4 := hG3.then (hF4.mono (by simp))
          have hR4 := hR3.keep hF4 (by simp) (by simp)
          have hA4 := hA3.keep hF4
          clear hT3 hG3 hR3 hF4 hA3
          have hne : ((cr2 : Int) != cr2) = false := by simp
          go_wp2_with fail
          refine (decode_ok _ _ ccap n ws (strNs s) _ hA4 hnl.symm (by rw [hnl]; omega) H5.out).mono ?_
          rintro e w5 ⟨k, C, rfl, hk, hC, hrow, hF5⟩
          have HCC : Hid (C = ws.length) := hC
          have hT5 := hT4.keepS hF5 (by simp)
          obtain ⟨x0, x1, y0, y1⟩ : _ ∧ _ ∧ _ ∧ _ := ⟨hT5.c0, hT5.c1, hT5.f0, hT5.f1⟩
          have hG5 := hG4.then (hF5.mono (by simp))
          have hR5 := hR4.keep hF5 (by simp) (by simp)
          have hs4 := hG4.size
          have hkb : k ∉ [w.heap.size + 1] := by have := hT4.lt; simp; omega
          have HF : Hid (_ ∧ _ ∧ _) := ⟨(Fr.box2 w5 (w.heap.size + 1) (.int .i64 (n : Int)) (.slice (some ⟨k, 0, none⟩) C C)).keep hrow hkb, hR5.keep (Fr.box2 w5 (w.heap.size + 1) (.int .i64 (n : Int)) (.slice (some ⟨k, 0, none⟩) C C)) hgg hrg, hG5.set2g (b := w.heap.size + 1) (by omega) (.int .i64 (n : Int)) (.slice (some ⟨k, 0, none⟩) C C)⟩
          clear hT4 hT5 hG4 hG5 hR4 hR5 hF5 hrow hC
          go_wp2
          refine bodyPost_ret (v := .tuple #[.agg #[.int .i64 (n : Int), .slice (some ⟨k, 0, none⟩) C C], .int .i64 0]) (by rw [results_cell_tmp rfl]; go_simp) rfl ⟨k, C, rfl, by omega, HCC.out, HF.out.1, ao2, cap2, HF.out.2⟩
      · refine Or.inl ⟨4, by rw [HDEC2.out]; unfold recC; rw [if_neg hcrc], ?_⟩
        show Calls _ _ _ _ _
        obtain ⟨m, hm⟩ : ∃ m, crcN (strNs s) = m := ⟨_, rfl⟩
        have HC : Hid (crcN (strNs s) = m) := hm
        have hml : m < 4294967296 := by rw [← hm]; exact crcN_lt _
        have hne : ((m : Int) != cr) = true := by rw [bne_iff_ne]; intro hh; exact hcrc (by rw [hm]; omega)
        clear hcrc HDEC2 hm
        go_enter Tryz.func140, Tryz.ntmps140
        go_wp2_with fail
        rw [HW0.out]
        refine hE.calls.mono ?_
        rintro e w1 ⟨rfl, ao1, cap1, hR1, hF1⟩
        have hT1 := hT0.keepS hF1 hgt
        have hP1 := hP0.keep hF1 hgb
        have cb1 := hP1.c
        have hG : Fr [g] w w1 := (hF0.mono (by simp)).then hF1
        clear hE hF1 hT0 hP0 hR0 hF0 cb0
        go_wp2_with fail
        rcases ltakeU_any g r ys ao1 cap1 w1 hR1 w.heap.size cb1 with ⟨c2, hc2, h3, hE2⟩ | ⟨cr2, zs2, h3, hl2, hE2⟩
        · exfalso
          have := H2.out
          rw [h3] at this
          cases this
        obtain ⟨rfl, rfl⟩ : cr2 = cr ∧ zs2 = zs := by have := H2.out; rw [h3] at this; cases this; exact ⟨rfl, rfl⟩
        refine hE2.calls.mono ?_
        rintro e w2 ⟨rfl, ao2, cap2, hR2, hF2⟩
        have hT2 := hT1.keepS hF2 hgt
        have hG2 := hG.then hF2
        clear hT1 hP1 cb1 hG hR1 hF2 hE2 h3 H2
        obtain ⟨ccap, w3, hconv, hA3, hF3⟩ := conv_bytes s w2 (by omega)
        have hT3 := hT2.keepS hF3 (by simp)
        have hG3 := hG2.then (hF3.mono (by simp))
        have hR3 := hR2.keep hF3 (by simp) (by simp)
        clear hT2 hG2 hR2 hF3
        go_wp2_with fail
        refine (crc_any m _ _ ccap (strNs s) _ hA3 HC.out).mono ?_
        rintro e w4 ⟨rfl, hF4⟩
        have hT4 := hT3.keepS hF4 (by simp)
        have hG4 := hG3.then (hF4.mono (by simp))
        have hR4 := hR3.keep hF4 (by simp) (by simp)
        have hA4 := hA3.keep hF4
        clear hT3 hG3 hR3 hF4 hA3
        have hT4' := hT4
        obtain ⟨x0, x1, y0, y1⟩ : _ ∧ _ ∧ _ ∧ _ := ⟨hT4.c0, hT4.c1, hT4.f0, hT4.f1⟩
        have HF : Hid (_ ∧ _) := ⟨hR4.keep (Fr.box2 w4 (w.heap.size + 1) (.int .i64 0) (.slice none 0 0)) hgg hrg, hG4.set2g (b := w.heap.size + 1) (by omega) (.int .i64 0) (.slice none 0 0)⟩
        clear hT4 hT4' hG4 hR4
        go_wp2
        refine bodyPost_ret (v := .tuple #[.agg #[.int .i64 0, .slice none 0 0], .int .i64 4]) (by rw [results_cell_tmp rfl]; go_simp) rfl ⟨rfl, zs2, 0, ao2, cap2, HF.out.1, by omega, HF.out.2⟩
end Go.Proofs.YtaefninikmaiiaaGreatDoor
/- The records of some bytes, told one by one: the contract of the iterator that records makes, for whatever loop body. Conditions as it names them. -/
namespace Go.Proofs.YtaefninikmaiiaaGreatDoor
open Go.ChangeShapes Go.WideShapes Go.ChangeAt Go.RowKit Go.Lib
set_option linter.unusedVariables false
attribute [local go_sem] Oper.semAt_some

/-- A reader's struct lies there. -/
def RBox (w : World) (g : Nat) : Prop := ∃ cs f, w.heap[g]? = some (.cells cs 213 f)
theorem Rd.rbox {w : World} {g r : Nat} {xs : List Nat} {er : Nat} {ao : Option Addr} {cap : Nat} (h : Rd w g r xs er ao cap) : RBox w g := ⟨_, _, h.box⟩
/-- What a told record is as a value. -/
def toldV (n : Int) (ao : Option Addr) (L cap en : Nat) (c : Nat) : Value := .agg #[.int .i64 n, .slice ao L cap, .int .i64 (en : Int), .int .i64 (c : Int)]

/-- How many bytes are ahead of the reader at g. -/
def leftOf (w : World) (g : Nat) : Nat := match w.cell? ⟨g, 1, none⟩ with | some (.slice _ n _) => n | _ => 0
theorem Rd.left {w : World} {g r : Nat} {xs : List Nat} {er : Nat} {ao : Option Addr} {cap : Nat} (h : Rd w g r xs er ao cap) : leftOf w g = xs.length := by
  unfold leftOf
  rw [h.c1]
theorem Rds.at_err {k : Nat} {ys vs : List Nat} {rs : List Tx} {c c1 : Nat} (h : Rds k ys rs vs c) (h0 : ys ≠ []) (h1 : recF ys = .error c1) : rs = [] ∧ vs = ys ∧ c = c1 := by
  cases rs with
  | nil =>
    obtain ⟨rfl, h⟩ := h
    rcases h with ⟨g, _⟩ | ⟨_, g⟩ | ⟨_, _, t, r, g, _⟩
    · exact absurd g h0
    · rw [h1] at g; cases g; exact ⟨rfl, rfl, rfl⟩
    · rw [h1] at g; cases g
  | cons t r =>
    obtain ⟨zs, _, g, _⟩ := h
    rw [h1] at g; cases g
theorem Rds.at_ok {k : Nat} {ys zs vs : List Nat} {rs : List Tx} {c : Nat} {t : Tx} (h : Rds k ys rs vs c) (h0 : ys ≠ []) (h1 : recF ys = .ok (t, zs)) : (t.n = (k : Int) ∧ ∃ rs', rs = t :: rs' ∧ Rds (k + 1) zs rs' vs c) ∨ (t.n ≠ (k : Int) ∧ rs = [] ∧ vs = ys ∧ c = 6) := by
  cases rs with
  | nil =>
    obtain ⟨rfl, h⟩ := h
    rcases h with ⟨g, _⟩ | ⟨_, g⟩ | ⟨_, g0, t', r, g, g2⟩
    · exact absurd g h0
    · rw [h1] at g; cases g
    · rw [h1] at g; cases g; exact Or.inr ⟨g2, rfl, rfl, g0⟩
  | cons t' r =>
    obtain ⟨zs', _, g, g2, g3⟩ := h
    rw [h1] at g; cases g
    exact Or.inl ⟨g2, r, rfl, g3⟩
/-- What was taken, told: nothing, and why; or a transaction, and where its writes lie. -/
def Took (w0 : World) (ys : List Nat) (c : Nat) (n : Int) (so : Option Addr) (C : Nat) (zs : List Nat) (er : Nat) (w : World) : Prop :=
  (c ≠ 0 ∧ recF ys = .error c ∧ n = 0 ∧ so = none ∧ C = 0) ∨
  (c = 0 ∧ ∃ (k N : Nat) (ws : List Wt), n = (N : Int) ∧ so = some ⟨k, 0, none⟩ ∧ C = ws.length ∧ w0.heap.size ≤ k ∧ w.heap[k]? = some (.cells (wtsC ws).toArray 124 (0, 0)) ∧ recF ys = .ok (⟨(N : Int), ws⟩, zs) ∧ er = 0 ∧ zs.length < ys.length)
theorem Took.keep {w0 w w' : World} {ys zs : List Nat} {c C er : Nat} {n : Int} {so : Option Addr} (h : Took w0 ys c n so C zs er w) (hf : Fr [] w w') : Took w0 ys c n so C zs er w' := by
  rcases h with h | ⟨h, k, N, ws, h1, h2, h3, h4, h5, h6⟩
  · exact Or.inl h
  · exact Or.inr ⟨h, k, N, ws, h1, h2, h3, h4, hf.keep h5 (by simp), h6⟩
theorem took_any (g r : Nat) (ys : List Nat) (ao : Option Addr) (cap : Nat) (w : World) (h : Rd w g r ys 0 ao cap) (hr : r < w.heap.size) :
    ∃ c : Nat, Calls Tryz.prog 140 #[.pointer (some ⟨g, 0, none⟩)] w fun e w' => ∃ n so C zs er ao' cap', e = .returned (.tuple #[.agg #[.int .i64 n, .slice so C C], .int .i64 (c : Int)]) ∧ Took w ys c n so C zs er w' ∧ Rd w' g r zs er ao' cap' ∧ zs.length ≤ ys.length ∧ Fr [g] w w' := by
  rcases takeRec_any g r ys ao cap w h hr with ⟨c, hrec, hE⟩ | ⟨n, ws, zs, hrec, hlt, hO⟩
  · refine ⟨c, hE.calls.mono ?_⟩
    rintro e w' ⟨rfl, zs, er, ao', cap', hR, hl, hF⟩
    exact ⟨0, none, 0, zs, er, ao', cap', rfl, Or.inl ⟨recF_code (fun _ _ => decT_code) hrec, hrec, rfl, rfl, rfl⟩, hR, hl, hF⟩
  · refine ⟨0, hO.calls.mono ?_⟩
    rintro e w' ⟨k, C, rfl, hk, hC, hrow, ao', cap', hR, hF⟩
    exact ⟨n, some ⟨k, 0, none⟩, C, zs, 0, ao', cap', rfl, Or.inr ⟨rfl, k, n, ws, rfl, rfl, hC, hk, hrow, hrec, rfl, hlt⟩, hR, by omega, hF⟩
theorem Rd.same {w w' : World} {g r : Nat} {xs : List Nat} {er : Nat} {ao : Option Addr} {cap : Nat} (h : Rd w g r xs er ao cap) (hg : w'.heap[g]? = w.heap[g]?) (hr : w'.heap[r]? = w.heap[r]?) (hs : w.heap.size ≤ w'.heap.size) : Rd w' g r xs er ao cap := by
  refine { h with box := hg.trans h.box, sl := { h.sl with lies := fun h0 => ?_, blk := by have := h.sl.blk; omega } }
  obtain ⟨off, e, hc⟩ := h.sl.lies h0
  exact ⟨off, e, fun j hj => (World.cell?_of_block hr).trans (hc j hj)⟩
/-- Where the iterator has ended: all that is told was told; and why it ended. -/
def RecEnd (J : Nat → List Tm → Nat → World → Prop) (Jx : Nat → List Tm → Nat → Nat → World → Prop) (xs vs : List Nat) (ls : List Tx) (c : Nat) (W' : World) : Prop :=
  ∃ s ds good, txs ds = ls ∧ good + vs.length = xs.length ∧ ((c = 0 ∧ J s ds good W') ∨ (c ≠ 0 ∧ Jx s ds good c W'))
set_option maxHeartbeats 8000000 in
set_option maxRecDepth 100000 in
theorem rec1_in (m l bb : Nat) (ao : Option Addr) (L cap : Nat) (xs vs : List Nat) (ls : List Tx) (c : Nat) (W : World) (J : Nat → List Tm → Nat → World → Prop) (Jx : Nat → List Tm → Nat → Nat → World → Prop)
    (hbb : Bv W bb 26 (.slice ao L cap)) (hA : BArg W ao L cap xs) (hlen : xs.length < 2^40) (hR : Rds 1 xs ls vs c) (h0 : ∀ s, W.heap.size ≤ s → J s [] 0 W)
    (hJ0 : ∀ s ds good w w', J s ds good w → Fr [] w w' → J s ds good w') (hJ : ∀ s ds good w w' g, J s ds good w → RBox w g → W.heap.size ≤ g → Fr [g] w w' → J s ds good w')
    (hYg : ∀ (s : Nat) (ds : List Tm) (good : Nat) (w : World) (n k C en : Nat) (ws : List Wt), J s ds good w → W.heap.size ≤ s → s ≤ w.heap.size → okT (n : Int) ws → n = ds.length + 1 → C = ws.length → W.heap.size ≤ k → w.heap[k]? = some (.cells (wtsC ws).toArray 124 (0, 0)) → en < 2^41 → ds.length < 2^41 → (∃ w0, J s ds good w0 ∧ w0.heap.size ≤ k) →
      YieldAt Fence.wide m Tryz.prog l #[.agg #[.int .i64 (n : Int), .slice (some ⟨k, 0, none⟩) C C, .int .i64 (en : Int), .int .i64 0]] w fun e w' => e = .returned (.bool true) ∧ J s (ds ++ [⟨(n : Int), some ⟨k, 0, none⟩, C, C, ws⟩]) en w' ∧ w.heap.size ≤ w'.heap.size ∧ ∀ k, (W.heap.size ≤ k ∧ k < s) ∨ k = bb → w'.heap[k]? = w.heap[k]?)
    (hYo : ∀ (s : Nat) (ds : List Tm) (good : Nat) (w : World) (n k C en : Nat) (ws : List Wt), J s ds good w → W.heap.size ≤ s → s ≤ w.heap.size → okT (n : Int) ws → n ≠ ds.length + 1 → C = ws.length → W.heap.size ≤ k → w.heap[k]? = some (.cells (wtsC ws).toArray 124 (0, 0)) → en < 2^41 → ds.length < 2^41 →
      YieldAt Fence.wide m Tryz.prog l #[.agg #[.int .i64 (n : Int), .slice (some ⟨k, 0, none⟩) C C, .int .i64 (en : Int), .int .i64 0]] w fun e w' => e = .returned (.bool false) ∧ Jx s ds good 6 w')
    (hYe : ∀ (s : Nat) (ds : List Tm) (good : Nat) (w : World) (c en : Nat), J s ds good w → c ≠ 0 → en < 2^41 →
      YieldAt Fence.wide m Tryz.prog l #[.agg #[.int .i64 0, .slice none 0 0, .int .i64 (en : Int), .int .i64 (c : Int)]] w fun e w' => e = .returned (.bool false) ∧ Jx s ds good c w') :
    CallsIn Fence.wide (m + 1) Tryz.prog 137 #[.func (.yield l) #[] #[], .pointer (some ⟨bb, 0, none⟩)] W fun e W' => (∃ v, e = .returned v) ∧ RecEnd J Jx xs vs ls c W' := by
  have HR : Hid (Rds 1 xs ls vs c) := hR
  have HL : Hid (L = xs.length) := hA.len
  have hlow := hA.low
  have hbc := hbb.c
  clear hR
  refine callsIn_of_wp Tryz.func137 rfl trivial ?_ rfl
  simp only [Tryz.ntmps137, List.size_toArray, List.length_cons, List.length_nil, Nat.reduceAdd, Nat.reduceSub, Array.replicate_succ, Array.replicate_zero, List.push_toArray, List.append_toArray, List.nil_append, List.cons_append]
  gi_wp2_with fail
  refine ⟨trivial, (callsIn_wide.2 (newReader_any ao L cap xs _ HL.out (fun h1 => hA.src h1) hlow (by omega))).mono ?_⟩
  rintro e w1 ⟨g, rfl, hg, hR1, hF1⟩
  obtain ⟨s, hs⟩ : ∃ s, s = w1.heap.size := ⟨_, rfl⟩
  have hJ1 : J s [] 0 w1 := hJ0 s [] 0 W w1 (h0 s (by have := hF1.size; omega)) hF1
  have hgs : g < s := by rw [hs]; exact hR1.lt
  have hWs : W.heap.size < s := by omega
  have hb1 := hbb.keep hF1 (by simp)
  have hs1 : s ≤ w1.heap.size := by omega
  obtain ⟨r, hr⟩ : ∃ r, r = W.heap.size := ⟨_, rfl⟩
  obtain ⟨ao1, hao1⟩ : ∃ a, a = some (⟨W.heap.size, 0, none⟩ : Addr) := ⟨_, rfl⟩
  obtain ⟨cap1, hcap1⟩ : ∃ a, a = xs.length := ⟨_, rfl⟩
  have hRd1 : Rd w1 g r xs 0 ao1 cap1 := by rw [hr, hao1, hcap1]; exact hR1
  have hrs : W.heap.size ≤ r ∧ r < s := by omega
  have hbW := hbb.lt
  clear hR1 hao1 hcap1 hs hr hbc hF1 hbb
  gi_wp2_with fail
  gi_loopw [] (fun wr => ∃ (ds : List Tm) (good : Nat) (rs : List Tx) (ys : List Nat) (ao' : Option Addr) (cap' : Nat), Hid (ls = txs ds ++ rs) ∧ Hid (Rds (ds.length + 1) ys rs vs c) ∧ Hid (good + ys.length = xs.length ∧ ds.length ≤ good) ∧ Rd wr g r ys 0 ao' cap' ∧ J s ds good wr ∧ s ≤ wr.heap.size ∧ Bv wr bb 26 (.slice ao L cap)) (fun wr => leftOf wr g)
  case atStart => exact ⟨[], 0, ls, xs, ao1, cap1, rfl, HR.out, ⟨by omega, Nat.le_refl _⟩, hRd1, hJ1, hs1, hb1⟩
  case round =>
    obtain ⟨ds, good, rs, ys, ao', cap', HS, HD, HG, hRd, hJr, hsr, hbr⟩ := hrel
    obtain ⟨M, hM⟩ : ∃ M, M = ys.length := ⟨_, rfl⟩
    have HM : Hid (M = ys.length) := hM
    have hl1 := left_any g r ys 0 ao' cap' wr hRd
    rw [← hM] at hl1
    have hMx : M ≤ xs.length := by have := HG.out.1; omega
    clear hM
    by_cases hy : 0 < M
    · have hne : ys ≠ [] := by intro h1; have := HM.out; rw [h1] at this; simp at this; omega
      obtain ⟨c', hT⟩ := took_any g r ys ao' cap' wr hRd (by omega)
      gi_wp2_with fail
      refine ⟨trivial, (callsIn_wide.2 hl1).mono ?_⟩
      rintro e w2 ⟨rfl, rfl⟩
      gi_wp2_with fail
      refine ⟨trivial, (callsIn_wide.2 hT).mono ?_⟩
      rintro e w2 ⟨n, so, C, zs, er, ao2, cap2, rfl, hK2, hR2, hl2, hF2⟩
      have hJ2 : J s ds good w2 := hJ s ds good wr w2 g hJr hRd.rbox (by omega) hF2
      have hb2 := hbr.keep hF2 (by simp; omega)
      have hs2 : s ≤ w2.heap.size := by have := hF2.size; omega
      have hF3 : Fr [] w2 (w2.alloc (.cells #[.int .i64 n, .slice so C C] 63)) := Fr.alloc _ _ _
      have hT3 : B2 (w2.alloc (.cells #[.int .i64 n, .slice so C C] 63)) w2.heap.size (.int .i64 n) (.slice so C C) := ⟨heap_alloc_new _ _⟩
      gi_wp2_with fail
      obtain ⟨w3, HW3⟩ : ∃ w3, Hid (w2.alloc (.cells #[.int .i64 n, .slice so C C] 63) = w3) := ⟨_, rfl⟩
      rw [HW3.out] at hF3 hT3 ⊢
      obtain ⟨b3, hb3⟩ : ∃ b3, b3 = w2.heap.size := ⟨_, rfl⟩
      rw [← hb3] at hT3 ⊢
      have HB3 : Hid (b3 = w2.heap.size) := hb3
      clear hb3
      have hK3 := hK2.keep hF3
      have hJ3 : J s ds good w3 := hJ0 s ds good w2 w3 hJ2 hF3
      have hbb3 := hb2.keep hF3 (by simp)
      have hR3 := hR2.keep hF3 (by simp) (by simp)
      obtain ⟨x0, x1, y0⟩ : _ ∧ _ ∧ _ := ⟨hT3.c0, hT3.c1, hbb3.c⟩
      have hz0 : w3.drew.heap.size = w3.heap.size := rfl
      have hF4 : Fr [] w3 (w3.drew.alloc (.cells #[.int .i64 0, .slice none 0 0, .int .i64 0, .int .i64 0] 100)) := (Fr.drew [] w3).then (Fr.alloc _ _ _)
      have hT4 := hT3.keep hF4
      have hbb4 := hbb3.keep hF4 (by simp)
      have hR4 := hR3.keep hF4 (by simp) (by simp)
      have hRd3 : Rd w3.drew g r zs er ao2 cap2 := hR3.keep (Fr.drew [] w3) (by simp) (by simp)
      obtain ⟨q0, q1, p0⟩ : _ ∧ _ ∧ _ := ⟨hT4.c0, hT4.c1, hbb4.c⟩
      obtain ⟨Z, hZ⟩ : ∃ Z, Z = zs.length := ⟨_, rfl⟩
      have hlA := left_any g r zs er ao2 cap2 _ hRd3
      have hlC : ∀ Zz, Calls Tryz.prog 139 #[.pointer (some ⟨g, 0, none⟩)] (w3.alloc (.cells Zz 100)).drew fun e w' => e = .returned (.int .i64 (zs.length : Nat)) ∧ (w3.alloc (.cells Zz 100)).drew = w' := fun Zz => left_any g r zs er ao2 cap2 _ (hR3.keep ((Fr.alloc [] w3 _).then (Fr.drew [] _)) (by simp) (by simp))
      rw [← hZ] at hlA hlC
      have hZl : Z ≤ L := by have := HL.out; have := HM.out; omega
      have HZ : Hid (Z = zs.length) := hZ
      clear hZ
      have hLm : L < 1099511627776 := by have := HL.out; omega
      obtain ⟨x0', x1', y0'⟩ : w3.drew.cell? ⟨b3, 0, none⟩ = some (.int .i64 n) ∧ w3.drew.cell? ⟨b3, 1, none⟩ = some (.slice so C C) ∧ w3.drew.cell? ⟨bb, 0, none⟩ = some (.slice ao L cap) := ⟨x0, x1, y0⟩
      have hzB : ∀ Zz, Fr [] w3 (w3.alloc (.cells Zz 100)).drew := fun Zz => (Fr.alloc [] w3 _).then (Fr.drew [] _)
      refine wpIn_wide.2 ?_
      go_region_held3 (fun W => W.cell? ⟨b3, 0, none⟩ = some (.int .i64 n) ∧ W.cell? ⟨b3, 1, none⟩ = some (.slice so C C) ∧ W.cell? ⟨bb, 0, none⟩ = some (.slice ao L cap)) (go_keep)
        (first
          | (with_reducible refine hlA.mono ?_; rintro e w9 ⟨rfl, rfl⟩)
          | (with_reducible refine (hlC _).mono ?_; rintro e w9 ⟨rfl, rfl⟩))
      all_goals (
        have hwr : IntKind.i64.wrap ((L : Int) - (Z : Int)) = ((L - Z : Nat) : Int) := by
          rw [IntKind.wrap_i64]
          omega
        rw [hwr]
        obtain ⟨en, hen⟩ : ∃ en : Nat, en = L - Z := ⟨_, rfl⟩
        rw [← hen]
        have HEN : Hid (en = L - Z) := hen
        have henl : en < 2 ^ 41 := by omega
        clear hen hwr
        have hF5 : Fr [] w3 (w3.alloc (.cells #[.int .i64 n, .slice so C C, .int .i64 (en : Int), .int .i64 (c' : Int)] 100)).drew := (Fr.alloc [] w3 _).then (Fr.drew [] _)
        have hrow5 : (w3.alloc (.cells #[.int .i64 n, .slice so C C, .int .i64 (en : Int), .int .i64 (c' : Int)] 100)).drew.heap[w3.heap.size]? = some (.cells #[.int .i64 n, .slice so C C, .int .i64 (en : Int), .int .i64 (c' : Int)] 100 (0, 0)) := heap_alloc_new w3 _
        obtain ⟨w5, HW5⟩ : ∃ w5, Hid ((w3.alloc (.cells #[.int .i64 n, .slice so C C, .int .i64 (en : Int), .int .i64 (c' : Int)] 100)).drew = w5) := ⟨_, rfl⟩
        rw [HW5.out] at hF5 hrow5 ⊢
        obtain ⟨b5, hb5⟩ : ∃ b5, b5 = w3.heap.size := ⟨_, rfl⟩
        rw [← hb5] at hrow5 ⊢
        clear hb5
        have f0 : w5.cell? ⟨b5, 0, none⟩ = some (.int .i64 n) := by rw [cell_of_row _ _ _ _ _ _ hrow5]; rfl
        have f1 : w5.cell? ⟨b5, 1, none⟩ = some (.slice so C C) := by rw [cell_of_row _ _ _ _ _ _ hrow5]; rfl
        have f2 : w5.cell? ⟨b5, 2, none⟩ = some (.int .i64 (en : Int)) := by rw [cell_of_row _ _ _ _ _ _ hrow5]; rfl
        have f3 : w5.cell? ⟨b5, 3, none⟩ = some (.int .i64 (c' : Int)) := by rw [cell_of_row _ _ _ _ _ _ hrow5]; rfl
        have hK5 := hK3.keep hF5
        have hJ5 : J s ds good w5 := hJ0 s ds good w3 w5 hJ3 hF5
        have hbb5 := hbb3.keep hF5 (by simp)
        have hR5 := hR3.keep hF5 (by simp) (by simp)
        have hs5 : s ≤ w5.heap.size := by have := hF3.size; have := hF5.size; omega
        clear hlA hlC hzB x0 x1 y0 x0' x1' y0' q0 q1 p0 hT3 hT4 hbb3 hbb4 hR3 hR4 hRd3 hF4 hF5 hF3 hrow5 hK2 hK3 hJ2 hJ3 hb2 hR2 hz0 hl1 hT
        rcases hK5 with ⟨hc0, hrec, rfl, rfl, rfl⟩ | ⟨rfl, k, N, ws, rfl, rfl, hC, hk, hrow, hrec, rfl, hlt⟩
        · obtain ⟨rfl, rfl, rfl⟩ := Rds.at_err HD.out hne hrec
          obtain ⟨fn, tmps, assign, body, hy1, hRo⟩ := hYe s ds good w5 c en hJ5 hc0 henl
          have HC0 : Hid (c ≠ 0) := hc0
          clear hc0 hrec
          gi_wp2_with fail
          refine hRo.mono ?_
          rintro e W6 ⟨rfl, hJx6⟩
          gi_wp2
          refine bodyPost_ret (results_none rfl _ _ _) rfl ?_
          exact ⟨⟨_, rfl⟩, s, ds, good, by rw [HS.out, List.append_nil], HG.out.1, Or.inr ⟨HC0.out, hJx6⟩⟩
        · have hok : okT (N : Int) ws := (recF_inv hRd.sl.low hrec).2
          have hz0 : ((0 : Nat) : Int) = 0 := rfl
          rw [hz0] at f3 ⊢
          have hdl : ds.length < 2 ^ 41 := by have := HG.out; omega
          rcases Rds.at_ok HD.out hne hrec with ⟨hn, rs', rfl, hD'⟩ | ⟨hn, rfl, rfl, rfl⟩
          · have hN : N = ds.length + 1 := by simp only at hn; omega
            obtain ⟨fn, tmps, assign, body, hy1, hRo⟩ := hYg s ds good w5 N k C en ws hJ5 (by omega) hs5 hok hN hC (by omega) hrow henl hdl ⟨wr, hJr, hk⟩
            have HD' : Hid (Rds (ds.length + 1 + 1) zs rs' vs c) := hD'
            have HLT : Hid (zs.length < ys.length) := hlt
            clear hD' hrec hn hN hok hlt hz0 hdl hC
            gi_wp2_with fail
            refine hRo.mono ?_
            rintro e W6 ⟨rfl, hJ6, hsz6, hk6⟩
            have hR6 := hR5.same (hk6 g (Or.inl ⟨by omega, hgs⟩)) (hk6 r (Or.inl hrs)) hsz6
            have hb6 : Bv W6 bb 26 (.slice ao L cap) := ⟨(hk6 bb (Or.inr rfl)).trans hbb5.box⟩
            clear hk6 hRo hy1
            gi_wp2
            go_roundw
            case rel =>
              refine ⟨_, en, rs', zs, ao2, cap2, ?_, ?_, ?_, hR6, hJ6, by omega, hb6⟩
              · show ls = _
                rw [HS.out, txs_append, List.append_assoc]
                rfl
              · show Rds _ _ _ _ _
                rw [List.length_append]
                exact HD'.out
              · show _ ∧ _
                have := HG.out
                have := HLT.out
                have := HL.out
                have := HZ.out
                have := HEN.out
                rw [List.length_append, List.length_singleton]
                omega
            case measure => rw [hR6.left, hRd.left]; exact HLT.out
          · have hN : N ≠ ds.length + 1 := by simp only at hn; omega
            obtain ⟨fn, tmps, assign, body, hy1, hRo⟩ := hYo s ds good w5 N k C en ws hJ5 (by omega) hs5 hok hN hC (by omega) hrow henl hdl
            clear hrec hn hN hok hlt hz0 hdl hC
            gi_wp2_with fail
            refine hRo.mono ?_
            rintro e W6 ⟨rfl, hJx6⟩
            gi_wp2
            refine bodyPost_ret (results_none rfl _ _ _) rfl ?_
            exact ⟨⟨_, rfl⟩, s, ds, good, by rw [HS.out, List.append_nil], HG.out.1, Or.inr ⟨by decide, hJx6⟩⟩)
    · have hy0 : ys = [] := List.eq_nil_of_length_eq_zero (by have := HM.out; omega)
      have hD := HD.out
      rw [hy0] at hD
      obtain ⟨rfl, rfl, rfl⟩ := Rds.nil hD
      have hM0 : M = 0 := by omega
      subst hM0
      have hz0 : ((0 : Nat) : Int) = 0 := rfl
      rw [hz0] at hl1
      clear hD hz0
      gi_wp2_with fail
      refine ⟨trivial, (callsIn_wide.2 hl1).mono ?_⟩
      rintro e w2 ⟨rfl, rfl⟩
      gi_wp2
      go_end0
      refine ⟨⟨_, rfl⟩, s, ds, good, by rw [HS.out, List.append_nil], ?_, Or.inl ⟨rfl, hJr⟩⟩
      have := HG.out.1
      rw [hy0] at this
      exact this
end Go.Proofs.YtaefninikmaiiaaGreatDoor
