/- The walk of the law ConfSpreads. Conditions: the array of names lies as its variable lays it; a key of fewer than 2^47 bytes. -/
import Derived.Test.YtddlmgedemcgmaaDoorAl13
namespace Go.Proofs.YtddlmgedemcgmaaDoor
open Go.ChangeShapes Go.WideShapes Go.ChangeAt Go.RowKit Go.Lib
set_option linter.unusedVariables false
set_option linter.unusedSimpArgs false

/-- Both configurations, made since w. -/
structure Two (w W : World) (l s x q l2 s2 x2 q2 : Int) : Prop where
  one : CfM W w.heap.size l s x q
  obj : W.heap[w.heap.size + 1]? = some (.cells #[.int .i64 l2, .int .i64 s2, .int .i64 x2, .int .i64 q2] 23 (0, 0))
  fr : Fr [] w W
theorem Two.keep {w W W' : World} {l s x q l2 s2 x2 q2 : Int} (h : Two w W l s x q l2 s2 x2 q2) (hf : Fr [] W W') : Two w W' l s x q l2 s2 x2 q2 :=
  ⟨h.one.keep hf, hf.keep h.obj (by simp), h.fr.then hf⟩
theorem Two.two {w W : World} {l s x q l2 s2 x2 q2 : Int} (h : Two w W l s x q l2 s2 x2 q2) : CfM W (w.heap.size + 1) l2 s2 x2 q2 :=
  ⟨lt_of_block h.obj, by simp [World.cell?, h.obj], by simp [World.cell?, h.obj], by simp [World.cell?, h.obj], by simp [World.cell?, h.obj]⟩
theorem Two.free {w W : World} {l s x q l2 s2 x2 q2 : Int} (h : Two w W l s x q l2 s2 x2 q2) : W.frozen? ⟨w.heap.size + 1, 1, none⟩ = false := by
  unfold World.frozen?
  simp [h.obj]
theorem Two.new (w : World) (l s x q l2 s2 x2 q2 : Int) : Two w ((w.alloc (.cells #[.int .i64 l, .int .i64 s, .int .i64 x, .int .i64 q] 23)).alloc (.cells #[.int .i64 l2, .int .i64 s2, .int .i64 x2, .int .i64 q2] 23)) l s x q l2 s2 x2 q2 := by
  have e : (w.alloc (.cells #[.int .i64 l, .int .i64 s, .int .i64 x, .int .i64 q] 23)).heap.size = w.heap.size + 1 := by simp
  refine ⟨(CfM.new w l s x q 23).keep (Fr.alloc _ _ _), ?_, (Fr.alloc _ _ _).then (Fr.alloc _ _ _)⟩
  rw [← e]
  simp only [World.alloc, Array.getElem?_push_size]
theorem Two.set {w W : World} {l s x q l2 s2 x2 q2 : Int} (h : Two w W l s x q l2 s2 x2 q2) (v : Int) : Two w (W.setCell ⟨w.heap.size + 1, 1, none⟩ (.int .i64 v)) l s x q l2 v x2 q2 := by
  have hlt := lt_of_block h.obj
  have h' : W.heap[w.heap.size + 1] = .cells #[.int .i64 l2, .int .i64 s2, .int .i64 x2, .int .i64 q2] 23 (0, 0) := by simpa [Array.getElem?_eq_getElem hlt] using h.obj
  have hf : Fr [w.heap.size + 1] W (W.setCell ⟨w.heap.size + 1, 1, none⟩ (.int .i64 v)) := Fr.set W _ _ (by simp)
  have e1 : ∀ j, (W.setCell ⟨w.heap.size + 1, 1, none⟩ (.int .i64 v)).cell? ⟨w.heap.size, j, none⟩ = W.cell? ⟨w.heap.size, j, none⟩ := fun j => World.cell?_of_block (a := ⟨w.heap.size, j, none⟩) (hf.block w.heap.size h.one.1 (by simp))
  refine ⟨⟨Nat.lt_of_lt_of_le h.one.1 hf.size, (e1 0).trans h.one.2.1, (e1 1).trans h.one.2.2.1, (e1 2).trans h.one.2.2.2.1, (e1 3).trans h.one.2.2.2.2⟩, ?_, h.fr.trans hf (fun _ h _ => h) (fun i hi hl => by simp at hi; omega)⟩
  show (W.heap.modify (w.heap.size + 1) _)[w.heap.size + 1]? = _
  rw [Array.getElem?_eq_getElem (by simpa using hlt), Array.getElem_modify_self, h']
  rfl

set_option maxHeartbeats 8000000 in
set_option maxRecDepth 100000 in
theorem confs (l s x q l2 s2 x2 q2 : Int) (key : ByteArray) (w : World) (hok : Cf.ok ⟨l, s, x, q⟩) (hok2 : Cf.ok ⟨l2, s2, x2, q2⟩) (hk : key.size ≤ 140737488355328) (hT : Nms w) :
    Calls Tryd.prog 5 #[.agg #[.int .i64 l, .int .i64 s, .int .i64 x, .int .i64 q], .agg #[.int .i64 l2, .int .i64 s2, .int .i64 x2, .int .i64 q2], .string key] w fun e w' => e = .returned (.bool true) ∧ Fr [] w w' := by
  have HT : Hid (∀ W, Fr [] w W → Nms W) := fun W hf => hT.keep hf (by simp)
  have HA := fun w (h : Nms w) => alive13_any w h
  have hs' : key.size ≤ 9223372036854775807 := by omega
  have HTw : Hid (Two w _ l s x q l2 s2 x2 q2) := Two.new w l s x q l2 s2 x2 q2
  clear hT hok hok2
  obtain ⟨wa, hwa⟩ : ∃ wa, wa = ((w.alloc (.cells #[.int .i64 l, .int .i64 s, .int .i64 x, .int .i64 q] 23)).alloc (.cells #[.int .i64 l2, .int .i64 s2, .int .i64 x2, .int .i64 q2] 23)) := ⟨_, rfl⟩
  rw [← hwa] at HTw
  go_enter Tryd.func5, Tryd.ntmps5
  go_wp2_with fail
  rw [← hwa]
  clear hwa
  refine (HA _ (HT.out _ HTw.out.fr)).mono ?_
  rintro e' w1 ⟨rfl, hF1⟩
  have HTw1 : Hid (Two w w1 l s x q l2 s2 x2 q2) := HTw.out.keep hF1
  clear hF1 HTw
  by_cases hL : 1048576 < key.size
  · have E : decide (1048576 < key.size) = true := by simp [hL]
    go_wp2_with fail
    refine (beyond_any _ key.size _ hs' (by simp [World.cell?_alloc_at])).mono ?_
    rintro e w1 ⟨rfl, rfl⟩
    rw [E]
    go_wp2_with fail
    refine (HA _ (HT.out _ (HTw1.out.fr.then (Fr.alloc _ _ _)))).mono ?_
    rintro e' w2 ⟨rfl, hF2⟩
    have HF2 : Hid (Fr [] w w2) := (HTw1.out.fr.then (Fr.alloc _ _ _)).then hF2
    clear hF2
    go_wp2_with fail
    go_ret
    exact ⟨rfl, HF2.out⟩
  · have E : decide (1048576 < key.size) = false := by simp [hL]
    go_wp2_with fail
    refine (beyond_any _ key.size _ hs' (by simp [World.cell?_alloc_at])).mono ?_
    rintro e w1' ⟨rfl, rfl⟩
    rw [E]
    obtain ⟨w2, hw2⟩ : ∃ w2, w2 = w1.alloc (.cells #[.int .i64 (key.size : Int)] 3) := ⟨_, rfl⟩
    have HTw2 : Hid (Two w w2 l s x q l2 s2 x2 q2) := by rw [hw2]; exact HTw1.out.keep (Fr.alloc _ _ _)
    rw [← hw2]
    clear hw2 HTw1 HA HT E hL
    obtain ⟨_, a0, a1, a2, a3⟩ := HTw2.out.one
    have H1 := fun w => shard_any l s x q key w hs'
    by_cases hm : Cf.may ⟨l, s, x, q⟩
    · have hs16 : 1 ≤ s ∧ s ≤ 16 := hm.2.1
      by_cases hz : 1 ≤ key.size ∧ key.size ≤ 64
      · rw [show Cf.shard ⟨l, s, x, q⟩ key = (shN13 s key, 0) by simp [Cf.shard, hm, hz]] at H1
        obtain ⟨n, HN⟩ : ∃ n, Hid (shN13 s key = n) := ⟨_, rfl⟩
        obtain ⟨m, e2, HS2, h2⟩ : ∃ m e2, Hid (Cf.shard ⟨l2, s, x2, q2⟩ key = (m, e2)) ∧ ((e2 = 7 ∧ m = 0) ∨ (e2 = 0 ∧ m = n)) := by
          by_cases hm2 : Cf.may ⟨l2, s, x2, q2⟩
          · exact ⟨n, 0, by show _ = _; rw [← HN.out]; simp [Cf.shard, hm2, hz], Or.inr ⟨rfl, rfl⟩⟩
          · exact ⟨0, 7, by show _ = _; simp [Cf.shard, hm2], Or.inl ⟨rfl, rfl⟩⟩
        obtain ⟨m3, e3, HS3, h3⟩ : ∃ m e2, Hid (Cf.shard ⟨l2, 1, x2, q2⟩ key = (m, e2)) ∧ ((e2 = 7 ∧ m = 0) ∨ (e2 = 0 ∧ m = 0)) := by
          by_cases hm2 : Cf.may ⟨l2, 1, x2, q2⟩
          · exact ⟨0, 0, by show _ = _; simp [Cf.shard, hm2, hz, shN13], Or.inr ⟨rfl, rfl⟩⟩
          · exact ⟨0, 7, by show _ = _; simp [Cf.shard, hm2], Or.inl ⟨rfl, rfl⟩⟩
        have H2 := fun w => shard_any l2 s x2 q2 key w hs'
        have H3 := fun w => shard_any l2 1 x2 q2 key w hs'
        rw [HS2.out] at H2
        rw [HS3.out] at H3
        rw [HN.out] at H1
        obtain ⟨mm, HM⟩ : ∃ mm, Hid (hashOf (strNs key) = mm) := ⟨_, rfl⟩
        have hm32 : mm < 4294967296 := by rw [← HM.out]; exact hashOf_lt _
        have HH : ∀ w, Calls Tryd.prog 14 #[.string key] w fun e w' => e = .returned (.int .u32 (mm : Int)) ∧ w' = w := fun w => (hash_any mm key w hs' HM.out).mono fun e w' h => ⟨h.1, h.2.symm⟩
        have hnn : (mm : Int) % s = n := by rw [← HN.out, shN13, HM.out]
        have hn0 : 0 ≤ n ∧ n < s := by
          have h1 := Int.emod_nonneg (mm : Int) (show s ≠ 0 by omega)
          have h2 := Int.emod_lt_of_pos (mm : Int) (show 0 < s by omega)
          omega
        have hcv : s % 4294967296 = s := by omega
        have hne : s ≠ 0 := by omega
        have hrem : (mm : Int).tmod s = n := by rw [← hnn]; exact Int.tmod_eq_emod_of_nonneg (by omega)
        clear hm hz HS2 HS3 HM HN hnn
        go_wp2_with fail
        refine (H1 _).mono ?_
        rintro e w3 ⟨rfl, hF3⟩
        have HTw3 : Hid (Two w w3 l s x q l2 s2 x2 q2) := HTw2.out.keep hF3
        clear hF3 H1 HTw2 a0 a1 a2 a3
        obtain ⟨_, a0, a1, a2, a3⟩ := HTw3.out.one
        have hfz := HTw3.out.free
        have b1 := HTw3.out.two.2.2.1
        have HTw4 : Hid (Two w (w3.setCell ⟨w.heap.size + 1, 1, none⟩ (.int .i64 s)) l s x q l2 s x2 q2) := HTw3.out.set s
        obtain ⟨_, d0, d1, d2, d3⟩ := HTw4.out.two
        go_wp2_with fail
        obtain ⟨w4, hw4⟩ : ∃ w4, w4 = w3.setCell ⟨w.heap.size + 1, 1, none⟩ (.int .i64 s) := ⟨_, rfl⟩
        rw [← hw4] at HTw4 ⊢
        clear hw4 hfz b1 a0 a1 a2 a3 HTw3 d0 d1 d2 d3
        refine (H2 _).mono ?_
        rintro e w5 ⟨rfl, hF5⟩
        have HTw5 : Hid (Two w w5 l s x q l2 s x2 q2) := HTw4.out.keep hF5
        clear hF5 H2 HTw4
        have hfz := HTw5.out.free
        have b1 := HTw5.out.two.2.2.1
        have HTw6 : Hid (Two w (w5.setCell ⟨w.heap.size + 1, 1, none⟩ (.int .i64 1)) l s x q l2 1 x2 q2) := HTw5.out.set 1
        obtain ⟨_, d0, d1, d2, d3⟩ := HTw6.out.two
        go_wp2_with fail
        obtain ⟨w6, hw6⟩ : ∃ w6, w6 = w5.setCell ⟨w.heap.size + 1, 1, none⟩ (.int .i64 1) := ⟨_, rfl⟩
        rw [← hw6] at HTw6 ⊢
        clear hw6 hfz b1 HTw5 d0 d1 d2 d3
        refine (H3 _).mono ?_
        rintro e w7 ⟨rfl, hF7⟩
        have HTw7 : Hid (Two w w7 l s x q l2 1 x2 q2) := HTw6.out.keep hF7
        clear hF7 H3 HTw6
        obtain ⟨_, a0, a1, a2, a3⟩ := HTw7.out.one
        go_wp2_with fail
        rcases h2 with ⟨rfl, rfl⟩ | ⟨rfl, rfl⟩ <;> rcases h3 with ⟨rfl, rfl⟩ | ⟨rfl, rfl⟩ <;>
        (go_quiet ((go_at_call 14; exact Calls.quiet_of_same (HH _)))
         go_wp2_with fail
         go_ret
         exact ⟨rfl, HTw7.out.fr.then (Fr.drewN _ _ _)⟩)
      · rw [show Cf.shard ⟨l, s, x, q⟩ key = (0, 1) by simp only [Cf.shard, hm, hz]; simp] at H1
        have hz2 : key.size = 0 ∨ 64 < key.size := by omega
        clear hm hz
        go_wp2_with fail
        refine (H1 _).mono ?_
        rintro e w3 ⟨rfl, hF3⟩
        have HF3 : Hid (Fr [] w w3) := HTw2.out.fr.then hF3
        clear hF3 H1 HTw2 a0 a1 a2 a3
        rcases hz2 with hz2 | hz2
        · have hz3 : (key.size : Int) = 0 := by omega
          go_wp2
          go_ret
          exact ⟨rfl, HF3.out⟩
        · have hz3 : ¬ (key.size : Int) = 0 := by omega
          have hz4 : ¬ key.size = 0 := by omega
          have hz5 : (64 : Int) < (key.size : Int) := by omega
          go_wp2
          go_ret
          exact ⟨rfl, HF3.out⟩
    · rw [show Cf.shard ⟨l, s, x, q⟩ key = (0, 7) by simp only [Cf.shard, hm]; simp] at H1
      clear hm
      go_wp2_with fail
      refine (H1 _).mono ?_
      rintro e w3 ⟨rfl, hF3⟩
      have HF3 : Hid (Fr [] w w3) := HTw2.out.fr.then hF3
      clear hF3 H1 HTw2 a0 a1 a2 a3
      go_wp2_with fail
      go_ret
      exact ⟨rfl, HF3.out⟩
end Go.Proofs.YtddlmgedemcgmaaDoor
