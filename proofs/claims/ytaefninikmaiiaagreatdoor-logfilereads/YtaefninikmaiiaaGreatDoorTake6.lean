/- A record taken off a reader: contracts of the gates, of the closures, of takeRecord. Conditions: the reader is one of NewReader with nothing wrong. -/
import Derived.Test.YtaefninikmaiiaaGreatDoorEcd6
import Derived.Test.YtaefninikmaiiaaGreatDoorDcd
import Derived.Lib.ConvBytes
namespace Go.Proofs.YtaefninikmaiiaaGreatDoor
open Go.ChangeShapes Go.WideShapes Go.ChangeAt Go.RowKit Go.Lib
set_option linter.unusedVariables false

theorem conv_bytes (s : ByteArray) (w : World) (hs : s.size ≤ 1099511627776) : ∃ cap w', Sem.run Tryz.prog (convert 9 26 (.string s)) w = .ok (.slice (some ⟨w.heap.size, 0, none⟩) s.size cap) w' ∧ BArg w' (some ⟨w.heap.size, 0, none⟩) s.size cap (strNs s) ∧ Fr [] w w' := by
  have hr := Lib.run_convert_string_bytes (P := Tryz.prog) w 9 26 5 s Tryz.undStr Tryz.undBs Tryz.undB
  refine ⟨_, _, hr, ⟨(strNs_length s).symm, strNs_lt s, grownCap_ge _ _ _ _, by omega, fun h0 => ⟨w.heap.size, 0, rfl, ?_, fun j hj => ?_⟩⟩, ?_⟩
  · rw [Lib.bytesWorld_size]; omega
  · rw [Nat.zero_add, Lib.bytesWorld_cell w _ s j hj]
    simp only [strNs, List.getD, List.getElem?_map]
    cases s.data.toList[j]? <;> rfl
  · refine ⟨?_, ?_, ?_, by rw [Lib.bytesWorld_size]; omega, fun k hk _ => Lib.bytesWorld_at_old w _ s k hk⟩ <;> simp [Lib.bytesWorld, World.freeze, World.alloc, World.drew, -World.alloc_eq, -World.drew_eq]

set_option maxHeartbeats 2000000 in
set_option maxRecDepth 100000 in
theorem lgateS_wrong (p : Value) (g r c : Nat) (xs : List Nat) (ao : Option Addr) (cap : Nat) (w : World) (h : Rd w g r xs 0 ao cap) (hc : c ≠ 0) (hD : Dn 163 #[p] w (.string ⟨#[]⟩) g r xs c) :
    Dn 162 #[.pointer (some ⟨g, 0, none⟩), .func (Fn.func 163) #[] #[p]] w (.tuple #[.string ⟨#[]⟩, .int .i64 (c : Int)]) g r xs c := by
  show Calls _ _ _ _ _
  have HE : Hid (endOf c xs.length = c) := endOf_wrong _ _ hc
  clear hc
  obtain ⟨L, hL⟩ : ∃ L, L = xs.length := ⟨_, rfl⟩
  have HL : Hid (L = xs.length) := hL
  have hl1 := left_any g r xs 0 ao cap w h
  rw [← hL] at hl1
  clear hL
  go_enter Tryz.func162, Tryz.ntmps162
  go_wp2_with fail
  refine hl1.mono ?_
  rintro e w1 ⟨rfl, rfl⟩
  go_wp2_with fail
  refine hD.calls.mono ?_
  rintro e w1 ⟨rfl, ao1, cap1, hR1, hF1⟩
  have hl2 := left_any g r xs c ao1 cap1 w1 hR1
  have hl3 := end_any g r xs c ao1 cap1 w1 hR1
  rw [← HL.out] at hl2
  rw [HE.out] at hl3
  have HF : Hid (Fr [g] w w1) := hF1
  clear hF1 hD
  go_wp2_with fail
  refine hl2.mono ?_
  rintro e w2 ⟨rfl, rfl⟩
  go_wp2_with fail
  refine hl3.mono ?_
  rintro e w2 ⟨rfl, rfl⟩
  go_wp2
  go_ret2
  exact ⟨rfl, ao1, cap1, hR1, HF.out⟩
set_option maxHeartbeats 2000000 in
set_option maxRecDepth 100000 in
theorem lgateS_good (p : Value) (g r : Nat) (v : ByteArray) (xs ys : List Nat) (ao : Option Addr) (cap : Nat) (w : World) (h : Rd w g r xs 0 ao cap) (hlt : ys.length < xs.length) (hD : Dn 163 #[p] w (.string v) g r ys 0) :
    Dn 162 #[.pointer (some ⟨g, 0, none⟩), .func (Fn.func 163) #[] #[p]] w (.tuple #[.string v, .int .i64 0]) g r ys 0 := by
  show Calls _ _ _ _ _
  obtain ⟨L, hL⟩ : ∃ L, L = xs.length := ⟨_, rfl⟩
  obtain ⟨M, hM⟩ : ∃ M, M = ys.length := ⟨_, rfl⟩
  have hlb : ((M : Int) == L) = false := by rw [beq_eq_false_iff_ne]; omega
  have HM : Hid (M = ys.length) := hM
  have hl1 := left_any g r xs 0 ao cap w h
  rw [← hL] at hl1
  clear hL hM hlt
  go_enter Tryz.func162, Tryz.ntmps162
  go_wp2_with fail
  refine hl1.mono ?_
  rintro e w1 ⟨rfl, rfl⟩
  go_wp2_with fail
  refine hD.calls.mono ?_
  rintro e w1 ⟨rfl, ao1, cap1, hR1, hF1⟩
  have hl2 := left_any g r ys 0 ao1 cap1 w1 hR1
  rw [← HM.out] at hl2
  have HF : Hid (Fr [g] w w1) := hF1
  clear hF1 hD
  go_wp2_with fail
  refine hl2.mono ?_
  rintro e w2 ⟨rfl, rfl⟩
  go_wp2
  go_ret2
  exact ⟨rfl, ao1, cap1, hR1, HF.out⟩

set_option maxHeartbeats 1000000 in
theorem tr1_any (g r bx : Nat) (xs : List Nat) (ao : Option Addr) (cap : Nat) (w : World) (h : Rd w g r xs 0 ao cap) (hb : w.cell? ⟨bx, 0, none⟩ = some (.pointer (some ⟨g, 0, none⟩))) :
    Dn 163 #[.pointer (some ⟨bx, 0, none⟩)] w (.string (rdBy (textF 65536) ⟨#[]⟩ xs 0).1) g r (rdBy (textF 65536) ⟨#[]⟩ xs 0).2.1 (rdBy (textF 65536) ⟨#[]⟩ xs 0).2.2 := by
  show Calls _ _ _ _ _
  have hC := rText_any g r xs 0 ao cap 65536 _ h (by decide) (by decide)
  obtain ⟨R, hR⟩ : ∃ R, R = rdBy (textF 65536) ⟨#[]⟩ xs 0 := ⟨_, rfl⟩
  rw [← hR] at hC ⊢
  clear hR
  obtain ⟨R1, R2, R3⟩ := R
  simp only at hC ⊢
  go_enter Tryz.func163, Tryz.ntmps163
  go_wp2_with fail
  refine hC.mono ?_
  rintro e w1 ⟨rfl, hX⟩
  go_wp2
  go_ret
  exact ⟨rfl, hX⟩
theorem ltakeS_any (g r : Nat) (xs : List Nat) (ao : Option Addr) (cap : Nat) (w : World) (h : Rd w g r xs 0 ao cap) (bx : Nat) (hb : w.cell? ⟨bx, 0, none⟩ = some (.pointer (some ⟨g, 0, none⟩))) :
    (∃ c, c ≠ 0 ∧ tk (textF 65536) refV xs = .error c ∧ Dn 162 #[.pointer (some ⟨g, 0, none⟩), .func (Fn.func 163) #[] #[.pointer (some ⟨bx, 0, none⟩)]] w (.tuple #[.string ⟨#[]⟩, .int .i64 (c : Int)]) g r xs c) ∨
    (∃ v ys, tk (textF 65536) refV xs = .ok (v, ys) ∧ ys.length < xs.length ∧ Dn 162 #[.pointer (some ⟨g, 0, none⟩), .func (Fn.func 163) #[] #[.pointer (some ⟨bx, 0, none⟩)]] w (.tuple #[.string v, .int .i64 0]) g r ys 0) := by
  have hD := tr1_any g r bx xs ao cap w h hb
  rcases tk_split (textF 65536) refV ⟨#[]⟩ xs (text_pos 65536 xs) with ⟨c, hc, h1, h2⟩ | ⟨v, ys, h1, hc, hv, hl, h2⟩ | ⟨v, ys, h1, hc, hv, hl, h2⟩
  · rw [h2] at hD
    exact Or.inl ⟨c, hc, h1, lgateS_wrong _ g r c xs ao cap w h hc hD⟩
  · exact absurd rfl hc
  · rw [h2] at hD
    exact Or.inr ⟨v, ys, h1, hl, lgateS_good _ g r v xs ys ao cap w h hl hD⟩

set_option maxHeartbeats 2000000 in
set_option maxRecDepth 100000 in
theorem lgateU_wrong (p : Value) (g r c : Nat) (xs : List Nat) (ao : Option Addr) (cap : Nat) (w : World) (h : Rd w g r xs 0 ao cap) (hc : c ≠ 0) (hD : Dn 166 #[p] w (.int .u64 0) g r xs c) :
    Dn 165 #[.pointer (some ⟨g, 0, none⟩), .func (Fn.func 166) #[] #[p]] w (.tuple #[.int .u64 0, .int .i64 (c : Int)]) g r xs c := by
  show Calls _ _ _ _ _
  have HE : Hid (endOf c xs.length = c) := endOf_wrong _ _ hc
  clear hc
  obtain ⟨L, hL⟩ : ∃ L, L = xs.length := ⟨_, rfl⟩
  have HL : Hid (L = xs.length) := hL
  have hl1 := left_any g r xs 0 ao cap w h
  rw [← hL] at hl1
  clear hL
  go_enter Tryz.func165, Tryz.ntmps165
  go_wp2_with fail
  refine hl1.mono ?_
  rintro e w1 ⟨rfl, rfl⟩
  go_wp2_with fail
  refine hD.calls.mono ?_
  rintro e w1 ⟨rfl, ao1, cap1, hR1, hF1⟩
  have hl2 := left_any g r xs c ao1 cap1 w1 hR1
  have hl3 := end_any g r xs c ao1 cap1 w1 hR1
  rw [← HL.out] at hl2
  rw [HE.out] at hl3
  have HF : Hid (Fr [g] w w1) := hF1
  clear hF1 hD
  go_wp2_with fail
  refine hl2.mono ?_
  rintro e w2 ⟨rfl, rfl⟩
  go_wp2_with fail
  refine hl3.mono ?_
  rintro e w2 ⟨rfl, rfl⟩
  go_wp2
  go_ret2
  exact ⟨rfl, ao1, cap1, hR1, HF.out⟩
set_option maxHeartbeats 2000000 in
set_option maxRecDepth 100000 in
theorem lgateU_good (p : Value) (g r : Nat) (v : Nat) (xs ys : List Nat) (ao : Option Addr) (cap : Nat) (w : World) (h : Rd w g r xs 0 ao cap) (hlt : ys.length < xs.length) (hD : Dn 166 #[p] w (.int .u64 (v : Int)) g r ys 0) :
    Dn 165 #[.pointer (some ⟨g, 0, none⟩), .func (Fn.func 166) #[] #[p]] w (.tuple #[.int .u64 (v : Int), .int .i64 0]) g r ys 0 := by
  show Calls _ _ _ _ _
  obtain ⟨L, hL⟩ : ∃ L, L = xs.length := ⟨_, rfl⟩
  obtain ⟨M, hM⟩ : ∃ M, M = ys.length := ⟨_, rfl⟩
  have hlb : ((M : Int) == L) = false := by rw [beq_eq_false_iff_ne]; omega
  have HM : Hid (M = ys.length) := hM
  have hl1 := left_any g r xs 0 ao cap w h
  rw [← hL] at hl1
  clear hL hM hlt
  go_enter Tryz.func165, Tryz.ntmps165
  go_wp2_with fail
  refine hl1.mono ?_
  rintro e w1 ⟨rfl, rfl⟩
  go_wp2_with fail
  refine hD.calls.mono ?_
  rintro e w1 ⟨rfl, ao1, cap1, hR1, hF1⟩
  have hl2 := left_any g r ys 0 ao1 cap1 w1 hR1
  rw [← HM.out] at hl2
  have HF : Hid (Fr [g] w w1) := hF1
  clear hF1 hD
  go_wp2_with fail
  refine hl2.mono ?_
  rintro e w2 ⟨rfl, rfl⟩
  go_wp2
  go_ret2
  exact ⟨rfl, ao1, cap1, hR1, HF.out⟩
theorem fix4_pos (xs : List Nat) (h : (fixF 4 xs).2.2 = 0) : 0 < (fixF 4 xs).2.1 ∧ (fixF 4 xs).2.1 ≤ xs.length := by
  by_cases hl : xs.length < 4
  · rw [fix4_cut xs hl] at h; simp at h
  · have e : fixF 4 xs = (leN (xs.take 4), 4, 0) := by
      unfold fixF
      rw [if_neg (by decide), if_neg (by omega)]
      rfl
    rw [e]
    simp only
    omega

set_option maxHeartbeats 1000000 in
theorem tr2_any (g r bx : Nat) (xs : List Nat) (ao : Option Addr) (cap : Nat) (w : World) (h : Rd w g r xs 0 ao cap) (hb : w.cell? ⟨bx, 0, none⟩ = some (.pointer (some ⟨g, 0, none⟩))) :
    Dn 166 #[.pointer (some ⟨bx, 0, none⟩)] w (.int .u64 ((rdBy (fixF 4) 0 xs 0).1 : Nat)) g r (rdBy (fixF 4) 0 xs 0).2.1 (rdBy (fixF 4) 0 xs 0).2.2 := by
  show Calls _ _ _ _ _
  have hC := rFixed_any g r xs 0 ao cap 4 _ h
  obtain ⟨R, hR⟩ : ∃ R, R = rdBy (fixF 4) 0 xs 0 := ⟨_, rfl⟩
  rw [← hR] at hC ⊢
  clear hR
  obtain ⟨R1, R2, R3⟩ := R
  simp only at hC ⊢
  go_enter Tryz.func166, Tryz.ntmps166
  go_wp2_with fail
  refine hC.mono ?_
  rintro e w1 ⟨rfl, hX⟩
  go_wp2
  go_ret
  exact ⟨rfl, hX⟩
theorem ltakeU_any (g r : Nat) (xs : List Nat) (ao : Option Addr) (cap : Nat) (w : World) (h : Rd w g r xs 0 ao cap) (bx : Nat) (hb : w.cell? ⟨bx, 0, none⟩ = some (.pointer (some ⟨g, 0, none⟩))) :
    (∃ c, c ≠ 0 ∧ tk (fixF 4) ref0 xs = .error c ∧ Dn 165 #[.pointer (some ⟨g, 0, none⟩), .func (Fn.func 166) #[] #[.pointer (some ⟨bx, 0, none⟩)]] w (.tuple #[.int .u64 0, .int .i64 (c : Int)]) g r xs c) ∨
    (∃ v ys, tk (fixF 4) ref0 xs = .ok (v, ys) ∧ ys.length < xs.length ∧ Dn 165 #[.pointer (some ⟨g, 0, none⟩), .func (Fn.func 166) #[] #[.pointer (some ⟨bx, 0, none⟩)]] w (.tuple #[.int .u64 (v : Int), .int .i64 0]) g r ys 0) := by
  have hD := tr2_any g r bx xs ao cap w h hb
  rcases tk_split (fixF 4) ref0 0 xs (fix4_pos xs) with ⟨c, hc, h1, h2⟩ | ⟨v, ys, h1, hc, hv, hl, h2⟩ | ⟨v, ys, h1, hc, hv, hl, h2⟩
  · rw [h2] at hD
    exact Or.inl ⟨c, hc, h1, lgateU_wrong _ g r c xs ao cap w h hc hD⟩
  · exact absurd rfl hc
  · rw [h2] at hD
    exact Or.inr ⟨v, ys, h1, hl, lgateU_good _ g r v xs ys ao cap w h hl hD⟩
end Go.Proofs.YtaefninikmaiiaaGreatDoor
