/- The gate that all a transaction's parts are taken through: contracts of take[uint64] and take[string]. Conditions: what it is handed does what it says. -/
import Derived.Test.YtaefninikmaiiaaGreatDoorEcd
namespace Go.Proofs.YtaefninikmaiiaaGreatDoor
open Go.ChangeShapes Go.WideShapes Go.ChangeAt Go.RowKit Go.Lib
set_option linter.unusedVariables false

/-- The call answers v, and the reader stands ahead of ys then, er being wrong. -/
def Dn (fn : Nat) (args : Array Value) (w : World) (v : Value) (g r : Nat) (ys : List Nat) (er : Nat) : Prop :=
  Calls Tryz.prog fn args w fun e w' => e = .returned v ∧ ∃ ao' cap', Rd w' g r ys er ao' cap' ∧ Fr [g] w w'
theorem Dn.calls {fn : Nat} {args : Array Value} {w : World} {v : Value} {g r : Nat} {ys : List Nat} {er : Nat} (h : Dn fn args w v g r ys er) :
    Calls Tryz.prog fn args w fun e w' => e = .returned v ∧ ∃ ao' cap', Rd w' g r ys er ao' cap' ∧ Fr [g] w w' := h
/-- It tells c of v. -/
def Rf (rf : Nat) (v : Value) (c : Nat) : Prop := ∀ w, Calls Tryz.prog rf #[v] w fun e w' => e = .returned (.int .i64 (c : Int)) ∧ w = w'
theorem Rf.calls {rf : Nat} {v : Value} {c : Nat} (h : Rf rf v c) (w : World) : Calls Tryz.prog rf #[v] w fun e w' => e = .returned (.int .i64 (c : Int)) ∧ w = w' := h w
theorem endOf_wrong (er n : Nat) (h : er ≠ 0) : endOf er n = er := by simp [endOf, h]

set_option maxHeartbeats 2000000 in
set_option maxRecDepth 100000 in
theorem gateN_wrong (p : Value) (g r c : Nat) (xs : List Nat) (ao : Option Addr) (cap : Nat) (w : World) (h : Rd w g r xs 0 ao cap) (hc : c ≠ 0) (hD : Dn 188 #[p] w (.int .u64 0) g r xs c) :
    Calls Tryz.prog 187 #[.pointer (some ⟨g, 0, none⟩), .func (Fn.func 188) #[p] #[], .func (Fn.func 189) #[] #[]] w fun e w' => e = .returned (.tuple #[.int .u64 0, .int .i64 (c : Int)]) ∧ Fr [g] w w' := by
  have HE : Hid (endOf c xs.length = c) := endOf_wrong _ _ hc
  clear hc
  obtain ⟨L, hL⟩ : ∃ L, L = xs.length := ⟨_, rfl⟩
  have HL : Hid (L = xs.length) := hL
  have hl1 := left_any g r xs 0 ao cap w h
  rw [← hL] at hl1
  clear hL
  go_enter Tryz.func187, Tryz.ntmps187
  go_wp2_with fail
  refine hl1.mono ?_
  rintro e w1 ⟨rfl, rfl⟩
  go_wp2_with fail
  refine hD.calls.mono ?_
  rintro e w1 ⟨rfl, ao1, cap1, hR1, hF1⟩
  have hl2 := left_any g r xs c ao1 cap1 w1 hR1
  have hl3 := end_any g r xs c ao1 cap1 w1 hR1
  rw [← HL.out] at hl2
  rw [HE.out] at hl3
  have HF : Hid (Fr [g] w w1) := hF1
  clear hF1 hD
  go_wp2_with fail
  refine hl2.mono ?_
  rintro e w2 ⟨rfl, rfl⟩
  go_wp2_with fail
  refine hl3.mono ?_
  rintro e w2 ⟨rfl, rfl⟩
  go_wp2
  go_ret2
  exact ⟨rfl, HF.out⟩
set_option maxHeartbeats 2000000 in
set_option maxRecDepth 100000 in
theorem gateN_ref (p : Value) (g r c : Nat) (v : Nat) (xs ys : List Nat) (ao : Option Addr) (cap : Nat) (w : World) (h : Rd w g r xs 0 ao cap) (hc : c ≠ 0) (hlt : ys.length < xs.length) (hD : Dn 188 #[p] w (.int .u64 (v : Int)) g r ys 0) (hR : Rf 189 (.int .u64 (v : Int)) c) :
    Calls Tryz.prog 187 #[.pointer (some ⟨g, 0, none⟩), .func (Fn.func 188) #[p] #[], .func (Fn.func 189) #[] #[]] w fun e w' => e = .returned (.tuple #[.int .u64 0, .int .i64 (c : Int)]) ∧ Fr [g] w w' := by
  have hcb : ((c : Int) != 0) = true := by rw [bne_iff_ne]; omega
  obtain ⟨L, hL⟩ : ∃ L, L = xs.length := ⟨_, rfl⟩
  obtain ⟨M, hM⟩ : ∃ M, M = ys.length := ⟨_, rfl⟩
  have hlb : ((M : Int) == L) = false := by rw [beq_eq_false_iff_ne]; omega
  have HM : Hid (M = ys.length) := hM
  have hl1 := left_any g r xs 0 ao cap w h
  rw [← hL] at hl1
  clear hc hL hM hlt
  go_enter Tryz.func187, Tryz.ntmps187
  go_wp2_with fail
  refine hl1.mono ?_
  rintro e w1 ⟨rfl, rfl⟩
  go_wp2_with fail
  refine hD.calls.mono ?_
  rintro e w1 ⟨rfl, ao1, cap1, hR1, hF1⟩
  have hl2 := left_any g r ys 0 ao1 cap1 w1 hR1
  rw [← HM.out] at hl2
  have HF : Hid (Fr [g] w w1) := hF1
  clear hF1 hD
  go_wp2_with fail
  refine hl2.mono ?_
  rintro e w2 ⟨rfl, rfl⟩
  go_wp2_with fail
  refine (hR.calls _).mono ?_
  rintro e w2 ⟨rfl, rfl⟩
  go_wp2
  go_ret2
  exact ⟨rfl, HF.out⟩
set_option maxHeartbeats 2000000 in
set_option maxRecDepth 100000 in
theorem gateN_good (p : Value) (g r : Nat) (v : Nat) (xs ys : List Nat) (ao : Option Addr) (cap : Nat) (w : World) (h : Rd w g r xs 0 ao cap) (hlt : ys.length < xs.length) (hD : Dn 188 #[p] w (.int .u64 (v : Int)) g r ys 0) (hR : Rf 189 (.int .u64 (v : Int)) 0) :
    Dn 187 #[.pointer (some ⟨g, 0, none⟩), .func (Fn.func 188) #[p] #[], .func (Fn.func 189) #[] #[]] w (.tuple #[.int .u64 (v : Int), .int .i64 0]) g r ys 0 := by
  show Calls _ _ _ _ _
  obtain ⟨L, hL⟩ : ∃ L, L = xs.length := ⟨_, rfl⟩
  obtain ⟨M, hM⟩ : ∃ M, M = ys.length := ⟨_, rfl⟩
  have hlb : ((M : Int) == L) = false := by rw [beq_eq_false_iff_ne]; omega
  have HM : Hid (M = ys.length) := hM
  have hl1 := left_any g r xs 0 ao cap w h
  rw [← hL] at hl1
  clear hL hM hlt
  go_enter Tryz.func187, Tryz.ntmps187
  go_wp2_with fail
  refine hl1.mono ?_
  rintro e w1 ⟨rfl, rfl⟩
  go_wp2_with fail
  refine hD.calls.mono ?_
  rintro e w1 ⟨rfl, ao1, cap1, hR1, hF1⟩
  have hl2 := left_any g r ys 0 ao1 cap1 w1 hR1
  rw [← HM.out] at hl2
  have HF : Hid (Fr [g] w w1) := hF1
  clear hF1 hD
  go_wp2_with fail
  refine hl2.mono ?_
  rintro e w2 ⟨rfl, rfl⟩
  go_wp2_with fail
  refine (hR.calls _).mono ?_
  rintro e w2 ⟨rfl, rfl⟩
  go_wp2
  go_ret2
  exact ⟨rfl, ao1, cap1, hR1, HF.out⟩

set_option maxHeartbeats 2000000 in
set_option maxRecDepth 100000 in
theorem gateC_wrong (p : Value) (g r c : Nat) (xs : List Nat) (ao : Option Addr) (cap : Nat) (w : World) (h : Rd w g r xs 0 ao cap) (hc : c ≠ 0) (hD : Dn 188 #[p] w (.int .u64 0) g r xs c) :
    Calls Tryz.prog 187 #[.pointer (some ⟨g, 0, none⟩), .func (Fn.func 188) #[p] #[], .func (Fn.func 190) #[] #[]] w fun e w' => e = .returned (.tuple #[.int .u64 0, .int .i64 (c : Int)]) ∧ Fr [g] w w' := by
  have HE : Hid (endOf c xs.length = c) := endOf_wrong _ _ hc
  clear hc
  obtain ⟨L, hL⟩ : ∃ L, L = xs.length := ⟨_, rfl⟩
  have HL : Hid (L = xs.length) := hL
  have hl1 := left_any g r xs 0 ao cap w h
  rw [← hL] at hl1
  clear hL
  go_enter Tryz.func187, Tryz.ntmps187
  go_wp2_with fail
  refine hl1.mono ?_
  rintro e w1 ⟨rfl, rfl⟩
  go_wp2_with fail
  refine hD.calls.mono ?_
  rintro e w1 ⟨rfl, ao1, cap1, hR1, hF1⟩
  have hl2 := left_any g r xs c ao1 cap1 w1 hR1
  have hl3 := end_any g r xs c ao1 cap1 w1 hR1
  rw [← HL.out] at hl2
  rw [HE.out] at hl3
  have HF : Hid (Fr [g] w w1) := hF1
  clear hF1 hD
  go_wp2_with fail
  refine hl2.mono ?_
  rintro e w2 ⟨rfl, rfl⟩
  go_wp2_with fail
  refine hl3.mono ?_
  rintro e w2 ⟨rfl, rfl⟩
  go_wp2
  go_ret2
  exact ⟨rfl, HF.out⟩
set_option maxHeartbeats 2000000 in
set_option maxRecDepth 100000 in
theorem gateC_ref (p : Value) (g r c : Nat) (v : Nat) (xs ys : List Nat) (ao : Option Addr) (cap : Nat) (w : World) (h : Rd w g r xs 0 ao cap) (hc : c ≠ 0) (hlt : ys.length < xs.length) (hD : Dn 188 #[p] w (.int .u64 (v : Int)) g r ys 0) (hR : Rf 190 (.int .u64 (v : Int)) c) :
    Calls Tryz.prog 187 #[.pointer (some ⟨g, 0, none⟩), .func (Fn.func 188) #[p] #[], .func (Fn.func 190) #[] #[]] w fun e w' => e = .returned (.tuple #[.int .u64 0, .int .i64 (c : Int)]) ∧ Fr [g] w w' := by
  have hcb : ((c : Int) != 0) = true := by rw [bne_iff_ne]; omega
  obtain ⟨L, hL⟩ : ∃ L, L = xs.length := ⟨_, rfl⟩
  obtain ⟨M, hM⟩ : ∃ M, M = ys.length := ⟨_, rfl⟩
  have hlb : ((M : Int) == L) = false := by rw [beq_eq_false_iff_ne]; omega
  have HM : Hid (M = ys.length) := hM
  have hl1 := left_any g r xs 0 ao cap w h
  rw [← hL] at hl1
  clear hc hL hM hlt
  go_enter Tryz.func187, Tryz.ntmps187
  go_wp2_with fail
  refine hl1.mono ?_
  rintro e w1 ⟨rfl, rfl⟩
  go_wp2_with fail
  refine hD.calls.mono ?_
  rintro e w1 ⟨rfl, ao1, cap1, hR1, hF1⟩
  have hl2 := left_any g r ys 0 ao1 cap1 w1 hR1
  rw [← HM.out] at hl2
  have HF : Hid (Fr [g] w w1) := hF1
  clear hF1 hD
  go_wp2_with fail
  refine hl2.mono ?_
  rintro e w2 ⟨rfl, rfl⟩
  go_wp2_with fail
  refine (hR.calls _).mono ?_
  rintro e w2 ⟨rfl, rfl⟩
  go_wp2
  go_ret2
  exact ⟨rfl, HF.out⟩
set_option maxHeartbeats 2000000 in
set_option maxRecDepth 100000 in
theorem gateC_good (p : Value) (g r : Nat) (v : Nat) (xs ys : List Nat) (ao : Option Addr) (cap : Nat) (w : World) (h : Rd w g r xs 0 ao cap) (hlt : ys.length < xs.length) (hD : Dn 188 #[p] w (.int .u64 (v : Int)) g r ys 0) (hR : Rf 190 (.int .u64 (v : Int)) 0) :
    Dn 187 #[.pointer (some ⟨g, 0, none⟩), .func (Fn.func 188) #[p] #[], .func (Fn.func 190) #[] #[]] w (.tuple #[.int .u64 (v : Int), .int .i64 0]) g r ys 0 := by
  show Calls _ _ _ _ _
  obtain ⟨L, hL⟩ : ∃ L, L = xs.length := ⟨_, rfl⟩
  obtain ⟨M, hM⟩ : ∃ M, M = ys.length := ⟨_, rfl⟩
  have hlb : ((M : Int) == L) = false := by rw [beq_eq_false_iff_ne]; omega
  have HM : Hid (M = ys.length) := hM
  have hl1 := left_any g r xs 0 ao cap w h
  rw [← hL] at hl1
  clear hL hM hlt
  go_enter Tryz.func187, Tryz.ntmps187
  go_wp2_with fail
  refine hl1.mono ?_
  rintro e w1 ⟨rfl, rfl⟩
  go_wp2_with fail
  refine hD.calls.mono ?_
  rintro e w1 ⟨rfl, ao1, cap1, hR1, hF1⟩
  have hl2 := left_any g r ys 0 ao1 cap1 w1 hR1
  rw [← HM.out] at hl2
  have HF : Hid (Fr [g] w w1) := hF1
  clear hF1 hD
  go_wp2_with fail
  refine hl2.mono ?_
  rintro e w2 ⟨rfl, rfl⟩
  go_wp2_with fail
  refine (hR.calls _).mono ?_
  rintro e w2 ⟨rfl, rfl⟩
  go_wp2
  go_ret2
  exact ⟨rfl, ao1, cap1, hR1, HF.out⟩

set_option maxHeartbeats 2000000 in
set_option maxRecDepth 100000 in
theorem gateD_wrong (p : Value) (g r c : Nat) (xs : List Nat) (ao : Option Addr) (cap : Nat) (w : World) (h : Rd w g r xs 0 ao cap) (hc : c ≠ 0) (hD : Dn 202 #[p] w (.int .u64 0) g r xs c) :
    Calls Tryz.prog 187 #[.pointer (some ⟨g, 0, none⟩), .func (Fn.func 202) #[] #[p], .func (Fn.func 203) #[] #[]] w fun e w' => e = .returned (.tuple #[.int .u64 0, .int .i64 (c : Int)]) ∧ Fr [g] w w' := by
  have HE : Hid (endOf c xs.length = c) := endOf_wrong _ _ hc
  clear hc
  obtain ⟨L, hL⟩ : ∃ L, L = xs.length := ⟨_, rfl⟩
  have HL : Hid (L = xs.length) := hL
  have hl1 := left_any g r xs 0 ao cap w h
  rw [← hL] at hl1
  clear hL
  go_enter Tryz.func187, Tryz.ntmps187
  go_wp2_with fail
  refine hl1.mono ?_
  rintro e w1 ⟨rfl, rfl⟩
  go_wp2_with fail
  refine hD.calls.mono ?_
  rintro e w1 ⟨rfl, ao1, cap1, hR1, hF1⟩
  have hl2 := left_any g r xs c ao1 cap1 w1 hR1
  have hl3 := end_any g r xs c ao1 cap1 w1 hR1
  rw [← HL.out] at hl2
  rw [HE.out] at hl3
  have HF : Hid (Fr [g] w w1) := hF1
  clear hF1 hD
  go_wp2_with fail
  refine hl2.mono ?_
  rintro e w2 ⟨rfl, rfl⟩
  go_wp2_with fail
  refine hl3.mono ?_
  rintro e w2 ⟨rfl, rfl⟩
  go_wp2
  go_ret2
  exact ⟨rfl, HF.out⟩
set_option maxHeartbeats 2000000 in
set_option maxRecDepth 100000 in
theorem gateD_ref (p : Value) (g r c : Nat) (v : Nat) (xs ys : List Nat) (ao : Option Addr) (cap : Nat) (w : World) (h : Rd w g r xs 0 ao cap) (hc : c ≠ 0) (hlt : ys.length < xs.length) (hD : Dn 202 #[p] w (.int .u64 (v : Int)) g r ys 0) (hR : Rf 203 (.int .u64 (v : Int)) c) :
    Calls Tryz.prog 187 #[.pointer (some ⟨g, 0, none⟩), .func (Fn.func 202) #[] #[p], .func (Fn.func 203) #[] #[]] w fun e w' => e = .returned (.tuple #[.int .u64 0, .int .i64 (c : Int)]) ∧ Fr [g] w w' := by
  have hcb : ((c : Int) != 0) = true := by rw [bne_iff_ne]; omega
  obtain ⟨L, hL⟩ : ∃ L, L = xs.length := ⟨_, rfl⟩
  obtain ⟨M, hM⟩ : ∃ M, M = ys.length := ⟨_, rfl⟩
  have hlb : ((M : Int) == L) = false := by rw [beq_eq_false_iff_ne]; omega
  have HM : Hid (M = ys.length) := hM
  have hl1 := left_any g r xs 0 ao cap w h
  rw [← hL] at hl1
  clear hc hL hM hlt
  go_enter Tryz.func187, Tryz.ntmps187
  go_wp2_with fail
  refine hl1.mono ?_
  rintro e w1 ⟨rfl, rfl⟩
  go_wp2_with fail
  refine hD.calls.mono ?_
  rintro e w1 ⟨rfl, ao1, cap1, hR1, hF1⟩
  have hl2 := left_any g r ys 0 ao1 cap1 w1 hR1
  rw [← HM.out] at hl2
  have HF : Hid (Fr [g] w w1) := hF1
  clear hF1 hD
  go_wp2_with fail
  refine hl2.mono ?_
  rintro e w2 ⟨rfl, rfl⟩
  go_wp2_with fail
  refine (hR.calls _).mono ?_
  rintro e w2 ⟨rfl, rfl⟩
  go_wp2
  go_ret2
  exact ⟨rfl, HF.out⟩
set_option maxHeartbeats 2000000 in
set_option maxRecDepth 100000 in
theorem gateD_good (p : Value) (g r : Nat) (v : Nat) (xs ys : List Nat) (ao : Option Addr) (cap : Nat) (w : World) (h : Rd w g r xs 0 ao cap) (hlt : ys.length < xs.length) (hD : Dn 202 #[p] w (.int .u64 (v : Int)) g r ys 0) (hR : Rf 203 (.int .u64 (v : Int)) 0) :
    Dn 187 #[.pointer (some ⟨g, 0, none⟩), .func (Fn.func 202) #[] #[p], .func (Fn.func 203) #[] #[]] w (.tuple #[.int .u64 (v : Int), .int .i64 0]) g r ys 0 := by
  show Calls _ _ _ _ _
  obtain ⟨L, hL⟩ : ∃ L, L = xs.length := ⟨_, rfl⟩
  obtain ⟨M, hM⟩ : ∃ M, M = ys.length := ⟨_, rfl⟩
  have hlb : ((M : Int) == L) = false := by rw [beq_eq_false_iff_ne]; omega
  have HM : Hid (M = ys.length) := hM
  have hl1 := left_any g r xs 0 ao cap w h
  rw [← hL] at hl1
  clear hL hM hlt
  go_enter Tryz.func187, Tryz.ntmps187
  go_wp2_with fail
  refine hl1.mono ?_
  rintro e w1 ⟨rfl, rfl⟩
  go_wp2_with fail
  refine hD.calls.mono ?_
  rintro e w1 ⟨rfl, ao1, cap1, hR1, hF1⟩
  have hl2 := left_any g r ys 0 ao1 cap1 w1 hR1
  rw [← HM.out] at hl2
  have HF : Hid (Fr [g] w w1) := hF1
  clear hF1 hD
  go_wp2_with fail
  refine hl2.mono ?_
  rintro e w2 ⟨rfl, rfl⟩
  go_wp2_with fail
  refine (hR.calls _).mono ?_
  rintro e w2 ⟨rfl, rfl⟩
  go_wp2
  go_ret2
  exact ⟨rfl, ao1, cap1, hR1, HF.out⟩

set_option maxHeartbeats 2000000 in
set_option maxRecDepth 100000 in
theorem gateK_wrong (p : Value) (g r c : Nat) (xs : List Nat) (ao : Option Addr) (cap : Nat) (w : World) (h : Rd w g r xs 0 ao cap) (hc : c ≠ 0) (hD : Dn 200 #[p] w (.string ⟨#[]⟩) g r xs c) :
    Calls Tryz.prog 199 #[.pointer (some ⟨g, 0, none⟩), .func (Fn.func 200) #[] #[p], .func (Fn.func 201) #[] #[]] w fun e w' => e = .returned (.tuple #[.string ⟨#[]⟩, .int .i64 (c : Int)]) ∧ Fr [g] w w' := by
  have HE : Hid (endOf c xs.length = c) := endOf_wrong _ _ hc
  clear hc
  obtain ⟨L, hL⟩ : ∃ L, L = xs.length := ⟨_, rfl⟩
  have HL : Hid (L = xs.length) := hL
  have hl1 := left_any g r xs 0 ao cap w h
  rw [← hL] at hl1
  clear hL
  go_enter Tryz.func199, Tryz.ntmps199
  go_wp2_with fail
  refine hl1.mono ?_
  rintro e w1 ⟨rfl, rfl⟩
  go_wp2_with fail
  refine hD.calls.mono ?_
  rintro e w1 ⟨rfl, ao1, cap1, hR1, hF1⟩
  have hl2 := left_any g r xs c ao1 cap1 w1 hR1
  have hl3 := end_any g r xs c ao1 cap1 w1 hR1
  rw [← HL.out] at hl2
  rw [HE.out] at hl3
  have HF : Hid (Fr [g] w w1) := hF1
  clear hF1 hD
  go_wp2_with fail
  refine hl2.mono ?_
  rintro e w2 ⟨rfl, rfl⟩
  go_wp2_with fail
  refine hl3.mono ?_
  rintro e w2 ⟨rfl, rfl⟩
  go_wp2
  go_ret2
  exact ⟨rfl, HF.out⟩
set_option maxHeartbeats 2000000 in
set_option maxRecDepth 100000 in
theorem gateK_ref (p : Value) (g r c : Nat) (v : ByteArray) (xs ys : List Nat) (ao : Option Addr) (cap : Nat) (w : World) (h : Rd w g r xs 0 ao cap) (hc : c ≠ 0) (hlt : ys.length < xs.length) (hD : Dn 200 #[p] w (.string v) g r ys 0) (hR : Rf 201 (.string v) c) :
    Calls Tryz.prog 199 #[.pointer (some ⟨g, 0, none⟩), .func (Fn.func 200) #[] #[p], .func (Fn.func 201) #[] #[]] w fun e w' => e = .returned (.tuple #[.string ⟨#[]⟩, .int .i64 (c : Int)]) ∧ Fr [g] w w' := by
  have hcb : ((c : Int) != 0) = true := by rw [bne_iff_ne]; omega
  obtain ⟨L, hL⟩ : ∃ L, L = xs.length := ⟨_, rfl⟩
  obtain ⟨M, hM⟩ : ∃ M, M = ys.length := ⟨_, rfl⟩
  have hlb : ((M : Int) == L) = false := by rw [beq_eq_false_iff_ne]; omega
  have HM : Hid (M = ys.length) := hM
  have hl1 := left_any g r xs 0 ao cap w h
  rw [← hL] at hl1
  clear hc hL hM hlt
  go_enter Tryz.func199, Tryz.ntmps199
  go_wp2_with fail
  refine hl1.mono ?_
  rintro e w1 ⟨rfl, rfl⟩
  go_wp2_with fail
  refine hD.calls.mono ?_
  rintro e w1 ⟨rfl, ao1, cap1, hR1, hF1⟩
  have hl2 := left_any g r ys 0 ao1 cap1 w1 hR1
  rw [← HM.out] at hl2
  have HF : Hid (Fr [g] w w1) := hF1
  clear hF1 hD
  go_wp2_with fail
  refine hl2.mono ?_
  rintro e w2 ⟨rfl, rfl⟩
  go_wp2_with fail
  refine (hR.calls _).mono ?_
  rintro e w2 ⟨rfl, rfl⟩
  go_wp2
  go_ret2
  exact ⟨rfl, HF.out⟩
set_option maxHeartbeats 2000000 in
set_option maxRecDepth 100000 in
theorem gateK_good (p : Value) (g r : Nat) (v : ByteArray) (xs ys : List Nat) (ao : Option Addr) (cap : Nat) (w : World) (h : Rd w g r xs 0 ao cap) (hlt : ys.length < xs.length) (hD : Dn 200 #[p] w (.string v) g r ys 0) (hR : Rf 201 (.string v) 0) :
    Dn 199 #[.pointer (some ⟨g, 0, none⟩), .func (Fn.func 200) #[] #[p], .func (Fn.func 201) #[] #[]] w (.tuple #[.string v, .int .i64 0]) g r ys 0 := by
  show Calls _ _ _ _ _
  obtain ⟨L, hL⟩ : ∃ L, L = xs.length := ⟨_, rfl⟩
  obtain ⟨M, hM⟩ : ∃ M, M = ys.length := ⟨_, rfl⟩
  have hlb : ((M : Int) == L) = false := by rw [beq_eq_false_iff_ne]; omega
  have HM : Hid (M = ys.length) := hM
  have hl1 := left_any g r xs 0 ao cap w h
  rw [← hL] at hl1
  clear hL hM hlt
  go_enter Tryz.func199, Tryz.ntmps199
  go_wp2_with fail
  refine hl1.mono ?_
  rintro e w1 ⟨rfl, rfl⟩
  go_wp2_with fail
  refine hD.calls.mono ?_
  rintro e w1 ⟨rfl, ao1, cap1, hR1, hF1⟩
  have hl2 := left_any g r ys 0 ao1 cap1 w1 hR1
  rw [← HM.out] at hl2
  have HF : Hid (Fr [g] w w1) := hF1
  clear hF1 hD
  go_wp2_with fail
  refine hl2.mono ?_
  rintro e w2 ⟨rfl, rfl⟩
  go_wp2_with fail
  refine (hR.calls _).mono ?_
  rintro e w2 ⟨rfl, rfl⟩
  go_wp2
  go_ret2
  exact ⟨rfl, ao1, cap1, hR1, HF.out⟩

set_option maxHeartbeats 2000000 in
set_option maxRecDepth 100000 in
theorem gateV_wrong (p : Value) (g r c : Nat) (xs : List Nat) (ao : Option Addr) (cap : Nat) (w : World) (h : Rd w g r xs 0 ao cap) (hc : c ≠ 0) (hD : Dn 204 #[p] w (.string ⟨#[]⟩) g r xs c) :
    Calls Tryz.prog 199 #[.pointer (some ⟨g, 0, none⟩), .func (Fn.func 204) #[] #[p], .func (Fn.func 205) #[] #[]] w fun e w' => e = .returned (.tuple #[.string ⟨#[]⟩, .int .i64 (c : Int)]) ∧ Fr [g] w w' := by
  have HE : Hid (endOf c xs.length = c) := endOf_wrong _ _ hc
  clear hc
  obtain ⟨L, hL⟩ : ∃ L, L = xs.length := ⟨_, rfl⟩
  have HL : Hid (L = xs.length) := hL
  have hl1 := left_any g r xs 0 ao cap w h
  rw [← hL] at hl1
  clear hL
  go_enter Tryz.func199, Tryz.ntmps199
  go_wp2_with fail
  refine hl1.mono ?_
  rintro e w1 ⟨rfl, rfl⟩
  go_wp2_with fail
  refine hD.calls.mono ?_
  rintro e w1 ⟨rfl, ao1, cap1, hR1, hF1⟩
  have hl2 := left_any g r xs c ao1 cap1 w1 hR1
  have hl3 := end_any g r xs c ao1 cap1 w1 hR1
  rw [← HL.out] at hl2
  rw [HE.out] at hl3
  have HF : Hid (Fr [g] w w1) := hF1
  clear hF1 hD
  go_wp2_with fail
  refine hl2.mono ?_
  rintro e w2 ⟨rfl, rfl⟩
  go_wp2_with fail
  refine hl3.mono ?_
  rintro e w2 ⟨rfl, rfl⟩
  go_wp2
  go_ret2
  exact ⟨rfl, HF.out⟩
set_option maxHeartbeats 2000000 in
set_option maxRecDepth 100000 in
theorem gateV_ref (p : Value) (g r c : Nat) (v : ByteArray) (xs ys : List Nat) (ao : Option Addr) (cap : Nat) (w : World) (h : Rd w g r xs 0 ao cap) (hc : c ≠ 0) (hlt : ys.length < xs.length) (hD : Dn 204 #[p] w (.string v) g r ys 0) (hR : Rf 205 (.string v) c) :
    Calls Tryz.prog 199 #[.pointer (some ⟨g, 0, none⟩), .func (Fn.func 204) #[] #[p], .func (Fn.func 205) #[] #[]] w fun e w' => e = .returned (.tuple #[.string ⟨#[]⟩, .int .i64 (c : Int)]) ∧ Fr [g] w w' := by
  have hcb : ((c : Int) != 0) = true := by rw [bne_iff_ne]; omega
  obtain ⟨L, hL⟩ : ∃ L, L = xs.length := ⟨_, rfl⟩
  obtain ⟨M, hM⟩ : ∃ M, M = ys.length := ⟨_, rfl⟩
  have hlb : ((M : Int) == L) = false := by rw [beq_eq_false_iff_ne]; omega
  have HM : Hid (M = ys.length) := hM
  have hl1 := left_any g r xs 0 ao cap w h
  rw [← hL] at hl1
  clear hc hL hM hlt
  go_enter Tryz.func199, Tryz.ntmps199
  go_wp2_with fail
  refine hl1.mono ?_
  rintro e w1 ⟨rfl, rfl⟩
  go_wp2_with fail
  refine hD.calls.mono ?_
  rintro e w1 ⟨rfl, ao1, cap1, hR1, hF1⟩
  have hl2 := left_any g r ys 0 ao1 cap1 w1 hR1
  rw [← HM.out] at hl2
  have HF : Hid (Fr [g] w w1) := hF1
  clear hF1 hD
  go_wp2_with fail
  refine hl2.mono ?_
  rintro e w2 ⟨rfl, rfl⟩
  go_wp2_with fail
  refine (hR.calls _).mono ?_
  rintro e w2 ⟨rfl, rfl⟩
  go_wp2
  go_ret2
  exact ⟨rfl, HF.out⟩
set_option maxHeartbeats 2000000 in
set_option maxRecDepth 100000 in
theorem gateV_good (p : Value) (g r : Nat) (v : ByteArray) (xs ys : List Nat) (ao : Option Addr) (cap : Nat) (w : World) (h : Rd w g r xs 0 ao cap) (hlt : ys.length < xs.length) (hD : Dn 204 #[p] w (.string v) g r ys 0) (hR : Rf 205 (.string v) 0) :
    Dn 199 #[.pointer (some ⟨g, 0, none⟩), .func (Fn.func 204) #[] #[p], .func (Fn.func 205) #[] #[]] w (.tuple #[.string v, .int .i64 0]) g r ys 0 := by
  show Calls _ _ _ _ _
  obtain ⟨L, hL⟩ : ∃ L, L = xs.length := ⟨_, rfl⟩
  obtain ⟨M, hM⟩ : ∃ M, M = ys.length := ⟨_, rfl⟩
  have hlb : ((M : Int) == L) = false := by rw [beq_eq_false_iff_ne]; omega
  have HM : Hid (M = ys.length) := hM
  have hl1 := left_any g r xs 0 ao cap w h
  rw [← hL] at hl1
  clear hL hM hlt
  go_enter Tryz.func199, Tryz.ntmps199
  go_wp2_with fail
  refine hl1.mono ?_
  rintro e w1 ⟨rfl, rfl⟩
  go_wp2_with fail
  refine hD.calls.mono ?_
  rintro e w1 ⟨rfl, ao1, cap1, hR1, hF1⟩
  have hl2 := left_any g r ys 0 ao1 cap1 w1 hR1
  rw [← HM.out] at hl2
  have HF : Hid (Fr [g] w w1) := hF1
  clear hF1 hD
  go_wp2_with fail
  refine hl2.mono ?_
  rintro e w2 ⟨rfl, rfl⟩
  go_wp2_with fail
  refine (hR.calls _).mono ?_
  rintro e w2 ⟨rfl, rfl⟩
  go_wp2
  go_ret2
  exact ⟨rfl, ao1, cap1, hR1, HF.out⟩

/-! ### What is refused of a thing that was taken -/
theorem numberWrong_any (n : Nat) (hn : n < 2 ^ 64) : Rf 189 (.int .u64 (n : Int)) (refN n) := by
  intro w
  show Calls _ _ _ _ _
  by_cases h1 : n < 1
  · obtain rfl : n = 0 := by omega
    go_enter Tryz.func189, Tryz.ntmps189
    go_wp2
    go_ret
    exact ⟨rfl, rfl⟩
  · by_cases h2 : 65536 < n
    · have HR : Hid (refN n = 1) := by show refN n = 1; simp [refN, h2]
      have h1' : (1 : Int) ≤ n := by omega
      have h2' : (65536 : Int) < n := by omega
      go_enter Tryz.func189, Tryz.ntmps189
      go_wp2
      go_ret
      rw [HR.out]
      exact ⟨rfl, rfl⟩
    · have HR : Hid (refN n = 0) := by show refN n = 0; simp [refN]; omega
      have h1' : (1 : Int) ≤ n := by omega
      have h2' : (n : Int) ≤ 65536 := by omega
      go_enter Tryz.func189, Tryz.ntmps189
      go_wp2
      go_ret
      rw [HR.out]
      exact ⟨rfl, rfl⟩
theorem countWrong_any (n : Nat) (hn : n < 2 ^ 64) : Rf 190 (.int .u64 (n : Int)) (refC n) := by
  intro w
  show Calls _ _ _ _ _
  by_cases h2 : 32 < n
  · have HR : Hid (refC n = 3) := by show refC n = 3; simp [refC, h2]
    have h2' : (32 : Int) < n := by omega
    go_enter Tryz.func190, Tryz.ntmps190
    go_wp2
    go_ret
    rw [HR.out]
    exact ⟨rfl, rfl⟩
  · have HR : Hid (refC n = 0) := by show refC n = 0; simp [refC]; omega
    have h2' : (n : Int) ≤ 32 := by omega
    go_enter Tryz.func190, Tryz.ntmps190
    go_wp2
    go_ret
    rw [HR.out]
    exact ⟨rfl, rfl⟩
theorem keyWrong_any (s : ByteArray) : Rf 201 (.string s) (refK s) := by
  intro w
  show Calls _ _ _ _ _
  by_cases h2 : s.size = 0
  · have HR : Hid (refK s = 1) := by show refK s = 1; simp [refK, h2]
    have h3 : s.toList = [] := (tl_nil s).2 h2
    go_enter Tryz.func201, Tryz.ntmps201
    go_wp2
    go_ret
    rw [HR.out]
    exact ⟨rfl, rfl⟩
  · have HR : Hid (refK s = 0) := by show refK s = 0; simp [refK, h2]
    have h3 : ¬ s.toList = [] := fun h => h2 ((tl_nil s).1 h)
    have h4 : s.toList.isEmpty = false := by simpa using h3
    go_enter Tryz.func201, Tryz.ntmps201
    go_wp2
    go_ret
    rw [HR.out]
    exact ⟨rfl, rfl⟩
theorem dropWrong_any (n : Nat) (hn : n < 2 ^ 64) : Rf 203 (.int .u64 (n : Int)) (refD n) := by
  intro w
  show Calls _ _ _ _ _
  by_cases h1 : n = 0
  · subst h1
    go_enter Tryz.func203, Tryz.ntmps203
    go_wp2
    go_ret
    exact ⟨rfl, rfl⟩
  · by_cases h2 : n = 1
    · subst h2
      go_enter Tryz.func203, Tryz.ntmps203
      go_wp2
      go_ret
      exact ⟨rfl, rfl⟩
    · have HR : Hid (refD n = 4) := by show refD n = 4; simp [refD, h1, h2]
      have h1' : ((n : Int) != 0) = true := by rw [bne_iff_ne]; omega
      have h2' : ((n : Int) != 1) = true := by rw [bne_iff_ne]; omega
      clear h1 h2
      go_enter Tryz.func203, Tryz.ntmps203
      go_wp2
      go_ret
      rw [HR.out]
      exact ⟨rfl, rfl⟩
theorem noneWrong_any (s : ByteArray) : Rf 205 (.string s) (refV s) := by
  intro w
  show Calls _ _ _ _ _
  go_enter Tryz.func205, Tryz.ntmps205
  go_wp2
  go_ret
  exact ⟨rfl, rfl⟩
end Go.Proofs.YtaefninikmaiiaaGreatDoor
