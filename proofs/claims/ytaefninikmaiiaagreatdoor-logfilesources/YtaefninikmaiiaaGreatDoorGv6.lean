/- What Get answers of any number, on both sides, by one word. Conditions: how the sources lie in memory. -/
import Derived.Test.YtaefninikmaiiaaGreatDoorSrk6
namespace Go.Proofs.YtaefninikmaiiaaGreatDoor
open Go.ChangeShapes Go.WideShapes Go.ChangeAt Go.RowKit Go.Lib
set_option linter.unusedVariables false
set_option linter.unusedSimpArgs false

/-- What Get of the number n answers of the log l: the code c, the transaction (xn, xws); what was asked then. -/
def Gv (l : List Tx) (n : Int) (qs : List Nat) (c : Nat) (xn : Int) (xws : List Wt) (qs' : List Nat) : Prop :=
  (1 ≤ n ∧ n ≤ (l.length : Int) ∧ c = 0 ∧ (⟨xn, xws⟩ : Tx) = l.getD (n.toNat - 1) Tx.zero ∧ qs' = qs ++ [n.toNat]) ∨ (¬ (1 ≤ n ∧ n ≤ (l.length : Int)) ∧ c = 1 ∧ xn = 0 ∧ xws = [] ∧ qs' = qs)
theorem Gv.one {l : List Tx} {n : Int} {qs : List Nat} {c d : Nat} {xn yn : Int} {xws yws : List Wt} {q1 q2 : List Nat} (h : Gv l n qs c xn xws q1) (k : Gv l n qs d yn yws q2) : c = d ∧ xn = yn ∧ xws = yws ∧ q1 = q2 := by
  rcases h with ⟨a1, a2, a3, a4, a5⟩ | ⟨a1, a2, a3, a4, a5⟩ <;> rcases k with ⟨b1, b2, b3, b4, b5⟩ | ⟨b1, b2, b3, b4, b5⟩
  · rw [← b4] at a4
    simp only [Tx.mk.injEq] at a4
    exact ⟨by omega, a4.1, a4.2, by rw [a5, b5]⟩
  · exact absurd ⟨a1, a2⟩ b1
  · exact absurd ⟨b1, b2⟩ a1
  · exact ⟨by omega, by omega, by rw [a4, b4], by rw [a5, b5]⟩
theorem Gv.len {l : List Tx} {n : Int} {qs : List Nat} {c : Nat} {xn : Int} {xws : List Wt} {q1 : List Nat} (h : Gv l n qs c xn xws q1) : q1.length ≤ qs.length + 1 ∧ c ≤ 1 := by
  rcases h with ⟨a1, a2, a3, a4, a5⟩ | ⟨a1, a2, a3, a4, a5⟩
  · exact ⟨by rw [a5]; simp, by omega⟩
  · exact ⟨by rw [a5]; omega, by omega⟩
section
variable {w0 w : World}
theorem sget_any {g lb L : Nat} {ts : List Tm} {v : Value} {qs : List Nat} (h : Src w0 w g lb L ts v qs) (n : Int) (hq : qs.length < 2 ^ 40) (h00 : w0.heap.size ≤ w.heap.size) :
    Calls Tryz.prog 25 #[.pointer (some ⟨g, 0, none⟩), .int .i64 n] w fun e w' => ∃ (c : Nat) (xn : Int) (xo : Option Addr) (M xc : Nat) (xws : List Wt) (v' : Value) (qs' : List Nat), e = .returned (.tuple #[.agg #[.int .i64 xn, .slice xo M xc], .int .i64 (c : Int)]) ∧
      Gv (txs ts) n qs c xn xws qs' ∧ M = xws.length ∧ M ≤ 32 ∧ w'.ownsRow w.heap.size 124 3 (.slice xo M xc) M (wtsC xws) ∧ WRs w' xo xws ∧ Src w0 w' g lb L ts v' qs' ∧ Fr (Src.own g v) w w' ∧ Moved w.heap.size v v' := by
  by_cases hn : 1 ≤ n ∧ n ≤ (L : Int)
  · obtain ⟨m, rfl⟩ : ∃ m : Nat, n = (m : Int) := ⟨n.toNat, by omega⟩
    have hlen := h.len
    have hm : m - 1 < ts.length := by omega
    have hTn := h.each _ (tgetD_mem ts (m - 1) hm)
    obtain ⟨_, _, _, e3, _, _, hokx⟩ := hTn
    refine (get_ok h m (by omega) (by omega) hq h00 _ rfl).mono ?_
    rintro e w' ⟨k, v', rfl, hk, hrow, hS, hF, hM⟩
    refine ⟨0, _, _, _, _, (ts.getD (m - 1) Tm.zero).ws, v', _, rfl, Or.inl ⟨hn.1, by rw [txs_length]; omega, rfl, ?_, rfl⟩, e3, ?_, ?_, ?_, hS, hF, hM⟩
    · rw [show ((m : Int).toNat - 1) = m - 1 by omega, txs_getD]
      rfl
    · have := hokx.2.2.1
      omega
    · exact ⟨by rw [wtsC_length, e3], .inr ⟨k, _, _, rfl, hk, hrow, Nat.le_refl _, by have := hokx.2.2.1; unfold maxLen; omega, by rw [List.size_toArray, wtsC_length, e3], List.take_of_length_le (Nat.le_of_eq (by show (wtsC _).length = _; rw [wtsC_length, e3]))⟩⟩
    · exact WRs.of_ok hokx hrow
  · have hlen := h.len
    refine (get_noZ h n (by omega)).mono ?_
    rintro e w' ⟨rfl, hF⟩
    exact ⟨1, 0, none, 0, 0, [], v, qs, rfl, Or.inr ⟨by rw [txs_length]; omega, rfl, rfl, rfl, rfl⟩, rfl, by omega, World.ownsRow_nil _ _ _ _, WRs.nil _ _, h.keep hF, hF.mono (by simp), Moved.refl _ _⟩
theorem yget_any {g L lc : Nat} {lo : Option Addr} {us : List Tm} {v : Value} {qs : List Nat} (h : YSrc w0 w g L lo lc us v qs) (n : Int) (hq : qs.length < 2 ^ 40) (h00 : w0.heap.size ≤ w.heap.size) :
    Calls Tryz.prog 26 #[.pointer (some ⟨g, 0, none⟩), .int .i64 n] w fun e w' => ∃ (c : Nat) (xn : Int) (xo : Option Addr) (M xc : Nat) (xws : List Wt) (v' : Value) (qs' : List Nat), e = .returned (.tuple #[.agg #[.int .i64 xn, .slice xo M xc], .int .i64 (c : Int)]) ∧
      Gv (txs us) n qs c xn xws qs' ∧ M = xws.length ∧ WRs w' xo xws ∧ YSrc w0 w' g L lo lc us v' qs' ∧ Fr (YSrc.own g v) w w' ∧ Moved w.heap.size v v' := by
  by_cases hn : 1 ≤ n ∧ n ≤ (L : Int)
  · obtain ⟨m, rfl⟩ : ∃ m : Nat, n = (m : Int) := ⟨n.toNat, by omega⟩
    have hlen := h.log.len
    have hm : m - 1 < us.length := by omega
    have hokx := okL_mem h.ok (us.getD (m - 1) Tm.zero).tx (List.mem_map.2 ⟨_, tgetD_mem us (m - 1) hm, rfl⟩)
    have e3 := (h.log.each _ (tgetD_mem us (m - 1) hm)).len
    refine (yGet_ok h m (by omega) (by omega) hq h00 _ rfl).mono ?_
    rintro e w' ⟨bo, rc, v', rfl, hO, hS, hF, hM⟩
    refine ⟨0, _, _, _, _, (us.getD (m - 1) Tm.zero).ws, v', _, rfl, Or.inl ⟨hn.1, by rw [txs_length]; omega, rfl, ?_, rfl⟩, e3, ?_, hS, hF, hM⟩
    · rw [show ((m : Int).toNat - 1) = m - 1 by omega, txs_getD]
      rfl
    · exact hO.rs (okT_few hokx).1 (okT_few hokx).2
  · have hlen := h.log.len
    refine (yGet_no h n (by omega)).mono ?_
    rintro e w' ⟨rfl, hF⟩
    exact ⟨1, 0, none, 0, 0, [], v, qs, rfl, Or.inr ⟨by rw [txs_length]; omega, rfl, rfl, rfl, rfl⟩, rfl, WRs.nil _ _, h.keep hF, hF.mono (by simp), Moved.refl _ _⟩
end
end Go.Proofs.YtaefninikmaiiaaGreatDoor
