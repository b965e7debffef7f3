/- A replica is fed. Conditions as each names them. -/
import Derived.Test.YtakbodlicfmkjaaGreatPi20
namespace Go.Proofs.YtakbodlicfmkjaaGreat
open Go.ChangeShapes Go.WideShapes Go.ChangeAt Go.RowKit Go.Lib Go.Maps
set_option linter.unusedVariables false
set_option linter.unusedSimpArgs false
section
variable {w0 w w' : World} {p : Nat} {c : Cf} {T : List Tx} {Z : Lay} {s : Ms}
/-- Up to where it is fed then. -/
def fedTo (T : List Tx) (fd : Nat) (n : Int) : Nat := if n < fd ∨ (T.length : Int) < n then fd else n.toNat
theorem MaM.moreF (h : MaM w0 w c T Z s) (n : Int) : Calls Tryz.prog 33 #[.pointer (some ⟨Z.z.fb, 0, none⟩), .int .i64 n] w fun e w' => (∃ v, e = .returned v ∧ ∃ k : Int, v = .int .i64 k) ∧ Dn w0 c T w Z s w' { Z with v := Z.v, hw := Z.hw } { s with fd := fedTo T s.fd n } := by
  have hfe := h.fe
  have hm := hfe.m
  have hlen : T.length = Z.y.ts.length := by rw [← h.log, txs_length]
  refine (F.fMore_any hm n).mono ?_
  rintro e w' ⟨rfl, k1, k2⟩
  have hms : (⟨s.rd, s.fd, c.w.toNat, s.hv, false⟩ : F.Fe).moreS Z.y.ts.length n = ⟨s.rd, fedTo T s.fd n, c.w.toNat, s.hv, false⟩ := by
    unfold F.Fe.moreS F.Fe.moreC fedTo
    rw [hlen]
    simp only [Bool.false_eq_true, if_false]
    split
    · rw [if_neg (by decide)]
    · rw [if_pos rfl]
  rw [hms] at k1
  refine ⟨⟨_, rfl, _, rfl⟩, ?_⟩
  have hd := h.setFe k2 (fun b hb _ => ?_) (v' := Z.v) (hw' := Z.hw) (rd := s.rd) (fd := fedTo T s.fd n) (hv := s.hv) (k := s.k) ⟨k1, hfe.f0, hfe.g0, hfe.l0, hfe.m0, hfe.t0, Nat.le_trans hfe.b0 k2.size, fun k hk => ⟨(hfe.h0 k hk).1, Nat.lt_of_lt_of_le (hfe.h0 k hk).2 k2.size⟩, hfe.hB⟩ (fun b hb => Or.inl hb) (Nat.le_refl _)
  · exact hd
  · rw [List.mem_singleton.1 hb]
    exact Or.inl ⟨hm.fn, hfe.f0⟩
theorem rfeed_any (h : RP w0 w p c T Z s) (n : Int) : Calls Tryz.prog 16 #[.pointer (some ⟨p, 0, none⟩), .int .i64 n] w fun e w' => (∃ v, e = .returned v) ∧ Dn w0 c T w Z s w' { Z with v := Z.v, hw := Z.hw } { s with fd := fedTo T s.fd n } := by
  have HT : Hid (Calls _ _ _ _ _) := wrong_any h
  have c0 := h.c0
  have c5 : w.cell? ⟨Z.z.mb, 5, none⟩ = some (.pointer (some ⟨Z.z.fb, 0, none⟩)) := h.m.mc rfl
  have HM : Hid (Calls _ _ _ _ _) := h.m.moreF n
  clear h
  go_enter Tryz.func16, Tryz.ntmps16
  go_wp2_with fail
  refine Calls.mono HT.out ?_
  rintro e w1 ⟨rfl, rfl⟩
  go_wp2_with fail
  refine Calls.mono HM.out ?_
  rintro e w1 ⟨⟨_, rfl, k, rfl⟩, hD⟩
  have HD : Hid (Dn _ _ _ _ _ _ _ _ _) := hD
  clear hD
  go_wp2
  go_ret
  exact ⟨⟨_, rfl⟩, HD.out⟩
/-- To be fed keeps what holds. -/
theorem Wf.feed (h : Wf c T s) (n : Int) : Wf c T { s with fd := fedTo T s.fd n } := by
  have hf := h.fdl
  have h1 : s.fd ≤ fedTo T s.fd n ∧ fedTo T s.fd n ≤ T.length := by
    unfold fedTo
    split <;> omega
  exact { h with fdl := ⟨by show s.rd ≤ fedTo T s.fd n; omega, h1.2⟩ }
end
end Go.Proofs.YtakbodlicfmkjaaGreat
