/- The known example: two transactions of one key; it takes fourteen steps, and a is 2 then. Mathematics. No conditions. -/
import Derived.Test.YtakbodlicfmkjaaGreatGs21
import Derived.Test.YtakbodlicfmkjaaGreatOv20
import Derived.Test.YtakbodlicfmkjaaGreatSe20
namespace Go.Proofs.YtakbodlicfmkjaaGreat.Ap
open Go.ChangeShapes Go.WideShapes Go.ChangeAt Go.RowKit Go.Lib Go.Maps
set_option linter.unusedVariables false
set_option linter.unusedSimpArgs false
/-- The key, the values. -/
def kA : ByteArray := ⟨#[97]⟩
def vOne : ByteArray := ⟨#[49]⟩
def vTwo : ByteArray := ⟨#[50]⟩
/-- The two transactions. -/
def T20 : List Tx := [⟨1, [⟨kA, vOne, false⟩]⟩, ⟨2, [⟨kA, vTwo, false⟩]⟩]
def c20 : Cf := ⟨2, 1, 2, 1⟩
theorem c20_may : c20.may := by unfold Cf.may c20; decide
theorem okW20 (v : ByteArray) (h : v.size = 1) : okW ⟨kA, v, false⟩ := ⟨by show 1 ≤ kA.size; decide, by show kA.size ≤ 64; decide, by show v.size ≤ 1024; omega, fun e => by cases e⟩
theorem t20_ok : okL 1 T20 := by
  refine ⟨⟨by decide, by decide, by decide, fun x hx => ?_⟩, rfl, ⟨by decide, by decide, by decide, fun x hx => ?_⟩, rfl, trivial⟩
  · rw [List.mem_singleton.1 hx]; exact okW20 _ rfl
  · rw [List.mem_singleton.1 hx]; exact okW20 _ rfl
theorem dd_one (x : Wt) : dd [x] = [x] := by
  show ddTo [x] 1 = [x]
  rw [ddTo_yes (fun m h1 h2 => by simp at h2; omega)]
  rfl
theorem cst20 (n : Int) (h : n = 1 ∨ n = 2) : cst T20 n = 2 := by
  unfold cst
  rcases h with rfl | rfl
  · show 2 * (dd [⟨kA, vOne, false⟩]).length = 2
    rw [dd_one]; rfl
  · show 2 * (dd [⟨kA, vTwo, false⟩]).length = 2
    rw [dd_one]; rfl
theorem rdS20 : rdS T20 2 = 14 := by
  have h1 := cst20 1 (Or.inl rfl)
  have h2 := cst20 2 (Or.inr rfl)
  show 0 + (5 + cst T20 1) + (5 + cst T20 2) = 14
  rw [h1, h2]
/-- How many steps a new one takes that is fed. -/
theorem nu_fed (c : Cf) (T : List Tx) (n : Nat) : nu c T { ms0 with fd := n } = rdS T n := by
  unfold nu
  show (rdS T n - rdS T 0) + (if false = true then _ else 0) + (wtS T (fun _ => False) 0 + liS T []) + sumW (fun _ => none) c.l.toNat + 0 = rdS T n
  rw [sumW_nil]
  simp [rdS, wtS, liS]
theorem fed20 : fedTo T20 0 2 = 2 := by decide
theorem fo20 : Fo.Is (Fo.fo (T20.take 2)) [(kA, vTwo)] := by
  refine ⟨List.pairwise_singleton _ _, fun p => ?_⟩
  have e : Fo.fo (T20.take 2) p.1 = if p.1 = kA then some vTwo else if p.1 = kA then some vOne else none := rfl
  rw [e, List.mem_singleton]
  obtain ⟨a, b⟩ := p
  simp only [Prod.mk.injEq]
  by_cases h : a = kA
  · rw [if_pos h]
    constructor
    · rintro ⟨_, rfl⟩; rfl
    · intro h2; cases h2; exact ⟨h, rfl⟩
  · rw [if_neg h, if_neg h]
    constructor
    · rintro ⟨h2, _⟩; exact absurd h2 h
    · intro h2; cases h2
/-- Where the picks of the example are. -/
def KnS (w : World) (p : Nat) (n : Nat) (w' : World) : Prop := ∃ (w0 : World) (Z : Lay) (s : Ms), Fr [] w w0 ∧ RP w0 w' p c20 T20 Z s ∧ Z.nr = s.d ∧ Wf c20 T20 s ∧ s.fd = 2 ∧ s.k = n ∧ nu c20 T20 s + n = 14
theorem kn_first {w w' : World} {p : Nat} {w0 : World} {Z : Lay} (hf : Fr [] w w0) (h : RP w0 w' p c20 T20 Z { ms0 with fd := fedTo T20 0 2 }) (hn : Z.nr = 0) : KnS w p 0 w' := by
  refine ⟨w0, Z, _, hf, h, hn, (Wf.zero c20_may t20_ok).feed 2, fed20, rfl, ?_⟩
  rw [fed20, nu_fed, rdS20]
theorem kn_le {w w' : World} {p n : Nat} (h : KnS w p n w') : n ≤ 14 := by
  obtain ⟨_, _, _, _, _, _, _, _, _, e⟩ := h
  omega
/-- A pick: one more step, or it is the fourteenth. -/
theorem kn_pick {w w' : World} {p n : Nat} (h : KnS w p n w') : Calls Tryz.prog 6 #[.pointer (some ⟨p, 0, none⟩), .int .i64 0] w' fun e w2 =>
    (∃ t k m sh ct ma, e = .returned (.tuple #[.agg #[.int .i64 t, .int .u8 k, .int .i64 m, .int .i64 sh, .int .i64 ct, .int .i64 ma], .int .i64 0]) ∧ KnS w p (n + 1) w2) ∨
    (e = .returned (.tuple #[.agg #[.int .i64 0, .int .u8 0, .int .i64 0, .int .i64 0, .int .i64 0, .int .i64 0], .int .i64 9]) ∧ n = 14 ∧ KnS w p n w2 ∧ ∃ (w0 : World) (Z : Lay) (s : Ms), RP w0 w2 p c20 T20 Z s ∧ Wf c20 T20 s ∧ s.fd = 2 ∧ s.k = n ∧ rdyL c20 s (c20.l.toNat + c20.s.toNat + 2) = []) := by
  obtain ⟨w0, Z, s, h1, h2, h3, h4, h5, h6, h7⟩ := h
  by_cases hr : rdyL c20 s (c20.l.toNat + c20.s.toNat + 2) = []
  · obtain ⟨i1, i2, i3, i4, i5, i6⟩ := idle_all h4 hr
    have hz := nu_none h4 i1 i2 i5
    refine Calls.mono (pick_idle h2 h4 0 hr) ?_
    rintro e w2 ⟨rfl, hf⟩
    exact Or.inr ⟨rfl, by omega, ⟨w0, Z, s, h1, h2.quiet hf, h3, h4, h5, h6, h7⟩, w0, Z, s, h2.quiet hf, h4, h5, h6, hr⟩
  · refine Calls.mono (pick_on h2 h3 h4 (by omega) 0 ⟨by omega, by omega⟩ hr) ?_
    rintro e w2 ⟨t, k, m, sh, ct, ma, s', rfl, ⟨Z', hD, hn'⟩, hN⟩
    refine Or.inl ⟨t, k, m, sh, ct, ma, rfl, w0, Z', s', h1, h2.dn hD, hn', hN.wf, by rw [hN.fd]; exact h5, by rw [hN.k, h6], ?_⟩
    have := hN.nu
    omega
end Go.Proofs.YtakbodlicfmkjaaGreat.Ap
