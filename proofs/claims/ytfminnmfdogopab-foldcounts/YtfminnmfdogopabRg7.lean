/- The document's Scan and Get; entries that are the same. Conditions as each names them. -/
import Derived.Test.YtfminnmfdogopabRf7
import Derived.Test.YtfminnmfdogopabEq
namespace Go.Proofs.Ytfminnmfdogopab
open Go.ChangeShapes Go.WideShapes Go.ChangeAt Go.RowKit Go.Lib Go.Maps Go.Sort
set_option linter.unusedVariables false
set_option linter.unusedSimpArgs false

theorem ScTold.all {l : List Tx} {f : Int} {key en : ByteArray} {ps : List Pr} {c : Nat} (h : ScTold l f key en ps c) : ∃ qs, ScTold l f ⟨#[]⟩ ⟨#[]⟩ qs c ∧ ps = qs.filter fun p => inS key en p.1 := by
  obtain ⟨hc, ⟨h0, rfl⟩ | ⟨rfl, hI⟩⟩ := h
  · exact ⟨[], ⟨hc, Or.inl ⟨h0, rfl⟩⟩, rfl⟩
  · obtain ⟨qs, hq⟩ := fo_is (l.take f.toNat)
    refine ⟨qs, ⟨hc, Or.inr ⟨rfl, hq.cong (fun s => by rw [call_fo, if_pos (inS_all2 s)])⟩⟩, ?_⟩
    exact hI.unique ((hq.filter (inS key en)).cong (fun s => (call_fo _ _ s).symm))
set_option maxHeartbeats 4000000 in
set_option maxRecDepth 100000 in
theorem sameEntries_any (ro ro' : Option Addr) (N rc rc' : Nat) (ps : List Pr) (w : World) (h1 : ERs w ro ps) (h2 : ERs w ro' ps) (hN : N = ps.length) :
    Calls Try.prog 9 #[.slice ro N rc, .slice ro' N rc'] w fun e w' => e = .returned (.bool true) ∧ Fr [] w w' := by
  have HN : Hid (N = ps.length) := hN
  have hNf : N < 1099511627776 := by rw [hN]; exact h1.few
  have HE : Hid (∀ W, Fr [] w W → ERs W ro ps ∧ ERs W ro' ps) := fun W hf => ⟨h1.keep hf, h2.keep hf⟩
  clear hN h1 h2
  go_enter Try.func9, Try.ntmps9
  go_wp2_with fail
  go_loopw [5] (fun ii wr => ∃ (i : Nat), ii = .int .i64 i ∧ i ≤ N ∧ Fr [] w wr) (fun ii _ => N - (intOf ii).toNat)
  case atStart => exact ⟨0, rfl, Nat.zero_le _, Fr.refl _ _⟩
  case round =>
    obtain ⟨i, rfl, hiN, hFr⟩ := hrel
    by_cases hi : i < N
    · have hi' : i < ps.length := by rw [← HN.out]; exact hi
      obtain ⟨g, rfl, d0, d1⟩ := (HE.out _ hFr).1.at i hi'
      obtain ⟨g', rfl, d2, d3⟩ := (HE.out _ hFr).2.at i hi'
      obtain ⟨⟨k2, v2⟩, hyy⟩ : ∃ y, y = ps.getD i e0 := ⟨_, rfl⟩
      rw [← hyy] at d0 d1 d2 d3
      simp only at d0 d1 d2 d3
      clear hyy
      go_wp2_with fail
      go_quiet (fail)
      go_wp2
      exact ⟨⟨i + 1, by simp, by omega, hFr.then (Fr.drewN _ _ _)⟩, by simp [intOf]; omega⟩
    · go_wp2
      go_ret
      exact ⟨rfl, hFr⟩
theorem okK_iff (key : ByteArray) : okK key = true ↔ 1 ≤ key.size ∧ key.size ≤ 64 := by
  unfold okK
  simp only [Bool.and_eq_true, Bool.not_eq_true', beq_eq_false_iff_ne, decide_eq_true_eq, ne_eq, tl_nil]
  omega
/-- What place tells of a key is what the map says. -/
theorem place_fo {E : ByteArray → Option ByteArray} {ps : List Pr} {key : ByteArray} {i : Nat} {ok : Bool} (h : Is E ps) (hP : PlT ps key i ok) : (ok = true ∧ i < ps.length ∧ E key = some (ps.getD i e0).2) ∨ (ok = false ∧ E key = none) := by
  cases ok with
  | true =>
    obtain ⟨h1, h2⟩ := hP.is.1 rfl
    refine Or.inl ⟨rfl, h1, ?_⟩
    have hm : ps.getD i e0 ∈ ps := by simp [List.getD, h1]
    have := (h.mem _).1 hm
    rw [h2] at this
    exact this
  | false =>
    refine Or.inr ⟨rfl, ?_⟩
    cases hE : E key with
    | none => rfl
    | some v =>
      exfalso
      have hm := (h.mem (key, v)).2 hE
      obtain ⟨j, hj, e⟩ := List.mem_iff_getElem.1 hm
      have hg : (ps.getD j e0).1 = key := by simp [List.getD, hj, e]
      have hij : j = i := by
        rcases Nat.lt_trichotomy j i with h1 | h1 | h1
        · have := hP.lo j h1
          rw [hg, bl_irrefl] at this
          cases this
        · exact h1
        · have a := inc_getD h.inc h1 hj
          rw [hg] at a
          rw [hP.hi i (Nat.le_refl _) (by omega)] at a
          cases a
      subst hij
      have := hP.is.2 ⟨hj, hg⟩
      cases this