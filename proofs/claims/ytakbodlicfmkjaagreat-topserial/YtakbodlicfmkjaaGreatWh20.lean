/- What a machine's versions say at the mark, when all is through: the fold. Mathematics. Conditions as each names them. -/
import Derived.Test.YtakbodlicfmkjaaGreatWg20
import Derived.Test.YtakbodlicfmkjaaGreatGt7
namespace Go.Proofs.YtakbodlicfmkjaaGreat
set_option linter.unusedVariables false
set_option linter.unusedSimpArgs false

/-- What a write leaves of its key. -/
def wVal (x : Wt) : Option ByteArray := if x.drop = true then none else some x.val
theorem caps_none (E : ByteArray → Option ByteArray) (ws : List Wt) (k : ByteArray) : ∀ i, i ≤ ws.length → (∀ j, j < i → kAt ws j ≠ k) → Fo.capplys (fun _ => true) E (ws.take i) k = E k
  | 0, _, _ => rfl
  | i + 1, hi, h => by
    rw [wtake_snoc ws i (by omega), Fo.capplys_snoc]
    unfold Fo.capply
    rw [if_pos rfl]
    unfold Fo.applyE
    rw [if_neg (fun e => h i (by omega) e.symm)]
    exact caps_none E ws k i (by omega) (fun j hj => h j (by omega))
theorem caps_some (E : ByteArray → Option ByteArray) (ws : List Wt) (k : ByteArray) (j : Nat) (hk : kAt ws j = k) : ∀ i, i ≤ ws.length → j < i → (∀ m, j < m → m < i → kAt ws m ≠ k) → Fo.capplys (fun _ => true) E (ws.take i) k = wVal (ws.getD j Wt.zero)
  | 0, _, h, _ => by omega
  | i + 1, hi, hj, h => by
    rw [wtake_snoc ws i (by omega), Fo.capplys_snoc]
    unfold Fo.capply
    rw [if_pos rfl]
    unfold Fo.applyE
    by_cases e : j = i
    · subst e
      rw [if_pos (by rw [← hk]; rfl)]
      rfl
    · rw [if_neg (fun e2 => h i (by omega) (by omega) e2.symm)]
      exact caps_some E ws k j hk i (by omega) (by omega) (fun m h1 h2 => h m h1 (by omega))
theorem ddTo_memi (ws : List Wt) : ∀ i x, x ∈ ddTo ws i ↔ ∃ j, j < i ∧ Kept ws j ∧ ws.getD j Wt.zero = x
  | 0, x => by simp [ddTo]
  | i + 1, x => by
    have ih := ddTo_memi ws i x
    by_cases h : Kept ws i
    · rw [ddTo_yes h, List.mem_append, ih, List.mem_singleton]
      constructor
      · rintro (⟨j, h1, h2⟩ | rfl)
        · exact ⟨j, by omega, h2⟩
        · exact ⟨i, by omega, h, rfl⟩
      · rintro ⟨j, h1, h2, h3⟩
        by_cases e : j = i
        · subst e; exact .inr h3.symm
        · exact .inl ⟨j, by omega, h2, h3⟩
    · rw [ddTo_no h, ih]
      constructor
      · rintro ⟨j, h1, h2⟩; exact ⟨j, by omega, h2⟩
      · rintro ⟨j, h1, h2, h3⟩
        by_cases e : j = i
        · subst e; exact absurd h2 h
        · exact ⟨j, by omega, h2, h3⟩
/-- What a transaction makes of a key: by the write that counts. -/
theorem caps_dd (E : ByteArray → Option ByteArray) (ws : List Wt) {x : Wt} (hx : x ∈ dd ws) : Fo.capplys (fun _ => true) E ws x.key = wVal x := by
  obtain ⟨j, h1, h2, h3⟩ := (ddTo_memi ws _ x).1 hx
  have := caps_some E ws x.key j (by rw [← h3]; rfl) ws.length (Nat.le_refl _) h1 (fun m hm hl => by
    have := h2 m hm hl
    rw [← h3]; exact this)
  rw [List.take_length] at this
  rw [this, h3]
theorem caps_off (E : ByteArray → Option ByteArray) (ws : List Wt) (k : ByteArray) (h : ∀ x ∈ dd ws, x.key ≠ k) : Fo.capplys (fun _ => true) E ws k = E k := by
  have := caps_none E ws k ws.length (Nat.le_refl _) (fun j hj e => ?_)
  · rw [List.take_length] at this; exact this
  · -- the last one of the key counts
    have last : ∀ d j, ws.length - j = d → j < ws.length → kAt ws j = k → ∃ m, m < ws.length ∧ Kept ws m ∧ kAt ws m = k := by
      intro d
      induction d using Nat.strongRecOn with
      | _ d ih =>
        intro j hd hj e
        by_cases hK : Kept ws j
        · exact ⟨j, hj, hK, e⟩
        · unfold Kept at hK
          obtain ⟨m, hm⟩ := Classical.not_forall.1 hK
          obtain ⟨h1, hm⟩ := Classical.not_imp.1 hm
          obtain ⟨h2, hm⟩ := Classical.not_imp.1 hm
          exact ih (ws.length - m) (by omega) m rfl h2 (by rw [Classical.not_not.1 hm]; exact e)
    obtain ⟨m, h1, h2, h3⟩ := last _ j rfl hj e
    exact h _ ((ddTo_memi ws _ _).2 ⟨m, h1, h2, rfl⟩) h3
/-- Versions of a key that rise by their numbers, at a mark one greater. -/
theorem valAt_same {vs : List O.Vn} {m : Int} (h : ∀ v ∈ vs, v.num ≠ m + 1) : O.valAt vs (m + 1) = O.valAt vs m := by
  unfold O.valAt O.vAt
  rw [List.filter_congr (fun v hv => ?_)]
  have := h v hv
  by_cases e : v.num ≤ m
  · rw [decide_eq_true (show v.num ≤ m + 1 by omega), decide_eq_true e]
  · rw [decide_eq_false (show ¬ v.num ≤ m + 1 by omega), decide_eq_false e]
theorem valAt_top {vs : List O.Vn} {m : Int} (hr : O.Ris vs) {v : O.Vn} (hv : v ∈ vs) (hn : v.num = m) : O.valAt vs m = if v.drop = true then none else some v.val := by
  have e : O.vAt vs m = some v := by
    unfold O.vAt
    obtain ⟨A, B, rfl⟩ := List.append_of_mem hv
    unfold O.Ris at hr
    rw [List.pairwise_append, List.pairwise_cons] at hr
    have hB : B.filter (fun v => decide (v.num ≤ m)) = [] := List.filter_eq_nil_iff.2 fun x hx => by
      have := hr.2.1.1 x hx
      simp; omega
    rw [List.filter_append, List.filter_cons, if_pos (by simp; omega), hB]
    simp
  unfold O.valAt
  rw [e]
  rfl
section
variable {c : Cf} {T : List Tx} {s : Ms}
theorem fo_take (T : List Tx) (m : Nat) (h : m < T.length) (k : ByteArray) : Fo.fo (T.take (m + 1)) k = Fo.capplys (fun _ => true) (Fo.fo (T.take m)) (wsAt T ((m + 1 : Nat) : Int)) k := by
  have e : T.take (m + 1) = T.take m ++ [T.getD m Tx.zero] := by
    rw [List.take_add_one]; simp [List.getD, h]
  unfold Fo.fo
  rw [e, Fo.call_snoc]
  have : wsAt T ((m + 1 : Nat) : Int) = (T.getD m Tx.zero).ws := by
    unfold wsAt
    have : (((m + 1 : Nat) : Int) - 1).toNat = m := by omega
    rw [this]
  rw [this]
/-- At any mark up to which all have ended, a key's versions say what the fold says. -/
theorem Wf.vals (h : Wf c T s) {m : Nat} (hall : ∀ n : Int, 1 ≤ n → n ≤ (m : Int) → s.en n) (hm : m ≤ T.length) (k : ByteArray) (hsh : ∀ x y : Wt, x.key = y.key → shW c x = shW c y) (x0 : Wt) (hx0 : x0.key = k) (hs0 : shW c x0 < c.s.toNat) :
    O.valAt (s.M (shW c x0) k) m = Fo.fo (T.take m) k := by
  induction m with
  | zero =>
    have e : O.vAt (s.M (shW c x0) k) ((0 : Nat) : Int) = none := by
      unfold O.vAt
      rw [List.filter_eq_nil_iff.2 (fun v hv => ?_)]
      · rfl
      · have := (h.ver _ _ v hs0 hv).1
        simp; omega
    unfold O.valAt
    rw [e, List.take_zero]
    rfl
  | succ m ih =>
    have ih := ih (fun n h1 h2 => hall n h1 (by omega)) (by omega)
    rw [fo_take T m (by omega)]
    have hen := hall ((m + 1 : Nat) : Int) (by omega) (Int.le_refl _)
    by_cases hx : ∃ x ∈ dd (wsAt T ((m + 1 : Nat) : Int)), x.key = k
    · obtain ⟨x, hx, rfl⟩ := hx
      have hin := h.fin _ (Or.inr hen) x hx
      unfold Ins at hin
      rw [hsh x x0 hx0.symm] at hin
      rw [caps_dd _ _ hx, valAt_top (h.okv _ _).2 hin rfl]
      rfl
    · rw [caps_off _ _ k (fun x hx' e => hx ⟨x, hx', e⟩), ← ih]
      have e : ((m + 1 : Nat) : Int) = (m : Int) + 1 := by omega
      rw [e]
      refine valAt_same fun v hv hn => hx ?_
      obtain ⟨_, x, h1, h2, _⟩ := h.ver _ _ v hs0 hv
      refine ⟨x, ?_, h2⟩
      rw [e, ← hn]; exact h1
end
end Go.Proofs.YtakbodlicfmkjaaGreat
