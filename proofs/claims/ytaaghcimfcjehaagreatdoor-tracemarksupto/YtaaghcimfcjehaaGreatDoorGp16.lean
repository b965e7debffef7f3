/- Texts of this claim laid together, one behind the other: contracts and plain lemmas; conditions as each names them. -/
import Derived.Test.YtaaghcimfcjehaaGreatDoorGp13
import Derived.Test.YtaaghcimfcjehaaGreatDoorGp15
import Derived.BigQuiet
/- What holds of a story holds behind each step. Plain lemmas. -/
namespace Go.Proofs.YtaaghcimfcjehaaGreatDoor
set_option linter.unusedVariables false
set_option linter.unusedSimpArgs false

section
variable {c : Cf} {T : List Tx} {s : Sy} {k : Nat} {e : Ev}
theorem Iv.mono {k' : Nat} (h : Iv c T s k) (hk : k ≤ k') : Iv c T s k' :=
  { h with few0 := Nat.le_trans h.few0 (Nat.mul_le_mul_left _ hk), few1 := Nat.le_trans h.few1 hk, cnt := fun n => by have := h.cnt n; omega }
/-- What is asked of the log. -/
structure Lk (T : List Tx) : Prop where
  len : T.length ≤ 65536
  few : ∀ n : Int, 1 ≤ n → n ≤ (T.length : Int) → (wsAt T n).length ≤ 32
  tx : ∀ n : Int, 1 ≤ n → n ≤ (T.length : Int) → okT n (wsAt T n)
  num : ∀ n : Int, 1 ≤ n → n ≤ (T.length : Int) → (T.getD (n - 1).toNat Tx.zero).n = n
theorem shs_len (c : Cf) (T : List Tx) (n : Int) : (shs c T n).length ≤ (wsAt T n).length := by
  unfold shs
  rw [List.length_map]
  exact dd_len _
theorem shs_low {c : Cf} (hc : c.may) (T : List Tx) (n : Int) : ∀ q ∈ shs c T n, 0 ≤ q ∧ q < c.s := by
  intro q hq
  obtain ⟨x, _, rfl⟩ := List.mem_map.1 hq
  have h1 := hc.2.1.1
  exact ⟨Int.emod_nonneg _ (by omega), Int.emod_lt_of_pos _ (by omega)⟩
theorem frx_low (L : Lg) (en : Int → Prop) (n : Int) : Ris (frx L en n) ∧ ∀ x ∈ frx L en n, Op11 L en x ∧ Dep L x n := by
  by_cases h : Mye L en n ∧ ∃ zs, DoT L (Op11 L en) n zs
  · obtain ⟨hm, zs, hz⟩ := h
    rw [frx_eq hm hz]
    exact ⟨hz.1, fun x hx => ⟨((hz.2 x).1 hx).1, ((hz.2 x).1 hx).2.1⟩⟩
  · unfold frx
    rw [dif_neg h]
    exact ⟨List.Pairwise.nil, by simp⟩
theorem Iv.dsp (h : Iv c T s k) (hT : Lk T) : Iv c T (dsp c T s).2 (k + 1) := by
  unfold Go.Proofs.YtaaghcimfcjehaaGreatDoor.dsp
  by_cases h1 : s.holds = false
  · rw [if_pos h1]
    by_cases h2 : s.read < (T.length : Int)
    · rw [if_pos h2]
      have h' := h.mono (Nat.le_succ k)
      exact { h' with low := by have := h.low; show 0 ≤ s.read + 1; omega, top := by show s.read + 1 ≤ _; omega, hold := fun _ => by have := h.low; show 1 ≤ s.read + 1; omega, old := fun p hp => by have := (h.old p hp).1; exact ⟨by show p.1 ≤ s.read + 1; omega, fun _ => by show p.1 < s.read + 1; omega⟩ }
    · rw [if_neg h2]; exact h.mono (Nat.le_succ k)
  · rw [if_neg h1]
    have hh : s.holds = true := by simpa using h1
    have h' := h.mono (Nat.le_succ k)
    by_cases h2 : s.read ≤ s.ma ∨ s.read ∈ s.bx
    · rw [if_pos h2]
      exact { h' with hold := (fun e => by cases e), old := fun p hp => ⟨(h.old p hp).1, fun e => by cases e⟩ }
    · rw [if_neg h2]
      by_cases h3 : s.read ≤ s.ma + c.w
      · rw [if_pos h3]
        have hr := h.hold hh
        have ht := h.top
        have hold : ∀ p ∈ s.L ++ [(s.read, keysW (wsAt T s.read))], p.1 ≤ s.read ∧ (false = true → p.1 < s.read) := by
          intro p hp
          refine ⟨?_, fun e => by cases e⟩
          rcases List.mem_append.1 hp with e | e
          · exact (h.old p e).1
          · simp at e; rw [e]; exact Int.le_refl _
        by_cases h4 : (adx s.L s.en (keysW (wsAt T s.read))).length = 0
        · simp only [if_pos h4]
          refine { h' with hold := (fun e => by cases e), old := hold, line := fun n hn => ?_, pass := ?_, left := ?_, fewL := ?_, queue := ?_, que := ?_, few0 := ?_, few1 := ?_ }
          · simp only [upd_same, List.mem_append, List.mem_singleton] at hn
            rcases hn with hn | hn
            · exact h.line n hn
            · subst hn; exact ⟨hr, ht⟩
          · simpa only [upd_other _ _ (show 1 ≠ 0 by omega)] using h'.pass
          · intro i hi; simpa only [upd_other _ _ (show 2 + i ≠ 0 by omega)] using h'.left i hi
          · intro i hi; simpa only [upd_other _ _ (show 2 + i ≠ 0 by omega)] using h'.fewL i hi
          · intro i hi; simpa only [upd_other _ _ (show 18 + i ≠ 0 by omega)] using h'.queue i hi
          · intro i hi; simpa only [upd_other _ _ (show 18 + i ≠ 0 by omega)] using h'.que i hi
          · simp only [upd_same, List.length_append, List.length_singleton]; have := h.few0; omega
          · simpa only [upd_other _ _ (show 1 ≠ 0 by omega)] using h'.few1
        · simp only [if_neg h4]
          exact { h' with hold := (fun e => by cases e), old := hold }
      · rw [if_neg h3]; exact h'
theorem Iv.asks (h : Iv c T s k) (hc : c.may) {q : Nat} (hq : q < 16) {n : Int} (hn : I6 n) (hl : ((s.R (18 + q)).length : Int) < c.q) : Iv c T (asks s q n) (k + 1) := by
  have h' := h.mono (Nat.le_succ k)
  unfold Go.Proofs.YtaaghcimfcjehaaGreatDoor.asks
  refine { h' with line := ?_, pass := ?_, left := ?_, fewL := ?_, queue := ?_, que := ?_, few0 := ?_, few1 := ?_, cnt := ?_ }
  · simpa only [upd_other _ _ (show 0 ≠ 18 + q by omega)] using h'.line
  · simpa only [upd_other _ _ (show 1 ≠ 18 + q by omega)] using h'.pass
  · intro i hi; simpa only [upd_other _ _ (show 2 + i ≠ 18 + q by omega)] using h'.left i hi
  · intro i hi; simpa only [upd_other _ _ (show 2 + i ≠ 18 + q by omega)] using h'.fewL i hi
  · intro i hi
    by_cases e : i = q
    · subst e; simp only [upd_same, List.length_append, List.length_singleton]; omega
    · simpa only [upd_other _ _ (show 18 + i ≠ 18 + q by omega)] using h'.queue i hi
  · intro i hi
    by_cases e : i = q
    · subst e
      intro m hm
      simp only [upd_same, List.mem_append, List.mem_singleton] at hm
      rcases hm with hm | hm
      · exact h.que i hi m hm
      · rw [hm]; exact hn
    · simpa only [upd_other _ _ (show 18 + i ≠ 18 + q by omega)] using h'.que i hi
  · simpa only [upd_other _ _ (show 0 ≠ 18 + q by omega)] using h'.few0
  · simpa only [upd_other _ _ (show 1 ≠ 18 + q by omega)] using h'.few1
  · intro m
    by_cases e : m = n
    · subst e; simp only [updI_same]; have := h.cnt m; omega
    · simp only [updI_other _ _ e]; exact h'.cnt m
theorem Iv.lan (h : Iv c T s k) (hc : c.may) (hT : Lk T) {i : Nat} (hi : i < 16) : Iv c T (lan c T s i).2 (k + 1) := by
  have h' := h.mono (Nat.le_succ k)
  unfold Go.Proofs.YtaaghcimfcjehaaGreatDoor.lan
  by_cases h1 : s.num i = 0
  · rw [if_pos h1]
    cases hR : s.R 0 with
    | nil => exact h'
    | cons n r =>
      have hl := h.line
      have hf := h.few0
      rw [hR] at hl hf
      simp only [List.length_cons] at hf
      have hn := hl n (by simp)
      refine { h' with line := ?_, pass := ?_, held := ?_, left := ?_, fewL := ?_, queue := ?_, que := ?_, few0 := ?_, few1 := ?_ }
      · intro m hm
        simp only [upd_other _ _ (show 0 ≠ 2 + i by omega), upd_same] at hm
        exact hl m (by simp [hm])
      · simpa only [upd_other _ _ (show 1 ≠ 2 + i by omega), upd_other _ _ (show 1 ≠ 0 by omega)] using h'.pass
      · intro j
        by_cases e : j = i
        · subst e; simp only [upd_same]; exact Or.inr hn
        · simp only [upd_other _ _ e]; exact h.held j
      · intro j hj
        by_cases e : j = i
        · subst e; simp only [upd_same]; exact shs_low hc T n
        · simpa only [upd_other _ _ (show 2 + j ≠ 2 + i by omega), upd_other _ _ (show 2 + j ≠ 0 by omega)] using h'.left j hj
      · intro j hj
        by_cases e : j = i
        · subst e; simp only [upd_same]; exact Nat.le_trans (shs_len c T n) (hT.few n hn.1 hn.2)
        · simpa only [upd_other _ _ (show 2 + j ≠ 2 + i by omega), upd_other _ _ (show 2 + j ≠ 0 by omega)] using h'.fewL j hj
      · intro j hj; simpa only [upd_other _ _ (show 18 + j ≠ 2 + i by omega), upd_other _ _ (show 18 + j ≠ 0 by omega)] using h'.queue j hj
      · intro j hj; simpa only [upd_other _ _ (show 18 + j ≠ 2 + i by omega), upd_other _ _ (show 18 + j ≠ 0 by omega)] using h'.que j hj
      · simp only [upd_other _ _ (show 0 ≠ 2 + i by omega), upd_same]; omega
      · simpa only [upd_other _ _ (show 1 ≠ 2 + i by omega), upd_other _ _ (show 1 ≠ 0 by omega)] using h'.few1
  · rw [if_neg h1]
    cases hR : s.R (2 + i) with
    | nil =>
      dsimp only
      by_cases h2 : s.F (s.num i) = 0
      · rw [if_pos h2]
        refine { h' with line := ?_, pass := ?_, held := ?_, left := ?_, fewL := ?_, queue := ?_, que := ?_, few0 := ?_, few1 := ?_ }
        · simpa only [upd_other _ _ (show 0 ≠ 1 by omega)] using h'.line
        · intro m hm
          simp only [upd_same, List.mem_append, List.mem_singleton] at hm
          rcases hm with hm | hm
          · exact h.pass m hm
          · rw [hm]
            rcases h.held i with e | e
            · exact absurd e h1
            · exact e
        · intro j
          by_cases e : j = i
          · subst e; simp only [upd_same]; exact Or.inl trivial
          · simp only [upd_other _ _ e]; exact h.held j
        · intro j hj; simpa only [upd_other _ _ (show 2 + j ≠ 1 by omega)] using h'.left j hj
        · intro j hj; simpa only [upd_other _ _ (show 2 + j ≠ 1 by omega)] using h'.fewL j hj
        · intro j hj; simpa only [upd_other _ _ (show 18 + j ≠ 1 by omega)] using h'.queue j hj
        · intro j hj; simpa only [upd_other _ _ (show 18 + j ≠ 1 by omega)] using h'.que j hj
        · simpa only [upd_other _ _ (show 0 ≠ 1 by omega)] using h'.few0
        · simp only [upd_same, List.length_append, List.length_singleton]; have := h.few1; omega
      · rw [if_neg h2]; exact h'
    | cons q r =>
      dsimp only
      by_cases h2 : ((s.R (18 + q.toNat)).length : Int) < c.q
      · rw [if_pos h2]
        have hl := h.left i hi
        have hfL := h.fewL i hi
        rw [hR] at hl hfL
        simp only [List.length_cons] at hfL
        have hq := hl q (by simp)
        have hcs := hc.2.1.2
        have hnum : I6 (s.num i) := by
          have := hT.len
          rcases h.held i with e | e
          · rw [e]; exact ⟨by omega, by omega⟩
          · exact ⟨by omega, by omega⟩
        have ha := h.asks hc (q := q.toNat) (by omega) hnum h2
        refine { ha with line := ?_, pass := ?_, left := ?_, fewL := ?_, queue := ?_, que := ?_, few0 := ?_, few1 := ?_ }
        · simpa only [upd_other _ _ (show 0 ≠ 2 + i by omega)] using ha.line
        · simpa only [upd_other _ _ (show 1 ≠ 2 + i by omega)] using ha.pass
        · intro j hj
          by_cases e : j = i
          · subst e; simp only [upd_same]; exact fun x hx => hl x (by simp [hx])
          · simpa only [upd_other _ _ (show 2 + j ≠ 2 + i by omega)] using ha.left j hj
        · intro j hj
          by_cases e : j = i
          · subst e; simp only [upd_same]; omega
          · simpa only [upd_other _ _ (show 2 + j ≠ 2 + i by omega)] using ha.fewL j hj
        · intro j hj; simpa only [upd_other _ _ (show 18 + j ≠ 2 + i by omega)] using ha.queue j hj
        · intro j hj; simpa only [upd_other _ _ (show 18 + j ≠ 2 + i by omega)] using ha.que j hj
        · simpa only [upd_other _ _ (show 0 ≠ 2 + i by omega)] using ha.few0
        · simpa only [upd_other _ _ (show 1 ≠ 2 + i by omega)] using ha.few1
      · rw [if_neg h2]; exact h'
theorem Iv.own (h : Iv c T s k) {j : Nat} (hj : j < 16) : Iv c T (own s j).2 (k + 1) := by
  have h' := h.mono (Nat.le_succ k)
  unfold Go.Proofs.YtaaghcimfcjehaaGreatDoor.own
  cases hR : s.R (18 + j) with
  | nil => exact h'
  | cons n r =>
    have hq := h.queue j hj
    have hn := h.que j hj
    rw [hR] at hq hn
    simp only [List.length_cons] at hq
    refine { h' with line := ?_, pass := ?_, left := ?_, fewL := ?_, queue := ?_, que := ?_, few0 := ?_, few1 := ?_, cnt := ?_ }
    · simpa only [upd_other _ _ (show 0 ≠ 18 + j by omega)] using h'.line
    · simpa only [upd_other _ _ (show 1 ≠ 18 + j by omega)] using h'.pass
    · intro i hi; simpa only [upd_other _ _ (show 2 + i ≠ 18 + j by omega)] using h'.left i hi
    · intro i hi; simpa only [upd_other _ _ (show 2 + i ≠ 18 + j by omega)] using h'.fewL i hi
    · intro i hi
      by_cases e : i = j
      · subst e; simp only [upd_same]; omega
      · simpa only [upd_other _ _ (show 18 + i ≠ 18 + j by omega)] using h'.queue i hi
    · intro i hi
      by_cases e : i = j
      · subst e; simp only [upd_same]; exact fun m hm => hn m (by simp [hm])
      · simpa only [upd_other _ _ (show 18 + i ≠ 18 + j by omega)] using h'.que i hi
    · simpa only [upd_other _ _ (show 0 ≠ 18 + j by omega)] using h'.few0
    · simpa only [upd_other _ _ (show 1 ≠ 18 + j by omega)] using h'.few1
    · intro m
      by_cases e : m = n
      · subst e; simp only [updI_same]; have := h.cnt m; omega
      · simp only [updI_other _ _ e]; exact h'.cnt m
theorem Iv.gat (h : Iv c T s k) (hT : Lk T) (hr : RisL s.L) : Iv c T (gat s).2 (k + 1) := by
  have h' := h.mono (Nat.le_succ k)
  unfold Go.Proofs.YtaaghcimfcjehaaGreatDoor.gat
  cases hR : s.R 1 with
  | nil => exact h'
  | cons n r =>
    have hp := h.pass
    have hf1 := h.few1
    rw [hR] at hp hf1
    simp only [List.length_cons] at hf1
    obtain ⟨z1, z2⟩ := frx_low s.L s.en n
    have hz : ∀ x ∈ frx s.L s.en n, 1 ≤ x ∧ x ≤ (T.length : Int) := by
      intro x hx
      obtain ⟨⟨⟨p, hp, rfl⟩, _⟩, _⟩ := z2 x hx
      have h1 := hr.pos p hp
      have h2 := (h.old p hp).1
      have h3 := h.top
      exact ⟨h1, by omega⟩
    have hzl : (frx s.L s.en n).length ≤ 65536 := Ris.few (n := 65536) (a := 1) z1 (fun x hx => by have := hz x hx; have := hT.len; omega)
    refine { h' with line := ?_, pass := ?_, left := ?_, fewL := ?_, queue := ?_, que := ?_, few0 := ?_, few1 := ?_ }
    · intro m hm
      simp only [upd_same, List.mem_append] at hm
      rcases hm with hm | hm
      · exact h.line m hm
      · exact hz m hm
    · intro m hm
      simp only [upd_other _ _ (show 1 ≠ 0 by omega), upd_same] at hm
      exact hp m (by simp [hm])
    · intro j hj; simpa only [upd_other _ _ (show 2 + j ≠ 0 by omega), upd_other _ _ (show 2 + j ≠ 1 by omega)] using h'.left j hj
    · intro j hj; simpa only [upd_other _ _ (show 2 + j ≠ 0 by omega), upd_other _ _ (show 2 + j ≠ 1 by omega)] using h'.fewL j hj
    · intro j hj; simpa only [upd_other _ _ (show 18 + j ≠ 0 by omega), upd_other _ _ (show 18 + j ≠ 1 by omega)] using h'.queue j hj
    · intro j hj; simpa only [upd_other _ _ (show 18 + j ≠ 0 by omega), upd_other _ _ (show 18 + j ≠ 1 by omega)] using h'.que j hj
    · simp only [upd_same, List.length_append]; have := h.few0; omega
    · simp only [upd_other _ _ (show 1 ≠ 0 by omega), upd_same]; omega
theorem Iv.cal (h : Iv c T s k) (hc : c.may) {n : Int} (hn : I6 n) (e : Ev) : Iv c T (cal c s n e).2 (k + 1) := by
  have h' := h.mono (Nat.le_succ k)
  unfold Go.Proofs.YtaaghcimfcjehaaGreatDoor.cal
  split
  · exact { h' with }
  · split
    · rename_i h1
      have := hc.2.1.2
      exact h.asks hc (by omega) hn h1.2.2.2.2
    · split
      · exact h'
      · split
        · exact { h' with }
        · exact h'
theorem Iv.stp (h : Iv c T s k) (hc : c.may) (hT : Lk T) (hr : RisL s.L) (he : I6 e.t) : Iv c T (stp c T s e).2 (k + 1) := by
  have h1 := hc.1.2
  have h2 := hc.2.1.2
  unfold Go.Proofs.YtaaghcimfcjehaaGreatDoor.stp
  split
  · exact h.cal hc he e
  · split
    · exact h.dsp hT
    · split
      · exact h.lan hc hT (by omega)
      · split
        · exact h.own (by omega)
        · split
          · exact h.gat hT hr
          · exact h.mono (Nat.le_succ k)
end
end Go.Proofs.YtaaghcimfcjehaaGreatDoor
/- The first of a line, which is taken from it; a request goes to a queue's end. Conditions as each names them. -/
namespace Go.Proofs.YtaaghcimfcjehaaGreatDoor
open Go.ChangeShapes Go.WideShapes Go.ChangeAt Go.RowKit Go.Lib Go.Maps
set_option linter.unusedVariables false
set_option linter.unusedSimpArgs false

theorem first_none (b o : Nat) (q : Sq) (w : World) (hc : w.cell? ⟨b, o, none⟩ = some q.v) (hQ : QR w q.lo q.n q.c []) :
    Calls Tryz.prog 147 #[.pointer (some ⟨b, o, none⟩)] w fun e w' => e = .returned (.tuple #[.int .i64 0, .bool false]) ∧ w = w' := by
  obtain ⟨lo, n, c⟩ := q
  have hn : n = 0 := hQ.len
  subst hn
  have c0 : w.cell? ⟨b, o, none⟩ = some (.slice lo 0 c) := hc
  clear hc hQ
  go_enter Tryz.func147, Tryz.ntmps147
  go_wp2
  refine bodyPost_ret (results_tmp2 rfl _ _ _) rfl ?_
  exact ⟨rfl, rfl⟩
set_option maxHeartbeats 2000000 in
theorem first_some (b o : Nat) (q : Sq) (x : Int) (xs : List Int) (w : World) (hc : w.cell? ⟨b, o, none⟩ = some q.v) (hz : w.frozen? ⟨b, o, none⟩ = false) (hQ : QR w q.lo q.n q.c (x :: xs)) :
    Calls Tryz.prog 147 #[.pointer (some ⟨b, o, none⟩)] w fun e w' => ∃ p : Sq, e = .returned (.tuple #[.int .i64 x, .bool true]) ∧ w' = w.setCell ⟨b, o, none⟩ p.v ∧ QR w p.lo p.n p.c xs ∧ qb p.lo = qb q.lo := by
  obtain ⟨lo, n, c⟩ := q
  obtain ⟨g, off, e1, hx, hc0, hn, hK⟩ := hQ.first
  simp only at e1 hn hc0 hK
  have hfit := hQ.fit
  simp only at hfit
  subst e1
  obtain ⟨n, rfl⟩ : ∃ m, n = m + 1 := ⟨xs.length, hn⟩
  have c0 : w.cell? ⟨b, o, none⟩ = some (.slice (some ⟨g, off, none⟩) (n + 1) c) := hc
  clear hc hQ hn
  by_cases h1 : c = 1
  · subst h1
    have hn : n = 0 := by omega
    subst hn
    have HM : Hid (QR w (some ⟨g, off, none⟩) 0 0 xs) := (hK _ (by rw [if_pos rfl])).1
    clear hK hfit hc0
    go_enter Tryz.func147, Tryz.ntmps147
    go_wp2
    refine bodyPost_ret (results_tmp2 rfl _ _ _) rfl ?_
    exact ⟨⟨some ⟨g, off, none⟩, 0, 0⟩, rfl, rfl, HM.out, rfl⟩
  · have HM : Hid (QR w (some ⟨g, off + 1, none⟩) n (c - 1) xs) := (hK _ (by rw [if_neg h1])).1
    clear hK
    go_enter Tryz.func147, Tryz.ntmps147
    go_wp2
    refine bodyPost_ret (results_tmp2 rfl _ _ _) rfl ?_
    exact ⟨⟨some ⟨g, off + 1, none⟩, n, c - 1⟩, rfl, rfl, HM.out, rfl⟩
section
variable {w w' : World} {Z : Zs} {c : Cf} {s : Sy} {k : Nat}
theorem SyM.queCell (h : SyM w Z c s k) {j : Nat} (hj : j < c.s.toNat) : w.cell? ⟨Z.qq, j, none⟩ = some (Z.q (18 + j)).v ∧ w.frozen? ⟨Z.qq, j, none⟩ = false := by
  obtain ⟨cq, q1, q2, q3⟩ := h.ques
  exact ⟨by rw [cell_of_row _ _ _ _ _ _ q1]; exact q3 j hj, by simp [World.frozen?, q1]⟩
theorem SyM.lanCell (h : SyM w Z c s k) {i : Nat} (hi : i < c.l.toNat) : w.cell? ⟨Z.lb, 2 * i, none⟩ = some (.int .i64 (s.num i)) ∧ w.cell? ⟨Z.lb, 2 * i + 1, none⟩ = some (Z.q (2 + i)).v ∧ w.frozen? ⟨Z.lb, 2 * i, none⟩ = false ∧ w.frozen? ⟨Z.lb, 2 * i + 1, none⟩ = false := by
  obtain ⟨cq, q1, q2, q3⟩ := h.lanes
  exact ⟨by rw [cell_of_row _ _ _ _ _ _ q1]; exact (q3 i hi).1, by rw [cell_of_row _ _ _ _ _ _ q1]; exact (q3 i hi).2, by simp [World.frozen?, q1], by simp [World.frozen?, q1]⟩
/-- The first of the line. -/
theorem first0_some (h : SyM w Z c s k) {x : Int} {xs : List Int} (hR : s.R 0 = x :: xs) :
    Calls Tryz.prog 147 #[.pointer (some ⟨Z.sb, 9, none⟩)] w fun e w' => ∃ Z', e = .returned (.tuple #[.int .i64 x, .bool true]) ∧ SyM w' Z' c (s.put 0 xs) k ∧ Mv w Z w' Z' ∧ Z'.sb = Z.sb ∧ Z'.lb = Z.lb ∧ Z'.qq = Z.qq := by
  refine (first_some Z.sb 9 (Z.q 0) x xs w (h.cell rfl) (h.fz 9) (by rw [← hR]; exact h.rows 0)).mono ?_
  rintro e w' ⟨p, rfl, rfl, h1, h2⟩
  obtain ⟨m1, m2⟩ := h.row0 (w1 := w) p xs (Fr.refl _ _) h1 (Or.inl h2)
  exact ⟨_, rfl, m1, m2, rfl, rfl, rfl⟩
theorem first1_some (h : SyM w Z c s k) {x : Int} {xs : List Int} (hR : s.R 1 = x :: xs) :
    Calls Tryz.prog 147 #[.pointer (some ⟨Z.sb, 10, none⟩)] w fun e w' => ∃ Z', e = .returned (.tuple #[.int .i64 x, .bool true]) ∧ SyM w' Z' c (s.put 1 xs) k ∧ Mv w Z w' Z' ∧ Z'.sb = Z.sb ∧ Z'.lb = Z.lb ∧ Z'.qq = Z.qq := by
  refine (first_some Z.sb 10 (Z.q 1) x xs w (h.cell rfl) (h.fz 10) (by rw [← hR]; exact h.rows 1)).mono ?_
  rintro e w' ⟨p, rfl, rfl, h1, h2⟩
  obtain ⟨m1, m2⟩ := h.row1 (w1 := w) p xs (Fr.refl _ _) h1 (Or.inl h2)
  exact ⟨_, rfl, m1, m2, rfl, rfl, rfl⟩
theorem firstQ_some (h : SyM w Z c s k) {j : Nat} (hj : j < c.s.toNat) {x : Int} {xs : List Int} (hR : s.R (18 + j) = x :: xs) :
    Calls Tryz.prog 147 #[.pointer (some ⟨Z.qq, j, none⟩)] w fun e w' => ∃ Z', e = .returned (.tuple #[.int .i64 x, .bool true]) ∧ SyM w' Z' c (s.put (18 + j) xs) k ∧ Mv w Z w' Z' ∧ Z'.sb = Z.sb ∧ Z'.lb = Z.lb ∧ Z'.qq = Z.qq := by
  obtain ⟨c1, c2⟩ := h.queCell hj
  refine (first_some Z.qq j (Z.q (18 + j)) x xs w c1 c2 (by rw [← hR]; exact h.rows (18 + j))).mono ?_
  rintro e w' ⟨p, rfl, rfl, h1, h2⟩
  obtain ⟨m1, m2⟩ := h.rowQ hj (w1 := w) p xs (Fr.refl _ _) h1 (Or.inl h2)
  exact ⟨_, rfl, m1, m2, rfl, rfl, rfl⟩
theorem first0_none (h : SyM w Z c s k) (hR : s.R 0 = []) : Calls Tryz.prog 147 #[.pointer (some ⟨Z.sb, 9, none⟩)] w fun e w' => e = .returned (.tuple #[.int .i64 0, .bool false]) ∧ w = w' :=
  first_none Z.sb 9 (Z.q 0) w (h.cell rfl) (by rw [← hR]; exact h.rows 0)
theorem first1_none (h : SyM w Z c s k) (hR : s.R 1 = []) : Calls Tryz.prog 147 #[.pointer (some ⟨Z.sb, 10, none⟩)] w fun e w' => e = .returned (.tuple #[.int .i64 0, .bool false]) ∧ w = w' :=
  first_none Z.sb 10 (Z.q 1) w (h.cell rfl) (by rw [← hR]; exact h.rows 1)
theorem firstQ_none (h : SyM w Z c s k) {j : Nat} (hj : j < c.s.toNat) (hR : s.R (18 + j) = []) : Calls Tryz.prog 147 #[.pointer (some ⟨Z.qq, j, none⟩)] w fun e w' => e = .returned (.tuple #[.int .i64 0, .bool false]) ∧ w = w' :=
  first_none Z.qq j (Z.q (18 + j)) w (h.queCell hj).1 (by rw [← hR]; exact h.rows (18 + j))
end
end Go.Proofs.YtaaghcimfcjehaaGreatDoor
