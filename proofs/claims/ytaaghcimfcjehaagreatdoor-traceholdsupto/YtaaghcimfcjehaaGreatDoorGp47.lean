/- Texts of this claim laid together, one behind the other: contracts and plain lemmas; conditions as each names them. -/
import Derived.Test.YtaaghcimfcjehaaGreatDoorGp22
import Derived.Test.YtaaghcimfcjehaaGreatDoorGp45
/- What holds of events that pass: the mark never falls, numbers are read and dispatched in order, within the window, and no more are taken than dispatched. Plain mathematics. -/
namespace Go.Proofs.YtaaghcimfcjehaaGreatDoor
set_option linter.unusedVariables false
set_option linter.unusedSimpArgs false

theorem adv_ge21 : ∀ (xs : List Int) (m : Int), m ≤ (adv m xs).1
  | [], m => Int.le_refl _
  | x :: r, m => by
    unfold adv
    split
    · have := adv_ge21 r (m + 1); omega
    · exact Int.le_refl _
theorem gdx_ge (m : Int) (xs : List Int) (n : Int) : m ≤ (gdx m xs n).2.1 := by
  unfold gdx
  split
  · exact adv_ge21 _ _
  · exact Int.le_refl _
theorem nd_len21 {α : Type} : ∀ (a b : List α), a.Nodup → (∀ x ∈ a, x ∈ b) → a.length ≤ b.length
  | [], b, _, _ => Nat.zero_le _
  | x :: r, b, h, hs => by
    obtain ⟨h1, h2⟩ := List.nodup_cons.1 h
    obtain ⟨p, q, rfl⟩ := List.append_of_mem (hs x List.mem_cons_self)
    have ih := nd_len21 r (p ++ q) h2 (fun y hy => by
      have := hs y (List.mem_cons_of_mem _ hy)
      simp only [List.mem_append, List.mem_cons] at this ⊢
      rcases this with h3 | rfl | h3
      · exact .inl h3
      · exact absurd hy h1
      · exact .inr h3)
    simp only [List.length_append, List.length_cons] at ih ⊢
    omega
theorem Ris.nodup21 {xs : List Int} (h : Ris xs) : xs.Nodup := List.Pairwise.imp (fun hab e => by subst e; exact absurd hab (Int.lt_irrefl _)) h
open Classical in
/-- There is always a list of those for whom a new one waits. -/
theorem adt_ex {L : Lg} (hr : RisL L) (en : Int → Prop) (ks : List ByteArray) : AdT L en ks ((L.map (·.1)).filter fun m => decide (Op11 L en m ∧ ∃ k ∈ ks, lst L k = m)) := by
  refine ⟨Ris.filter hr.1 _, fun m => ?_⟩
  rw [List.mem_filter, decide_eq_true_iff]
  constructor
  · exact fun h => h.2
  · intro h
    refine ⟨?_, h⟩
    obtain ⟨p, hp, e⟩ := h.1.1
    exact List.mem_map.2 ⟨p, hp, e⟩
/-- None to wait for: none it hangs on is open. -/
theorem adx_none {L : Lg} (hr : RisL L) {en : Int → Prop} {ks : List ByteArray} (h : (adx L en ks).length = 0) : ∀ y, Op11 L en y → ¬ ∃ k ∈ ks, lst L k = y := by
  have hA := adt_ex hr en ks
  rw [adx_eq hA] at h
  intro y hy hk
  have := (hA.2 y).2 ⟨hy, hk⟩
  rw [List.length_eq_zero_iff] at h
  rw [h] at this
  cases this
/-- P: all that were ever put into the line; d: how many were dispatched, t: taken. -/
structure Hv (s : Sy) (d t : Nat) (P : List Int) : Prop where
  ris : RisL s.L
  nd : P.Nodup
  sub : ∀ x ∈ P, ∃ p ∈ s.L, p.1 = x
  len : P.length = t + (s.R 0).length
  free : ∀ x ∈ P, ∀ y, Op11 s.L s.en y → ¬ Dep s.L x y
  dis : d = s.L.length
theorem Hv.le {s : Sy} {d t : Nat} {P : List Int} (h : Hv s d t P) : t ≤ d := by
  have := nd_len21 P (s.L.map (·.1)) h.nd (fun x hx => by obtain ⟨p, hp, e⟩ := h.sub x hx; exact List.mem_map.2 ⟨p, hp, e⟩)
  rw [List.length_map] at this
  have := h.len
  have := h.dis
  omega
/-- A step that leaves table and line alone. -/
theorem Hv.same {s s' : Sy} {d t : Nat} {P : List Int} (h : Hv s d t P) (hL : s'.L = s.L) (he : s'.en = s.en) (hR : s'.R 0 = s.R 0) : Hv s' d t P :=
  ⟨by rw [hL]; exact h.ris, h.nd, by rw [hL]; exact h.sub, by rw [hR]; exact h.len, by rw [hL, he]; exact h.free, by rw [hL]; exact h.dis⟩
theorem Dep.mem21 {L : Lg} {a m : Int} (h : Dep L a m) : ∃ p ∈ L, p.1 = a := by
  obtain ⟨A, ks, C, e, _⟩ := h
  exact ⟨(a, ks), by rw [e]; simp, rfl⟩
theorem Op11.snoc21 {L : Lg} {p : Int × List ByteArray} {en : Int → Prop} {y : Int} (h : Op11 (L ++ [p]) en y) : Op11 L en y ∨ y = p.1 := by
  obtain ⟨⟨q, hq, e⟩, h2⟩ := h
  rcases List.mem_append.1 hq with hq | hq
  · exact .inl ⟨⟨q, hq, e⟩, h2⟩
  · simp only [List.mem_singleton] at hq
    subst hq
    exact .inr e.symm
/-- One more is dispatched. -/
theorem Hv.disp {s s' : Sy} {d t : Nat} {P : List Int} (h : Hv s d t P) {n : Int} {ks : List ByteArray} (hn : 1 ≤ n) (hnew : ∀ p ∈ s.L, p.1 < n) (hL : s'.L = s.L ++ [(n, ks)]) (he : s'.en = s.en)
    (hR : s'.R 0 = if (adx s.L s.en ks).length = 0 then s.R 0 ++ [n] else s.R 0) : ∃ P', Hv s' (d + 1) t P' := by
  have hr : RisL (s.L ++ [(n, ks)]) := h.ris.snoc hnew hn
  have old : ∀ x ∈ P, ∀ y, Op11 s'.L s'.en y → ¬ Dep s'.L x y := fun x hx y hy hd => by
    rw [hL] at hd hy
    rw [he] at hy
    obtain ⟨p, hp, e⟩ := h.sub x hx
    have hlt := hnew p hp
    rcases (dep_snoc s.L (n, ks) x y).1 hd with hd1 | ⟨e1, _⟩
    · rcases hy.snoc21 with hy1 | e2
      · exact h.free x hx y hy1 hd1
      · have := (Dep.lt h.ris hd1).2.1
        simp only at e2
        omega
    · simp only at e1
      omega
  by_cases ha : (adx s.L s.en ks).length = 0
  · refine ⟨P ++ [n], by rw [hL]; exact hr, ?_, ?_, ?_, ?_, by rw [hL, h.dis]; simp⟩
    · rw [List.nodup_append]
      refine ⟨h.nd, by simp, fun x hx y hy => ?_⟩
      simp only [List.mem_singleton] at hy
      subst hy
      obtain ⟨p, hp, e⟩ := h.sub x hx
      have := hnew p hp
      omega
    · intro x hx
      rw [hL]
      rcases List.mem_append.1 hx with hx | hx
      · obtain ⟨p, hp, e⟩ := h.sub x hx
        exact ⟨p, List.mem_append_left _ hp, e⟩
      · simp only [List.mem_singleton] at hx
        exact ⟨(n, ks), by simp, hx.symm⟩
    · rw [hR, if_pos ha, List.length_append, List.length_append, h.len]
      simp
      omega
    · intro x hx
      rcases List.mem_append.1 hx with hx | hx
      · exact old x hx
      · simp only [List.mem_singleton] at hx
        subst hx
        intro y hy hd
        rw [hL] at hd hy
        rw [he] at hy
        rcases (dep_snoc s.L (x, ks) x y).1 hd with hd1 | ⟨_, _, hk⟩
        · obtain ⟨p, hp, e⟩ := hd1.mem21
          have := hnew p hp
          omega
        · rcases hy.snoc21 with hy1 | e2
          · exact adx_none h.ris ha y hy1 hk
          · have := (Dep.lt hr hd).2.1
            simp only at e2
            omega
  · refine ⟨P, by rw [hL]; exact hr, h.nd, ?_, by rw [hR, if_neg ha]; exact h.len, old, by rw [hL, h.dis]; simp⟩
    intro x hx
    rw [hL]
    obtain ⟨p, hp, e⟩ := h.sub x hx
    exact ⟨p, List.mem_append_left _ hp, e⟩
/-- One has ended. -/
theorem Hv.gate {s s' : Sy} {d t : Nat} {P : List Int} (h : Hv s d t P) {n : Int} (hL : s'.L = s.L) (he : s'.en = enx s.L s.en n) (hR : s'.R 0 = s.R 0 ++ frx s.L s.en n) : ∃ P', Hv s' d t P' := by
  by_cases hm : Mye s.L s.en n
  · obtain ⟨hfr, hfl⟩ := frx_low s.L s.en n
    rw [enx_yes hm] at he
    have sm : ∀ y, Op11 s'.L s'.en y → Op11 s.L s.en y ∧ y ≠ n := fun y hy => by
      rw [hL, he] at hy
      exact ⟨⟨hy.1, fun q => hy.2 (.inl q)⟩, fun q => hy.2 (.inr q)⟩
    refine ⟨P ++ frx s.L s.en n, by rw [hL]; exact h.ris, ?_, ?_, ?_, ?_, by rw [hL]; exact h.dis⟩
    · rw [List.nodup_append]
      refine ⟨h.nd, hfr.nodup21, fun x hx y hy e => ?_⟩
      subst e
      exact h.free x hx n hm.1 (hfl x hy).2
    · intro x hx
      rw [hL]
      rcases List.mem_append.1 hx with hx | hx
      · exact h.sub x hx
      · exact (hfl x hx).1.1
    · rw [hR, List.length_append, List.length_append, h.len]
      omega
    · intro x hx y hy
      obtain ⟨hy1, hy2⟩ := sm y hy
      rw [hL]
      rcases List.mem_append.1 hx with hx | hx
      · exact h.free x hx y hy1
      · by_cases hz : ∃ zs, DoT s.L (Op11 s.L s.en) n zs
        · obtain ⟨zs, hz⟩ := hz
          rw [frx_eq hm hz] at hx
          exact ((hz.2 x).1 hx).2.2 y hy1 hy2
        · unfold frx at hx
          rw [dif_neg (fun q => hz q.2)] at hx
          cases hx
  · rw [enx_no hm] at he
    rw [frx_no hm, List.append_nil] at hR
    exact ⟨P, h.same hL he hR⟩
/-- One is taken from the line. -/
theorem Hv.take {s s' : Sy} {d t : Nat} {P : List Int} (h : Hv s d t P) {n : Int} {r : List Int} (hL : s'.L = s.L) (he : s'.en = s.en) (h0 : s.R 0 = n :: r) (hR : s'.R 0 = r) : Hv s' d (t + 1) P :=
  ⟨by rw [hL]; exact h.ris, h.nd, by rw [hL]; exact h.sub, by rw [h.len, h0, hR]; simp; omega, by rw [hL, he]; exact h.free, by rw [hL]; exact h.dis⟩
/-- What an event that can be next says of the state ahead of it and behind it. -/
structure Nx (c : Cf) (s s' : Sy) (e : Ev) : Prop where
  ma : e.m = s'.ma
  up : s.ma ≤ s'.ma
  one : e.k = 1 → e.n = s.read + 1 ∧ s'.read = s.read + 1
  oth : e.k ≠ 1 → s'.read = s.read
  dis : e.k = 3 → e.n = s.read ∧ s.read ≤ s.ma + c.w
theorem R1_keep (R : Nat → List Int) (v : List Int) : upd R 1 v 0 = R 0 := rfl
theorem R18_keep (R : Nat → List Int) (j : Nat) (v : List Int) : upd R (18 + j) v 0 = R 0 := upd_other _ _ (by omega)
theorem asks_R0 (s : Sy) (q : Nat) (n : Int) : (asks s q n).R 0 = s.R 0 := by
  show upd s.R (18 + q) _ 0 = _
  rw [upd_other _ _ (by omega)]
theorem nx_step {c : Cf} {T : List Tx} {s : Sy} {k d t : Nat} {P : List Int} {e : Ev} (hI : Iv c T s k) (h : Hv s d t P) (hC : Can c T s e) :
    Nx c s (stp c T s e).2 e ∧ ∃ P', Hv (stp c T s e).2 (d + if e.k = 3 then 1 else 0) (t + if e.k = 4 then 1 else 0) P' := by
  obtain ⟨hk, hE⟩ := hC
  unfold tolE at hk hE
  by_cases hlt : e.t < c.l + c.s + 2
  · rw [if_pos hlt] at hk hE
    have ek : e.k = (stp c T s e).1.k := (congrArg Ev.k hE).symm
    have en : e.n = (stp c T s e).1.n := (congrArg Ev.n hE).symm
    have em : e.m = (stp c T s e).2.ma := (congrArg Ev.m hE).symm
    have hk' : e.k ≠ 0 := fun q => hk (ek.symm.trans q)
    clear hE hk
    revert ek en em
    generalize hst : stp c T s e = st
    intro ek en em
    suffices hs : (st.1.k ≠ 0 → s.ma ≤ st.2.ma ∧ (st.1.k = 1 → st.1.n = s.read + 1 ∧ st.2.read = s.read + 1) ∧ (st.1.k ≠ 1 → st.2.read = s.read) ∧ (st.1.k = 3 → st.1.n = s.read ∧ s.read ≤ s.ma + c.w) ∧ ∃ P', Hv st.2 (d + if st.1.k = 3 then 1 else 0) (t + if st.1.k = 4 then 1 else 0) P') by
      obtain ⟨h1, h2, h3, h4, h5⟩ := hs (by rw [← ek]; exact hk')
      rw [← ek] at h2 h3 h4 h5
      rw [← en] at h2 h4
      exact ⟨⟨em, h1, h2, h3, h4⟩, h5⟩
    clear ek en em hk' hlt
    have quiet : st.1.k ≠ 1 → st.1.k ≠ 3 → st.1.k ≠ 4 → st.2.ma = s.ma → st.2.read = s.read → st.2.L = s.L → st.2.en = s.en → st.2.R 0 = s.R 0 → (st.1.k ≠ 0 → s.ma ≤ st.2.ma ∧ (st.1.k = 1 → st.1.n = s.read + 1 ∧ st.2.read = s.read + 1) ∧ (st.1.k ≠ 1 → st.2.read = s.read) ∧ (st.1.k = 3 → st.1.n = s.read ∧ s.read ≤ s.ma + c.w) ∧ ∃ P', Hv st.2 (d + if st.1.k = 3 then 1 else 0) (t + if st.1.k = 4 then 1 else 0) P') := by
      intro k1 k3 k4 hm hr hL he hR _
      refine ⟨by omega, fun q => absurd q k1, fun _ => hr, fun q => absurd q k3, P, ?_⟩
      simp only [if_neg k3, if_neg k4, Nat.add_zero]
      exact h.same hL he hR
    unfold stp at hst
    split at hst
    · -- a call
      unfold cal at hst
      split at hst
      · subst hst; exact quiet (by simp [Te.no]) (by simp [Te.no]) (by simp [Te.no]) rfl rfl rfl rfl rfl
      · split at hst
        · subst hst; exact quiet (by simp [Te.no]) (by simp [Te.no]) (by simp [Te.no]) rfl rfl rfl rfl (asks_R0 s _ _)
        · split at hst
          · subst hst; exact quiet (by simp [Te.no]) (by simp [Te.no]) (by simp [Te.no]) rfl rfl rfl rfl rfl
          · split at hst
            · subst hst; exact quiet (by simp [Te.no]) (by simp [Te.no]) (by simp [Te.no]) rfl rfl rfl rfl rfl
            · subst hst; exact quiet (by simp [Te.no]) (by simp [Te.no]) (by simp [Te.no]) rfl rfl rfl rfl rfl
    · split at hst
      · -- the dispatcher
        unfold dsp at hst
        split at hst
        · split at hst
          · intro _
            subst hst
            refine ⟨Int.le_refl _, fun _ => ⟨rfl, rfl⟩, fun q => absurd rfl q, fun q => (by cases q), P, ?_⟩
            exact h.same rfl rfl rfl
          · subst hst; exact quiet (by simp [Te.no]) (by simp [Te.no]) (by simp [Te.no]) rfl rfl rfl rfl rfl
        · split at hst
          · subst hst; exact quiet (by simp [Te.no]) (by simp [Te.no]) (by simp [Te.no]) rfl rfl rfl rfl rfl
          · split at hst
            · rename_i hh _ hw
              have hH : s.holds = true := by cases hx : s.holds <;> simp_all
              intro _
              subst hst
              refine ⟨Int.le_refl _, fun q => (by cases q), fun _ => rfl, fun _ => ⟨rfl, hw⟩, ?_⟩
              refine h.disp (n := s.read) (ks := keysW (wsAt T s.read)) (hI.hold hH) (fun p hp => (hI.old p hp).2 hH) rfl rfl ?_
              show (if (adx s.L s.en (keysW (wsAt T s.read))).length = 0 then upd s.R 0 (s.R 0 ++ [s.read]) else s.R) 0 = _
              split
              · rw [upd_same]
              · rfl
            · subst hst; exact quiet (by simp [Te.no]) (by simp [Te.no]) (by simp [Te.no]) rfl rfl rfl rfl rfl
      · split at hst
        · -- a lane
          unfold lan at hst
          split at hst
          · split at hst
            · subst hst; exact quiet (by simp [Te.no]) (by simp [Te.no]) (by simp [Te.no]) rfl rfl rfl rfl rfl
            · rename_i n r h0
              intro _
              subst hst
              refine ⟨Int.le_refl _, fun q => (by cases q), fun _ => rfl, fun q => (by cases q), P, ?_⟩
              refine h.take (n := n) (r := r) rfl rfl h0 ?_
              show upd (upd s.R 0 r) (2 + _) _ 0 = r
              rw [upd_other _ _ (by omega), upd_same]
          · split at hst
            · split at hst
              · subst hst; refine quiet ?_ ?_ ?_ rfl rfl rfl rfl ?_
                · show (5 : Int) ≠ 1; decide
                · show (5 : Int) ≠ 3; decide
                · show (5 : Int) ≠ 4; decide
                · show upd (asks s _ _).R (2 + _) _ 0 = _
                  rw [upd_other _ _ (by omega)]
                  exact asks_R0 s _ _
              · subst hst; exact quiet (by simp [Te.no]) (by simp [Te.no]) (by simp [Te.no]) rfl rfl rfl rfl rfl
            · split at hst
              · subst hst; refine quiet ?_ ?_ ?_ rfl rfl rfl rfl ?_
                · show (6 : Int) ≠ 1; decide
                · show (6 : Int) ≠ 3; decide
                · show (6 : Int) ≠ 4; decide
                · exact R1_keep s.R (s.R 1 ++ [s.num (e.t - 1).toNat])
              · subst hst; exact quiet (by simp [Te.no]) (by simp [Te.no]) (by simp [Te.no]) rfl rfl rfl rfl rfl
        · split at hst
          · -- an owner
            unfold own at hst
            split at hst
            · subst hst; exact quiet (by simp [Te.no]) (by simp [Te.no]) (by simp [Te.no]) rfl rfl rfl rfl rfl
            · subst hst; refine quiet ?_ ?_ ?_ rfl rfl rfl rfl ?_
              · show (7 : Int) ≠ 1; decide
              · show (7 : Int) ≠ 3; decide
              · show (7 : Int) ≠ 4; decide
              · exact R18_keep s.R _ _
          · split at hst
            · -- the gate
              unfold gat at hst
              split at hst
              · subst hst; exact quiet (by simp [Te.no]) (by simp [Te.no]) (by simp [Te.no]) rfl rfl rfl rfl rfl
              · rename_i n r h1
                intro _
                subst hst
                refine ⟨gdx_ge _ _ _, fun q => (by cases q), fun _ => rfl, fun q => (by cases q), ?_⟩
                exact h.gate (n := n) rfl rfl (upd_same (upd s.R 1 r) 0 (s.R 0 ++ frx s.L s.en n))
            · subst hst; exact quiet (by simp [Te.no]) (by simp [Te.no]) (by simp [Te.no]) rfl rfl rfl rfl rfl
  · rw [if_neg hlt] at hk
    exact absurd rfl hk
end Go.Proofs.YtaaghcimfcjehaaGreatDoor
/- Events that pass, one by one: where the story stands ahead of each. Plain mathematics. -/
namespace Go.Proofs.YtaaghcimfcjehaaGreatDoor
set_option linter.unusedVariables false
set_option linter.unusedSimpArgs false

theorem goes_can {c : Cf} {T : List Tx} : ∀ (es : List Ev) (s : Sy) (i : Nat), i < (goes c T s es).1 → (goes c T s (es.take i)).1 = i ∧ Can c T (goes c T s (es.take i)).2 (es.getD i Ev.no)
  | [], s, i, h => by simp [goes] at h
  | e :: r, s, i, h => by
    by_cases hc : Can c T s e
    · cases i with
      | zero => exact ⟨rfl, hc⟩
      | succ i =>
        simp only [goes, if_pos hc, Nat.add_lt_add_iff_right] at h
        have ih := goes_can (c := c) (T := T) r (stp c T s e).2 i h
        simp only [List.take_succ_cons, goes, if_pos hc, List.getD_cons_succ]
        exact ⟨by rw [ih.1], ih.2⟩
    · simp [goes, if_neg hc] at h
/-- Where the story stands ahead of the event number i: d were dispatched, t taken. -/
structure Ho (c : Cf) (T : List Tx) (s0 : Sy) (es : List Ev) (i : Nat) (s : Sy) (d t : Nat) : Prop where
  go : goes c T s0 (es.take i) = (i, s)
  iv : Iv c T s i
  hv : ∃ P, Hv s d t P
  di : d ≤ i
  m0 : 0 ≤ s.ma ∧ I6 s.ma
theorem ho_zero {c : Cf} {ts : List Tm} {m : Int} {xs : List Int} (hc : c.may) (hb : Beg ts m xs) (es : List Ev) : Ho c (txs ts) (sy0 m xs) es 0 (sy0 m xs) 0 0 := by
  refine ⟨rfl, iv_zero hc hb.2.1 (by rw [tx_len]; exact hb.2.2), ⟨[], RisL.nil, List.nodup_nil, by simp, rfl, by simp, rfl⟩, Nat.le_refl _, ?_⟩
  have h1 := hb.2.1.1.low
  have h2 := hb.2.1.1.top
  exact ⟨h1, by show I6 m; unfold I6; omega⟩
theorem ho_next {c : Cf} {T : List Tx} {s0 : Sy} {es : List Ev} {i : Nat} {s : Sy} {d t : Nat} (h : Ho c T s0 es i s d t) (hi : i < (goes c T s0 es).1) (hc : c.may) (hT : Lk T) (hE : ∀ x ∈ es, EEach x) :
    Nx c s (stp c T s (es.getD i Ev.no)).2 (es.getD i Ev.no) ∧ Ho c T s0 es (i + 1) (stp c T s (es.getD i Ev.no)).2 (d + if (es.getD i Ev.no).k = 3 then 1 else 0) (t + if (es.getD i Ev.no).k = 4 then 1 else 0) := by
  have hl : i < es.length := Nat.lt_of_lt_of_le hi (goes_le es s0)
  obtain ⟨h1, h2⟩ := goes_can es s0 i hi
  rw [h.go] at h2
  simp only at h2
  obtain ⟨P, hP⟩ := h.hv
  have he := hE _ (egetD_mem es i hl)
  obtain ⟨hn, hv⟩ := nx_step h.iv hP h2
  refine ⟨hn, ?_, h.iv.stp hc hT hP.ris he.t, hv, ?_, ?_⟩
  · have h3 := goes_snoc (es.take i) s0 (es.getD i Ev.no) (by rw [h.go]; simp; omega) (by rw [h.go]; exact h2)
    rw [← etake_snoc es i hl] at h3
    rw [h3, h.go]
    simp
    omega
  · have := h.di
    split <;> omega
  · have := h.m0
    have := hn.up
    rw [← hn.ma]
    exact ⟨by have := hn.ma; omega, he.m⟩
theorem tk_begs {c : Cf} {ts : List Tm} {m : Int} {xs : List Int} {es : List Ev} (h : tkC c ts m xs es = 0 ∨ tkC c ts m xs es = 14) : c.may ∧ Beg ts m xs ∧ tkN c ts m xs es = (goes c (txs ts) (sy0 m xs) es).1 := by
  unfold tkC at h
  by_cases hc : c.may
  · rw [if_neg (fun q => q hc)] at h
    by_cases hb : Beg ts m xs
    · exact ⟨hc, hb, if_pos ⟨hc, hb⟩⟩
    · rw [if_pos hb] at h
      omega
  · rw [if_pos hc] at h
    omega
theorem Ho.out {c : Cf} {T : List Tx} {s0 : Sy} {es : List Ev} {i : Nat} {s : Sy} {d t : Nat} (h : Ho c T s0 es i s d t) : t ≤ d := by
  obtain ⟨P, hP⟩ := h.hv
  exact hP.le
end Go.Proofs.YtaaghcimfcjehaaGreatDoor
