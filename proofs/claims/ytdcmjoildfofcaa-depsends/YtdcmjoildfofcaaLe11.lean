/- Who was told, and who waited: mathematics of the law that each that waits is told just once. Plain lemmas. -/
import Derived.Test.YtdcmjoildfofcaaNe11
namespace Go.Proofs.Ytdcmjoildfofcaa
open Go.ChangeShapes Go.WideShapes Go.ChangeAt Go.RowKit Go.Lib Go.Maps
set_option linter.unusedVariables false
set_option linter.unusedSimpArgs false

theorem dep_old {L : Lg} {p : Int × List ByteArray} {o m : Int} (h : o ≠ p.1) : Dep (L ++ [p]) o m ↔ Dep L o m := by
  rw [dep_snoc]
  constructor
  · rintro (h1 | ⟨h1, _⟩)
    · exact h1
    · exact absurd h1 h
  · exact Or.inl
theorem op_old {L : Lg} {p : Int × List ByteArray} {en : Int → Prop} {m : Int} (h : m ≠ p.1) : Op11 (L ++ [p]) en m ↔ Op11 L en m := by
  unfold Op11
  constructor
  · rintro ⟨⟨q, hq, e⟩, h2⟩
    rcases List.mem_append.1 hq with h3 | h3
    · exact ⟨⟨q, h3, e⟩, h2⟩
    · simp at h3; subst h3; exact absurd e.symm h
  · rintro ⟨⟨q, hq, e⟩, h2⟩
    exact ⟨⟨q, by simp [hq], e⟩, h2⟩
/-- It waits for none. -/
def Nd (ts : List Tm) (a : Nat) (rs : List Bool) (o : Nat) : Prop := ∀ m, Op11 (LT ts a) (enR rs) m → ¬ Dep (LT ts a) (o : Int) m
/-- What the law keeps of the rows ended, told, waited. -/
structure TT (ts : List Tm) (L a : Nat) (rs : List Bool) (tl : List Int) (wl : List Bool) : Prop where
  rl : rs.length = L + 1
  r0 : rs.getD 0 false = false
  tll : tl.length = L + 1
  wll : wl.length = L + 1
  w1 : ∀ o, wl.getD o false = true → o ≤ a
  dep : ∀ o : Nat, ¬ Nd ts a rs o → wl.getD o false = true
  one : ∀ o : Nat, o ≤ L → (tl.getD o 0 = 0 ∨ tl.getD o 0 = 1) ∧ (tl.getD o 0 = 1 ↔ wl.getD o false = true ∧ Nd ts a rs o)
theorem rep_getD {α : Type} (n j : Nat) (x : α) : (List.replicate n x).getD j x = x := by
  rw [List.getD_eq_getElem?_getD, List.getElem?_replicate]
  split <;> rfl
theorem TT.start (ts : List Tm) (L : Nat) : TT ts L 0 (List.replicate (L + 1) false) (List.replicate (L + 1) 0) (List.replicate (L + 1) false) := by
  refine ⟨by simp, rep_getD _ _ _, by simp, by simp, fun o h => ?_, fun o h => ?_, fun o h => ?_⟩
  · rw [rep_getD] at h; cases h
  · exact absurd (fun m hm => by
      obtain ⟨⟨p, hp, _⟩, _⟩ := hm
      simp [LT] at hp) h
  · rw [rep_getD, rep_getD]
    simp
theorem setB_getD (rs : List Bool) (j k : Nat) (b : Bool) (hj : j < rs.length) : (rs.set j b).getD k false = if k = j then b else rs.getD k false := by
  by_cases e : k = j
  · subst e
    rw [List.getD_eq_getElem?_getD, List.getElem?_set_self hj]
    simp
  · rw [List.getD_eq_getElem?_getD, List.getElem?_set_ne (Ne.symm e), ← List.getD_eq_getElem?_getD]
    simp [e]
theorem TT.add {ts : List Tm} {L a : Nat} {rs : List Bool} {tl : List Int} {wl : List Bool} (h : TT ts L a rs tl wl) {ks : List ByteArray} {xs : List Int} (hr : RisL (LT ts (a + 1))) (hS : LT ts (a + 1) = LT ts a ++ [((a : Int) + 1, ks)]) (hx : AdT (LT ts a) (enR rs) ks xs) (ha : a < L) : TT ts L (a + 1) rs tl (wl.set (a + 1) (decide (0 < xs.length))) := by
  have hr' := hr
  rw [hS] at hr'
  obtain ⟨hrL, hlt, _⟩ := hr'.init
  have hm0 : ∀ m, m ∈ xs → Op11 (LT ts (a + 1)) (enR rs) m ∧ Dep (LT ts (a + 1)) ((a : Int) + 1) m := fun m hm => by
    obtain ⟨h1, k, hk, h2⟩ := (hx.2 m).1 hm
    have h1' := h1
    obtain ⟨⟨p, hp, e⟩, _⟩ := h1'
    have := hlt p hp
    have := hrL.pos p hp
    rw [hS]
    exact ⟨(op_old (by simp only at *; omega)).2 h1, (dep_snoc _ _ _ _).2 (Or.inr ⟨rfl, by omega, k, hk, h2⟩)⟩
  have hnd : ∀ o : Nat, o ≠ a + 1 → (Nd ts (a + 1) rs o ↔ Nd ts a rs o) := fun o ho => by
    unfold Nd
    rw [hS]
    constructor
    · intro hh m hm hd
      have hml : m ≠ (a : Int) + 1 := fun e => by
        obtain ⟨⟨p, hp, e2⟩, _⟩ := hm
        have := hlt p hp
        simp only at this
        omega
      exact hh m ((op_old hml).2 hm) ((dep_old (by simp only; omega)).2 hd)
    · intro hh m hm hd
      have hd2 := (dep_old (p := ((a : Int) + 1, ks)) (by simp only; omega)).1 hd
      have hml : m ≠ (a : Int) + 1 := fun e => by
        obtain ⟨A, js, C, e2, _⟩ := hd2
        have h1 := hlt ((o : Int), js) (by rw [e2]; simp)
        have h2 := (hd.lt hr').2.1
        simp only at h1
        omega
      exact hh m ((op_old hml).1 hm) hd2
  refine ⟨h.rl, h.r0, h.tll, by rw [List.length_set]; exact h.wll, fun o ho => ?_, fun o ho => ?_, fun o ho => ?_⟩
  · rw [setB_getD _ _ _ _ (by rw [h.wll]; omega)] at ho
    split at ho
    · omega
    · have := h.w1 o ho; omega
  · rw [setB_getD _ _ _ _ (by rw [h.wll]; omega)]
    split
    · rename_i e
      subst e
      have : ∃ m, m ∈ xs := by
        refine Classical.byContradiction fun hn => ho (fun m hm hd => hn ⟨m, ?_⟩)
        rw [hx.2 m]
        rw [hS] at hm hd
        have hdl := (hd.lt hr').2.1
        rcases (dep_snoc _ _ _ _).1 hd with h1 | ⟨_, _, h2⟩
        · obtain ⟨A, js, C, e2, _⟩ := h1
          have h3 := hlt (((a + 1 : Nat) : Int), js) (by rw [e2]; simp)
          simp only at h3
          omega
        · exact ⟨(op_old (by simp only; omega)).1 hm, h2⟩
      obtain ⟨m, hm⟩ := this
      have := List.length_pos_of_mem hm
      simpa using this
    · rename_i e
      exact h.dep o (fun hh => ho ((hnd o e).2 hh))
  · obtain ⟨h1, h2⟩ := h.one o ho
    refine ⟨h1, ?_⟩
    rw [setB_getD _ _ _ _ (by rw [h.wll]; omega)]
    split
    · rename_i e
      subst e
      constructor
      · intro h3
        have := h.w1 _ (h2.1 h3).1
        omega
      · rintro ⟨h3, h4⟩
        have h5 : 0 < xs.length := by simpa using h3
        obtain ⟨m, hm⟩ := List.exists_mem_of_length_pos h5
        obtain ⟨h6, h7⟩ := hm0 m hm
        exact absurd h7 (h4 m h6)
    · rename_i e
      rw [h2, hnd o e]
theorem TT.done {ts : List Tm} {L a : Nat} {rs : List Bool} {tl tl' : List Int} {wl : List Bool} (h : TT ts L a rs tl wl) {n : Nat} {zs : List Int} (hr : RisL (LT ts a)) (ho : ∀ m, enR rs m → ∀ i, i < m → Nr (LT ts a) i m → enR rs i) (hn : Op11 (LT ts a) (enR rs) (n : Int)) (hz : DoT (LT ts a) (Op11 (LT ts a) (enR rs)) (n : Int) zs) (hnL : 1 ≤ n ∧ n ≤ L)
    (hl : tl'.length = L + 1) (ht : ∀ o : Nat, o ≤ L → tl'.getD o 0 = tl.getD o 0 + if (o : Int) ∈ zs then 1 else 0) : TT ts L a (rs.set n true) tl' wl := by
  have hnl : n < rs.length := by rw [h.rl]; omega
  have hop : ∀ m, Op11 (LT ts a) (enR (rs.set n true)) m ↔ Op11 (LT ts a) (enR rs) m ∧ m ≠ (n : Int) := fun m => by
    unfold Op11
    rw [enR_set rs n hnl, not_or, and_assoc]
  have hNd : ∀ o : Nat, Nd ts a rs o → Nd ts a (rs.set n true) o := fun o hh m hm => hh m ((hop m).1 hm).1
  refine ⟨by rw [List.length_set]; exact h.rl, ?_, hl, h.wll, h.w1, fun o hh => h.dep o (fun h2 => hh (hNd o h2)), fun o hoL => ?_⟩
  · rw [setB_getD _ _ _ _ hnl, if_neg (by omega)]
    exact h.r0
  · obtain ⟨h1, h2⟩ := h.one o hoL
    rw [ht o hoL]
    by_cases hz1 : (o : Int) ∈ zs
    · rw [if_pos hz1]
      obtain ⟨k1, k2, k3⟩ := (hz.2 o).1 hz1
      have hnn : ¬ Nd ts a rs o := fun hh => hh (n : Int) hn k2
      have hw := h.dep o hnn
      have h0 : tl.getD o 0 = 0 := by
        rcases h1 with e | e
        · exact e
        · exact absurd (h2.1 e).2 hnn
      rw [h0]
      refine ⟨Or.inr rfl, fun _ => ⟨hw, fun m hm hd => ?_⟩, fun _ => rfl⟩
      obtain ⟨j1, j2⟩ := (hop m).1 hm
      exact k3 m j1 j2 hd
    · rw [if_neg hz1, Int.add_zero]
      refine ⟨h1, ?_⟩
      rw [h2]
      constructor
      · rintro ⟨j1, j2⟩; exact ⟨j1, hNd o j2⟩
      · rintro ⟨j1, j2⟩
        refine ⟨j1, fun m hm hd => ?_⟩
        by_cases e : m = (n : Int)
        · subst e
          obtain ⟨_, q2, q3⟩ := hd.lt hr
          by_cases hoe : enR rs (o : Int)
          · exact hn.2 (ho _ hoe _ q2 q3)
          · refine hz1 ((hz.2 o).2 ⟨⟨?_, hoe⟩, hd, fun m' hm' hne hd' => j2 m' ((hop m').2 ⟨hm', hne⟩) hd'⟩)
            obtain ⟨_, _, p, hp, _, ep, _⟩ := q3
            exact ⟨p, hp, ep⟩
        · exact j2 m ((hop m).2 ⟨hm, e⟩) hd
theorem nearW_nr (ts : List Tm) (a i n : Nat) (ha : a ≤ ts.length) (hN : Num ts a) (hi : i < a) (hn : n < a) : NearW (ts.getD i Tm.zero).ws (ts.getD n Tm.zero).ws ↔ Nr (LT ts a) ((i : Int) + 1) ((n : Int) + 1) := by
  constructor
  · rintro ⟨x, hx, y, hy, e⟩
    exact ⟨_, (LT_mem ts a ha _).2 ⟨i, hi, rfl⟩, _, (LT_mem ts a ha _).2 ⟨n, hn, rfl⟩, hN i hi, hN n hn, x.key, List.mem_map.2 ⟨x, hx, rfl⟩, by rw [e]; exact List.mem_map.2 ⟨y, hy, rfl⟩⟩
  · rintro ⟨p, hp, q, hq, e1, e2, k, k1, k2⟩
    obtain ⟨j1, hj1, rfl⟩ := (LT_mem ts a ha p).1 hp
    obtain ⟨j2, hj2, rfl⟩ := (LT_mem ts a ha q).1 hq
    have h1 := hN j1 hj1
    have h2 := hN j2 hj2
    simp only at e1 e2 k1 k2
    obtain rfl : j1 = i := by omega
    obtain rfl : j2 = n := by omega
    obtain ⟨x, hx, rfl⟩ := List.mem_map.1 k1
    obtain ⟨y, hy, e⟩ := List.mem_map.1 k2
    exact ⟨x, hx, y, hy, e.symm⟩
theorem filter_head {ys : List Int} {q : Int → Bool} (h0 : 0 < ys.length) (hq : q (ys.getD 0 0) = true) : (ys.filter q).getD 0 0 = ys.getD 0 0 ∧ 0 < (ys.filter q).length := by
  cases ys with
  | nil => simp at h0
  | cons y r =>
    simp only [List.getD_cons_zero] at hq
    simp [hq]
theorem made_ints (n : Nat) : (madeCells #[Value.int .i64 0] n).toList = (List.replicate n (0 : Int)).map (Value.int .i64) := by
  apply List.ext_getElem?
  intro i
  by_cases h : i < n
  · simp [madeCells, h, Nat.mod_one]
  · simp [madeCells, h]
end Go.Proofs.Ytdcmjoildfofcaa
