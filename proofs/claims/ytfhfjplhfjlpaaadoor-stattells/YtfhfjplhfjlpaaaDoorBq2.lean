/- A Book of many lists of many kinds: what filling and growing keep. Conditions: no two held lists share a block. -/
import Derived.Test.YtfhfjplhfjlpaaaDoorBq
namespace Go.Proofs.YtfhfjplhfjlpaaaDoor.Bq
open Go.ChangeShapes Go.WideShapes Go.ChangeAt Go.RowKit Go.Lib
set_option linter.unusedVariables false
variable {K : Kd}

structure FillInv (K : Kd) (w0 : World) (bk : Nat) (rv : Value) (hs : List HB) (i : Nat) (w : World) : Prop where
  bk : Bl K w bk rv hs
  done : ∀ (j : Nat) (h : HB), hs[j]? = some h → j < i → P1 K w h
  left : ∀ (j : Nat) (h : HB), hs[j]? = some h → i ≤ j → P0 K w h
  fr : Fr (lbs hs) w0 w
theorem FillInv.next {w0 w w1 w2 : World} {bk : Nat} {rv : Value} {hs : List HB} {i : Nat} {e : HB} (h : FillInv K w0 bk rv hs i w) (ha : Alone hs) (hi : hs[i]? = some e) (hf1 : Fr [] w w1) (hf2 : Fr e.l.ownBlock.toList w1 w2) (hp : P1 K w2 e) : FillInv K w0 bk rv hs (i + 1) w2 := by
  have hf : Fr e.l.ownBlock.toList w w2 := hf1.trans hf2 (by simp) (fun x hx _ => hx)
  have hte := (h.left i e hi (Nat.le_refl _)).type
  have hoth : ∀ (j : Nat) (b : HB), hs[j]? = some b → j ≠ i → ∀ k, b.l.ownBlock = some k → k ∉ e.l.ownBlock.toList := by
    intro j b hb hne k hk hm
    exact ha j i b e hb hi hne k hk (by simpa using hm)
  refine ⟨h.bk.keep hf ?_ ?_, ?_, ?_, h.fr.trans hf (fun x hx _ => hx) ?_⟩
  · intro hm
    obtain ⟨cs, hc⟩ := hte bk (by simpa using hm)
    exact (h.bk.apart hc).1 rfl
  · intro k hk hm
    obtain ⟨cs, hc⟩ := hte k (by simpa using hm)
    exact (h.bk.apart hc).2 hk
  · intro j b hb hj
    by_cases hji : j = i
    · subst hji
      rw [hi] at hb
      cases hb
      exact hp
    · exact (h.done j b hb (by omega)).keep hf (hoth j b hb hji)
  · intro j b hb hj
    exact (h.left j b hb (by omega)).keep hf (hoth j b hb (by omega))
  · intro x hx _
    exact mem_lbs.2 ⟨e, List.mem_of_getElem? hi, by simpa using hx⟩
structure GIn (K : Kd) (w1 : World) (l : Value) (n M k : Nat) (v : Value) (w : World) : Prop where
  own : w.ownsRow 0 K.tE K.S v (n + k) (marks (K.mark M) (n + k))
  rds : Rdm K w l n (K.mark M)
  fr : Fr l.ownBlock.toList w1 w
  plc : v.ownBlock = l.ownBlock ∨ ∃ g, v.ownBlock = some g ∧ w1.heap.size ≤ g
theorem Rdm.own0 {w : World} {l v : Value} {n m : Nat} {x : List Value} (hx : x.length = K.S) (h : w.ownsRow 0 K.tE K.S v m (marks x m)) (hm : n ≤ m) (he : v.ownBlock = l.ownBlock) {w0 : World} (r : Rdm K w0 l n x) : Rdm K w l n x := by
  obtain ⟨ao, cap, rfl, hc, hr⟩ := r.shape
  refine ⟨⟨ao, cap, rfl, hc, fun h0 => ?_⟩, fun k hk => own_type h k (by rw [he]; exact hk)⟩
  obtain ⟨b, rfl, _⟩ := hr h0
  obtain ⟨g, c, rfl, _⟩ := own_form h (by omega)
  simp [Value.ownBlock] at he
  subst he
  exact ⟨g, rfl, fun j i hj hi => own_marks (n := 0) hx h j i (by omega) hi⟩
theorem GIn.next {w1 w w' : World} {l v : Value} {n M k g cap : Nat} (h : GIn K w1 l n M k v w) (o : Obj) (hO : w'.ownsRow 0 K.tE K.S (.slice (some ⟨g, 0, none⟩) (n + k + 1) cap) (n + k + 1) (marks (K.mark M) (n + k) ++ K.mark M)) (hW : Went (w.alloc o) v g w') (hl : ∀ k, l.ownBlock = some k → k < w1.heap.size) :
    GIn K w1 l n M (k + 1) (.slice (some ⟨g, 0, none⟩) (n + k + 1) cap) w' := by
  have e : marks (K.mark M) (n + k) ++ K.mark M = marks (K.mark M) (n + k + 1) := (marks_succ _ _).symm
  rw [e] at hO
  have hFa : Fr [] w (w.alloc o) := Fr.alloc [] _ _
  have hs1 := h.fr.size
  have hs2 := hFa.size
  rcases hW with ⟨hv, hg⟩ | ⟨hv, hg⟩
  · have hFg : Fr [g] (w.alloc o) w' := Fr.grown hg (by intro k hk _; cases hk; simp)
    rcases h.plc with hp | ⟨g', hp, hge⟩
    · have hlg : l.ownBlock = some g := by rw [← hp, hv]
      refine ⟨hO, Rdm.own0 (K.len M) hO (by omega) hlg.symm h.rds, ?_, Or.inl hlg.symm⟩
      rw [hlg]
      have := h.fr
      rw [hlg] at this
      exact this.trans (hFa.trans hFg (by simp) (fun x hx _ => hx)) (fun x hx _ => hx) (fun x hx _ => by simpa using hx)
    · rw [hv] at hp
      cases hp
      have hne : ∀ k, l.ownBlock = some k → k ≠ g := by intro k hk; have := hl k hk; omega
      have hF : Fr [g] w w' := hFa.trans hFg (by simp) (fun x hx _ => hx)
      refine ⟨hO, h.rds.keep hF (by intro k hk hm; exact hne k hk (by simpa using hm)), h.fr.trans hF (fun x hx _ => hx) ?_, Or.inr ⟨g, rfl, hge⟩⟩
      intro x hx hxl
      simp at hx
      omega
  · have hFg : Fr [] (w.alloc o) w' := Fr.grown hg (by simp)
    have hF := hFa.then hFg
    refine ⟨hO, h.rds.keep hF (by simp), h.fr.trans hF (fun x hx _ => hx) (by simp), Or.inr ⟨g, rfl, by omega⟩⟩

structure GrowInv (K : Kd) (w0 : World) (bk : Nat) (rv : Value) (hs0 : List HB) (i : Nat) (hs : List HB) (w : World) : Prop where
  bk : Bl K w bk rv hs
  len : hs.length = hs0.length
  same : ∀ (j : Nat) (a : HB), hs[j]? = some a → ∃ b, hs0[j]? = some b ∧ a.l = b.l ∧ a.n = b.n
  done : ∀ (j : Nat) (a : HB), hs[j]? = some a → j < i → P2 K w a
  left : ∀ (j : Nat) (a : HB), hs[j]? = some a → i ≤ j → P1 K w a ∧ a.long = .slice none 0 0
  sep : ∀ (j : Nat) (a : HB), hs[j]? = some a → ∀ k, a.long.ownBlock = some k → a.l.ownBlock = some k ∨ w0.heap.size ≤ k
  apart : ∀ (j j' : Nat) (a b : HB), hs[j]? = some a → hs[j']? = some b → j ≠ j' → ∀ k, a.long.ownBlock = some k → b.long.ownBlock ≠ some k
  fr : Fr (rv.ownBlock.toList ++ lbs hs0) w0 w
theorem GrowInv.next {w0 w w1 w2 : World} {bk rb cap : Nat} {N : Nat} {hs0 hs : List HB} {i : Nat} {e : HB} {v : Value} {n : Nat} (h : GrowInv K w0 bk (.slice (some ⟨rb, 0, none⟩) N cap) hs0 i hs w) (ha : Alone hs0) (hold : ∀ (j : Nat) (a : HB), hs0[j]? = some a → ∀ k, a.l.ownBlock = some k → k < w0.heap.size)
    (hi : hs[i]? = some e) (hN : N = hs.length) (hf1 : Fr [] w w1) (hG : GIn K w1 e.l n e.n 70 v w2) (hn : n < 17179869184) :
    GrowInv K w0 bk (.slice (some ⟨rb, 0, none⟩) N cap) hs0 (i + 1) (hs.set i { e with long := v }) (w2.setCell ⟨rb, i * 3 + 1, none⟩ v) := by
  have hlt : i < hs.length := (List.getElem?_eq_some_iff.1 hi).1
  have hf : Fr e.l.ownBlock.toList w w2 := hf1.trans hG.fr (by simp) (fun x hx _ => hx)
  obtain ⟨hP1e, _⟩ := h.left i e hi (Nat.le_refl _)
  have hte := hP1e.type
  have hw0 := h.fr.size
  have hw1 := hf1.size
  have hw2 := hG.fr.size
  obtain ⟨e0, he0, hel, hen⟩ := h.same i e hi
  -- the old blocks of the others are none of e's
  have hoth : ∀ (j : Nat) (b : HB), hs[j]? = some b → j ≠ i → ∀ k, b.l.ownBlock = some k → k ∉ e.l.ownBlock.toList := by
    intro j b hb hne k hk hm
    obtain ⟨b0, hb0, hbl, _⟩ := h.same j b hb
    exact ha j i b0 e0 hb0 he0 hne k (by rw [← hbl]; exact hk) (by rw [← hel]; simpa using hm)
  have hothl : ∀ (j : Nat) (b : HB), hs[j]? = some b → j ≠ i → ∀ k, b.long.ownBlock = some k → k ∉ e.l.ownBlock.toList := by
    intro j b hb hne k hk hm
    have hek : e.l.ownBlock = some k := by simpa using hm
    rcases h.sep j b hb k hk with hs' | hge
    · exact hoth j b hb hne k hs' hm
    · have := hold i e0 he0 k (by rw [← hel]; exact hek)
      omega
  have hbk2 : Bl K w2 bk (.slice (some ⟨rb, 0, none⟩) N cap) hs := by
    refine h.bk.keep hf ?_ ?_
    · intro hm
      obtain ⟨cs, hc⟩ := hte bk (by simpa using hm)
      exact (h.bk.apart hc).1 rfl
    · intro k hk hm
      obtain ⟨cs, hc⟩ := hte k (by simpa using hm)
      exact (h.bk.apart hc).2 hk
  have hrow2 := hbk2.row
  rw [← hN] at hrow2
  have hput := own_put hrow2 (i * 3 + 1) v
  rw [← rowOf_set hs i e hi v] at hput
  have hfs : Fr [rb] w2 (w2.setCell ⟨rb, i * 3 + 1, none⟩ v) := Fr.set _ _ _ (by simp)
  have hrb : ∀ k cs, w2.heap[k]? = some (.cells cs K.tE (0, 0)) → k ∉ [rb] := by
    intro k cs hk hm
    exact (hbk2.apart hk).2 (by simp at hm; rw [hm]; rfl)
  have hset : ∀ (j : Nat) (a : HB), (hs.set i { e with long := v })[j]? = some a → (j = i ∧ a = { e with long := v }) ∨ (j ≠ i ∧ hs[j]? = some a) := by
    intro j a ha'
    by_cases hji : j = i
    · subst hji
      rw [List.getElem?_set_self hlt] at ha'
      exact Or.inl ⟨rfl, by cases ha'; rfl⟩
    · rw [List.getElem?_set_ne (fun e => hji e.symm)] at ha'
      exact Or.inr ⟨hji, ha'⟩
  have hlg := hG.own.lt
  refine ⟨⟨?_, ?_, ?_, ?_⟩, ?_, ?_, ?_, ?_, ?_, ?_, ?_⟩
  · obtain ⟨cs, b1, b2⟩ := hbk2.box
    exact ⟨cs, hfs.keep b1 (by intro hm; simp at hm; exact hbk2.other (by rw [hm]; rfl)), b2⟩
  · rw [List.length_set, ← hN]
    exact hput
  · rw [List.length_set]; exact hbk2.few
  · intro j a haj
    rcases hset j a haj with ⟨rfl, rfl⟩ | ⟨_, haj⟩
    · exact hbk2.num j e hi
    · exact hbk2.num j a haj
  · rw [List.length_set, h.len]
  · intro j a haj
    rcases hset j a haj with ⟨rfl, rfl⟩ | ⟨_, haj⟩
    · exact ⟨e0, he0, hel, hen⟩
    · exact h.same j a haj
  · intro j a haj hj
    rcases hset j a haj with ⟨rfl, rfl⟩ | ⟨hne, haj⟩
    · refine P2.keep (S := [rb]) ⟨n, hG.rds, hG.own, hn⟩ hfs ?_ ?_
      · intro k hk
        obtain ⟨cs, hc⟩ := hG.rds.type k hk
        exact hrb k cs hc
      · intro k hk
        obtain ⟨cs, hc⟩ := own_type hG.own k hk
        exact hrb k cs hc
    · have hp := (h.done j a haj (by omega)).keep hf (hoth j a haj hne) (hothl j a haj hne)
      obtain ⟨m, q1, q2, q3⟩ := hp
      refine P2.keep (S := [rb]) ⟨m, q1, q2, q3⟩ hfs ?_ ?_
      · intro k hk
        obtain ⟨cs, hc⟩ := q1.type k hk
        exact hrb k cs hc
      · intro k hk
        obtain ⟨cs, hc⟩ := own_type q2 k hk
        exact hrb k cs hc
  · intro j a haj hj
    rcases hset j a haj with ⟨rfl, rfl⟩ | ⟨hne, haj⟩
    · omega
    · obtain ⟨hp, hnil⟩ := h.left j a haj (by omega)
      have hp2 := hp.keep hf (hoth j a haj hne)
      exact ⟨hp2.keep hfs (by intro k hk; obtain ⟨cs, hc⟩ := hp2.type k hk; exact hrb k cs hc), hnil⟩
  · intro j a haj k hk
    rcases hset j a haj with ⟨rfl, rfl⟩ | ⟨hne, haj⟩
    · rcases hG.plc with hp | ⟨g, hp, hge⟩
      · exact Or.inl (by rw [← hp]; exact hk)
      · rw [hp] at hk
        cases hk
        exact Or.inr (by omega)
    · exact h.sep j a haj k hk
  · have key : ∀ (j : Nat) (b : HB), hs[j]? = some b → j ≠ i → ∀ k, v.ownBlock = some k → b.long.ownBlock ≠ some k := by
      intro j b hb hne k hk hbk
      rcases hG.plc with hp | ⟨g, hp, hge⟩
      · rw [hp] at hk
        exact hothl j b hb hne k hbk (by simpa using hk)
      · rw [hp] at hk
        cases hk
        by_cases hji : j < i
        · obtain ⟨m, _, q2, _⟩ := h.done j b hb hji
          have := (q2.lt k hbk).2
          omega
        · obtain ⟨_, hnil⟩ := h.left j b hb (by omega)
          rw [hnil] at hbk
          simp [Value.ownBlock] at hbk
    intro j j' a b haj hbj hne k hk hk'
    rcases hset j a haj with ⟨hj, ea⟩ | ⟨hnj, haj2⟩
    · rcases hset j' b hbj with ⟨hj', _⟩ | ⟨hnj', hbj2⟩
      · exact hne (hj.trans hj'.symm)
      · rw [ea] at hk
        exact key j' b hbj2 hnj' k hk hk'
    · rcases hset j' b hbj with ⟨_, eb⟩ | ⟨hnj', hbj2⟩
      · rw [eb] at hk'
        exact key j a haj2 hnj k hk' hk
      · exact h.apart j j' a b haj2 hbj2 hne k hk hk'
  · refine (h.fr.trans hf (fun x hx _ => hx) ?_).trans hfs (fun x hx _ => hx) ?_
    · intro x hx _
      refine List.mem_append_right _ (mem_lbs.2 ⟨e0, List.mem_of_getElem? he0, ?_⟩)
      rw [← hel]
      simpa using hx
    · intro x hx _
      simp at hx
      subst hx
      simp [Value.ownBlock]

end Go.Proofs.YtfhfjplhfjlpaaaDoor.Bq
