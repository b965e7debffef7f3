/- Contracts and plain lemmas of this claim. -/
import Derived.Test.YtembflnhhfliaaaGreatDoorGp18
import Derived.Laws.ResultCell
import Derived.Deep.Quiet
import Derived.BigQuiet
set_option linter.unusedVariables false
set_option maxHeartbeats 1000000
namespace Go.Proofs.YtembflnhhfliaaaGreatDoor.Bq
open Go.ChangeShapes Go.WideShapes Go.ChangeAt Go.RowKit Go.Lib
structure HB where
  l : Value
  long : Value
  n : Nat
def HB.cells (h : HB) : List Value := [h.l, h.long, .int .i64 (h.n : Int)]
def zam (hs : List HB) : List Value := hs.flatMap HB.cells
theorem zgt (hs : List HB) (h : HB) : zam (hs ++ [h]) = zam hs ++ h.cells := by simp [zam]
theorem zud (hs : List HB) (i : Nat) (h : HB) (hi : hs[i]? = some h) (j : Nat) (hj : j < 3) : (zam hs)[i * 3 + j]? = h.cells[j]? := by
  induction hs generalizing i with
  | nil => simp at hi
  | cons a r ih =>
    have e : zam (a :: r) = a.cells ++ zam r := by simp [zam]
    have hl : a.cells.length = 3 := rfl
    cases i with
    | zero =>
      simp at hi
      subst hi
      rw [e, List.getElem?_append_left (by omega)]
      simp
    | succ i =>
      rw [e, List.getElem?_append_right (by omega), hl, show (i + 1) * 3 + j - 3 = i * 3 + j from by omega]
      exact ih i (by simpa using hi)
theorem zue (hs : List HB) (i : Nat) (h : HB) (hi : hs[i]? = some h) (x : Value) : zam (hs.set i { h with long := x }) = (zam hs).set (i * 3 + 1) x := by
  induction hs generalizing i with
  | nil => simp at hi
  | cons a r ih =>
    have e : ∀ b : HB, zam (b :: r) = b.cells ++ zam r := fun b => by simp [zam]
    have hl : a.cells.length = 3 := rfl
    cases i with
    | zero =>
      simp at hi
      subst hi
      rw [List.set_cons_zero, e, e, List.set_append_left _ _ (by omega)]
      rfl
    | succ i =>
      rw [List.set_cons_succ, show zam (a :: r.set i { h with long := x }) = a.cells ++ zam (r.set i { h with long := x }) from by simp [zam], ih i (by simpa using hi), e, List.set_append_right _ _ (by omega), hl, show (i + 1) * 3 + 1 - 3 = i * 3 + 1 from by omega]
structure Kd where
  tH : TypeId
  tE : TypeId
  S : Nat
  mark : Nat -> List Value
  col : Nat
  pos : 0 < S
  len : ∀ n, (mark n).length = S
  hE : tH ≠ tE
  hB : tH ≠ 52
  eB : tE ≠ 52
def zag (x : List Value) (n : Nat) : List Value := (List.replicate n x).flatten
theorem zdi (x : List Value) (n : Nat) : (zag x n).length = n * x.length := by simp [zag]
theorem zef (x : List Value) (n : Nat) : zag x (n + 1) = zag x n ++ x := by simp [zag, List.replicate_succ']
theorem zrx (x : List Value) (n : Nat) : zag x (n + 1) = x ++ zag x n := by simp [zag, List.replicate_succ]
theorem zuf (x : List Value) (n j i : Nat) (hj : j < n) (hi : i < x.length) : (zag x n)[j * x.length + i]? = x[i]? := by
  induction n generalizing j with
  | zero => omega
  | succ n ih =>
    rw [zrx]
    cases j with
    | zero => rw [Nat.zero_mul, Nat.zero_add, List.getElem?_append_left hi]
    | succ j =>
      have e : (j + 1) * x.length + i = x.length + (j * x.length + i) := by rw [Nat.add_mul]; omega
      rw [e, List.getElem?_append_right (by omega), Nat.add_sub_cancel_left]
      exact ih j (by omega)
def Cut (w : World) (e : TypeId) (size : Nat) (v : Value) (n : Nat) (xs : List Value) : Prop := ∃ ao rc rf, v = .slice ao n rc /\ n <= rc /\ rc <= rf /\ w.ownsRow 0 e size (.slice ao n rf) n xs
theorem zbe (ao : Option Addr) (n m a b : Nat) : (Value.slice ao n a).ownBlock = (Value.slice ao m b).ownBlock := by cases ao <;> rfl
section
variable {w w' : World} {e : TypeId} {size n : Nat} {v : Value} {xs : List Value} {S : List Nat}
theorem Cut.of (h : w.ownsRow 0 e size v n xs) : Cut w e size v n xs := by
  rcases h.2 with ⟨rfl, rfl⟩ | ⟨g, cap, cur, rfl, _, _, hn, _⟩
  · exact ⟨none, 0, 0, rfl, Nat.le_refl _, Nat.le_refl _, h⟩
  · exact ⟨_, cap, cap, rfl, hn, Nat.le_refl _, h⟩
theorem Cut.keep (h : Cut w e size v n xs) (hf : Fr S w w') (hn : ∀ k, v.ownBlock = some k -> k ∉ S) : Cut w' e size v n xs := by
  obtain ⟨ao, rc, rf, rfl, h1, h2, h3⟩ := h
  exact ⟨ao, rc, rf, rfl, h1, h2, zab h3 hf (fun k hk => hn k (by rw [zbe ao n n rc rf]; exact hk))⟩
theorem Cut.type (h : Cut w e size v n xs) : ∀ k, v.ownBlock = some k -> ∃ cs, w.heap[k]? = some (.cells cs e (0, 0)) := by
  obtain ⟨ao, rc, rf, rfl, h1, h2, h3⟩ := h
  exact fun k hk => zaf h3 k (by rw [zbe ao n n rf rc]; exact hk)
theorem Cut.lt (h : Cut w e size v n xs) : ∀ k, v.ownBlock = some k -> k < w.heap.size := fun k hk => by
  obtain ⟨cs, hc⟩ := h.type k hk
  exact lt_of_block hc
end
section
variable {K : Kd}
structure Bl (K : Kd) (w : World) (bk : Nat) (rv : Value) (hs : List HB) : Prop where
  box : ∃ cs, w.heap[bk]? = some (.cells cs 52 (0, 0)) /\ cs[K.col]? = some rv
  row : w.ownsRow 0 K.tH 3 rv hs.length (zam hs)
  few : hs.length < 67108864
  num : ∀ (j : Nat) (h : HB), hs[j]? = some h -> h.n < 134217728
theorem Bl.keep {S : List Nat} {w w' : World} {bk : Nat} {rv : Value} {hs : List HB} (h : Bl K w bk rv hs) (hf : Fr S w w') (hb : bk ∉ S) (hr : ∀ k, rv.ownBlock = some k -> k ∉ S) : Bl K w' bk rv hs := by
  obtain ⟨cs, h1, h2⟩ := h.box
  exact ⟨⟨cs, hf.keep h1 hb, h2⟩, zab h.row hf hr, h.few, h.num⟩
theorem Bl.other {w : World} {bk : Nat} {rv : Value} {hs : List HB} (h : Bl K w bk rv hs) : rv.ownBlock ≠ some bk := by
  intro e
  obtain ⟨cs, hc⟩ := zaf h.row bk e
  obtain ⟨cs', h1, _⟩ := h.box
  rw [h1] at hc
  simp only [Option.some.injEq, Obj.cells.injEq] at hc
  exact K.hB hc.2.1.symm
theorem Bl.c1 {w : World} {bk : Nat} {rv : Value} {hs : List HB} (h : Bl K w bk rv hs) : w.cell? ⟨bk, K.col, none⟩ = some rv := by
  obtain ⟨cs, h1, h2⟩ := h.box
  rw [cell_of_row _ _ _ _ _ _ h1, h2]
theorem Bl.at {w : World} {bk : Nat} {rv : Value} {hs : List HB} (h : Bl K w bk rv hs) (i : Nat) (e : HB) (hi : hs[i]? = some e) :
    ∃ rb cap, rv = .slice (some ⟨rb, 0, none⟩) hs.length cap /\ hs.length <= cap /\ w.cell? ⟨rb, i * 3, none⟩ = some e.l /\ w.cell? ⟨rb, i * 3 + 1, none⟩ = some e.long /\ w.cell? ⟨rb, i * 3 + 2, none⟩ = some (.int .i64 (e.n : Int)) := by
  have hlt : i < hs.length := (List.getElem?_eq_some_iff.1 hi).1
  obtain ⟨rb, cap, rfl, hc⟩ := zba h.row (by omega)
  have hr := h.row
  have hat : ∀ j, j < 3 -> w.cell? ⟨rb, i * 3 + j, none⟩ = e.cells[j]? := fun j hj => by rw [hr.cellAt (i * 3 + j) (by omega), zud hs i e hi j hj]
  exact ⟨rb, cap, rfl, hc, hat 0 (by omega), hat 1 (by omega), hat 2 (by omega)⟩
def P0 (K : Kd) (w : World) (h : HB) : Prop := ∃ n vs, Cut w K.tE K.S h.l n vs /\ n < 17179869184
def P1 (K : Kd) (w : World) (h : HB) : Prop := ∃ n, Cut w K.tE K.S h.l n (zag (K.mark h.n) n) /\ n < 17179869184
structure Rdm (K : Kd) (w : World) (v : Value) (n : Nat) (x : List Value) : Prop where
  shape : ∃ ao cap, v = .slice ao n cap /\ n <= cap /\ (0 < n -> ∃ b, ao = some ⟨b, 0, none⟩ /\ ∀ j i, j < n -> i < K.S -> w.cell? ⟨b, j * K.S + i, none⟩ = x[i]?)
  type : ∀ k, v.ownBlock = some k -> ∃ cs, w.heap[k]? = some (.cells cs K.tE (0, 0))
theorem zdd {w : World} {g m n cap : Nat} {x : List Value} (hx : x.length = K.S) (h : w.ownsRow 0 K.tE K.S (.slice (some ⟨g, 0, none⟩) m cap) m (zag x m)) (j i : Nat) (hj : j < m) (hi : i < K.S) : w.cell? ⟨g, j * K.S + i, none⟩ = x[i]? := by
  have h1 : j * K.S + i < m * K.S := by
    have : (j + 1) * K.S <= m * K.S := Nat.mul_le_mul_right _ hj
    rw [Nat.add_mul] at this
    omega
  rw [h.cellAt (j * K.S + i) h1]
  have := zuf x m j i hj (by omega)
  rw [hx] at this
  exact this
theorem Rdm.of_own {w : World} {v : Value} {n m : Nat} {x : List Value} {cap : Nat} {ao : Option Addr} (hx : x.length = K.S) (h : w.ownsRow 0 K.tE K.S v n (zag x n)) (hm : m <= n) (he : (Value.slice ao m cap).ownBlock = v.ownBlock) (hc : m <= cap) (ho : ∀ a, ao = some a -> a.off = 0 /\ a.spot = none) : Rdm K w (.slice ao m cap) m x := by
  refine ⟨⟨ao, cap, rfl, hc, fun h0 => ?_⟩, fun k hk => zaf h k (by rw [<- he]; exact hk)⟩
  obtain ⟨g, c, rfl, _⟩ := zba h (by omega)
  cases ao with
  | none => simp [Value.ownBlock] at he
  | some a =>
    obtain ⟨b, off, spot⟩ := a
    obtain ⟨rfl, rfl⟩ : off = 0 /\ spot = none := ho _ rfl
    simp [Value.ownBlock] at he
    subst he
    exact ⟨b, rfl, fun j i hj hi => zdd (n := 0) hx h j i (by omega) hi⟩
theorem Rdm.keep {S : List Nat} {w w' : World} {v : Value} {n : Nat} {x : List Value} (h : Rdm K w v n x) (hf : Fr S w w') (hn : ∀ k, v.ownBlock = some k -> k ∉ S) : Rdm K w' v n x := by
  obtain ⟨ao, cap, rfl, hc, hr⟩ := h.shape
  refine ⟨⟨ao, cap, rfl, hc, fun h0 => ?_⟩, fun k hk => ?_⟩
  · obtain ⟨b, rfl, hb⟩ := hr h0
    refine ⟨b, rfl, fun j i hj hi => ?_⟩
    obtain ⟨cs, hcs⟩ := h.type b rfl
    exact (World.cell?_of_block (hf.block b (lt_of_block hcs) (hn b rfl))).trans (hb j i hj hi)
  · obtain ⟨cs, hcs⟩ := h.type k hk
    exact ⟨cs, hf.keep hcs (hn k hk)⟩
def P2 (K : Kd) (w : World) (h : HB) : Prop := ∃ n, Rdm K w h.l n (K.mark h.n) /\ Cut w K.tE K.S h.long (n + 70) (zag (K.mark h.n) (n + 70)) /\ n < 17179869184
theorem P0.keep {S : List Nat} {w w' : World} {h : HB} (p : P0 K w h) (hf : Fr S w w') (hn : ∀ k, h.l.ownBlock = some k -> k ∉ S) : P0 K w' h := by
  obtain ⟨n, vs, h1, h2⟩ := p
  exact ⟨n, vs, h1.keep hf hn, h2⟩
theorem P1.keep {S : List Nat} {w w' : World} {h : HB} (p : P1 K w h) (hf : Fr S w w') (hn : ∀ k, h.l.ownBlock = some k -> k ∉ S) : P1 K w' h := by
  obtain ⟨n, h1, h2⟩ := p
  exact ⟨n, h1.keep hf hn, h2⟩
theorem P2.keep {S : List Nat} {w w' : World} {h : HB} (p : P2 K w h) (hf : Fr S w w') (hn : ∀ k, h.l.ownBlock = some k -> k ∉ S) (hn2 : ∀ k, h.long.ownBlock = some k -> k ∉ S) : P2 K w' h := by
  obtain ⟨n, h1, h2, h3⟩ := p
  exact ⟨n, h1.keep hf hn, h2.keep hf hn2, h3⟩
theorem P0.type {w : World} {h : HB} (p : P0 K w h) : ∀ k, h.l.ownBlock = some k -> ∃ cs, w.heap[k]? = some (.cells cs K.tE (0, 0)) := by
  obtain ⟨n, vs, h1, h2⟩ := p
  exact h1.type
theorem P1.type {w : World} {h : HB} (p : P1 K w h) : ∀ k, h.l.ownBlock = some k -> ∃ cs, w.heap[k]? = some (.cells cs K.tE (0, 0)) := by
  obtain ⟨n, h1, h2⟩ := p
  exact h1.type
theorem Bl.apart {w : World} {bk : Nat} {rv : Value} {hs : List HB} (h : Bl K w bk rv hs) {k : Nat} {cs : Array Value} (hk : w.heap[k]? = some (.cells cs K.tE (0, 0))) : k ≠ bk /\ rv.ownBlock ≠ some k := by
  refine ⟨fun e => ?_, fun e => ?_⟩
  · subst e
    obtain ⟨cs', h1, _⟩ := h.box
    rw [h1] at hk
    simp only [Option.some.injEq, Obj.cells.injEq] at hk
    exact K.eB hk.2.1.symm
  · obtain ⟨cs', hc⟩ := zaf h.row k e
    rw [hk] at hc
    simp only [Option.some.injEq, Obj.cells.injEq] at hc
    exact K.hE hc.2.1.symm
end
def lbs (hs : List HB) : List Nat := hs.flatMap fun h => h.l.ownBlock.toList
theorem mem_lbs {hs : List HB} {k : Nat} : k ∈ lbs hs ↔ ∃ h ∈ hs, h.l.ownBlock = some k := by simp [lbs]
def zda (hs : List HB) : Prop := ∀ (i j : Nat) (a b : HB), hs[i]? = some a -> hs[j]? = some b -> i ≠ j -> ∀ k, a.l.ownBlock = some k -> b.l.ownBlock ≠ some k
def zds (hs : List HB) : Prop := ∀ (j : Nat) (h : HB), hs[j]? = some h -> h.long = .slice none 0 0
variable {K : Kd}
structure FillInv (K : Kd) (w0 : World) (bk : Nat) (rv : Value) (hs : List HB) (i : Nat) (w : World) : Prop where
  bk : Bl K w bk rv hs
  done : ∀ (j : Nat) (h : HB), hs[j]? = some h -> j < i -> P1 K w h
  left : ∀ (j : Nat) (h : HB), hs[j]? = some h -> i <= j -> P0 K w h
  fr : Fr (lbs hs) w0 w
theorem FillInv.next {w0 w w1 w2 : World} {bk : Nat} {rv : Value} {hs : List HB} {i : Nat} {e : HB} (h : FillInv K w0 bk rv hs i w) (ha : zda hs) (hi : hs[i]? = some e) (hf1 : Fr [] w w1) (hf2 : Fr e.l.ownBlock.toList w1 w2) (hp : P1 K w2 e) : FillInv K w0 bk rv hs (i + 1) w2 := by
  have hf : Fr e.l.ownBlock.toList w w2 := hf1.trans hf2 (by simp) (fun x hx _ => hx)
  have hte := (h.left i e hi (Nat.le_refl _)).type
  have hoth : ∀ (j : Nat) (b : HB), hs[j]? = some b -> j ≠ i -> ∀ k, b.l.ownBlock = some k -> k ∉ e.l.ownBlock.toList := by
    intro j b hb hne k hk hm
    exact ha j i b e hb hi hne k hk (by simpa using hm)
  refine ⟨h.bk.keep hf ?_ ?_, ?_, ?_, h.fr.trans hf (fun x hx _ => hx) ?_⟩
  · intro hm
    obtain ⟨cs, hc⟩ := hte bk (by simpa using hm)
    exact (h.bk.apart hc).1 rfl
  · intro k hk hm
    obtain ⟨cs, hc⟩ := hte k (by simpa using hm)
    exact (h.bk.apart hc).2 hk
  · intro j b hb hj
    by_cases hji : j = i
    · subst hji
      rw [hi] at hb
      cases hb
      exact hp
    · exact (h.done j b hb (by omega)).keep hf (hoth j b hb hji)
  · intro j b hb hj
    exact (h.left j b hb (by omega)).keep hf (hoth j b hb (by omega))
  · intro x hx _
    exact mem_lbs.2 ⟨e, List.mem_of_getElem? hi, by simpa using hx⟩
structure GIn (K : Kd) (w1 : World) (l : Value) (n M k : Nat) (v : Value) (w : World) : Prop where
  own : Cut w K.tE K.S v (n + k) (zag (K.mark M) (n + k))
  rds : Rdm K w l n (K.mark M)
  fr : Fr l.ownBlock.toList w1 w
  plc : v.ownBlock = l.ownBlock \/ ∃ g, v.ownBlock = some g /\ w1.heap.size <= g
theorem Rdm.own0 {w : World} {l v : Value} {n m : Nat} {x : List Value} (hx : x.length = K.S) (h : Cut w K.tE K.S v m (zag x m)) (hm : n <= m) (he : v.ownBlock = l.ownBlock) {w0 : World} (r : Rdm K w0 l n x) : Rdm K w l n x := by
  obtain ⟨ao, cap, rfl, hc, hr⟩ := r.shape
  refine ⟨⟨ao, cap, rfl, hc, fun h0 => ?_⟩, fun k hk => h.type k (by rw [he]; exact hk)⟩
  obtain ⟨b, rfl, _⟩ := hr h0
  obtain ⟨vo, rc, rf, rfl, _, _, h⟩ := h
  obtain ⟨g, c, e, _⟩ := zba h (by omega)
  cases e
  simp [Value.ownBlock] at he
  subst he
  exact ⟨g, rfl, fun j i hj hi => zdd (n := 0) hx h j i (by omega) hi⟩
theorem GIn.next {w1 w w' : World} {l v : Value} {n M k g cap : Nat} (h : GIn K w1 l n M k v w) (o : Obj) (hO : Cut w' K.tE K.S (.slice (some ⟨g, 0, none⟩) (n + k + 1) cap) (n + k + 1) (zag (K.mark M) (n + k) ++ K.mark M)) (hW : Went (w.alloc o) v g w') (hl : ∀ k, l.ownBlock = some k -> k < w1.heap.size) :
    GIn K w1 l n M (k + 1) (.slice (some ⟨g, 0, none⟩) (n + k + 1) cap) w' := by
  have e : zag (K.mark M) (n + k) ++ K.mark M = zag (K.mark M) (n + k + 1) := (zef _ _).symm
  rw [e] at hO
  have hFa : Fr [] w (w.alloc o) := Fr.alloc [] _ _
  have hs1 := h.fr.size
  have hs2 := hFa.size
  rcases hW with ⟨hv, hg⟩ | ⟨hv, hg⟩
  · have hFg : Fr [g] (w.alloc o) w' := Fr.grown hg (by intro k hk _; cases hk; simp)
    rcases h.plc with hp | ⟨g', hp, hge⟩
    · have hlg : l.ownBlock = some g := by rw [<- hp, hv]
      refine ⟨hO, Rdm.own0 (K.len M) hO (by omega) hlg.symm h.rds, ?_, Or.inl hlg.symm⟩
      rw [hlg]
      have := h.fr
      rw [hlg] at this
      exact this.trans (hFa.trans hFg (by simp) (fun x hx _ => hx)) (fun x hx _ => hx) (fun x hx _ => by simpa using hx)
    · rw [hv] at hp
      cases hp
      have hne : ∀ k, l.ownBlock = some k -> k ≠ g := by intro k hk; have := hl k hk; omega
      have hF : Fr [g] w w' := hFa.trans hFg (by simp) (fun x hx _ => hx)
      refine ⟨hO, h.rds.keep hF (by intro k hk hm; exact hne k hk (by simpa using hm)), h.fr.trans hF (fun x hx _ => hx) ?_, Or.inr ⟨g, rfl, hge⟩⟩
      intro x hx hxl
      simp at hx
      omega
  · have hFg : Fr [] (w.alloc o) w' := Fr.grown hg (by simp)
    have hF := hFa.then hFg
    refine ⟨hO, h.rds.keep hF (by simp), h.fr.trans hF (fun x hx _ => hx) (by simp), Or.inr ⟨g, rfl, by omega⟩⟩
structure GrowInv (K : Kd) (w0 : World) (bk : Nat) (rv : Value) (hs0 : List HB) (i : Nat) (hs : List HB) (w : World) : Prop where
  bk : Bl K w bk rv hs
  len : hs.length = hs0.length
  same : ∀ (j : Nat) (a : HB), hs[j]? = some a -> ∃ b, hs0[j]? = some b /\ a.l = b.l /\ a.n = b.n
  done : ∀ (j : Nat) (a : HB), hs[j]? = some a -> j < i -> P2 K w a
  left : ∀ (j : Nat) (a : HB), hs[j]? = some a -> i <= j -> P1 K w a /\ a.long = .slice none 0 0
  sep : ∀ (j : Nat) (a : HB), hs[j]? = some a -> ∀ k, a.long.ownBlock = some k -> a.l.ownBlock = some k \/ w0.heap.size <= k
  apart : ∀ (j j' : Nat) (a b : HB), hs[j]? = some a -> hs[j']? = some b -> j ≠ j' -> ∀ k, a.long.ownBlock = some k -> b.long.ownBlock ≠ some k
  fr : Fr (rv.ownBlock.toList ++ lbs hs0) w0 w
theorem GrowInv.next {w0 w w1 w2 : World} {bk rb cap : Nat} {N : Nat} {hs0 hs : List HB} {i : Nat} {e : HB} {v : Value} {n : Nat} (h : GrowInv K w0 bk (.slice (some ⟨rb, 0, none⟩) N cap) hs0 i hs w) (ha : zda hs0) (hold : ∀ (j : Nat) (a : HB), hs0[j]? = some a -> ∀ k, a.l.ownBlock = some k -> k < w0.heap.size)
    (hi : hs[i]? = some e) (hN : N = hs.length) (hf1 : Fr [] w w1) (hG : GIn K w1 e.l n e.n 70 v w2) (hn : n < 17179869184) :
    GrowInv K w0 bk (.slice (some ⟨rb, 0, none⟩) N cap) hs0 (i + 1) (hs.set i { e with long := v }) (w2.setCell ⟨rb, i * 3 + 1, none⟩ v) := by
  have hlt : i < hs.length := (List.getElem?_eq_some_iff.1 hi).1
  have hf : Fr e.l.ownBlock.toList w w2 := hf1.trans hG.fr (by simp) (fun x hx _ => hx)
  obtain ⟨hP1e, _⟩ := h.left i e hi (Nat.le_refl _)
  have hte := hP1e.type
  have hw0 := h.fr.size
  have hw1 := hf1.size
  have hw2 := hG.fr.size
  obtain ⟨e0, he0, hel, hen⟩ := h.same i e hi
  -- the old blocks of the others are none of e's
  have hoth : ∀ (j : Nat) (b : HB), hs[j]? = some b -> j ≠ i -> ∀ k, b.l.ownBlock = some k -> k ∉ e.l.ownBlock.toList := by
    intro j b hb hne k hk hm
    obtain ⟨b0, hb0, hbl, _⟩ := h.same j b hb
    exact ha j i b0 e0 hb0 he0 hne k (by rw [<- hbl]; exact hk) (by rw [<- hel]; simpa using hm)
  have hothl : ∀ (j : Nat) (b : HB), hs[j]? = some b -> j ≠ i -> ∀ k, b.long.ownBlock = some k -> k ∉ e.l.ownBlock.toList := by
    intro j b hb hne k hk hm
    have hek : e.l.ownBlock = some k := by simpa using hm
    rcases h.sep j b hb k hk with hs' | hge
    · exact hoth j b hb hne k hs' hm
    · have := hold i e0 he0 k (by rw [<- hel]; exact hek)
      omega
  have hbk2 : Bl K w2 bk (.slice (some ⟨rb, 0, none⟩) N cap) hs := by
    refine h.bk.keep hf ?_ ?_
    · intro hm
      obtain ⟨cs, hc⟩ := hte bk (by simpa using hm)
      exact (h.bk.apart hc).1 rfl
    · intro k hk hm
      obtain ⟨cs, hc⟩ := hte k (by simpa using hm)
      exact (h.bk.apart hc).2 hk
  have hrow2 := hbk2.row
  rw [<- hN] at hrow2
  have hput := zcn hrow2 (i * 3 + 1) v
  rw [<- zue hs i e hi v] at hput
  have hfs : Fr [rb] w2 (w2.setCell ⟨rb, i * 3 + 1, none⟩ v) := Fr.set _ _ _ (by simp)
  have hrb : ∀ k cs, w2.heap[k]? = some (.cells cs K.tE (0, 0)) -> k ∉ [rb] := by
    intro k cs hk hm
    exact (hbk2.apart hk).2 (by simp at hm; rw [hm]; rfl)
  have hset : ∀ (j : Nat) (a : HB), (hs.set i { e with long := v })[j]? = some a -> (j = i /\ a = { e with long := v }) \/ (j ≠ i /\ hs[j]? = some a) := by
    intro j a ha'
    by_cases hji : j = i
    · subst hji
      rw [List.getElem?_set_self hlt] at ha'
      exact Or.inl ⟨rfl, by cases ha'; rfl⟩
    · rw [List.getElem?_set_ne (fun e => hji e.symm)] at ha'
      exact Or.inr ⟨hji, ha'⟩
  have hlg := hG.own.lt
  refine ⟨⟨?_, ?_, ?_, ?_⟩, ?_, ?_, ?_, ?_, ?_, ?_, ?_⟩
  · obtain ⟨cs, b1, b2⟩ := hbk2.box
    exact ⟨cs, hfs.keep b1 (by intro hm; simp at hm; exact hbk2.other (by rw [hm]; rfl)), b2⟩
  · rw [List.length_set, <- hN]
    exact hput
  · rw [List.length_set]; exact hbk2.few
  · intro j a haj
    rcases hset j a haj with ⟨rfl, rfl⟩ | ⟨_, haj⟩
    · exact hbk2.num j e hi
    · exact hbk2.num j a haj
  · rw [List.length_set, h.len]
  · intro j a haj
    rcases hset j a haj with ⟨rfl, rfl⟩ | ⟨_, haj⟩
    · exact ⟨e0, he0, hel, hen⟩
    · exact h.same j a haj
  · intro j a haj hj
    rcases hset j a haj with ⟨rfl, rfl⟩ | ⟨hne, haj⟩
    · refine P2.keep (S := [rb]) ⟨n, hG.rds, hG.own, hn⟩ hfs ?_ ?_
      · intro k hk
        obtain ⟨cs, hc⟩ := hG.rds.type k hk
        exact hrb k cs hc
      · intro k hk
        obtain ⟨cs, hc⟩ := hG.own.type k hk
        exact hrb k cs hc
    · have hp := (h.done j a haj (by omega)).keep hf (hoth j a haj hne) (hothl j a haj hne)
      obtain ⟨m, q1, q2, q3⟩ := hp
      refine P2.keep (S := [rb]) ⟨m, q1, q2, q3⟩ hfs ?_ ?_
      · intro k hk
        obtain ⟨cs, hc⟩ := q1.type k hk
        exact hrb k cs hc
      · intro k hk
        obtain ⟨cs, hc⟩ := q2.type k hk
        exact hrb k cs hc
  · intro j a haj hj
    rcases hset j a haj with ⟨rfl, rfl⟩ | ⟨hne, haj⟩
    · omega
    · obtain ⟨hp, hnil⟩ := h.left j a haj (by omega)
      have hp2 := hp.keep hf (hoth j a haj hne)
      exact ⟨hp2.keep hfs (by intro k hk; obtain ⟨cs, hc⟩ := hp2.type k hk; exact hrb k cs hc), hnil⟩
  · intro j a haj k hk
    rcases hset j a haj with ⟨rfl, rfl⟩ | ⟨hne, haj⟩
    · rcases hG.plc with hp | ⟨g, hp, hge⟩
      · exact Or.inl (by rw [<- hp]; exact hk)
      · rw [hp] at hk
        cases hk
        exact Or.inr (by omega)
    · exact h.sep j a haj k hk
  · have key : ∀ (j : Nat) (b : HB), hs[j]? = some b -> j ≠ i -> ∀ k, v.ownBlock = some k -> b.long.ownBlock ≠ some k := by
      intro j b hb hne k hk hbk
      rcases hG.plc with hp | ⟨g, hp, hge⟩
      · rw [hp] at hk
        exact hothl j b hb hne k hbk (by simpa using hk)
      · rw [hp] at hk
        cases hk
        by_cases hji : j < i
        · obtain ⟨m, _, q2, _⟩ := h.done j b hb hji
          have := q2.lt k hbk
          omega
        · obtain ⟨_, hnil⟩ := h.left j b hb (by omega)
          rw [hnil] at hbk
          simp [Value.ownBlock] at hbk
    intro j j' a b haj hbj hne k hk hk'
    rcases hset j a haj with ⟨hj, ea⟩ | ⟨hnj, haj2⟩
    · rcases hset j' b hbj with ⟨hj', _⟩ | ⟨hnj', hbj2⟩
      · exact hne (hj.trans hj'.symm)
      · rw [ea] at hk
        exact key j' b hbj2 hnj' k hk hk'
    · rcases hset j' b hbj with ⟨_, eb⟩ | ⟨hnj', hbj2⟩
      · rw [eb] at hk'
        exact key j a haj2 hnj k hk' hk
      · exact h.apart j j' a b haj2 hbj2 hne k hk hk'
  · refine (h.fr.trans hf (fun x hx _ => hx) ?_).trans hfs (fun x hx _ => hx) ?_
    · intro x hx _
      refine List.mem_append_right _ (mem_lbs.2 ⟨e0, List.mem_of_getElem? he0, ?_⟩)
      rw [<- hel]
      simpa using hx
    · intro x hx _
      simp at hx
      subst hx
      simp [Value.ownBlock]
theorem zug (X a : Value) (R : List Value) (k : Nat) : (zag [X] k ++ a :: R).set k X = zag [X] (k + 1) ++ R := by
  have hl : (zag [X] k).length = k := by rw [zdi]; simp
  rw [List.set_append_right _ _ (by omega), hl, Nat.sub_self, zef]
  simp
theorem zzh (X Y a b : Value) (R : List Value) (k : Nat) : ((zag [X, Y] k ++ a :: b :: R).set (k * 2) X).set (k * 2 + 1) Y = zag [X, Y] (k + 1) ++ R := by
  have hl : (zag [X, Y] k).length = k * 2 := by rw [zdi]; rfl
  rw [List.set_append_right _ _ (by omega), hl, Nat.sub_self, List.set_append_right _ _ (by omega), hl, show k * 2 + 1 - k * 2 = 1 by omega, zef]
  simp
theorem zzi (X Y Z a b c : Value) (R : List Value) (k : Nat) : (((zag [X, Y, Z] k ++ a :: b :: c :: R).set (k * 3) X).set (k * 3 + 1) Y).set (k * 3 + 2) Z = zag [X, Y, Z] (k + 1) ++ R := by
  have hl : (zag [X, Y, Z] k).length = k * 3 := by rw [zdi]; rfl
  rw [List.set_append_right _ _ (by omega), hl, Nat.sub_self, List.set_append_right _ _ (by omega), hl, show k * 3 + 1 - k * 3 = 1 by omega, List.set_append_right _ _ (by omega), hl, show k * 3 + 2 - k * 3 = 2 by omega, zef]
  simp
theorem zuh {R : List Value} {n k : Nat} (hk : k < n) (h : R.length = (n - k) * 1) : ∃ a S, R = a :: S /\ S.length = (n - (k + 1)) * 1 := by
  match R, h with
  | a :: S, h => exact ⟨a, S, rfl, by simp at h ⊢; omega⟩
  | [], h => simp at h; omega
theorem zzj {R : List Value} {n k : Nat} (hk : k < n) (h : R.length = (n - k) * 2) : ∃ a b S, R = a :: b :: S /\ S.length = (n - (k + 1)) * 2 := by
  match R, h with
  | a :: b :: S, h => exact ⟨a, b, S, rfl, by simp at h ⊢; omega⟩
  | [], h => simp at h; omega
  | [_], h => simp at h; omega
theorem zzk {R : List Value} {n k : Nat} (hk : k < n) (h : R.length = (n - k) * 3) : ∃ a b c S, R = a :: b :: c :: S /\ S.length = (n - (k + 1)) * 3 := by
  match R, h with
  | a :: b :: c :: S, h => exact ⟨a, b, c, S, rfl, by simp at h ⊢; omega⟩
  | [], h => simp at h; omega
  | [_], h => simp at h; omega
  | [_, _], h => simp at h; omega
theorem behind {w : World} {e : TypeId} {t n cap size k : Nat} {x R : List Value} (hx : x.length = size) (hO : w.ownsRow 0 e size (.slice (some ⟨t, 0, none⟩) n cap) n (zag x k ++ R)) (j : Nat) (u : Value) (hj : R[j]? = some u) : w.cell? ⟨t, k * size + j, none⟩ = some u := by
  have hl : (zag x k).length = k * size := by rw [zdi, hx]
  have hlen := hO.1
  have hjl := (List.getElem?_eq_some_iff.1 hj).1
  rw [List.length_append, hl] at hlen
  rw [hO.cellAt (k * size + j) (by omega), List.getElem?_append_right (by omega), hl, Nat.add_sub_cancel_left]
  exact hj
theorem res_c1 {fn : Func} {p : Tmp} {t : TypeId} (h : fn.results = #[.cell p t]) (tmps : Array Value) (P : Program) (w : World) :
    (results fn tmps).run P w = ((asAddr (tmps.getD p undef)).run P w).andThen fun a w₁ => (loadVar t a).run P w₁ := by
  simp only [results, h]
  simp [Sem.run_bind, Result.andThen]
theorem GIn.keep {K : Kd} {w1 w w' : World} {l v : Value} {n M k : Nat} (h : GIn K w1 l n M k v w) (hf : Fr [] w w') : GIn K w1 l n M k v w' :=
  ⟨h.own.keep hf (by simp), h.rds.keep hf (by simp), h.fr.trans hf (fun x hx _ => hx) (by simp), h.plc⟩
def zgu (n : Nat) : Nat := 1 + n % 255
def mInt (n : Nat) : Int := -1000 - (n : Int)
abbrev kByte : Kd := { tH := 111, tE := 5, S := 1, mark := fun n => [.int .u8 (zgu n : Int)], col := 1, pos := by decide, len := fun _ => rfl, hE := by decide, hB := by decide, eB := by decide }
abbrev kInt : Kd := { tH := 114, tE := 3, S := 1, mark := fun n => [.int .i64 (mInt n)], col := 2, pos := by decide, len := fun _ => rfl, hE := by decide, hB := by decide, eB := by decide }
theorem zik (n B : Nat) (w : World) (hn : n < 134217728) (hB : zgu n = B) : Calls Tryz.prog 98 #[.int .i64 (n : Int)] w fun e w' => e = .returned (.int .u8 (B : Int)) /\ Fr [] w w' := by
  have h1 : (1 + (n : Int) % 255) % 256 = ((1 + n % 255 : Nat) : Int) := by omega
  have HM : Hid ((1 + n % 255 : Nat) = B) := hB
  clear hB
  go_enter Tryz.func98, Tryz.ntmps98
  go_wp2
  go_ret
  rw [<- HM.out]
  exact ⟨rfl, Fr.refl _ _⟩
theorem zjz (n : Nat) (B : Int) (w : World) (hn : n < 134217728) (hB : mInt n = B) : Calls Tryz.prog 99 #[.int .i64 (n : Int)] w fun e w' => e = .returned (.int .i64 B) /\ Fr [] w w' := by
  have HM : Hid (-1000 - (n : Int) = B) := hB
  clear hB
  go_enter Tryz.func99, Tryz.ntmps99
  go_wp2
  go_ret
  rw [<- HM.out]
  exact ⟨rfl, Fr.refl _ _⟩
open BigFrame
structure Wd (w1 : World) where
  W : World
  h : Fr [] w1 W
instance (w1 : World) : Nonempty (Wd w1) := ⟨⟨w1, Fr.refl _ _⟩⟩
theorem zbm {P : Program} {w1 wr : World} {id : Nat} {Q : Exit -> Act -> World -> Prop} {a : Act} {l : List Oper} (hm : P.follows .mixedOrders = true) (hB : Region.lexB .any l.toArray = true) (hf : Fr [] w1 wr)
    (h : wpQuiet P l.toArray (fun w' => ∃ x : Wd w1, w' = x.W) (fun a' => ∀ w', (∃ x : Wd w1, w' = x.W) -> Q .normal a' w') l a) : (Code.region id l.toArray true).wp P Q a wr :=
  wp_region_quiet (C := fun w' => ∃ x : Wd w1, w' = x.W) hm hB ⟨⟨_, hf.then (Fr.drew [] wr)⟩, rfl⟩ (by simpa using h)
theorem zls (n B : Nat) (w : World) (hn : n < 134217728) (hB : zgu n = B) : Calls Tryz.prog 109 #[.int .u8 (B : Int), .int .i64 (n : Int)] w fun e w' => e = .returned (.bool true) /\ Fr [] w w' := by
  have h1 : (1 + (n : Int) % 255) % 256 = ((1 + n % 255 : Nat) : Int) := by omega
  subst hB
  unfold zgu
  go_enter Tryz.func109, Tryz.ntmps109
  go_wp2
  go_ret
  exact ⟨rfl, Fr.refl _ _⟩
theorem znr (n : Nat) (B : Int) (w : World) (hn : n < 134217728) (hB : mInt n = B) : Calls Tryz.prog 110 #[.int .i64 B, .int .i64 (n : Int)] w fun e w' => e = .returned (.bool true) /\ Fr [] w w' := by
  subst hB
  unfold mInt
  go_enter Tryz.func110, Tryz.ntmps110
  go_wp2
  go_ret
  exact ⟨by simp, Fr.refl _ _⟩
end Go.Proofs.YtembflnhhfliaaaGreatDoor.Bq
