/- Texts of this claim laid together, one behind the other: contracts and plain lemmas; conditions as each names them. -/
import Derived.Test.YtaaghcimfcjehaaGreatDoorGp7
import Derived.Test.YtaaghcimfcjehaaGreatDoorGp10
import Derived.Test.YtaaghcimfcjehaaGreatDoorGp11
import Derived.Test.YtaaghcimfcjehaaGreatDoorGp12
import Derived.Test.YtaaghcimfcjehaaGreatDoorGp2
import Derived.Deep.AppendSrc
import Derived.Deep.RegionHeld3
import Derived.WalkSpells
import Derived.OwnWalk
import Derived.Laws.CopyOwn
/- The events' story as plain mathematics: where it stands, what each task's step tells and leaves. Plain definitions and lemmas. -/
namespace Go.Proofs.YtaaghcimfcjehaaGreatDoor
set_option linter.unusedVariables false
set_option linter.unusedSimpArgs false

/-- An event. -/
structure Ev where
  t : Int
  k : Int
  n : Int
  s : Int
  c : Int
  m : Int
def Ev.no : Ev := ⟨0, 0, 0, 0, 0, 0⟩
/-- What a step tells by itself: kind, number, shard, count. -/
structure Te where
  k : Int
  n : Int
  s : Int
  c : Int
def Te.no : Te := ⟨0, 0, 0, 0⟩
/-- Where a story stands: what was read, is it held, the mark, those beyond, those added and ended; whom each lane holds; the rows of numbers (0 the line, 1 those passed, 2 + i what lane i has left, 18 + j the queue j); how many requests each has in queues; the stage of each call. -/
structure Sy where
  read : Int
  holds : Bool
  ma : Int
  bx : List Int
  L : Lg
  en : Int → Prop
  num : Nat → Int
  R : Nat → List Int
  F : Int → Int
  G : Int → Int
def upd {α : Type} (f : Nat → α) (i : Nat) (v : α) : Nat → α := fun j => if j = i then v else f j
def updI {α : Type} (f : Int → α) (i : Int) (v : α) : Int → α := fun j => if j = i then v else f j
theorem upd_same {α : Type} (f : Nat → α) (i : Nat) (v : α) : upd f i v i = v := if_pos rfl
theorem upd_other {α : Type} (f : Nat → α) {i j : Nat} (v : α) (h : j ≠ i) : upd f i v j = f j := if_neg h
theorem updI_same {α : Type} (f : Int → α) (i : Int) (v : α) : updI f i v i = v := if_pos rfl
theorem updI_other {α : Type} (f : Int → α) {i j : Int} (v : α) (h : j ≠ i) : updI f i v j = f j := if_neg h
/-- The writes of a transaction of the log. -/
def wsAt (T : List Tx) (n : Int) : List Wt := (T.getD (n - 1).toNat Tx.zero).ws
/-- The shards of its writes that count. -/
noncomputable def shs (c : Cf) (T : List Tx) (n : Int) : List Int := (dd (wsAt T n)).map fun x => shN13 c.s x.key
open Classical in
/-- For whom a new one waits. -/
noncomputable def adx (L : Lg) (en : Int → Prop) (ks : List ByteArray) : List Int := if h : ∃ xs, AdT L en ks xs then Classical.choose h else []
theorem adx_eq {L : Lg} {en : Int → Prop} {ks : List ByteArray} {xs : List Int} (h : AdT L en ks xs) : adx L en ks = xs := by
  have hx : ∃ xs, AdT L en ks xs := ⟨xs, h⟩
  unfold adx
  rw [dif_pos hx]
  have h2 := Classical.choose_spec hx
  exact Ris.one h2.1 h.1 (fun m => (h2.2 m).trans (h.2 m).symm)
/-- May this one end now? -/
def Mye (L : Lg) (en : Int → Prop) (n : Int) : Prop := Op11 L en n ∧ ∀ y, Op11 L en y → ¬ Dep L n y
open Classical in
/-- Who is free behind its end. -/
noncomputable def frx (L : Lg) (en : Int → Prop) (n : Int) : List Int := if h : Mye L en n ∧ ∃ zs, DoT L (Op11 L en) n zs then Classical.choose h.2 else []
open Classical in
noncomputable def enx (L : Lg) (en : Int → Prop) (n : Int) : Int → Prop := if Mye L en n then fun x => en x ∨ x = n else en
theorem frx_eq {L : Lg} {en : Int → Prop} {n : Int} {zs : List Int} (hm : Mye L en n) (h : DoT L (Op11 L en) n zs) : frx L en n = zs := by
  have hx : Mye L en n ∧ ∃ zs, DoT L (Op11 L en) n zs := ⟨hm, zs, h⟩
  unfold frx
  rw [dif_pos hx]
  have h2 := Classical.choose_spec hx.2
  exact Ris.one h2.1 h.1 (fun m => (h2.2 m).trans (h.2 m).symm)
theorem frx_no {L : Lg} {en : Int → Prop} {n : Int} (hm : ¬ Mye L en n) : frx L en n = [] := by
  unfold frx
  rw [dif_neg (fun h => hm h.1)]
theorem enx_yes {L : Lg} {en : Int → Prop} {n : Int} (hm : Mye L en n) : enx L en n = fun x => en x ∨ x = n := if_pos hm
theorem enx_no {L : Lg} {en : Int → Prop} {n : Int} (hm : ¬ Mye L en n) : enx L en n = en := if_neg hm
/-- What the gate says of one that is there now: by how much the mark goes up, the mark, those beyond. -/
def gdx (m : Int) (xs : List Int) (n : Int) : Int × Int × List Int := if 1 ≤ n ∧ n ≤ 65536 ∧ ¬ (n ≤ m ∨ n ∈ xs) then ((adv m (insI n xs)).1 - m, (adv m (insI n xs)).1, (adv m (insI n xs)).2) else (0, m, xs)
theorem gdx_of {m n up er m' : Int} {xs xs' : List Int} (h : GDo m xs n up er m' xs') : gdx m xs n = (up, m', xs') := by
  unfold gdx
  rcases h.or with ⟨h1, rfl, rfl, rfl, rfl⟩ | ⟨h1, rfl, rfl, h2⟩
  · rw [if_neg h1]
  · rw [if_pos h1, ← h2]
/-- The dispatcher's step. -/
noncomputable def dsp (c : Cf) (T : List Tx) (s : Sy) : Te × Sy :=
  if s.holds = false then
    if s.read < (T.length : Int) then (⟨1, s.read + 1, 0, 0⟩, { s with read := s.read + 1, holds := true }) else (Te.no, s)
  else if s.read ≤ s.ma ∨ s.read ∈ s.bx then (⟨2, s.read, 0, 0⟩, { s with holds := false })
  else if s.read ≤ s.ma + c.w then
    (⟨3, s.read, 0, ((adx s.L s.en (keysW (wsAt T s.read))).length : Int)⟩, { s with holds := false, L := s.L ++ [(s.read, keysW (wsAt T s.read))], R := if (adx s.L s.en (keysW (wsAt T s.read))).length = 0 then upd s.R 0 (s.R 0 ++ [s.read]) else s.R })
  else (Te.no, s)
/-- A request goes to a queue's end. -/
def asks (s : Sy) (q : Nat) (n : Int) : Sy := { s with R := upd s.R (18 + q) (s.R (18 + q) ++ [n]), F := updI s.F n (s.F n + 1) }
/-- A lane's step. -/
noncomputable def lan (c : Cf) (T : List Tx) (s : Sy) (i : Nat) : Te × Sy :=
  if s.num i = 0 then
    match s.R 0 with
    | [] => (Te.no, s)
    | n :: r => (⟨4, n, 0, 0⟩, { s with num := upd s.num i n, R := upd (upd s.R 0 r) (2 + i) (shs c T n) })
  else
    match s.R (2 + i) with
    | q :: r => if ((s.R (18 + q.toNat)).length : Int) < c.q then (⟨5, s.num i, q, 0⟩, { asks s q.toNat (s.num i) with R := upd (asks s q.toNat (s.num i)).R (2 + i) r }) else (Te.no, s)
    | [] => if s.F (s.num i) = 0 then (⟨6, s.num i, 0, 0⟩, { s with num := upd s.num i 0, R := upd s.R 1 (s.R 1 ++ [s.num i]) }) else (Te.no, s)
/-- An owner's step. -/
def own (s : Sy) (j : Nat) : Te × Sy :=
  match s.R (18 + j) with
  | [] => (Te.no, s)
  | n :: r => (⟨7, n, (j : Int), 0⟩, { s with R := upd s.R (18 + j) r, F := updI s.F n (s.F n - 1) })
/-- The gate's step. -/
noncomputable def gat (s : Sy) : Te × Sy :=
  match s.R 1 with
  | [] => (Te.no, s)
  | n :: r => (⟨8, n, 0, (gdx s.ma s.bx n).1⟩, { s with ma := (gdx s.ma s.bx n).2.1, bx := (gdx s.ma s.bx n).2.2, en := enx s.L s.en n, R := upd (upd s.R 1 r) 0 (s.R 0 ++ frx s.L s.en n) })
/-- A call's step. -/
def cal (c : Cf) (s : Sy) (n : Int) (e : Ev) : Te × Sy :=
  if e.k = 9 ∧ s.G n = 0 then (⟨9, n, 0, 0⟩, { s with G := updI s.G n 1 })
  else if e.k = 10 ∧ s.G n = 1 ∧ 0 ≤ e.s ∧ e.s < c.s ∧ ((s.R (18 + e.s.toNat)).length : Int) < c.q then (⟨10, n, e.s, 0⟩, asks s e.s.toNat n)
  else if e.k = 11 ∧ s.G n = 1 ∧ s.F n = 0 ∧ 0 ≤ e.c then (⟨11, n, 0, e.c⟩, s)
  else if e.k = 12 ∧ s.G n = 1 ∧ s.F n = 0 then (⟨12, n, 0, 0⟩, { s with G := updI s.G n 2 })
  else (Te.no, s)
/-- The step of an event's task. -/
noncomputable def stp (c : Cf) (T : List Tx) (s : Sy) (e : Ev) : Te × Sy :=
  if e.t < 0 then cal c s e.t e else if e.t = 0 then dsp c T s else if e.t ≤ c.l then lan c T s (e.t - 1).toNat else if e.t ≤ c.l + c.s then own s (e.t - c.l - 1).toNat else if e.t = c.l + c.s + 1 then gat s else (Te.no, s)
/-- The event that a replica would tell of it. -/
noncomputable def tolE (c : Cf) (T : List Tx) (s : Sy) (e : Ev) : Ev :=
  if e.t < c.l + c.s + 2 then ⟨e.t, (stp c T s e).1.k, (stp c T s e).1.n, (stp c T s e).1.s, (stp c T s e).1.c, (stp c T s e).2.ma⟩ else Ev.no
/-- It can be next. -/
def Can (c : Cf) (T : List Tx) (s : Sy) (e : Ev) : Prop := (tolE c T s e).k ≠ 0 ∧ tolE c T s e = e
open Classical in
/-- The story goes on, as far as each can be next: how many, and where it stands then. -/
noncomputable def goes (c : Cf) (T : List Tx) (s : Sy) : List Ev → Nat × Sy
  | [] => (0, s)
  | e :: r => if Can c T s e then ((goes c T (stp c T s e).2 r).1 + 1, (goes c T (stp c T s e).2 r).2) else (0, s)
theorem goes_snoc {c : Cf} {T : List Tx} : ∀ (es : List Ev) (s : Sy) (e : Ev), (goes c T s es).1 = es.length → Can c T (goes c T s es).2 e → goes c T s (es ++ [e]) = (es.length + 1, (stp c T (goes c T s es).2 e).2)
  | [], s, e, _, h => by simp only [List.nil_append, goes] at *; rw [if_pos h]; rfl
  | x :: r, s, e, h1, h2 => by
    have hx : Can c T s x := Classical.byContradiction fun hx => by simp [goes, if_neg hx] at h1
    simp only [goes, if_pos hx, List.length_cons, Nat.add_right_cancel_iff] at h1 h2
    have := goes_snoc r _ e h1 h2
    simp only [List.cons_append, goes, if_pos hx, this, List.length_cons]
theorem goes_stop {c : Cf} {T : List Tx} : ∀ (es : List Ev) (s : Sy) (e : Ev) (r : List Ev), (goes c T s es).1 = es.length → ¬ Can c T (goes c T s es).2 e → goes c T s (es ++ e :: r) = (es.length, (goes c T s es).2)
  | [], s, e, r, _, h => by simp only [List.nil_append, goes] at *; rw [if_neg h]; rfl
  | x :: q, s, e, r, h1, h2 => by
    have hx : Can c T s x := Classical.byContradiction fun hx => by simp [goes, if_neg hx] at h1
    simp only [goes, if_pos hx, List.length_cons, Nat.add_right_cancel_iff] at h1 h2
    have := goes_stop q _ e r h1 h2
    simp only [List.cons_append, goes, if_pos hx, this, List.length_cons]
theorem goes_le {c : Cf} {T : List Tx} : ∀ (es : List Ev) (s : Sy), (goes c T s es).1 ≤ es.length
  | [], s => Nat.le_refl _
  | e :: r, s => by
    unfold goes
    split
    · simp only [List.length_cons]; have := goes_le (c := c) (T := T) r (stp c T s e).2; omega
    · exact Nat.zero_le _
/-- The first ones go as far as the whole does. -/
theorem goes_take {c : Cf} {T : List Tx} : ∀ (es : List Ev) (s : Sy), goes c T s (es.take (goes c T s es).1) = goes c T s es
  | [], s => rfl
  | e :: r, s => by
    by_cases h : Can c T s e
    · have ih := goes_take (c := c) (T := T) r (stp c T s e).2
      simp only [goes, if_pos h, List.take_succ_cons, ih]
    · simp [goes, if_neg h]
/-- One more than it goes, with anything behind, goes no further. -/
theorem goes_more {c : Cf} {T : List Tx} : ∀ (es : List Ev) (s : Sy) (q : List Ev), (goes c T s es).1 < es.length → goes c T s (es.take ((goes c T s es).1 + 1) ++ q) = goes c T s es
  | [], s, q, h => by simp [goes] at h
  | e :: r, s, q, h => by
    by_cases hc : Can c T s e
    · simp only [goes, if_pos hc, List.length_cons, Nat.add_lt_add_iff_right] at h
      have ih := goes_more (c := c) (T := T) r (stp c T s e).2 q h
      simp only [goes, if_pos hc, List.take_succ_cons, List.cons_append, ih]
    · simp [goes, if_neg hc]
/-- What holds of a story that has gone k steps. -/
structure Iv (c : Cf) (T : List Tx) (s : Sy) (k : Nat) : Prop where
  low : 0 ≤ s.read
  top : s.read ≤ (T.length : Int)
  hold : s.holds = true → 1 ≤ s.read
  old : ∀ p ∈ s.L, p.1 ≤ s.read ∧ (s.holds = true → p.1 < s.read)
  line : ∀ n ∈ s.R 0, 1 ≤ n ∧ n ≤ (T.length : Int)
  pass : ∀ n ∈ s.R 1, 1 ≤ n ∧ n ≤ (T.length : Int)
  held : ∀ i, s.num i = 0 ∨ (1 ≤ s.num i ∧ s.num i ≤ (T.length : Int))
  left : ∀ i, i < 16 → ∀ q ∈ s.R (2 + i), 0 ≤ q ∧ q < c.s
  fewL : ∀ i, i < 16 → (s.R (2 + i)).length ≤ 32
  queue : ∀ j, j < 16 → ((s.R (18 + j)).length : Int) ≤ c.q
  que : ∀ j, j < 16 → ∀ n ∈ s.R (18 + j), I6 n
  few0 : (s.R 0).length ≤ 65537 * k
  few1 : (s.R 1).length ≤ k
  cnt : ∀ n, -(k : Int) ≤ s.F n ∧ s.F n ≤ k
end Go.Proofs.YtaaghcimfcjehaaGreatDoor
/- A slice of numbers that is cut at its head and appended to, one or several at a time. Conditions as each names them. -/
namespace Go.Proofs.YtaaghcimfcjehaaGreatDoor
open Go.ChangeShapes Go.WideShapes Go.ChangeAt Go.RowKit Go.Lib
set_option linter.unusedVariables false
set_option linter.unusedSimpArgs false

theorem ints_get (xs : List Int) (j : Nat) (h : j < xs.length) : (ints xs)[j]? = some (.int .i64 (xs.getD j 0)) := by simp [ints, List.getD, h]
theorem ints_one (xs : List Int) : ∀ u ∈ ints xs, u.oneCell' = true := by
  intro u hu
  obtain ⟨_, _, rfl⟩ := List.mem_map.1 hu
  rfl
/-- The slice reads as the numbers xs; its room lies in its block. -/
structure QR (w : World) (lo : Option Addr) (n c : Nat) (xs : List Int) : Prop where
  len : n = xs.length
  fit : n ≤ c
  row : (lo = none ∧ c = 0) ∨ ∃ b off cur, lo = some ⟨b, off, none⟩ ∧ w.heap[b]? = some (.cells cur 3 (0, 0)) ∧ off + c ≤ cur.size ∧ ∀ j v, (ints xs)[j]? = some v → cur[off + j]? = some v
/-- Its block. -/
def qb (lo : Option Addr) : Option Nat := lo.map fun a => a.block
theorem QR.nil (w : World) : QR w none 0 0 [] := ⟨rfl, Nat.le_refl _, .inl ⟨rfl, rfl⟩⟩
theorem QR.keep {S : List Nat} {w w' : World} {lo : Option Addr} {n c : Nat} {xs : List Int} (h : QR w lo n c xs) (hf : Fr S w w') (hn : ∀ b, qb lo = some b → b ∉ S) : QR w' lo n c xs := by
  refine ⟨h.len, h.fit, ?_⟩
  rcases h.row with h | ⟨b, off, cur, rfl, hb, h⟩
  · exact .inl h
  · exact .inr ⟨b, off, cur, rfl, hf.keep hb (hn b rfl), h⟩
theorem QR.blk {w : World} {lo : Option Addr} {n c : Nat} {xs : List Int} (h : QR w lo n c xs) {b : Nat} (hb : qb lo = some b) : ∃ cur, w.heap[b]? = some (.cells cur 3 (0, 0)) := by
  rcases h.row with ⟨rfl, h0⟩ | ⟨b, off, cur, rfl, hb', _, hc⟩
  · cases hb
  · cases hb; exact ⟨cur, hb'⟩
theorem QR.lt {w : World} {lo : Option Addr} {n c : Nat} {xs : List Int} (h : QR w lo n c xs) {b : Nat} (hb : qb lo = some b) : b < w.heap.size := by
  obtain ⟨cur, hc⟩ := h.blk hb
  exact lt_of_block hc
theorem QR.of_own {base : Nat} {w : World} {o : Option Addr} {n c : Nat} {xs : List Int} (h : IOw base w o n c xs) : QR w o n c xs := by
  refine ⟨h.len, h.cap, ?_⟩
  rcases h.row.2 with ⟨hh, h0⟩ | ⟨g, cap, cur, hh, hb', hg, hc, hs, _, ht⟩
  · cases hh; exact .inl ⟨rfl, rfl⟩
  · cases hh
    refine .inr ⟨g, 0, cur, rfl, hg, by omega, fun j v hj => ?_⟩
    have hN := h.len
    have hjl := (List.getElem?_eq_some_iff.1 hj).1
    rw [ints_length] at hjl
    rw [Nat.zero_add, ← Array.getElem?_toList]
    have h1 : (cur.toList.take (n * 1))[j]? = (ints xs)[j]? := by rw [ht]
    rw [List.getElem?_take_of_lt (by omega)] at h1
    rw [h1]
    exact hj
/-- The first one lies at its head; what is left behind it. -/
theorem QR.first {w : World} {lo : Option Addr} {n c : Nat} {x : Int} {xs : List Int} (h : QR w lo n c (x :: xs)) : ∃ b off, lo = some ⟨b, off, none⟩ ∧ w.cell? ⟨b, off, none⟩ = some (.int .i64 x) ∧ 0 < c ∧ n = xs.length + 1 ∧ ∀ so, so = (if c = 1 then some ⟨b, off, none⟩ else some ⟨b, off + 1, none⟩) → QR w so (n - 1) (c - 1) xs ∧ qb so = qb lo := by
  have hl := h.len
  have hf := h.fit
  simp only [List.length_cons] at hl
  rcases h.row with ⟨_, h0⟩ | ⟨b, off, cur, rfl, hb, hoc, hc⟩
  · omega
  · refine ⟨b, off, rfl, ?_, by omega, hl, ?_⟩
    · rw [cell_of_row _ _ _ _ _ _ hb]
      simpa using hc 0 (.int .i64 x) (by simp [ints])
    · rintro so rfl
      by_cases h1 : c = 1
      · rw [if_pos h1]
        have : xs = [] := List.eq_nil_of_length_eq_zero (by omega)
        subst this
        exact ⟨⟨by simp at hl; simp; omega, by omega, .inr ⟨b, off, cur, rfl, hb, by omega, fun j v hj => by simp [ints] at hj⟩⟩, rfl⟩
      · rw [if_neg h1]
        refine ⟨⟨by omega, by omega, .inr ⟨b, off + 1, cur, rfl, hb, by omega, fun j v hj => ?_⟩⟩, rfl⟩
        rw [Nat.add_assoc, Nat.add_comm 1 j]
        exact hc (j + 1) v (by simpa [ints] using hj)
theorem Tryz.undIsQ : Tryz.prog.underlying 25 = some (.slice 3) := by kernel_rfl
theorem qrow_setCell {w : World} {b j : Nat} {cs : Array Value} {t : TypeId} (x : Value) (h : w.heap[b]? = some (.cells cs t (0, 0))) : (w.setCell ⟨b, j, none⟩ x).heap[b]? = some (.cells (cs.setIfInBounds j x) t (0, 0)) := by
  have hlt := lt_of_block h
  have h' : w.heap[b] = .cells cs t (0, 0) := by simpa [Array.getElem?_eq_getElem hlt] using h
  show (w.heap.modify b _)[b]? = _
  rw [Array.getElem?_eq_getElem (by simpa using hlt), Array.getElem_modify_self, h']
  rfl
theorem setCells_row {b : Nat} {t : TypeId} : ∀ (vs : List Value) (o : Nat) (w : World) (cur : Array Value), w.heap[b]? = some (.cells cur t (0, 0)) → o + vs.length ≤ cur.size → (w.setCells b o vs).heap[b]? = some (.cells (splice cur.toList o vs).toArray t (0, 0)) ∧ Fr [b] w (w.setCells b o vs)
  | [], o, w, cur, h, hl => by
    refine ⟨?_, Fr.refl _ _⟩
    rw [World.setCells, h]
    simp [splice]
  | v :: r, o, w, cur, h, hl => by
    simp only [List.length_cons] at hl
    have h1 := qrow_setCell (j := o) v h
    obtain ⟨h2, h3⟩ := setCells_row r (o + 1) (w.setCell ⟨b, o, none⟩ v) _ h1 (by simp; omega)
    rw [World.setCells]
    refine ⟨?_, (Fr.set (S := [b]) _ _ _ (by simp)).then h3⟩
    rw [h2]
    congr 3
    have e := list_seg_step cur.toList o v r (by simp; omega)
    simp only [splice, Array.toList_setIfInBounds]
    rw [← List.append_assoc, e]
    simp [Nat.add_assoc, Nat.add_comm 1]
/-- More behind it. -/
theorem run_appQs (w : World) (ty : TypeId) (lo : Option Addr) (n c : Nat) (xs : List Int) (v : Value) (m : Nat) (ys : List Int) (h : QR w lo n c xs) (hm : m = ys.length) (hsrc : Src Tryz.prog 1 25 v m (ints ys) w) (hn : n + m ≤ 2199023255552) :
    ∃ lo' c' w', (Builtin.append_ #[25, 25] ty #[.slice lo n c, v]).run Tryz.prog w = .ok (.slice lo' (n + m) c') w' ∧ QR w' lo' (n + m) c' (xs ++ ys) ∧ Fr (qb lo).toList w w' ∧ (qb lo' = qb lo ∨ ∃ k, qb lo' = some k ∧ w.heap.size ≤ k) := by
  obtain ⟨i0, hi, hz0, hz1, hz2⟩ := infoI_parts
  have hl := h.len
  have hmx : 2199023255552 ≤ maxLen := by unfold maxLen; omega
  rw [← hz1] at hsrc
  have happ : ints (xs ++ ys) = ints xs ++ ints ys := by simp [ints]
  by_cases hroom : n + m ≤ c
  · rcases h.row with ⟨rfl, h0⟩ | ⟨b, off, cur, rfl, hb, hoc, hc⟩
    · obtain rfl : n = 0 := by omega
      obtain rfl : m = 0 := by omega
      obtain rfl : ys = [] := List.eq_nil_of_length_eq_zero hm.symm
      obtain rfl : xs = [] := List.eq_nil_of_length_eq_zero hl.symm
      subst h0
      have hr : (Builtin.append_ #[25, 25] ty #[.slice none 0 0, v]).run Tryz.prog w = .ok (.slice none 0 0) w := by
        have hc := hsrc.cells
        rcases hsrc.kind with ⟨e', hk⟩ | hk <;> simp [Builtin.append_, run_underlying Tryz.undIsQ, sizeOf, typeInfo, hi, hsrc.len, hc, storeCells, ints]
      exact ⟨none, 0, w, hr, QR.nil w, Fr.refl _ _, .inl rfl⟩
    · have hr := run_append_room_src (P := Tryz.prog) w 25 25 ty 3 i0 Tryz.undIsQ hi b off n c _ m _ hsrc hroom
        (by intro j hj; rw [ints_length] at hj; rw [hz1, cell_of_row _ _ _ _ _ _ hb]; simp; omega)
        (by intro j hj; simp [World.frozen?, hb])
      rw [hz1, Nat.mul_one] at hr
      have hsz : off + n + (ints ys).length ≤ cur.size := by rw [ints_length]; omega
      obtain ⟨k1, k2⟩ := setCells_row (ints ys) (off + n) w cur hb hsz
      refine ⟨_, c, _, hr, ⟨by simp [hl, hm], hroom, .inr ⟨b, off, _, rfl, k1, ?_, fun j v hj => ?_⟩⟩, k2.mono (by simp [qb]), .inl rfl⟩
      · rw [List.size_toArray, length_splice _ _ _ (by simpa using hsz)]
        simpa using hoc
      · rw [List.getElem?_toArray]
        unfold splice
        rw [happ] at hj
        have hlv : (ints xs).length = n := by rw [ints_length, hl]
        by_cases hjn : j < n
        · rw [List.getElem?_append_left (by omega)] at hj
          have := hc j v hj
          rw [List.getElem?_append_left (by simp; omega), List.getElem?_take_of_lt (by omega)]
          simpa using this
        · rw [List.getElem?_append_right (by omega), hlv] at hj
          have hj9 := (List.getElem?_eq_some_iff.1 hj).1
          rw [List.getElem?_append_right (by simp; omega)]
          have e2 : off + j - (List.take (off + n) cur.toList).length = j - n := by simp; omega
          rw [e2, List.getElem?_append_left hj9]
          exact hj
  · have hold : (Builtin.firstCells i0.size n (.slice lo n c)).run Tryz.prog w.drew = .ok (ints xs).toArray w.drew := by
      rcases h.row with ⟨rfl, h0⟩ | ⟨b, off, cur, rfl, hb, hoc, hc⟩
      · have : xs = [] := List.eq_nil_of_length_eq_zero (by have := h.fit; omega)
        subst this
        exact run_firstCells_none (P := Tryz.prog) w.drew i0.size n n c
      · refine run_firstCells_some (P := Tryz.prog) w.drew i0.size n ⟨b, off, none⟩ n c (ints xs) (by rw [hz1, ints_length, hl]; omega) ?_
        intro j v hj
        rw [Addr.add_lit]
        show w.cell? _ = _
        rw [cell_of_row _ _ _ _ _ _ hb]
        exact hc j v hj
    have hr := run_append_grow_src (P := Tryz.prog) w 25 25 ty 3 i0 _ Tryz.undIsQ hi hz0 lo n c (ints xs) hold _ m _ hsrc (by omega) (by omega) (by rw [hz2]; exact growslice_fits (by omega) (by omega))
    have hG := grownCap_ge w (n + m) c 3
    refine ⟨_, _, _, hr, ⟨by simp [hl, hm], hG, .inr ⟨w.heap.size, 0, _, rfl, heap_alloc_new w.drew _, ?_, fun j v hj => ?_⟩⟩, ?_, .inr ⟨_, rfl, Nat.le_refl _⟩⟩
    · simp only [Array.size_append, size_zeroCells, List.size_toArray, List.length_append, ints_length]
      simp [Value.cells]
      omega
    · have hjl := (List.getElem?_eq_some_iff.1 hj).1
      rw [Nat.zero_add, Array.getElem?_append_left (by rw [List.size_toArray, ← happ]; exact hjl), List.getElem?_toArray, ← happ]
      exact hj
    · exact (Fr.drew _ w).then (Fr.alloc _ w.drew _)
theorem srcQ1 (w : World) (x : Int) : Src Tryz.prog 1 25 (.slice (some ⟨w.heap.size, 0, none⟩) 1 1) 1 (ints [x]) (w.alloc (.cells #[.int .i64 x] 3)) := by
  refine Src.ofSlice _ Tryz.undIsQ _ 1 1 _ (by rfl) ?_ (ints_one _)
  intro j u hu
  have hr := heap_alloc_new w (.cells #[.int .i64 x] 3)
  rw [Addr.add_lit, cell_of_row _ _ _ _ _ _ hr, Nat.zero_add]
  simpa [ints] using hu
/-- One more behind it. -/
theorem run_appQ1 (w : World) (ty : TypeId) (lo : Option Addr) (n c : Nat) (xs : List Int) (x : Int) (h : QR w lo n c xs) (hn : n ≤ 1099511627776) :
    ∃ lo' c' w', (Builtin.append_ #[25, 25] ty #[.slice lo n c, .slice (some ⟨w.heap.size, 0, none⟩) 1 1]).run Tryz.prog (w.alloc (.cells #[.int .i64 x] 3)) = .ok (.slice lo' (n + 1) c') w' ∧ QR w' lo' (n + 1) c' (xs ++ [x]) ∧ Fr (qb lo).toList w w' ∧ (qb lo' = qb lo ∨ ∃ k, qb lo' = some k ∧ w.heap.size ≤ k) := by
  obtain ⟨lo', c', w', h1, h2, h3, h4⟩ := run_appQs (w.alloc (.cells #[.int .i64 x] 3)) ty lo n c xs _ 1 [x] (h.keep (Fr.alloc [] w _) (by simp)) rfl (srcQ1 w x) (by omega)
  refine ⟨lo', c', w', h1, h2, (Fr.alloc _ w _).then h3, ?_⟩
  rcases h4 with h4 | ⟨k, h4, h5⟩
  · exact Or.inl h4
  · exact Or.inr ⟨k, h4, Nat.le_trans (Fr.alloc [] w (.cells #[.int .i64 x] 3)).size h5⟩
theorem wpList_appQ1 {ops : Array Oper} {rest : List Oper} {o : Oper} {a : Act} {Q : Exit → Act → World → Prop} (w : World) (hgd : o.guard = none) (s x : Operand)
    (ho : o.op = .call { callee := .builtin .append, args := #[s, x], argTypes := #[25, 25] }) (lo : Option Addr) (n c : Nat) (xs : List Int) (k : Int) (hs : a.eval s = .slice lo n c) (h : QR w lo n c xs) (hn : n ≤ 1099511627776)
    (hx : a.eval x = .slice (some ⟨w.heap.size, 0, none⟩) 1 1)
    (hK : ∀ lo' c' w', QR w' lo' (n + 1) c' (xs ++ [k]) → Fr (qb lo).toList w w' → (qb lo' = qb lo ∨ ∃ k, qb lo' = some k ∧ w.heap.size ≤ k) → wpList Tryz.prog ops Q rest (a.put o.dst (.slice lo' (n + 1) c')) w') :
    wpList Tryz.prog ops Q (o :: rest) a (w.alloc (.cells #[.int .i64 k] 3)) := by
  refine wpList_plain hgd fun K hK' => ?_
  obtain ⟨lo', c', w', hr, h2, h3, h4⟩ := run_appQ1 w o.type lo n c xs k h hn
  unfold Oper.wp execOp
  simp only [ho, resolve, invoke, builtin, Sem.run_bind, Sem.run_pure, Result.andThen_ok, List.map_toArray, List.map_cons, List.map_nil, hs, hx, hr]
  exact hK' _ _ (hK lo' c' w' h2 h3 h4)
theorem step_appQ1 {ops : Array Oper} {o : Oper} {a : Act} {K : Act → World → Prop} {Q : Exit → Act → World → Prop} {E : Prop} (w : World) (hgd : o.guard = none) (s x : Operand)
    (ho : o.op = .call { callee := .builtin .append, args := #[s, x], argTypes := #[25, 25] }) (lo : Option Addr) (n c : Nat) (xs : List Int) (k : Int) (hs : a.eval s = .slice lo n c) (h : QR w lo n c xs) (hn : n ≤ 1099511627776)
    (hx : a.eval x = .slice (some ⟨w.heap.size, 0, none⟩) 1 1)
    (hK : ∀ lo' c' w', QR w' lo' (n + 1) c' (xs ++ [k]) → Fr (qb lo).toList w w' → (qb lo' = qb lo ∨ ∃ k, qb lo' = some k ∧ w.heap.size ≤ k) → K (a.put o.dst (.slice lo' (n + 1) c')) w') :
    if Region.wanted o (yielded ops a.tmps) = true then Oper.wp Tryz.prog o a (w.alloc (.cells #[.int .i64 k] 3)) K Q else E := by
  have hw : Region.wanted o (yielded ops a.tmps) = true := by simp [Region.wanted, hgd]
  rw [if_pos hw]
  obtain ⟨lo', c', w', hr, h2, h3, h4⟩ := run_appQ1 w o.type lo n c xs k h hn
  unfold Oper.wp execOp
  simp only [ho, resolve, invoke, builtin, Sem.run_bind, Sem.run_pure, Result.andThen_ok, List.map_toArray, List.map_cons, List.map_nil, hs, hx, hr]
  exact hK lo' c' w' h2 h3 h4
/-- A row of numbers that can be read, as what is put behind. -/
theorem srcQs {w : World} {lo : Option Addr} {n c : Nat} {ys : List Int} (h : QR w lo n c ys) : Src Tryz.prog 1 25 (.slice lo n c) n (ints ys) w := by
  rcases h.row with ⟨rfl, h0⟩ | ⟨b, off, cur, rfl, hb, hoc, hc⟩
  · have hn : n = 0 := by have := h.fit; omega
    subst hn
    have : ys = [] := List.eq_nil_of_length_eq_zero h.len.symm
    subst this
    exact Src.ofNil _ Tryz.undIsQ c
  · refine Src.ofSlice _ Tryz.undIsQ _ n c _ (by rw [ints_length, ← h.len]; omega) ?_ (ints_one _)
    intro j u hu
    rw [Addr.add_lit, cell_of_row _ _ _ _ _ _ hb]
    exact hc j u hu
theorem wpList_appQs {ops : Array Oper} {rest : List Oper} {o : Oper} {a : Act} {Q : Exit → Act → World → Prop} (w : World) (hgd : o.guard = none) (s x : Operand)
    (ho : o.op = .call { callee := .builtin .append, args := #[s, x], argTypes := #[25, 25] }) (lo : Option Addr) (n c : Nat) (xs : List Int) (lo2 : Option Addr) (m c2 : Nat) (ys : List Int) (hs : a.eval s = .slice lo n c) (h : QR w lo n c xs) (hx : a.eval x = .slice lo2 m c2) (h2 : QR w lo2 m c2 ys) (hn : n + m ≤ 2199023255552)
    (hK : ∀ lo' c' w', QR w' lo' (n + m) c' (xs ++ ys) → Fr (qb lo).toList w w' → (qb lo' = qb lo ∨ ∃ k, qb lo' = some k ∧ w.heap.size ≤ k) → wpList Tryz.prog ops Q rest (a.put o.dst (.slice lo' (n + m) c')) w') :
    wpList Tryz.prog ops Q (o :: rest) a w := by
  refine wpList_plain hgd fun K hK' => ?_
  obtain ⟨lo', c', w', hr, h2, h3, h4⟩ := run_appQs w o.type lo n c xs _ m ys h h2.len (srcQs h2) hn
  unfold Oper.wp execOp
  simp only [ho, resolve, invoke, builtin, Sem.run_bind, Sem.run_pure, Result.andThen_ok, List.map_toArray, List.map_cons, List.map_nil, hs, hx, hr]
  exact hK' _ _ (hK lo' c' w' h2 h3 h4)
end Go.Proofs.YtaaghcimfcjehaaGreatDoor
