/- Texts of this claim laid together, one behind the other: contracts and plain lemmas; conditions as each names them. -/
import Derived.Test.YtaaghcimfcjehaaGreatDoorGp10
import Derived.Test.YtaaghcimfcjehaaGreatDoorGp11
import Derived.Test.YtaaghcimfcjehaaGreatDoorGp14
import Derived.Test.YtaaghcimfcjehaaGreatDoorGp16
import Derived.Test.YtaaghcimfcjehaaGreatDoorGp17
import Derived.Test.YtaaghcimfcjehaaGreatDoorGp15
/- The events' story as plain mathematics: where it stands, what each task's step tells and leaves. Plain definitions and lemmas. -/
namespace Go.Proofs.YtaaghcimfcjehaaGreatDoor
set_option linter.unusedVariables false
set_option linter.unusedSimpArgs false

/-- An event. -/
structure Ev where
  t : Int
  k : Int
  n : Int
  s : Int
  c : Int
  m : Int
def Ev.no : Ev := ⟨0, 0, 0, 0, 0, 0⟩
/-- What a step tells by itself: kind, number, shard, count. -/
structure Te where
  k : Int
  n : Int
  s : Int
  c : Int
def Te.no : Te := ⟨0, 0, 0, 0⟩
/-- Where a story stands: what was read, is it held, the mark, those beyond, those added and ended; whom each lane holds; the rows of numbers (0 the line, 1 those passed, 2 + i what lane i has left, 18 + j the queue j); how many requests each has in queues; the stage of each call. -/
structure Sy where
  read : Int
  holds : Bool
  ma : Int
  bx : List Int
  L : Lg
  en : Int → Prop
  num : Nat → Int
  R : Nat → List Int
  F : Int → Int
  G : Int → Int
def upd {α : Type} (f : Nat → α) (i : Nat) (v : α) : Nat → α := fun j => if j = i then v else f j
def updI {α : Type} (f : Int → α) (i : Int) (v : α) : Int → α := fun j => if j = i then v else f j
theorem upd_same {α : Type} (f : Nat → α) (i : Nat) (v : α) : upd f i v i = v := if_pos rfl
theorem upd_other {α : Type} (f : Nat → α) {i j : Nat} (v : α) (h : j ≠ i) : upd f i v j = f j := if_neg h
theorem updI_same {α : Type} (f : Int → α) (i : Int) (v : α) : updI f i v i = v := if_pos rfl
theorem updI_other {α : Type} (f : Int → α) {i j : Int} (v : α) (h : j ≠ i) : updI f i v j = f j := if_neg h
/-- The writes of a transaction of the log. -/
def wsAt (T : List Tx) (n : Int) : List Wt := (T.getD (n - 1).toNat Tx.zero).ws
/-- The shards of its writes that count. -/
noncomputable def shs (c : Cf) (T : List Tx) (n : Int) : List Int := (dd (wsAt T n)).map fun x => shN13 c.s x.key
open Classical in
/-- For whom a new one waits. -/
noncomputable def adx (L : Lg) (en : Int → Prop) (ks : List ByteArray) : List Int := if h : ∃ xs, AdT L en ks xs then Classical.choose h else []
theorem adx_eq {L : Lg} {en : Int → Prop} {ks : List ByteArray} {xs : List Int} (h : AdT L en ks xs) : adx L en ks = xs := by
  have hx : ∃ xs, AdT L en ks xs := ⟨xs, h⟩
  unfold adx
  rw [dif_pos hx]
  have h2 := Classical.choose_spec hx
  exact Ris.one h2.1 h.1 (fun m => (h2.2 m).trans (h.2 m).symm)
/-- May this one end now? -/
def Mye (L : Lg) (en : Int → Prop) (n : Int) : Prop := Op11 L en n ∧ ∀ y, Op11 L en y → ¬ Dep L n y
open Classical in
/-- Who is free behind its end. -/
noncomputable def frx (L : Lg) (en : Int → Prop) (n : Int) : List Int := if h : Mye L en n ∧ ∃ zs, DoT L (Op11 L en) n zs then Classical.choose h.2 else []
open Classical in
noncomputable def enx (L : Lg) (en : Int → Prop) (n : Int) : Int → Prop := if Mye L en n then fun x => en x ∨ x = n else en
theorem frx_eq {L : Lg} {en : Int → Prop} {n : Int} {zs : List Int} (hm : Mye L en n) (h : DoT L (Op11 L en) n zs) : frx L en n = zs := by
  have hx : Mye L en n ∧ ∃ zs, DoT L (Op11 L en) n zs := ⟨hm, zs, h⟩
  unfold frx
  rw [dif_pos hx]
  have h2 := Classical.choose_spec hx.2
  exact Ris.one h2.1 h.1 (fun m => (h2.2 m).trans (h.2 m).symm)
theorem frx_no {L : Lg} {en : Int → Prop} {n : Int} (hm : ¬ Mye L en n) : frx L en n = [] := by
  unfold frx
  rw [dif_neg (fun h => hm h.1)]
theorem enx_yes {L : Lg} {en : Int → Prop} {n : Int} (hm : Mye L en n) : enx L en n = fun x => en x ∨ x = n := if_pos hm
theorem enx_no {L : Lg} {en : Int → Prop} {n : Int} (hm : ¬ Mye L en n) : enx L en n = en := if_neg hm
/-- What the gate says of one that is there now: by how much the mark goes up, the mark, those beyond. -/
def gdx (m : Int) (xs : List Int) (n : Int) : Int × Int × List Int := if 1 ≤ n ∧ n ≤ 65536 ∧ ¬ (n ≤ m ∨ n ∈ xs) then ((adv m (insI n xs)).1 - m, (adv m (insI n xs)).1, (adv m (insI n xs)).2) else (0, m, xs)
theorem gdx_of {m n up er m' : Int} {xs xs' : List Int} (h : GDo m xs n up er m' xs') : gdx m xs n = (up, m', xs') := by
  unfold gdx
  rcases h.or with ⟨h1, rfl, rfl, rfl, rfl⟩ | ⟨h1, rfl, rfl, h2⟩
  · rw [if_neg h1]
  · rw [if_pos h1, ← h2]
/-- The dispatcher's step. -/
noncomputable def dsp (c : Cf) (T : List Tx) (s : Sy) : Te × Sy :=
  if s.holds = false then
    if s.read < (T.length : Int) then (⟨1, s.read + 1, 0, 0⟩, { s with read := s.read + 1, holds := true }) else (Te.no, s)
  else if s.read ≤ s.ma ∨ s.read ∈ s.bx then (⟨2, s.read, 0, 0⟩, { s with holds := false })
  else if s.read ≤ s.ma + c.w then
    (⟨3, s.read, 0, ((adx s.L s.en (keysW (wsAt T s.read))).length : Int)⟩, { s with holds := false, L := s.L ++ [(s.read, keysW (wsAt T s.read))], R := if (adx s.L s.en (keysW (wsAt T s.read))).length = 0 then upd s.R 0 (s.R 0 ++ [s.read]) else s.R })
  else (Te.no, s)
/-- A request goes to a queue's end. -/
def asks (s : Sy) (q : Nat) (n : Int) : Sy := { s with R := upd s.R (18 + q) (s.R (18 + q) ++ [n]), F := updI s.F n (s.F n + 1) }
/-- A lane's step. -/
noncomputable def lan (c : Cf) (T : List Tx) (s : Sy) (i : Nat) : Te × Sy :=
  if s.num i = 0 then
    match s.R 0 with
    | [] => (Te.no, s)
    | n :: r => (⟨4, n, 0, 0⟩, { s with num := upd s.num i n, R := upd (upd s.R 0 r) (2 + i) (shs c T n) })
  else
    match s.R (2 + i) with
    | q :: r => if ((s.R (18 + q.toNat)).length : Int) < c.q then (⟨5, s.num i, q, 0⟩, { asks s q.toNat (s.num i) with R := upd (asks s q.toNat (s.num i)).R (2 + i) r }) else (Te.no, s)
    | [] => if s.F (s.num i) = 0 then (⟨6, s.num i, 0, 0⟩, { s with num := upd s.num i 0, R := upd s.R 1 (s.R 1 ++ [s.num i]) }) else (Te.no, s)
/-- An owner's step. -/
def own (s : Sy) (j : Nat) : Te × Sy :=
  match s.R (18 + j) with
  | [] => (Te.no, s)
  | n :: r => (⟨7, n, (j : Int), 0⟩, { s with R := upd s.R (18 + j) r, F := updI s.F n (s.F n - 1) })
/-- The gate's step. -/
noncomputable def gat (s : Sy) : Te × Sy :=
  match s.R 1 with
  | [] => (Te.no, s)
  | n :: r => (⟨8, n, 0, (gdx s.ma s.bx n).1⟩, { s with ma := (gdx s.ma s.bx n).2.1, bx := (gdx s.ma s.bx n).2.2, en := enx s.L s.en n, R := upd (upd s.R 1 r) 0 (s.R 0 ++ frx s.L s.en n) })
/-- A call's step. -/
def cal (c : Cf) (s : Sy) (n : Int) (e : Ev) : Te × Sy :=
  if e.k = 9 ∧ s.G n = 0 then (⟨9, n, 0, 0⟩, { s with G := updI s.G n 1 })
  else if e.k = 10 ∧ s.G n = 1 ∧ 0 ≤ e.s ∧ e.s < c.s ∧ ((s.R (18 + e.s.toNat)).length : Int) < c.q then (⟨10, n, e.s, 0⟩, asks s e.s.toNat n)
  else if e.k = 11 ∧ s.G n = 1 ∧ s.F n = 0 ∧ 0 ≤ e.c then (⟨11, n, 0, e.c⟩, s)
  else if e.k = 12 ∧ s.G n = 1 ∧ s.F n = 0 then (⟨12, n, 0, 0⟩, { s with G := updI s.G n 2 })
  else (Te.no, s)
/-- The step of an event's task. -/
noncomputable def stp (c : Cf) (T : List Tx) (s : Sy) (e : Ev) : Te × Sy :=
  if e.t < 0 then cal c s e.t e else if e.t = 0 then dsp c T s else if e.t ≤ c.l then lan c T s (e.t - 1).toNat else if e.t ≤ c.l + c.s then own s (e.t - c.l - 1).toNat else if e.t = c.l + c.s + 1 then gat s else (Te.no, s)
/-- The event that a replica would tell of it. -/
noncomputable def tolE (c : Cf) (T : List Tx) (s : Sy) (e : Ev) : Ev :=
  if e.t < c.l + c.s + 2 then ⟨e.t, (stp c T s e).1.k, (stp c T s e).1.n, (stp c T s e).1.s, (stp c T s e).1.c, (stp c T s e).2.ma⟩ else Ev.no
/-- It can be next. -/
def Can (c : Cf) (T : List Tx) (s : Sy) (e : Ev) : Prop := (tolE c T s e).k ≠ 0 ∧ tolE c T s e = e
open Classical in
/-- The story goes on, as far as each can be next: how many, and where it stands then. -/
noncomputable def goes (c : Cf) (T : List Tx) (s : Sy) : List Ev → Nat × Sy
  | [] => (0, s)
  | e :: r => if Can c T s e then ((goes c T (stp c T s e).2 r).1 + 1, (goes c T (stp c T s e).2 r).2) else (0, s)
theorem goes_snoc {c : Cf} {T : List Tx} : ∀ (es : List Ev) (s : Sy) (e : Ev), (goes c T s es).1 = es.length → Can c T (goes c T s es).2 e → goes c T s (es ++ [e]) = (es.length + 1, (stp c T (goes c T s es).2 e).2)
  | [], s, e, _, h => by simp only [List.nil_append, goes] at *; rw [if_pos h]; rfl
  | x :: r, s, e, h1, h2 => by
    have hx : Can c T s x := Classical.byContradiction fun hx => by simp [goes, if_neg hx] at h1
    simp only [goes, if_pos hx, List.length_cons, Nat.add_right_cancel_iff] at h1 h2
    have := goes_snoc r _ e h1 h2
    simp only [List.cons_append, goes, if_pos hx, this, List.length_cons]
theorem goes_stop {c : Cf} {T : List Tx} : ∀ (es : List Ev) (s : Sy) (e : Ev) (r : List Ev), (goes c T s es).1 = es.length → ¬ Can c T (goes c T s es).2 e → goes c T s (es ++ e :: r) = (es.length, (goes c T s es).2)
  | [], s, e, r, _, h => by simp only [List.nil_append, goes] at *; rw [if_neg h]; rfl
  | x :: q, s, e, r, h1, h2 => by
    have hx : Can c T s x := Classical.byContradiction fun hx => by simp [goes, if_neg hx] at h1
    simp only [goes, if_pos hx, List.length_cons, Nat.add_right_cancel_iff] at h1 h2
    have := goes_stop q _ e r h1 h2
    simp only [List.cons_append, goes, if_pos hx, this, List.length_cons]
theorem goes_le {c : Cf} {T : List Tx} : ∀ (es : List Ev) (s : Sy), (goes c T s es).1 ≤ es.length
  | [], s => Nat.le_refl _
  | e :: r, s => by
    unfold goes
    split
    · simp only [List.length_cons]; have := goes_le (c := c) (T := T) r (stp c T s e).2; omega
    · exact Nat.zero_le _
/-- The first ones go as far as the whole does. -/
theorem goes_take {c : Cf} {T : List Tx} : ∀ (es : List Ev) (s : Sy), goes c T s (es.take (goes c T s es).1) = goes c T s es
  | [], s => rfl
  | e :: r, s => by
    by_cases h : Can c T s e
    · have ih := goes_take (c := c) (T := T) r (stp c T s e).2
      simp only [goes, if_pos h, List.take_succ_cons, ih]
    · simp [goes, if_neg h]
/-- One more than it goes, with anything behind, goes no further. -/
theorem goes_more {c : Cf} {T : List Tx} : ∀ (es : List Ev) (s : Sy) (q : List Ev), (goes c T s es).1 < es.length → goes c T s (es.take ((goes c T s es).1 + 1) ++ q) = goes c T s es
  | [], s, q, h => by simp [goes] at h
  | e :: r, s, q, h => by
    by_cases hc : Can c T s e
    · simp only [goes, if_pos hc, List.length_cons, Nat.add_lt_add_iff_right] at h
      have ih := goes_more (c := c) (T := T) r (stp c T s e).2 q h
      simp only [goes, if_pos hc, List.take_succ_cons, List.cons_append, ih]
    · simp [goes, if_neg hc]
/-- What holds of a story that has gone k steps. -/
structure Iv (c : Cf) (T : List Tx) (s : Sy) (k : Nat) : Prop where
  low : 0 ≤ s.read
  top : s.read ≤ (T.length : Int)
  hold : s.holds = true → 1 ≤ s.read
  old : ∀ p ∈ s.L, p.1 ≤ s.read ∧ (s.holds = true → p.1 < s.read)
  line : ∀ n ∈ s.R 0, 1 ≤ n ∧ n ≤ (T.length : Int)
  pass : ∀ n ∈ s.R 1, 1 ≤ n ∧ n ≤ (T.length : Int)
  held : ∀ i, s.num i = 0 ∨ (1 ≤ s.num i ∧ s.num i ≤ (T.length : Int))
  left : ∀ i, i < 16 → ∀ q ∈ s.R (2 + i), 0 ≤ q ∧ q < c.s
  fewL : ∀ i, i < 16 → (s.R (2 + i)).length ≤ 32
  queue : ∀ j, j < 16 → ((s.R (18 + j)).length : Int) ≤ c.q
  que : ∀ j, j < 16 → ∀ n ∈ s.R (18 + j), I6 n
  few0 : (s.R 0).length ≤ 65537 * k
  few1 : (s.R 1).length ≤ k
  cnt : ∀ n, -(k : Int) ≤ s.F n ∧ s.F n ≤ k
end Go.Proofs.YtaaghcimfcjehaaGreatDoor
