/- The machine as a plain thing: where it stands, what each task can do and what its step makes of it. Plain definitions and lemmas. -/
import Derived.Test.YtakbodlicfmkjaaGreatTi11
import Derived.Test.YtakbodlicfmkjaaGreatTn11
import Derived.Test.YtakbodlicfmkjaaGreatGd12
import Derived.Test.YtakbodlicfmkjaaGreatLm14
import Derived.Test.YtakbodlicfmkjaaGreatLn14
import Derived.Test.YtakbodlicfmkjaaGreatSh13
import Derived.Test.YtakbodlicfmkjaaGreatHm9
import Derived.Test.YtakbodlicfmkjaaGreatFe16
namespace Go.Proofs.YtakbodlicfmkjaaGreat
set_option linter.unusedVariables false
set_option linter.unusedSimpArgs false

/-- A request that waits: the lane that asked, the transaction, the write. -/
structure Qe where
  f : Int
  n : Int
  x : Wt
/-- Where a machine without calls stands: the number read last, is it held, up to where it is fed, how many were dispatched, who has ended, the mark, those beyond, who waits, the line, those passed, the lanes, the queues, the versions, a bound of steps. -/
structure Ms where
  rd : Nat
  hv : Bool
  fd : Nat
  d : Nat
  en : Int → Prop
  ma : Int
  bx : List Int
  wt : Int → Prop
  line : List Int
  pass : List Int
  ln : Nat → Option Hl
  qs : Nat → List Qe
  M : Nat → ByteArray → List O.Vn
  k : Nat
def upd {α : Type} (f : Nat → α) (i : Nat) (v : α) : Nat → α := fun j => if j = i then v else f j
theorem upd_same {α : Type} (f : Nat → α) (i : Nat) (v : α) : upd f i v i = v := if_pos rfl
theorem upd_other {α : Type} (f : Nat → α) {i j : Nat} (v : α) (h : j ≠ i) : upd f i v j = f j := if_neg h
/-- The writes of a transaction of the log. -/
def wsAt (T : List Tx) (n : Int) : List Wt := (T.getD (n - 1).toNat Tx.zero).ws
/-- The first d as the table of them has them. -/
def lgT (T : List Tx) (d : Nat) : Lg := (List.range d).map fun i => (((i + 1 : Nat) : Int), keysW (wsAt T ((i + 1 : Nat) : Int)))
theorem lgT_succ (T : List Tx) (d : Nat) : lgT T (d + 1) = lgT T d ++ [(((d + 1 : Nat) : Int), keysW (wsAt T ((d + 1 : Nat) : Int)))] := by
  simp [lgT, List.range_succ]
theorem lgT_mem (T : List Tx) (d : Nat) {p : Int × List ByteArray} : p ∈ lgT T d ↔ (1 ≤ p.1 ∧ p.1 ≤ (d : Int)) ∧ p.2 = keysW (wsAt T p.1) := by
  simp only [lgT, List.mem_map, List.mem_range]
  constructor
  · rintro ⟨i, hi, rfl⟩
    exact ⟨⟨by simp only; omega, by simp only; omega⟩, rfl⟩
  · rintro ⟨⟨h1, h2⟩, h3⟩
    refine ⟨(p.1 - 1).toNat, by omega, ?_⟩
    have e : (((p.1 - 1).toNat + 1 : Nat) : Int) = p.1 := by omega
    rw [e, ← h3]
/-- The shard of a write. -/
def shW (c : Cf) (x : Wt) : Nat := (Cf.shard c x.key).1.toNat
open Classical in
/-- For whom a new one waits. -/
noncomputable def adx (L : Lg) (en : Int → Prop) (ks : List ByteArray) : List Int := if h : ∃ xs, AdT L en ks xs then Classical.choose h else []
theorem adx_eq {L : Lg} {en : Int → Prop} {ks : List ByteArray} {xs : List Int} (h : AdT L en ks xs) : adx L en ks = xs := by
  have hx : ∃ xs, AdT L en ks xs := ⟨xs, h⟩
  unfold adx
  rw [dif_pos hx]
  have h2 := Classical.choose_spec hx
  exact Ris.one h2.1 h.1 (fun m => (h2.2 m).trans (h.2 m).symm)
open Classical in
/-- Who is free behind the end of one. -/
noncomputable def frx (L : Lg) (en : Int → Prop) (n : Int) : List Int := if h : ∃ zs, DoT L (Op11 L en) n zs then Classical.choose h else []
theorem frx_eq {L : Lg} {en : Int → Prop} {n : Int} {zs : List Int} (h : DoT L (Op11 L en) n zs) : frx L en n = zs := by
  have hx : ∃ zs, DoT L (Op11 L en) n zs := ⟨zs, h⟩
  unfold frx
  rw [dif_pos hx]
  have h2 := Classical.choose_spec hx
  exact Ris.one h2.1 h.1 (fun m => (h2.2 m).trans (h.2 m).symm)
/-- What the gate says of one that is there now: by how much the mark goes up, the mark, those beyond. -/
def gdx (m : Int) (xs : List Int) (n : Int) : Int × Int × List Int := ((adv m (insI n xs)).1 - m, (adv m (insI n xs)).1, (adv m (insI n xs)).2)
/-- The dispatcher's step kind: 0 none, 1 read, 3 dispatch. -/
def canD (c : Cf) (s : Ms) : Nat := if s.hv = false then (if s.rd < s.fd then 1 else 0) else if (s.rd : Int) ≤ s.ma + c.w then 3 else 0
def readM (s : Ms) : Ms := { s with rd := s.rd + 1, hv := true, k := s.k + 1 }
/-- For whom the held one waits. -/
noncomputable def wtsOf (T : List Tx) (s : Ms) : List Int := adx (lgT T s.d) s.en (keysW (wsAt T (s.rd : Int)))
open Classical in
noncomputable def dispM (T : List Tx) (s : Ms) : Ms :=
  { s with hv := false, d := s.d + 1, wt := if wtsOf T s = [] then s.wt else (fun m => s.wt m ∨ m = (s.rd : Int)), line := if wtsOf T s = [] then s.line ++ [(s.rd : Int)] else s.line, k := s.k + 1 }
/-- A lane's step kind: 0 none, 4 take, 5 send, 6 done. -/
def canW (c : Cf) (s : Ms) (i : Nat) : Nat :=
  match s.ln i with
  | none => if s.line = [] then 0 else 4
  | some h => match h.l with
    | y :: _ => if ((s.qs (shW c y)).length : Int) < c.q then 5 else 0
    | [] => if h.out = 0 then 6 else 0
noncomputable def takeM (T : List Tx) (s : Ms) (i : Nat) (n : Int) (r : List Int) : Ms := { s with line := r, ln := upd s.ln i (some ⟨n, dd (wsAt T n), 0⟩), k := s.k + 1 }
def sendM (c : Cf) (s : Ms) (i : Nat) (h : Hl) (y : Wt) (r : List Wt) : Ms := { s with ln := upd s.ln i (some ⟨h.n, r, h.out + 1⟩), qs := upd s.qs (shW c y) (s.qs (shW c y) ++ [⟨((i + 1 : Nat) : Int), h.n, y⟩]), k := s.k + 1 }
def doneM (s : Ms) (i : Nat) (n : Int) : Ms := { s with ln := upd s.ln i none, pass := s.pass ++ [n], k := s.k + 1 }
/-- An owner's step kind. -/
def canK (s : Ms) (j : Nat) : Nat := if s.qs j = [] then 0 else 7
def ackH (h : Hl) : Hl := ⟨h.n, h.l, h.out - 1⟩
def servM (s : Ms) (j : Nat) (e : Qe) (r : List Qe) (h : Hl) (M' : ByteArray → List O.Vn) : Ms := { s with qs := upd s.qs j r, ln := upd s.ln (e.f.toNat - 1) (some (ackH h)), M := upd s.M j M', k := s.k + 1 }
/-- The gate's step kind. -/
def canG (s : Ms) : Nat := if s.pass = [] then 0 else 8
noncomputable def gateM (T : List Tx) (s : Ms) (n : Int) (r : List Int) : Ms :=
  { s with pass := r, ma := (gdx s.ma s.bx n).2.1, bx := (gdx s.ma s.bx n).2.2, en := fun x => s.en x ∨ x = n, wt := fun m => s.wt m ∧ m ∉ frx (lgT T s.d) s.en n, line := s.line ++ frx (lgT T s.d) s.en n, k := s.k + 1 }
end Go.Proofs.YtakbodlicfmkjaaGreat
