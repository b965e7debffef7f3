/- A reply as a plain thing, and what a task answers of its replies. Conditions as each names them. -/
import Derived.Test.YtpdkdgmaofhlkaaGreatDoorFo17
namespace Go.Proofs.YtpdkdgmaofhlkaaGreatDoor
open Go.ChangeShapes Go.WideShapes Go.ChangeAt Go.RowKit Go.Lib Go.Sort
set_option linter.unusedVariables false
set_option linter.unusedSimpArgs false

/-- A reply, and what its lists hold. -/
structure Rx where
  r : Rp
  es : List Ey
  hs : List Hd
def Rx.zero : Rx := ⟨⟨0, false, none, 0, 0, none, 0, 0, 0⟩, [], []⟩
/-- Its lists can be read. -/
structure RxB (w : World) (x : Rx) : Prop where
  re : RrE w x.r.eo x.es
  le : x.r.el = x.es.length
  me : x.r.el ≤ 4194304
  rh : RdH w x.r.ho x.hs
  lh : x.r.hl = x.hs.length
  mh : x.r.hl ≤ 4194304
theorem RxB.keep {w w' : World} {x : Rx} (h : RxB w x) (hf : Fr [] w w') : RxB w' x := ⟨h.re.keep hf, h.le, h.me, h.rh.keep hf, h.lh, h.mh⟩
def rxC (xs : List Rx) : List Value := xs.flatMap fun x => x.r.c
theorem rxC_snoc (xs : List Rx) (x : Rx) : rxC (xs ++ [x]) = rxC xs ++ x.r.a.toList := by simp [rxC, Rp.c, Rp.a]
theorem rxC_get : ∀ (xs : List Rx) (i j : Nat), i < xs.length → j < 5 → (rxC xs)[i * 5 + j]? = ((xs.getD i Rx.zero).r.c)[j]?
  | [], i, j, h, _ => by simp at h
  | x :: xs, 0, j, _, hj => by
    have : (rxC (x :: xs)) = x.r.c ++ rxC xs := by simp [rxC]
    rw [this, List.getElem?_append_left (by simp [Rp.c]; omega)]
    simp
  | x :: xs, i + 1, j, h, hj => by
    have : (rxC (x :: xs)) = x.r.c ++ rxC xs := by simp [rxC]
    rw [this, List.getElem?_append_right (by simp [Rp.c]; omega), show (i + 1) * 5 + j - x.r.c.length = i * 5 + j by simp [Rp.c]; omega, rxC_get xs i j (by simpa using h) hj]
    simp
/-- What the replies come to. -/
def ansE (k : Int) (xs : List Rx) : List Ey := if k = 1 then xs.flatMap (fun x => if x.es.length = 1 then x.es else []) else if k = 2 then sortB Ey.key (xs.flatMap Rx.es) else []
def ansH (k : Int) (xs : List Rx) : List Hd := if k = 4 then sortB Hd.key (xs.flatMap Rx.hs) else []
def ansC (k : Int) (xs : List Rx) : Int := if k = 3 then xs.foldl (fun a x => wrap64 (a + x.r.ct)) 0 else 0
def ansB (k : Int) (xs : List Rx) : Bool := if k = 1 then xs.foldl (fun _ x => decide (x.es.length = 1)) true else true
/-- What Answer answers where all replies are there. -/
theorem rx_take (xs : List Rx) (i : Nat) (h : i < xs.length) : xs.take (i + 1) = xs.take i ++ [xs.getD i Rx.zero] := by
  rw [List.take_add_one]
  simp [List.getD, h]
theorem rx_mem (xs : List Rx) (i : Nat) (h : i < xs.length) : xs.getD i Rx.zero ∈ xs := by simp [List.getD, h]
end Go.Proofs.YtpdkdgmaofhlkaaGreatDoor
