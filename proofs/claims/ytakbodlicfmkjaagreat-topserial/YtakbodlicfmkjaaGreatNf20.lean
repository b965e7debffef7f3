/- A machine that is made and seated is a machine. Conditions as each names them. -/
import Derived.Test.YtakbodlicfmkjaaGreatNl20
import Derived.Test.YtakbodlicfmkjaaGreatNr20
import Derived.Test.YtakbodlicfmkjaaGreatFo16
namespace Go.Proofs.YtakbodlicfmkjaaGreat.Ap
open Go.ChangeShapes Go.WideShapes Go.ChangeAt Go.RowKit Go.Lib Go.Maps
set_option linter.unusedVariables false
set_option linter.unusedSimpArgs false
open Classical in
/-- One part is another one. -/
noncomputable def setQ (Q : Ix → Part) (i : Ix) (p : Part) : Ix → Part := fun j => if j = i then p else Q j
theorem setQ_same (Q : Ix → Part) (i : Ix) (p : Part) : setQ Q i p i = p := if_pos rfl
theorem setQ_ne (Q : Ix → Part) {i j : Ix} (p : Part) (h : j ≠ i) : setQ Q i p j = Q j := if_neg h
/-- A new feed is the machine's part. -/
theorem fe_new {w0 w : World} {c : Cf} {f g lb L fmb : Nat} {ts : List Tm} {v : Value} (h : F.FdM w0 w f g lb L ts v [] fmb [] ⟨0, 0, c.w.toNat, false, false⟩ (.slice none 0 0)) : FeM w0 w c f ⟨g, lb, w.heap.size, ts, fmb⟩ v (.slice none 0 0) 0 0 false := by
  have hs := h.src
  have hL : L = ts.length := hs.len
  subst hL
  refine ⟨h, h.lt, hs.lt, lt_of_block hs.log, h.mlt, fun t ht k e => ?_, Nat.le_refl _, fun k e => (by cases e), fun k e => (by cases e)⟩
  obtain ⟨k', e1, _, _, _, e5, _⟩ := hs.each t ht
  rw [e] at e1
  cases e1
  exact lt_of_block e5
/-- The struct's cells, with what was put there. -/
def mcl2 (c : Cf) (dk : Option Addr) (f tb wb ab lr pr gb : Nat) (v10 v11 v13 : Value) : Array Value := #[.int .i64 c.l, .int .i64 c.s, .int .i64 c.w, .int .i64 c.q, .pointer dk, .pointer (some ⟨f, 0, none⟩), .pointer (some ⟨tb, 0, none⟩), .map (some wb), .pointer (some ⟨lr, 0, none⟩), .pointer (some ⟨pr, 0, none⟩), v10, v11, .pointer (some ⟨gb, 0, none⟩), v13, .slice none 0 0, .int .i64 0, .map (some ab), .bool false, .bool false]
theorem mcl_set (c : Cf) (dk : Option Addr) (f tb wb ab lr pr gb : Nat) : (((Mk.mcl c dk f tb wb ab).setIfInBounds 8 (.pointer (some ⟨lr, 0, none⟩))).setIfInBounds 9 (.pointer (some ⟨pr, 0, none⟩))).setIfInBounds 12 (.pointer (some ⟨gb, 0, none⟩)) = mcl2 c dk f tb wb ab lr pr gb (.slice none 0 0) (.slice none 0 0) (.slice none 0 0) := rfl
theorem cells_eq {cs : Array Value} {c : Cf} {dk : Option Addr} {f tb wb ab lr pr gb : Nat} {v10 v11 v13 : Value} (hz : cs.size = 19) (h10 : cs[10]? = some v10) (h11 : cs[11]? = some v11) (h13 : cs[13]? = some v13) (h : ∀ j, j ≠ 10 → j ≠ 11 → j ≠ 13 → cs[j]? = (mcl2 c dk f tb wb ab lr pr gb (.slice none 0 0) (.slice none 0 0) (.slice none 0 0))[j]?) : cs = mcl2 c dk f tb wb ab lr pr gb v10 v11 v13 := by
  refine Array.ext_getElem? fun j => ?_
  by_cases hj : j < 19
  · by_cases h1 : j = 10
    · subst h1; rw [h10]; rfl
    by_cases h2 : j = 11
    · subst h2; rw [h11]; rfl
    by_cases h3 : j = 13
    · subst h3; rw [h13]; rfl
    rw [h j h1 h2 h3]
    have : j = 0 ∨ j = 1 ∨ j = 2 ∨ j = 3 ∨ j = 4 ∨ j = 5 ∨ j = 6 ∨ j = 7 ∨ j = 8 ∨ j = 9 ∨ j = 12 ∨ j = 14 ∨ j = 15 ∨ j = 16 ∨ j = 17 ∨ j = 18 := by omega
    rcases this with rfl | rfl | rfl | rfl | rfl | rfl | rfl | rfl | rfl | rfl | rfl | rfl | rfl | rfl | rfl | rfl <;> rfl
  · rw [Array.getElem?_eq_none (by omega), Array.getElem?_eq_none (by show 19 ≤ j; omega)]
section
variable {w0 w : World} {c : Cf} {T : List Tx} {Q : Ix → Part} {la ob : Nat → Nat} {oy : Nat → Oy} {mb lsB osB : Nat} {cs0 : Array Value}
/-- Made and seated: a machine. -/
theorem made_fin {dk : Option Addr} {f tb wb ab lr pr gb lk ok : Nat} {Y : Ly} {v : Value} {B : List Nat} (hc : c.may) (h : SaE w0 c Q la c.l.toNat ob oy c.s.toNat mb lsB osB cs0 w)
    (h0 : cs0 = mcl2 c dk f tb wb ab lr pr gb (.slice (some ⟨lsB, 0, none⟩) c.l.toNat lk) (.slice (some ⟨osB, 0, none⟩) c.s.toNat ok) (.slice none 0 0)) (hlk : c.l.toNat ≤ lk) (hok : c.s.toNat ≤ ok)
    (hoy : ∀ j, (oy j).n = 0) (hT : txs Y.ts = T)
    (q1 : Q .fe = feP w0 c f Y v (.slice none 0 0) 0 0 false) (q2 : Q .de = deP w0 tb B 0 [] (fun _ => False)) (q3 : Q .ga = gaP w0 gb 0 []) (q4 : Q .wa = waP w0 wb 0 T (fun _ => 0) (fun _ => False)) (q5 : Q .li = liP w0 lr none c.w.toNat T (fun _ => 0) []) (q6 : Q .pa = paP w0 pr none c.w.toNat []) (q7 : Q .re = reP w0 T (fun _ => 0) 0) :
    ∃ Z : Lay, Z.z.mb = mb ∧ MaM w0 w c T Z ms0 ∧ Z.nr = 0 := by
  obtain ⟨l, cs, xs, so, k, kd, kw, kk, kg, hS, hF, hg⟩ := h
  have hrow := hS.row
  obtain ⟨orB, orC, cur, e1, e2, e3, e4⟩ := hrow.cells (by omega)
  cases e1
  have hlen := hF.len
  have hcs : cs = mcl2 c dk f tb wb ab lr pr gb (.slice (some ⟨lsB, 0, none⟩) c.l.toNat lk) (.slice (some ⟨osB, 0, none⟩) c.s.toNat ok) (.slice (some ⟨orB, 0, none⟩) (1 + c.l.toNat + c.s.toNat + 1) k) := by
    refine cells_eq hS.sz ?_ ?_ hS.at13 fun j h1 h2 h3 => ?_
    · rw [hF.hc 10 (by decide), h0]; rfl
    · rw [hF.hc 11 (by decide), h0]; rfl
    · rw [hF.hc j h3, h0]
      by_cases hj : j < 19
      · have : j = 0 ∨ j = 1 ∨ j = 2 ∨ j = 3 ∨ j = 4 ∨ j = 5 ∨ j = 6 ∨ j = 7 ∨ j = 8 ∨ j = 9 ∨ j = 12 ∨ j = 14 ∨ j = 15 ∨ j = 16 ∨ j = 17 ∨ j = 18 := by omega
        rcases this with rfl | rfl | rfl | rfl | rfl | rfl | rfl | rfl | rfl | rfl | rfl | rfl | rfl | rfl | rfl | rfl <;> rfl
      · rw [Array.getElem?_eq_none (by show 19 ≤ j; omega), Array.getElem?_eq_none (by show 19 ≤ j; omega)]
  obtain ⟨curL, l1, l2⟩ := hF.lr
  obtain ⟨curO, o1, o2⟩ := hF.wr
  have en : 1 + c.l.toNat + c.s.toNat + 1 = c.l.toNat + c.s.toNat + 2 := by omega
  rw [en] at hcs e3 e4
  let Z : Lay := ⟨⟨mb, f, tb, gb, wb, lr, pr, ab, lsB, osB, orB, lk, ok, k, kd, kg, la, ob, kw, kk, dk⟩, Y, v, .slice none 0 0, B, none, none, fun _ => 0, fun _ => [], oy, 0, 0, 0⟩
  have hm : StM c Z.z w := by
    refine ⟨hc, ?_, ⟨curL, hS.bd.at l1, l2⟩, ⟨curO, hS.bd.at o1, o2⟩, ⟨cur, hS.bd.at e2, fun i hi => ?_⟩, hS.bd.at hF.hd, fun i hi => hS.bd.at (hF.hw i hi), fun j hj => hS.bd.at (hF.hk j hj), ?_, hlk, hok, e3⟩
    · have := hS.bd.at hS.box
      rw [hcs] at this
      exact this
    · rw [e4 i (by omega)]
      by_cases hi2 : i < 1 + c.l.toNat + c.s.toNat
      · rw [List.getElem?_append_left (by omega), hF.ht i hi2]
        simp only [tv, taskV]
        by_cases h1 : i = 0
        · rw [if_pos h1, if_pos h1]
        rw [if_neg h1, if_neg h1]
        by_cases h2 : i ≤ c.l.toNat
        · rw [if_pos h2, if_pos h2]
        rw [if_neg h2, if_neg h2, if_pos (by omega)]
      · have hi3 : i = 1 + c.l.toNat + c.s.toNat := by omega
        rw [List.getElem?_append_right (by omega), hlen, hi3, Nat.sub_self]
        simp only [taskV]
        rw [if_neg (by omega), if_neg (by omega), if_neg (by omega)]
        rfl
    · have := hS.bd.at hg
      have e5 : 1 + c.l.toNat + c.s.toNat = c.l.toNat + c.s.toNat + 1 := by omega
      rw [e5] at this
      exact this
  refine ⟨Z, rfl, Bd.fin (Q := Q) (la := la) (ob := ob) (oy := oy) (l := l) hS.bd rfl rfl rfl rfl ⟨q1, q2, q3, q4, q5, q6, q7⟩ hm (fun b hb => ?_) hT rfl rfl hoy, rfl⟩
  rcases hb with rfl | rfl | rfl | rfl | rfl | rfl | ⟨i, hi, rfl⟩ | ⟨j, hj, rfl⟩
  · exact ⟨_, hS.box, rfl⟩
  · exact ⟨_, l1, rfl⟩
  · exact ⟨_, o1, rfl⟩
  · exact ⟨_, e2, rfl⟩
  · exact ⟨_, hF.hd, rfl⟩
  · exact ⟨_, hg, rfl⟩
  · exact ⟨_, hF.hw i hi, rfl⟩
  · exact ⟨_, hF.hk j hj, rfl⟩
end
end Go.Proofs.YtakbodlicfmkjaaGreat.Ap
