/- A machine that is being made: which of its parts are there. Conditions as each names them. -/
import Derived.Test.YtakbodlicfmkjaaGreatAp20
import Derived.Test.YtakbodlicfmkjaaGreatMa20
namespace Go.Proofs.YtakbodlicfmkjaaGreat.Ap
open Go.ChangeShapes Go.WideShapes Go.ChangeAt Go.RowKit Go.Lib
set_option linter.unusedVariables false
set_option linter.unusedSimpArgs false
theorem Moved.mvB {w w' : World} {v : Value} {g : Nat} (h : Went w v g w') : v.ownBlock = some g ∨ w.heap.size ≤ g := h.imp (fun x => x.1) (fun x => x.1)
/-- Blocks with what lies in each. -/
def blP (w0 : World) (l : List (Nat × Obj)) : Part := ⟨fun w => ∀ p ∈ l, w.heap[p.1]? = some p.2 ∧ w0.heap.size ≤ p.1, fun _ b => ∃ p ∈ l, p.1 = b⟩
theorem blP_ok (w0 : World) (l : List (Nat × Obj)) : (blP w0 l).Ok w0 :=
  ⟨fun w b hm hb => by obtain ⟨p, hp, rfl⟩ := hb; exact ⟨(hm p hp).2, lt_of_block (hm p hp).1⟩,
   fun S w w' hm h0 hf hS => ⟨fun p hp => ⟨hf.keep (hm p hp).1 (fun hx => (hS _ hx (lt_of_block (hm p hp).1)).2 ⟨p, hp, rfl⟩), (hm p hp).2⟩, fun b hb => hb⟩⟩
/-- A row whose block stands in the list. -/
def RowL (l : List (Nat × Obj)) (e : TypeId) (v : Value) (n : Nat) (xs : List Value) : Prop :=
  xs.length = n ∧ ((v = .slice none 0 0 ∧ n = 0) ∨ ∃ g cap cur, v = .slice (some ⟨g, 0, none⟩) n cap ∧ (g, Obj.cells cur e (0, 0)) ∈ l ∧ n ≤ cap ∧ cap ≤ maxLen ∧ cur.size = cap * 1 ∧ cur.toList.take (n * 1) = xs)
theorem RowL.nil (l : List (Nat × Obj)) (e : TypeId) : RowL l e (.slice none 0 0) 0 [] := ⟨rfl, Or.inl ⟨rfl, rfl⟩⟩
theorem RowL.own {w0 w : World} {l : List (Nat × Obj)} {e : TypeId} {v : Value} {n : Nat} {xs : List Value} (h : RowL l e v n xs) (hm : (blP w0 l).M w) : w.ownsRow 0 e 1 v n xs := by
  obtain ⟨h1, h2⟩ := h
  refine ⟨by omega, ?_⟩
  rcases h2 with h2 | ⟨g, cap, cur, e1, e2, e3, e4, e5, e6⟩
  · exact .inl h2
  · exact .inr ⟨g, cap, cur, e1, Nat.zero_le _, (hm _ e2).1, e3, e4, e5, e6⟩
theorem RowL.mono {l l' : List (Nat × Obj)} {e : TypeId} {v : Value} {n : Nat} {xs : List Value} (h : RowL l e v n xs) (hl : ∀ g cur, (g, Obj.cells cur e (0, 0)) ∈ l → (g, Obj.cells cur e (0, 0)) ∈ l') : RowL l' e v n xs := by
  obtain ⟨h1, h2⟩ := h
  refine ⟨h1, h2.imp id ?_⟩
  rintro ⟨g, cap, cur, e1, e2, e3⟩
  exact ⟨g, cap, cur, e1, hl _ _ e2, e3⟩
theorem RowL.cells {l : List (Nat × Obj)} {e : TypeId} {v : Value} {n : Nat} {xs : List Value} (h : RowL l e v n xs) (h0 : 0 < n) : ∃ g cap cur, v = .slice (some ⟨g, 0, none⟩) n cap ∧ (g, Obj.cells cur e (0, 0)) ∈ l ∧ n ≤ cap ∧ ∀ i, i < n → cur[i]? = xs[i]? := by
  obtain ⟨h1, h2⟩ := h
  rcases h2 with ⟨_, h2⟩ | ⟨g, cap, cur, e1, e2, e3, e4, e5, e6⟩
  · omega
  · refine ⟨g, cap, cur, e1, e2, e3, fun i hi => ?_⟩
    rw [← e6, List.getElem?_take, if_pos (by omega), Array.getElem?_toList]
/-- One block of the list is written. -/
def putL (l : List (Nat × Obj)) (g : Nat) (o : Obj) : List (Nat × Obj) := (g, o) :: l.filter fun p => decide (p.1 ≠ g)
theorem putL_new (l : List (Nat × Obj)) (g : Nat) (o : Obj) : (g, o) ∈ putL l g o := List.mem_cons_self
theorem putL_old {l : List (Nat × Obj)} {g b : Nat} {o q : Obj} (h : (b, q) ∈ l) (hn : b ≠ g) : (b, q) ∈ putL l g o := List.mem_cons_of_mem _ (List.mem_filter.2 ⟨h, by simpa using hn⟩)
theorem putL_own {l : List (Nat × Obj)} {g : Nat} {o : Obj} {b : Nat} (h : ∃ p ∈ putL l g o, p.1 = b) : b = g ∨ ∃ p ∈ l, p.1 = b := by
  obtain ⟨p, hp, rfl⟩ := h
  rcases List.mem_cons.1 hp with e | e
  · exact Or.inl (by rw [e])
  · exact Or.inr ⟨p, (List.mem_filter.1 e).1, rfl⟩
/-- An owner without requests, seen from a world ahead. -/
theorem ow_base {w0 w1 w : World} {t t' : Nat → Prop} {ob sb b n g C : Nat} {pb : Option Nat} {M : ByteArray → List O.Vn} (h : O.OwS w1 t w ob sb b n g pb C M []) (hf : Fr [] w0 w1) : O.OwS w0 t' w ob sb b n g pb C M [] := by
  obtain ⟨xs, hq, hw⟩ := h.q
  have hz := hf.size
  cases hw
  refine ⟨⟨[], hq, .nil⟩, ⟨h.sh.box, Nat.le_trans hz h.sh.sbn, Nat.le_trans hz h.sh.bn, h.sh.ok, ?_⟩, hf.then h.fr, Nat.le_trans hz h.gn, Nat.le_trans hz h.on, fun k e => Nat.le_trans hz (h.pn k e)⟩
  obtain ⟨G, h1, h2, h3, h4⟩ := h.sh.map
  exact ⟨G, h1, h2, fun k g L c e => ⟨(h3 k g L c e).1.later hz, (h3 k g L c e).2⟩, h4⟩
/-- The parts of a machine that is being made: what stands of it itself is a list of blocks; so many lanes; so many owners. -/
def bQ (w0 : World) (c : Cf) (Q : Ix → Part) (la : Nat → Nat) (nl : Nat) (ob : Nat → Nat) (oy : Nat → Oy) (no : Nat) (l : List (Nat × Obj)) : Ix → Part
  | .st => blP w0 l
  | .la i => if i < nl then lnP w0 c (la i) i none [] else nilP
  | .ow j => if j < no then owP w0 c (ob j) (oy j) (fun _ => []) [] else nilP
  | .fe => Q .fe
  | .de => Q .de
  | .ga => Q .ga
  | .wa => Q .wa
  | .li => Q .li
  | .pa => Q .pa
  | .re => Q .re
def Bd (w0 w : World) (c : Cf) (Q : Ix → Part) (la : Nat → Nat) (nl : Nat) (ob : Nat → Nat) (oy : Nat → Oy) (no : Nat) (l : List (Nat × Obj)) : Prop := Mach w0 w (bQ w0 c Q la nl ob oy no l)
section
variable {w0 w w' : World} {c : Cf} {Q : Ix → Part} {la : Nat → Nat} {nl : Nat} {ob : Nat → Nat} {oy : Nat → Oy} {no : Nat} {l : List (Nat × Obj)}
theorem Bd.quiet (h : Bd w0 w c Q la nl ob oy no l) (hf : Fr [] w w') : Bd w0 w' c Q la nl ob oy no l := Mach.quiet h hf
theorem Bd.ls (h : Bd w0 w c Q la nl ob oy no l) : (blP w0 l).M w := h.m .st
theorem Bd.at (h : Bd w0 w c Q la nl ob oy no l) {b : Nat} {o : Obj} (hb : (b, o) ∈ l) : w.heap[b]? = some o := (h.ls _ hb).1
theorem Bd.lt (h : Bd w0 w c Q la nl ob oy no l) {b : Nat} {o : Obj} (hb : (b, o) ∈ l) : b < w.heap.size := lt_of_block (h.at hb)
theorem Bd.ge (h : Bd w0 w c Q la nl ob oy no l) {b : Nat} {o : Obj} (hb : (b, o) ∈ l) : w0.heap.size ≤ b := (h.ls _ hb).2
theorem Bd.cell (h : Bd w0 w c Q la nl ob oy no l) {b : Nat} {cs : Array Value} {t : TypeId} (hb : (b, Obj.cells cs t (0, 0)) ∈ l) (j : Nat) : w.cell? ⟨b, j, none⟩ = cs[j]? := cell_of_row _ _ _ _ _ _ (h.at hb)
theorem Bd.free (h : Bd w0 w c Q la nl ob oy no l) {b : Nat} {cs : Array Value} {t : TypeId} (hb : (b, Obj.cells cs t (0, 0)) ∈ l) (j : Nat) : w.frozen? ⟨b, j, none⟩ = false := by simp [World.frozen?, h.at hb]
theorem Bd.same (h : Bd w0 w c Q la nl ob oy no l) {b b' : Nat} {cs cs' : Array Value} {t t' : TypeId} (hb : (b, Obj.cells cs t (0, 0)) ∈ l) (hb' : (b', Obj.cells cs' t' (0, 0)) ∈ l) (ht : t ≠ t') : b ≠ b' := ne_types (h.at hb) (h.at hb') ht
/-- What stands of the machine itself changes: some listed blocks are written, some new ones are there. -/
theorem Bd.chg (h : Bd w0 w c Q la nl ob oy no l) {S : List Nat} {l' : List (Nat × Obj)} (hf : Fr S w w') (hS : ∀ b ∈ S, b < w.heap.size → ∃ p ∈ l, p.1 = b) (hm : ∀ p ∈ l', w'.heap[p.1]? = some p.2) (hO : ∀ p ∈ l', (∃ q ∈ l, q.1 = p.1) ∨ w.heap.size ≤ p.1) : Bd w0 w' c Q la nl ob oy no l' := by
  have h0 : w0.heap.size ≤ w.heap.size := (Mach.fr h).size
  refine (Mach.one (P' := bQ w0 c Q la nl ob oy no l') h .st (blP w0 l') hf hS (fun j hj => ?_) rfl (blP_ok w0 l') (fun p hp => ⟨hm p hp, ?_⟩) (fun b hb => ?_)).1
  · cases j <;> first | rfl | exact absurd rfl hj
  · rcases hO p hp with ⟨q, hq, e⟩ | e
    · rw [← e]; exact (h.ls q hq).2
    · omega
  · obtain ⟨p, hp, rfl⟩ := hb
    exact hO p hp
/-- A new block. -/
theorem Bd.new (h : Bd w0 w c Q la nl ob oy no l) {g : Nat} {o : Obj} (hf : Fr [] w w') (hg : w'.heap[g]? = some o) (hn : w.heap.size ≤ g) : Bd w0 w' c Q la nl ob oy no ((g, o) :: l) := by
  refine h.chg hf (by simp) (fun p hp => ?_) (fun p hp => ?_)
  · rcases List.mem_cons.1 hp with e | e
    · rw [e]; exact hg
    · exact hf.keep (h.ls p e).1 (by simp)
  · rcases List.mem_cons.1 hp with e | e
    · rw [e]; exact Or.inr hn
    · exact Or.inl ⟨p, e, rfl⟩
/-- One listed block is written. -/
theorem Bd.put (h : Bd w0 w c Q la nl ob oy no l) {g : Nat} {o o' : Obj} (hg0 : (g, o) ∈ l) (hf : Fr [g] w w') (hg : w'.heap[g]? = some o') : Bd w0 w' c Q la nl ob oy no (putL l g o') := by
  refine h.chg hf (fun b hb _ => ⟨_, hg0, (List.mem_singleton.1 hb).symm⟩) (fun p hp => ?_) (fun p hp => ?_)
  · rcases List.mem_cons.1 hp with e | e
    · rw [e]; exact hg
    · obtain ⟨e1, e2⟩ := List.mem_filter.1 e
      exact hf.keep (h.ls p e1).1 (by simpa using e2)
  · rcases List.mem_cons.1 hp with e | e
    · rw [e]; exact Or.inl ⟨_, hg0, rfl⟩
    · exact Or.inl ⟨p, (List.mem_filter.1 e).1, rfl⟩
theorem Bd.set (h : Bd w0 w c Q la nl ob oy no l) {g : Nat} {cs : Array Value} {t : TypeId} (hg0 : (g, Obj.cells cs t (0, 0)) ∈ l) (j : Nat) (v : Value) : Bd w0 (w.setCell ⟨g, j, none⟩ v) c Q la nl ob oy no (putL l g (.cells (cs.setIfInBounds j v) t (0, 0))) :=
  h.put hg0 (Fr.set _ _ _ (by simp)) (row_setCell v (h.at hg0))
/-- A row is appended to. -/
theorem Bd.app (h : Bd w0 w c Q la nl ob oy no l) {e : TypeId} {v : Value} {n g cap : Nat} {xs ys : List Value} (hr : RowL l e v n xs) (hown : w'.ownsRow 0 e 1 (.slice (some ⟨g, 0, none⟩) (n + 1) cap) (n + 1) ys) (hw : Went w v g w') :
    ∃ l', Bd w0 w' c Q la nl ob oy no l' ∧ RowL l' e (.slice (some ⟨g, 0, none⟩) (n + 1) cap) (n + 1) ys ∧ ∀ b cs t, t ≠ e → (b, Obj.cells cs t (0, 0)) ∈ l → (b, Obj.cells cs t (0, 0)) ∈ l' := by
  obtain ⟨cur, hcur, hrow⟩ : ∃ cur, w'.heap[g]? = some (.cells cur e (0, 0)) ∧ ∀ l', (g, Obj.cells cur e (0, 0)) ∈ l' → RowL l' e (.slice (some ⟨g, 0, none⟩) (n + 1) cap) (n + 1) ys := by
    obtain ⟨h1, h2⟩ := hown
    rcases h2 with ⟨h2, _⟩ | ⟨g', cap', cur, h2, h3, h4, h5, h6, h7, h8⟩
    · cases h2
    · cases h2
      exact ⟨cur, h4, fun l' hl => ⟨by omega, Or.inr ⟨g, cap, cur, rfl, hl, h5, h6, h7, h8⟩⟩⟩
  rcases hw with ⟨h1, h2⟩ | ⟨h1, h2⟩
  · obtain ⟨cur0, hl0⟩ : ∃ cur0, (g, Obj.cells cur0 e (0, 0)) ∈ l := by
      rcases hr.2 with ⟨h3, _⟩ | ⟨g', cap', cur0, h3, h4, _⟩
      · rw [h3] at h1; cases h1
      · rw [h3] at h1; cases h1; exact ⟨cur0, h4⟩
    have hf : Fr [g] w w' := Fr.grown h2 (by intro k hk _; cases hk; simp)
    refine ⟨_, h.put hl0 hf hcur, hrow _ (putL_new _ _ _), fun b cs t ht hb => putL_old hb ?_⟩
    exact h.same hb hl0 ht
  · have hf : Fr [] w w' := Fr.grown h2 (by simp)
    exact ⟨_, h.new hf hcur h1, hrow _ List.mem_cons_self, fun b cs t ht hb => List.mem_cons_of_mem _ hb⟩
/-- One more lane. -/
theorem Bd.lane (h : Bd w0 w c Q la nl ob oy no l) {lb : Nat} (hf : Fr [] w w') (hl : LnM w' lb ((nl + 1 : Nat) : Int) c.l c.s c.w c.q none []) (hn : w.heap.size ≤ lb) : Bd w0 w' c Q (upd la nl lb) (nl + 1) ob oy no l := by
  have h0 : w0.heap.size ≤ w.heap.size := (Mach.fr h).size
  refine (Mach.one (P' := bQ w0 c Q (upd la nl lb) (nl + 1) ob oy no l) h (.la nl) (lnP w0 c lb nl none []) hf (by simp) (fun j hj => ?_) ?_ (lnP_ok _ _ _ _ _ _) ⟨hl, fun b hb => ?_⟩ (fun b hb => ?_)).1
  · cases j with
    | la i =>
      have hi : i ≠ nl := fun e => hj (by rw [e])
      simp only [bQ]
      by_cases h1 : i < nl
      · rw [if_pos h1, if_pos (by omega), upd_other _ _ hi]
      · rw [if_neg h1, if_neg (by omega)]
    | _ => rfl
  · simp only [bQ]
    rw [if_pos (by omega), upd_same]
  · rcases hb with rfl | hb
    · exact ⟨by omega, hl.lt⟩
    · cases hb
  · rcases hb with rfl | hb
    · exact Or.inr hn
    · cases hb
/-- One more owner. -/
theorem Bd.owner (h : Bd w0 w c Q la nl ob oy no l) {ok sb b g : Nat} {t : Nat → Prop} (ho : O.OwS w t w' ok sb b 0 g none c.q.toNat (fun _ => []) []) : Bd w0 w' c Q la nl (upd ob no ok) (upd oy no ⟨sb, b, g, none, fun _ => False, 0⟩) (no + 1) l := by
  have h0 := Mach.fr h
  refine (Mach.one (P' := bQ w0 c Q la nl (upd ob no ok) (upd oy no ⟨sb, b, g, none, fun _ => False, 0⟩) (no + 1) l) h (.ow no) (owP w0 c ok ⟨sb, b, g, none, fun _ => False, 0⟩ (fun _ => []) []) ho.fr (by simp) (fun j hj => ?_) ?_ (owP_ok _ _ _ _ _ _) ⟨ow_base ho h0, fun j hj => hj.elim⟩ (fun j hj => ?_)).1
  · cases j with
    | ow i =>
      have hi : i ≠ no := fun e => hj (by rw [e])
      simp only [bQ]
      by_cases h1 : i < no
      · rw [if_pos h1, if_pos (by omega), upd_other _ _ hi, upd_other _ _ hi]
      · rw [if_neg h1, if_neg (by omega)]
    | _ => rfl
  · simp only [bQ]
    rw [if_pos (by omega), upd_same, upd_same]
  · rcases hj with h1 | h1
    · exact Or.inr (owS_lt ho h1).1
    · exact h1.elim
/-- One more of the other parts. -/
theorem Bd.part (h : Bd w0 w c Q la nl ob oy no l) {Q' : Ix → Part} (i : Ix) (hi : i = .fe ∨ i = .de ∨ i = .ga ∨ i = .wa ∨ i = .li ∨ i = .pa ∨ i = .re) (hf : Fr [] w w') (hs : ∀ j, j ≠ i → Q' j = Q j) (hok : (Q' i).Ok w0) (hm : (Q' i).M w') (hO : ∀ b, (Q' i).O w' b → w.heap.size ≤ b) : Bd w0 w' c Q' la nl ob oy no l := by
  have e : bQ w0 c Q' la nl ob oy no l i = Q' i := by rcases hi with rfl | rfl | rfl | rfl | rfl | rfl | rfl <;> rfl
  refine (Mach.one (P' := bQ w0 c Q' la nl ob oy no l) h i (Q' i) hf (by simp) (fun j hj => ?_) e hok hm (fun b hb => Or.inr (hO b hb))).1
  cases j <;> first | rfl | exact hs _ hj
end
/-- Nothing is there. -/
theorem Bd.none {w0 w : World} {c : Cf} (la : Nat → Nat) (ob : Nat → Nat) (oy : Nat → Oy) (hf : Fr [] w0 w) : Bd w0 w c (fun _ => nilP) la 0 ob oy 0 [] := by
  have ho : ∀ i b, ¬ (bQ w0 c (fun _ => nilP) la 0 ob oy 0 [] i).O w b := fun i b hb => by
    cases i with
    | st => obtain ⟨p, hp, _⟩ := hb; cases hp
    | la i => simp only [bQ] at hb; rw [if_neg (by omega)] at hb; exact hb
    | ow i => simp only [bQ] at hb; rw [if_neg (by omega)] at hb; exact hb
    | _ => exact hb
  refine ⟨fun i => ?_, fun i => ?_, fun i j b h => absurd h (ho i b), hf⟩
  · cases i with
    | st => exact blP_ok w0 []
    | la i => simp only [bQ]; rw [if_neg (by omega)]; exact nilP_ok w0
    | ow i => simp only [bQ]; rw [if_neg (by omega)]; exact nilP_ok w0
    | _ => exact nilP_ok w0
  · cases i with
    | st => intro p hp; cases hp
    | la i => simp only [bQ]; rw [if_neg (by omega)]; trivial
    | ow i => simp only [bQ]; rw [if_neg (by omega)]; trivial
    | _ => trivial
end Go.Proofs.YtakbodlicfmkjaaGreat.Ap
