/- A machine that is being made: how it begins, a row of its that grows, how it ends. Conditions as each names them. -/
import Derived.Test.YtakbodlicfmkjaaGreatSb20
import Derived.Test.YtakbodlicfmkjaaGreatWz20
namespace Go.Proofs.YtakbodlicfmkjaaGreat.Ap
open Go.ChangeShapes Go.WideShapes Go.ChangeAt Go.RowKit Go.Lib Go.Maps
set_option linter.unusedVariables false
set_option linter.unusedSimpArgs false
section
variable {w0 w w' : World} {c : Cf} {Q Q' : Ix → Part} {la : Nat → Nat} {nl : Nat} {ob : Nat → Nat} {oy : Nat → Oy} {no : Nat} {l : List (Nat × Obj)}
/-- The struct itself, with the table and the map of those that wait. -/
theorem Bd.start (h : Bd w0 w c Q la nl ob oy no []) (hf : Fr [] w w') (hs : ∀ j, j ≠ .de → j ≠ .wa → Q' j = Q j) (hok : (Q' .de).Ok w0 ∧ (Q' .wa).Ok w0) (hm : (Q' .de).M w' ∧ (Q' .wa).M w') (hO : (∀ b, (Q' .de).O w' b → w.heap.size ≤ b) ∧ ∀ b, (Q' .wa).O w' b → w.heap.size ≤ b)
    {mb : Nat} {o : Obj} (hb : w'.heap[mb]? = some o) (hbn : w.heap.size ≤ mb) (h1 : ∀ b, (Q' .de).O w' b → ¬ (Q' .wa).O w' b) (h2 : ¬ (Q' .de).O w' mb) (h3 : ¬ (Q' .wa).O w' mb) : Bd w0 w' c Q' la nl ob oy no [(mb, o)] := by
  have h0 : w0.heap.size ≤ w.heap.size := (Mach.fr h).size
  have hin : ∀ b, (∃ p ∈ [(mb, o)], p.1 = b) → b = mb := fun b ⟨p, hp, e⟩ => by rw [List.mem_singleton.1 hp] at e; exact e.symm
  refine (Mach.step (P' := bQ w0 c Q' la nl ob oy no [(mb, o)]) h (fun i => i = .st ∨ i = .de ∨ i = .wa) hf (by simp) (fun j hj => ?_) (fun j hj => ?_) (fun j hj => ?_) (fun j hj b hb => ?_) (fun i j b hi hj hbi hbj => ?_)).1
  · cases j <;> first | rfl | exact absurd (Or.inl rfl) hj | exact absurd (Or.inr (Or.inl rfl)) hj | exact absurd (Or.inr (Or.inr rfl)) hj | exact hs _ (by simp) (by simp)
  · rcases hj with rfl | rfl | rfl
    · exact blP_ok _ _
    · exact hok.1
    · exact hok.2
  · rcases hj with rfl | rfl | rfl
    · intro p hp
      rw [List.mem_singleton.1 hp]
      exact ⟨hb, by show w0.heap.size ≤ mb; omega⟩
    · exact hm.1
    · exact hm.2
  · refine Or.inr ?_
    rcases hj with rfl | rfl | rfl
    · rw [hin b hb]; exact hbn
    · exact hO.1 b hb
    · exact hO.2 b hb
  · rcases hi with rfl | rfl | rfl <;> rcases hj with rfl | rfl | rfl
    · rfl
    · rw [hin b hbi] at hbj; exact absurd hbj h2
    · rw [hin b hbi] at hbj; exact absurd hbj h3
    · rw [hin b hbj] at hbi; exact absurd hbi h2
    · rfl
    · exact absurd hbj (h1 b hbi)
    · rw [hin b hbj] at hbi; exact absurd hbi h3
    · exact absurd hbi (h1 b hbj)
    · rfl
/-- A row of the struct's field J. -/
structure Rw (w0 w : World) (c : Cf) (Q : Ix → Part) (la : Nat → Nat) (nl : Nat) (ob : Nat → Nat) (oy : Nat → Oy) (no : Nat) (mb : Nat) (cs : Array Value) (J : Nat) (e : TypeId) (v : Value) (n : Nat) (xs : List Value) (l : List (Nat × Obj)) : Prop where
  bd : Bd w0 w c Q la nl ob oy no l
  box : (mb, Obj.cells cs 77 (0, 0)) ∈ l
  sz : cs.size = 19
  atJ : cs[J]? = some v
  row : RowL l e v n xs
variable {mb : Nat} {cs : Array Value} {J : Nat} {e : TypeId} {o : Option Addr} {n k : Nat} {xs : List Value}
theorem Rw.quiet {v : Value} (h : Rw w0 w c Q la nl ob oy no mb cs J e v n xs l) (hf : Fr [] w w') : Rw w0 w' c Q la nl ob oy no mb cs J e v n xs l := ⟨h.bd.quiet hf, h.box, h.sz, h.atJ, h.row⟩
theorem Rw.cJ {v : Value} (h : Rw w0 w c Q la nl ob oy no mb cs J e v n xs l) : w.cell? ⟨mb, J, none⟩ = some v := by rw [h.bd.cell h.box]; exact h.atJ
theorem Rw.step (h : Rw w0 w c Q la nl ob oy no mb cs J e (.slice o n k) n xs l) (he : e ≠ 77) (hJ : J < 19) {u : Value} :
    ∀ W g cap w', Fr [] w W → w'.ownsRow 0 e 1 (.slice (some ⟨g, 0, none⟩) (n + 1) cap) (n + 1) (xs ++ [u]) → Went W (.slice o n k) g w' →
      w'.cell? ⟨mb, J, none⟩ = some (.slice o n k) ∧ w'.frozen? ⟨mb, J, none⟩ = false ∧
      Hid (∃ l' cs', Rw w0 (w'.setCell ⟨mb, J, none⟩ (.slice (some ⟨g, 0, none⟩) (n + 1) cap)) c Q la nl ob oy no mb cs' J e (.slice (some ⟨g, 0, none⟩) (n + 1) cap) (n + 1) (xs ++ [u]) l' ∧ (∀ j, j ≠ J → cs'[j]? = cs[j]?) ∧ ∀ b ds t, t ≠ e → t ≠ 77 → (b, Obj.cells ds t (0, 0)) ∈ l → (b, Obj.cells ds t (0, 0)) ∈ l') := by
  intro W g cap w' hf hown hw
  obtain ⟨l2, h2, hr2, hk2⟩ := (h.bd.quiet hf).app h.row hown hw
  have hm2 : (mb, Obj.cells cs 77 (0, 0)) ∈ l2 := hk2 _ _ _ (fun x => he x.symm) h.box
  refine ⟨by rw [h2.cell hm2]; exact h.atJ, h2.free hm2 J, ?_⟩
  refine ⟨_, _, ⟨h2.set hm2 J _, putL_new _ _ _, by simpa using h.sz, ?_, ?_⟩, fun j hj => ?_, fun b ds t ht1 ht2 hm => ?_⟩
  · rw [Array.getElem?_setIfInBounds_self_of_lt (by rw [h.sz]; omega)]
  · exact hr2.mono fun b cur hm => putL_old hm (h2.same hm hm2 he)
  · rw [Array.getElem?_setIfInBounds_ne (fun e => hj e.symm)]
  · have hm' := hk2 _ _ _ ht1 hm
    exact putL_old hm' (h2.same hm' hm2 ht2)
theorem one_ptr (a : Option Addr) : ∀ u ∈ [Value.pointer a], u.oneCell' = true := by
  intro u hu
  rw [List.mem_singleton] at hu
  subst hu
  rfl
/-- All of it is there: a machine. -/
theorem Bd.fin {T : List Tx} {Z : Lay} (h : Bd w0 w c Q la c.l.toNat ob oy c.s.toNat l) (hla : Z.z.la = la) (hob : Z.z.ob = ob) (hoy : Z.o = oy) (hS : Z.S = fun _ => [])
    (hQ : Q .fe = mP w0 c T Z ms0 .fe ∧ Q .de = mP w0 c T Z ms0 .de ∧ Q .ga = mP w0 c T Z ms0 .ga ∧ Q .wa = mP w0 c T Z ms0 .wa ∧ Q .li = mP w0 c T Z ms0 .li ∧ Q .pa = mP w0 c T Z ms0 .pa ∧ Q .re = mP w0 c T Z ms0 .re)
    (hm : StM c Z.z w) (hown : ∀ b, St.own c Z.z b → ∃ q ∈ l, q.1 = b) (hT : txs Z.y.ts = T) (hnd : Z.nd = 0) (hnw : Z.nw = 0) (hn : ∀ j, (Z.o j).n = 0) : MaM w0 w c T Z ms0 := by
  refine ⟨(Mach.one (P' := mP w0 c T Z ms0) h .st (stP w0 c Z.z) (Fr.refl [] w) (by simp) (fun j hj => ?_) rfl (stP_ok _ _ _) ⟨hm, fun b hb => ?_⟩ (fun b hb => Or.inl (hown b hb))).1, hT, Nat.zero_le _, by rw [hnd]; exact Nat.zero_le _, by rw [hnw]; exact Nat.zero_le _, fun j _ => by rw [hn j]; exact Nat.zero_le _⟩
  · obtain ⟨q1, q2, q3, q4, q5, q6, q7⟩ := hQ
    cases j with
    | st => exact absurd rfl hj
    | fe => exact q1.symm
    | de => exact q2.symm
    | ga => exact q3.symm
    | wa => exact q4.symm
    | li => exact q5.symm
    | pa => exact q6.symm
    | re => exact q7.symm
    | la i => simp only [mP, bQ, hla, hS]; rfl
    | ow i => simp only [mP, bQ, hob, hoy]; rfl
  · obtain ⟨q, hq, e⟩ := hown b hb
    rw [← e]; exact (h.ls q hq).2
end
end Go.Proofs.YtakbodlicfmkjaaGreat.Ap
