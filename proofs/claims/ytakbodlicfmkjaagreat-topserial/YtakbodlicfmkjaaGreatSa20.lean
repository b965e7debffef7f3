/- The tasks of a new machine are seated: seatAll. Conditions as each names them. -/
import Derived.Test.YtakbodlicfmkjaaGreatBd20
import Derived.Test.YtakbodlicfmkjaaGreatNs20
import Derived.Deep.RegionLaw
import Derived.Deep.Cut
import Derived.Deep.CutRange
import Derived.Deep.LoopGhost
namespace Go.Proofs.YtakbodlicfmkjaaGreat.Ap
open Go.ChangeShapes Go.WideShapes Go.ChangeAt Go.RowKit Go.Lib
set_option linter.unusedVariables false
set_option linter.unusedSimpArgs false
theorem Tryz.undTasks : Tryz.prog.underlying 73 = some (.slice 102) := by kernel_rfl
theorem Tryz.infoTask : (Tryz.prog.info? 102).map (fun i => (i.zero, i.size, i.bytes)) = some (some .nilIface, 1, 16) := by kernel_rfl
theorem info3a {P : Program} {t : TypeId} {z : Value} {n m : Nat} (h : (P.info? t).map (fun i => (i.zero, i.size, i.bytes)) = some (some z, n, m)) : ∃ i, P.info? t = some i ∧ i.zero = some z ∧ i.size = n ∧ i.bytes = m := by
  cases hi : P.info? t with
  | none => rw [hi] at h; cases h
  | some i =>
    rw [hi] at h
    simp only [Option.map_some, Option.some.injEq, Prod.mk.injEq] at h
    exact ⟨i, rfl, h.1, h.2.1, h.2.2⟩
theorem one_cell {W : World} {b : Nat} {t : TypeId} {v : Value} (h : W.heap[b]? = some (.cells #[v] t (0, 0))) : ∀ j u, [v][j]? = some u → W.cell? ((⟨b, 0, none⟩ : Addr).add j) = some u := by
  intro j u hj
  cases j with
  | zero =>
    simp only [List.getElem?_cons_zero, Option.some.injEq] at hj
    subst hj
    rw [Addr.add_lit, cell_of_row _ _ _ _ _ _ h]
    rfl
  | succ j => simp at hj
theorem one_iface (t : TypeId) (v : Value) : ∀ u ∈ [Value.iface t v], u.oneCell' = true := by
  intro u hu
  rw [List.mem_singleton] at hu
  subst hu
  rfl
theorem alloc2 (w : World) (A : Obj) (t : TypeId) (v : Value) : ((w.alloc A).alloc (.cells #[v] t)).heap[w.heap.size + 1]? = some (.cells #[v] t (0, 0)) := by
  have e : (w.alloc A).heap.size = w.heap.size + 1 := by simp
  rw [← e]
  exact heap_alloc_new _ _
theorem alloc1 (w : World) (cs : Array Value) (t : TypeId) (B : Obj) : ((w.alloc (.cells cs t)).alloc B).heap[w.heap.size]? = some (.cells cs t (0, 0)) :=
  (Fr.alloc [] (w.alloc (.cells cs t)) B).keep (heap_alloc_new w _) (by simp)
theorem fr2 (w : World) (A B : Obj) : Fr [] w ((w.alloc A).alloc B) := (Fr.alloc [] w A).then (Fr.alloc [] _ B)
/-- A machine that is being made, with its row of tasks so far. -/
structure Sq (w0 w : World) (c : Cf) (Q : Ix → Part) (la : Nat → Nat) (nl : Nat) (ob : Nat → Nat) (oy : Nat → Oy) (no : Nat) (mb : Nat) (cs : Array Value) (v : Value) (n : Nat) (xs : List Value) (l : List (Nat × Obj)) : Prop where
  bd : Bd w0 w c Q la nl ob oy no l
  box : (mb, Obj.cells cs 77 (0, 0)) ∈ l
  sz : cs.size = 19
  at13 : cs[13]? = some v
  row : RowL l 102 v n xs
section
variable {w0 w w' : World} {c : Cf} {Q : Ix → Part} {la : Nat → Nat} {nl : Nat} {ob : Nat → Nat} {oy : Nat → Oy} {no : Nat} {mb : Nat} {cs : Array Value} {o : Option Addr} {n k : Nat} {xs : List Value} {l : List (Nat × Obj)}
theorem Sq.quiet {v : Value} (h : Sq w0 w c Q la nl ob oy no mb cs v n xs l) (hf : Fr [] w w') : Sq w0 w' c Q la nl ob oy no mb cs v n xs l := ⟨h.bd.quiet hf, h.box, h.sz, h.at13, h.row⟩
theorem Sq.c13 {v : Value} (h : Sq w0 w c Q la nl ob oy no mb cs v n xs l) : w.cell? ⟨mb, 13, none⟩ = some v := by rw [h.bd.cell h.box]; exact h.at13
/-- What the walk of a seating asks ahead of it. -/
def HxP (w : World) (mb : Nat) (o : Option Addr) (n k : Nat) (xs : List Value) : Prop := ∀ W, Fr [] w W → W.cell? ⟨mb, 13, none⟩ = some (.slice o n k) ∧ W.ownsRow 0 102 1 (.slice o n k) n xs ∧ Hid (Calls Tryz.prog 103 #[.pointer (some ⟨mb, 0, none⟩)] W fun e w' => e = .returned (.agg #[.pointer (some ⟨mb, 0, none⟩), .int .i64 (n : Int)]) ∧ Fr [] W w' ∧ w'.cell? ⟨mb, 13, none⟩ = some (.slice o n k) ∧ Hid (Fr [] w w') ∧ (∀ b, (w'.alloc b).cell? ⟨mb, 13, none⟩ = some (.slice o n k)) ∧ (∀ b c, ((w'.alloc b).alloc c).cell? ⟨mb, 13, none⟩ = some (.slice o n k)))
theorem Sq.hx (h : Sq w0 w c Q la nl ob oy no mb cs (.slice o n k) n xs l) (hn : n ≤ 100) : HxP w mb o n k xs := fun W hf => by
  have h1 := h.quiet hf
  refine ⟨h1.c13, h1.row.own h1.bd.ls, ?_⟩
  refine Calls.mono (nextSeat_any h1.c13 hn) ?_
  rintro e w' ⟨rfl, hf'⟩
  exact ⟨rfl, hf', (h1.quiet hf').c13, hf.then hf', fun b => (h1.quiet (hf'.then (Fr.alloc _ _ _))).c13, fun b d => (h1.quiet (hf'.then (fr2 _ _ _))).c13⟩
/-- One more task is seated: in a box of its own. -/
theorem Sq.step (h : Sq w0 w c Q la nl ob oy no mb cs (.slice o n k) n xs l) {K : Array Value} {tK tI : TypeId} (hK : tK ≠ 102 ∧ tK ≠ 77) :
    ∀ W bx g cap w', Fr [] w W → W.heap[bx]? = some (.cells K tK (0, 0)) → w.heap.size ≤ bx → w'.ownsRow 0 102 1 (.slice (some ⟨g, 0, none⟩) (n + 1) cap) (n + 1) (xs ++ [.iface tI (.pointer (some ⟨bx, 0, none⟩))]) → Went W (.slice o n k) g w' →
      w'.cell? ⟨mb, 13, none⟩ = some (.slice o n k) ∧ w'.frozen? ⟨mb, 13, none⟩ = false ∧
      Hid (∃ l' cs', Sq w0 (w'.setCell ⟨mb, 13, none⟩ (.slice (some ⟨g, 0, none⟩) (n + 1) cap)) c Q la nl ob oy no mb cs' (.slice (some ⟨g, 0, none⟩) (n + 1) cap) (n + 1) (xs ++ [.iface tI (.pointer (some ⟨bx, 0, none⟩))]) l' ∧ (bx, Obj.cells K tK (0, 0)) ∈ l' ∧ (∀ j, j ≠ 13 → cs'[j]? = cs[j]?) ∧ ∀ b ds t, t ≠ 102 → t ≠ 77 → (b, Obj.cells ds t (0, 0)) ∈ l → (b, Obj.cells ds t (0, 0)) ∈ l') := by
  intro W bx g cap w' hf hb hbx hown hw
  have h1 := h.bd.new hf hb hbx
  have hr : RowL ((bx, Obj.cells K tK (0, 0)) :: l) 102 (.slice o n k) n xs := h.row.mono fun _ _ hm => List.mem_cons_of_mem _ hm
  obtain ⟨l2, h2, hr2, hk2⟩ := h1.app hr hown hw
  have hm2 : (mb, Obj.cells cs 77 (0, 0)) ∈ l2 := hk2 _ _ _ (by decide) (List.mem_cons_of_mem _ h.box)
  have hb2 : (bx, Obj.cells K tK (0, 0)) ∈ l2 := hk2 _ _ _ hK.1 List.mem_cons_self
  refine ⟨by rw [h2.cell hm2]; exact h.at13, h2.free hm2 13, ?_⟩
  refine ⟨_, _, ⟨h2.set hm2 13 _, putL_new _ _ _, by simpa using h.sz, ?_, ?_⟩, putL_old hb2 (h2.same hb2 hm2 hK.2), fun j hj => ?_, fun b ds t ht1 ht2 hm => ?_⟩
  · rw [Array.getElem?_setIfInBounds_self_of_lt (by rw [h.sz]; omega)]
  · exact hr2.mono fun b cur hm => putL_old hm (h2.same hm hm2 (by decide))
  · rw [Array.getElem?_setIfInBounds_ne (fun e => hj e.symm)]
  · have hm' := hk2 _ _ _ ht1 (List.mem_cons_of_mem _ hm)
    exact putL_old hm' (h2.same hm' hm2 ht2)
end
/-- The task at a place. -/
def tv (nl kd : Nat) (kw kk : Nat → Nat) (i : Nat) : Value := if i = 0 then .iface 215 (.pointer (some ⟨kd, 0, none⟩)) else if i ≤ nl then .iface 221 (.pointer (some ⟨kw (i - 1), 0, none⟩)) else .iface 224 (.pointer (some ⟨kk (i - nl - 1), 0, none⟩))
/-- What is listed besides. -/
structure Sf (l : List (Nat × Obj)) (cs cs0 : Array Value) (xs : List Value) (mb : Nat) (la : Nat → Nat) (nl : Nat) (ob : Nat → Nat) (no lsB osB kd : Nat) (kw kk : Nat → Nat) (a b : Nat) : Prop where
  hc : ∀ j, j ≠ 13 → cs[j]? = cs0[j]?
  lr : ∃ cur, (lsB, Obj.cells cur 156 (0, 0)) ∈ l ∧ ∀ i, i < nl → cur[i]? = some (pv (la i))
  wr : ∃ cur, (osB, Obj.cells cur 131 (0, 0)) ∈ l ∧ ∀ i, i < no → cur[i]? = some (pv (ob i))
  hd : (kd, Obj.cells #[pv mb, .int .i64 0] 220 (0, 0)) ∈ l
  hw : ∀ i, i < a → (kw i, Obj.cells #[pv mb, .int .i64 ((i + 1 : Nat) : Int), pv (la i)] 223 (0, 0)) ∈ l
  hk : ∀ j, j < b → (kk j, Obj.cells #[pv mb, .int .i64 ((nl + 1 + j : Nat) : Int), .int .i64 (j : Int), pv (ob j)] 226 (0, 0)) ∈ l
  len : xs.length = 1 + a + b
  ht : ∀ i, i < 1 + a + b → xs[i]? = some (tv nl kd kw kk i)
section
variable {l l' : List (Nat × Obj)} {cs cs' cs0 : Array Value} {xs : List Value} {mb nl no lsB osB kd : Nat} {la ob kw kk : Nat → Nat} {a b bx : Nat}
theorem Sf.rest (h : Sf l cs cs0 xs mb la nl ob no lsB osB kd kw kk a b) (hc : ∀ j, j ≠ 13 → cs'[j]? = cs[j]?) (hl : ∀ b ds t, t ≠ 102 → t ≠ 77 → (b, Obj.cells ds t (0, 0)) ∈ l → (b, Obj.cells ds t (0, 0)) ∈ l') : Sf l' cs' cs0 xs mb la nl ob no lsB osB kd kw kk a b := by
  refine ⟨fun j hj => (hc j hj).trans (h.hc j hj), ?_, ?_, hl _ _ _ (by decide) (by decide) h.hd, fun i hi => hl _ _ _ (by decide) (by decide) (h.hw i hi), fun i hi => hl _ _ _ (by decide) (by decide) (h.hk i hi), h.len, h.ht⟩
  · obtain ⟨cur, h1, h2⟩ := h.lr; exact ⟨cur, hl _ _ _ (by decide) (by decide) h1, h2⟩
  · obtain ⟨cur, h1, h2⟩ := h.wr; exact ⟨cur, hl _ _ _ (by decide) (by decide) h1, h2⟩
theorem Sf.lane (h : Sf l cs cs0 xs mb la nl ob no lsB osB kd kw kk a 0) (ha : a < nl) (hb : (bx, Obj.cells #[pv mb, .int .i64 ((a + 1 : Nat) : Int), pv (la a)] 223 (0, 0)) ∈ l) : Sf l cs cs0 (xs ++ [.iface 221 (.pointer (some ⟨bx, 0, none⟩))]) mb la nl ob no lsB osB kd (upd kw a bx) kk (a + 1) 0 := by
  refine ⟨h.hc, h.lr, h.wr, h.hd, fun i hi => ?_, fun j hj => absurd hj (by omega), by rw [List.length_append, h.len]; simp only [List.length_cons, List.length_nil]; omega, fun i hi => ?_⟩
  · by_cases e : i = a
    · subst e; rw [upd_same]; exact hb
    · rw [upd_other _ _ e]; exact h.hw i (by omega)
  · by_cases e : i = 1 + a
    · subst e
      rw [List.getElem?_append_right (by rw [h.len]; omega), h.len]
      simp only [tv]
      rw [if_neg (by omega), if_pos (by omega), show 1 + a - 1 = a by omega, upd_same, show 1 + a - (1 + a + 0) = 0 by omega]
      first | done | rfl
    · rw [List.getElem?_append_left (by rw [h.len]; omega), h.ht i (by omega)]
      simp only [tv]
      by_cases e0 : i = 0
      · rw [if_pos e0, if_pos e0]
      · rw [if_neg e0, if_neg e0, if_pos (by omega), if_pos (by omega), upd_other _ _ (by omega)]
theorem Sf.owner (h : Sf l cs cs0 xs mb la nl ob no lsB osB kd kw kk nl b) (hb : (bx, Obj.cells #[pv mb, .int .i64 ((nl + 1 + b : Nat) : Int), .int .i64 (b : Int), pv (ob b)] 226 (0, 0)) ∈ l) : Sf l cs cs0 (xs ++ [.iface 224 (.pointer (some ⟨bx, 0, none⟩))]) mb la nl ob no lsB osB kd kw (upd kk b bx) nl (b + 1) := by
  refine ⟨h.hc, h.lr, h.wr, h.hd, h.hw, fun i hi => ?_, by rw [List.length_append, h.len]; simp only [List.length_cons, List.length_nil]; omega, fun i hi => ?_⟩
  · by_cases e : i = b
    · subst e; rw [upd_same]; exact hb
    · rw [upd_other _ _ e]; exact h.hk i (by omega)
  · by_cases e : i = 1 + nl + b
    · subst e
      rw [List.getElem?_append_right (by rw [h.len]; omega), h.len]
      simp only [tv]
      rw [if_neg (by omega), if_neg (by omega), show 1 + nl + b - nl - 1 = b by omega, upd_same, show 1 + nl + b - (1 + nl + b) = 0 by omega]
      first | done | rfl
    · rw [List.getElem?_append_left (by rw [h.len]; omega), h.ht i (by omega)]
      simp only [tv]
      by_cases e0 : i = 0
      · rw [if_pos e0, if_pos e0]
      · rw [if_neg e0, if_neg e0]
        by_cases e1 : i ≤ nl
        · rw [if_pos e1, if_pos e1]
        · rw [if_neg e1, if_neg e1, upd_other _ _ (by omega)]
end
end Go.Proofs.YtakbodlicfmkjaaGreat.Ap
