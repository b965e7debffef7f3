/- Texts of this claim laid together, one behind the other: contracts and plain lemmas; conditions as each names them. -/
import Derived.Test.YtomajifklajilaaGreatGp29
import Derived.Test.YtomajifklajilaaGreatGp37
import Derived.Test.YtomajifklajilaaGreatGp39
/- Both owners side by side: which blocks are theirs, and what each one's calls leave of the other. Conditions as each names them. -/
namespace Go.Proofs.YtomajifklajilaaGreat
open Go.ChangeShapes Go.WideShapes Go.ChangeAt Go.RowKit Go.Lib Go.Maps
set_option linter.unusedVariables false
set_option linter.unusedSimpArgs false

/-- The document's blocks. -/
def DocB (yb : Nat) (qo : Option Addr) (yg : Nat) (lo : Option Addr) (N lc : Nat) (hs : List Hd) (j : Nat) : Prop := j = yb ∨ qb qo = some j ∨ DB yg lo N lc hs j
theorem IRs.old {w w' : World} {ao : Option Addr} {ns : List Int} (h : IRs w ao ns) (he : 0 < ns.length → ∀ a, ao = some a → w'.heap[a.block]? = w.heap[a.block]?) (hs : w.heap.size ≤ w'.heap.size) : IRs w' ao ns := by
  refine ⟨fun h0 => ?_, h.few⟩
  obtain ⟨b, off, e, hb, hc⟩ := h.lies h0
  exact ⟨b, off, e, Nat.lt_of_lt_of_le hb hs, fun i hi => by
    have q := he h0 ⟨b, off, none⟩ e
    exact (World.cell?_of_block (a := ⟨b, off + i, none⟩) q).trans (hc i hi)⟩
/-- A request that waits at the document's owner: its row came in with the law's own. -/
structure OneY (wl w : World) (x : Rv) (r : Rq) : Prop where
  is : x.q r.bs = r
  len : x.bl = r.bs.length
  row : IRs w x.bo r.bs
  old : 0 < r.bs.length → ∀ a, x.bo = some a → a.block < wl.heap.size
inductive WtY (wl w : World) : List Rv → List Rq → Prop
  | nil : WtY wl w [] []
  | cons {x : Rv} {r : Rq} {xs : List Rv} {rs : List Rq} : OneY wl w x r → WtY wl w xs rs → WtY wl w (x :: xs) (r :: rs)
theorem WtY.old {wl w w' : World} {xs : List Rv} {rs : List Rq} (h : WtY wl w xs rs) (he : ∀ j, j < wl.heap.size → w'.heap[j]? = w.heap[j]?) (hs : w.heap.size ≤ w'.heap.size) : WtY wl w' xs rs := by
  induction h with
  | nil => exact .nil
  | cons h1 _ ih => exact .cons ⟨h1.is, h1.len, h1.row.old (fun h0 a e => he _ (h1.old h0 a e)) hs, h1.old⟩ ih
theorem WtY.snoc {wl w : World} {xs : List Rv} {rs : List Rq} {x : Rv} {r : Rq} (h : WtY wl w xs rs) (hx : OneY wl w x r) : WtY wl w (xs ++ [x]) (rs ++ [r]) := by
  induction h with
  | nil => exact .cons hx .nil
  | cons h1 _ ih => exact .cons h1 ih
theorem WtY.len {wl w : World} {xs : List Rv} {rs : List Rq} (h : WtY wl w xs rs) : xs.length = rs.length := by
  induction h with
  | nil => rfl
  | cons _ _ ih => simp [ih]
/-- The document's owner beside a program's one. -/
structure Dq (wl w0 w1 w : World) (ob sb b g : Nat) (pb : Option Nat) (C : Nat) (rs : List Rq) (yb yg : Nat) (qo : Option Addr) (qn qc : Nat) (xs : List Rv) (N lc : Nat) (lo : Option Addr) (hs : List Hd) : Prop where
  y : YoM w yb (some ⟨yg, 0, none⟩) C qo qn qc xs
  k : KSh w1 w yg N lc lo hs
  wt : WtY wl w xs rs
  ap : ∀ j, OwnA ob sb b g pb w j → ¬ DocB yb qo yg lo N lc hs j
  dn : ∀ j, DocB yb qo yg lo N lc hs j → w0.heap.size ≤ j
  yy : ¬ DB yg lo N lc hs yb
  qq : ∀ k, qb qo = some k → ¬ DB yg lo N lc hs k
  lw : wl.heap.size ≤ w0.heap.size
  l1 : w1.heap.size ≤ w.heap.size
section
variable {wl w0 w1 w w' : World} {t : Nat → Prop} {ob sb b n g : Nat} {pb : Option Nat} {C : Nat} {M : ByteArray → List Vn} {rs rs' : List Rq} {yb yg : Nat} {qo : Option Addr} {qn qc : Nat} {xs : List Rv} {N lc : Nat} {lo : Option Addr} {hs : List Hd}
theorem Dq.blk (h : Dq wl w0 w1 w ob sb b g pb C rs yb yg qo qn qc xs N lc lo hs) {j : Nat} (hj : DocB yb qo yg lo N lc hs j) : ∃ cur tt, w.heap[j]? = some (.cells cur tt (0, 0)) ∧ tt ≠ 3 := by
  rcases hj with rfl | hj | rfl | hj | ⟨x, hx, hj⟩
  · exact ⟨_, _, h.y.row, by decide⟩
  · obtain ⟨cur, e⟩ := h.y.q.blk hj
    exact ⟨_, _, e, by decide⟩
  · exact ⟨_, _, h.k.box, by decide⟩
  · obtain ⟨_, cur, e⟩ := owns_cells h.k.log.row hj
    exact ⟨_, _, e, by decide⟩
  · obtain ⟨cur, e⟩ := h.k.log.ty x hx j hj
    exact ⟨_, _, e, by decide⟩
theorem Dq.lt (h : Dq wl w0 w1 w ob sb b g pb C rs yb yg qo qn qc xs N lc lo hs) {j : Nat} (hj : DocB yb qo yg lo N lc hs j) : j < w.heap.size := by
  obtain ⟨cur, tt, e, _⟩ := h.blk hj
  exact lt_of_block e
theorem OwS.lt (h : OwS w0 t w ob sb b n g pb C M rs) {j : Nat} (hj : OwnA ob sb b g pb w j) : j < w.heap.size := by
  obtain ⟨xs, hq, _⟩ := h.q
  rcases hj with rfl | rfl | rfl | rfl | hj | hj
  · exact lt_of_block hq.box
  · exact lt_of_block h.sh.box
  · exact h.sh.bl
  · obtain ⟨N, F, K, ps, hR⟩ := hq.rg
    exact lt_of_block hR.box
  · obtain ⟨N, F, K, ps, hR⟩ := hq.rg
    exact lt_of_block (hR.row j hj)
  · exact h.sh.blk9 (Or.inr (Or.inr hj))
/-- Behind a call of the program's owner. -/
theorem Dq.pro {pb' : Option Nat} {n' : Nat} {M' : ByteArray → List Vn} (h : Dq wl w0 w1 w ob sb b g pb C rs yb yg qo qn qc xs N lc lo hs) (ho : OwS w0 t w ob sb b n g pb C M rs') {t' : Nat → Prop} {rs2 : List Rq} (hO : OwS w0 t' w' ob sb b n' g pb' C M' rs2) (hF : OwF b g pb w w') (hp : ∀ k, pb' = some k → pb = some k ∨ w.heap.size ≤ k) :
    Dq wl w0 w1 w' ob sb b g pb' C rs yb yg qo qn qc xs N lc lo hs := by
  classical
  obtain ⟨S0, hf0, hm⟩ := hF
  obtain ⟨hm1, hm2⟩ := hm ho.sh.bl
  obtain ⟨S, hf, hS⟩ : ∃ S, Fr S w w' ∧ ∀ j ∈ S, OwnA ob sb b g pb w j := by
    refine ⟨S0.filter fun j => decide (j < w.heap.size), hf0.mono (fun x hx hl => List.mem_filter.2 ⟨hx, by simpa using hl⟩), fun j hj => ?_⟩
    obtain ⟨a, b⟩ := List.mem_filter.1 hj
    rcases hm1 j a (by simpa using b) with e | e | e | ⟨_, e⟩
    · exact Or.inr (Or.inr (Or.inr (Or.inl e)))
    · exact Or.inr (Or.inr (Or.inr (Or.inr (Or.inl e))))
    · exact Or.inr (Or.inr (Or.inl e))
    · exact Or.inr (Or.inr (Or.inr (Or.inr (Or.inr e))))
  have nS : ∀ j, DocB yb qo yg lo N lc hs j → j ∉ S := fun j hj hm => h.ap j (hS j hm) hj
  refine ⟨h.y.keep hf (nS yb (Or.inl rfl)) (fun k e => nS k (Or.inr (Or.inl e))), h.k.keepS hf (fun j hj hd => nS j (Or.inr (Or.inr hd)) hj), h.wt.old (fun j hj => ?_) hf.size, fun j hj hd => ?_, h.dn, h.yy, h.qq, h.lw, Nat.le_trans h.l1 hf.size⟩
  · have hj0 : j < w0.heap.size := Nat.lt_of_lt_of_le hj h.lw
    rw [hO.fr.block j hj0 (by simp), ho.fr.block j hj0 (by simp)]
  · have hl := h.lt hd
    rcases hj with e | e | e | e | e | e
    · exact h.ap j (Or.inl e) hd
    · exact h.ap j (Or.inr (Or.inl e)) hd
    · exact h.ap j (Or.inr (Or.inr (Or.inl e))) hd
    · exact h.ap j (Or.inr (Or.inr (Or.inr (Or.inl e)))) hd
    · rcases hp j e with q | q
      · exact h.ap j (Or.inr (Or.inr (Or.inr (Or.inr (Or.inl q))))) hd
      · omega
    · rcases hm2 j e with q | q
      · exact h.ap j (Or.inr (Or.inr (Or.inr (Or.inr (Or.inr q))))) hd
      · omega
theorem Dq.same (h : Dq wl w0 w1 w ob sb b g pb C rs yb yg qo qn qc xs N lc lo hs) (ho : OwS w0 t w ob sb b n g pb C M rs') (hf : Fr [] w w') : Dq wl w0 w1 w' ob sb b g pb C rs yb yg qo qn qc xs N lc lo hs := h.pro ho (ho.same hf) (OwF.of hf) (fun k e => Or.inl e)
/-- Behind a call of the document's owner. -/
theorem Dq.doc {qo' : Option Addr} {qn' qc' : Nat} {xs' : List Rv} {N' lc' : Nat} {lo' : Option Addr} {hs' : List Hd} {S : List Nat} {rs2 : List Rq} (h : Dq wl w0 w1 w ob sb b g pb C rs yb yg qo qn qc xs N lc lo hs) (ho : OwS w0 t w ob sb b n g pb C M rs') (hf : Fr S w w') (hS : ∀ j ∈ S, j < w.heap.size → DocB yb qo yg lo N lc hs j)
    (hy : YoM w' yb (some ⟨yg, 0, none⟩) C qo' qn' qc' xs') (hk : KSh w1 w' yg N' lc' lo' hs') (hwt : ∀ (he : ∀ j, j < wl.heap.size → w'.heap[j]? = w.heap[j]?), WtY wl w' xs' rs2) (hn : ∀ j, DocB yb qo' yg lo' N' lc' hs' j → DocB yb qo yg lo N lc hs j ∨ w.heap.size ≤ j) (hyy : ¬ DB yg lo' N' lc' hs' yb) (hqq : ∀ k, qb qo' = some k → ¬ DB yg lo' N' lc' hs' k) :
    OwS w0 t w' ob sb b n g pb C M rs' ∧ Dq wl w0 w1 w' ob sb b g pb C rs2 yb yg qo' qn' qc' xs' N' lc' lo' hs' := by
  have hO := ho.far hf (fun j hj hl => ⟨h.dn j (hS j hj hl), fun hA => h.ap j hA (hS j hj hl), Or.inr (h.blk (hS j hj hl))⟩)
  have hbS : b ∉ S := fun hm => h.ap b (Or.inr (Or.inr (Or.inl rfl))) (hS b hm ho.sh.bl)
  refine ⟨hO, hy, hk, hwt (fun j hj => ?_), fun j hj hd => ?_, fun j hd => ?_, hyy, hqq, h.lw, Nat.le_trans h.l1 hf.size⟩
  · have hj0 : j < w0.heap.size := Nat.lt_of_lt_of_le hj h.lw
    rw [hO.fr.block j hj0 (by simp), ho.fr.block j hj0 (by simp)]
  · have hA : OwnA ob sb b g pb w j := by
      rcases hj with e | e | e | e | e | e
      · exact Or.inl e
      · exact Or.inr (Or.inl e)
      · exact Or.inr (Or.inr (Or.inl e))
      · exact Or.inr (Or.inr (Or.inr (Or.inl e)))
      · exact Or.inr (Or.inr (Or.inr (Or.inr (Or.inl e))))
      · exact Or.inr (Or.inr (Or.inr (Or.inr (Or.inr (e.back hf hbS ho.sh.bl)))))
    rcases hn j hd with q | q
    · exact h.ap j hA q
    · have := ho.lt hA
      omega
  · rcases hn j hd with q | q
    · exact h.dn j q
    · have := ho.fr.size
      omega
end
end Go.Proofs.YtomajifklajilaaGreat
