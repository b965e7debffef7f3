/- What is there of a machine in memory, piece by piece; it stays where nothing of it differs. Conditions as each names them. -/
import Derived.Test.YtakbodlicfmkjaaGreatMm20
namespace Go.Proofs.YtakbodlicfmkjaaGreat
open Go.ChangeShapes Go.WideShapes Go.ChangeAt Go.RowKit Go.Lib Go.Maps
set_option linter.unusedVariables false
set_option linter.unusedSimpArgs false

/-- A world in which nothing that was there differs. -/
structure Wq (w1 : World) where
  W : World
  h : Fr [] w1 W
instance (w1 : World) : Nonempty (Wq w1) := ⟨⟨w1, Fr.refl _ _⟩⟩
theorem wp_region_wq {P : Program} {w1 wr : World} {id : Nat} {Q : Exit → Act → World → Prop} {a : Act} {l : List Oper} (hm : P.follows .mixedOrders = true) (hB : Region.lexB .any l.toArray = true) (hf : Fr [] w1 wr)
    (h : wpQuiet P l.toArray (fun w' => ∃ x : Wq w1, w' = x.W) (fun a' => ∀ w', (∃ x : Wq w1, w' = x.W) → Q .normal a' w') l a) : (Code.region id l.toArray true).wp P Q a wr :=
  wp_region_quiet (C := fun w' => ∃ x : Wq w1, w' = x.W) hm hB ⟨⟨_, hf.then (Fr.drew [] wr)⟩, rfl⟩ (by simpa using h)
section
variable {w0 w w' : World} {c : Cf} {T : List Tx} {Z : Lay} {s : Ms}
theorem MaM.st (h : MaM w0 w c T Z s) : StM c Z.z w := (h.m.m .st).1
theorem MaM.may (h : MaM w0 w c T Z s) : c.may := h.st.may
theorem MaM.fe (h : MaM w0 w c T Z s) : FeM w0 w c Z.z.fb Z.y Z.v Z.hw s.rd s.fd s.hv := h.m.m .fe
theorem MaM.de (h : MaM w0 w c T Z s) : Tl w Z.z.tb Z.B Z.nd (lgT T s.d) s.en := (h.m.m .de).1
theorem MaM.ga (h : MaM w0 w c T Z s) : GG w Z.z.gb s.ma s.bx := (h.m.m .ga).1
theorem MaM.wa (h : MaM w0 w c T Z s) : MapG kTx w Z.z.wb Z.nw (wtF T Z.kb s.wt) := (h.m.m .wa).1
theorem MaM.li (h : MaM w0 w c T Z s) : GT.Rg w Z.z.lr Z.lp c.w.toNat (s.line.map (txR T Z.kb)) false := (h.m.m .li).1
theorem MaM.pa (h : MaM w0 w c T Z s) : GI.Rg w Z.z.pr Z.pp c.w.toNat s.pass false := (h.m.m .pa).1
theorem MaM.re (h : MaM w0 w c T Z s) : ∀ n : Int, 1 ≤ n → n ≤ Z.nr → w.heap[Z.kb n]? = some (.cells (wtsC (wsAt T n)).toArray 56 (0, 0)) ∧ w0.heap.size ≤ Z.kb n := h.m.m .re
theorem mP_la {i : Nat} (hi : i < c.l.toNat) : mP w0 c T Z s (.la i) = lnP w0 c (Z.z.la i) i (s.ln i) (Z.S i) := by simp only [mP, if_pos hi]
theorem mP_ow {j : Nat} (hj : j < c.s.toNat) : mP w0 c T Z s (.ow j) = owP w0 c (Z.z.ob j) (Z.o j) (s.M j) (s.qs j) := by simp only [mP, if_pos hj]
theorem MaM.la' (h : MaM w0 w c T Z s) {i : Nat} (hi : i < c.l.toNat) : (lnP w0 c (Z.z.la i) i (s.ln i) (Z.S i)).M w := by rw [← mP_la (w0 := w0) (T := T) hi]; exact h.m.m _
theorem MaM.la (h : MaM w0 w c T Z s) {i : Nat} (hi : i < c.l.toNat) : LnM w (Z.z.la i) ((i + 1 : Nat) : Int) c.l c.s c.w c.q (s.ln i) (Z.S i) := (h.la' hi).1
theorem MaM.ow' (h : MaM w0 w c T Z s) {j : Nat} (hj : j < c.s.toNat) : (owP w0 c (Z.z.ob j) (Z.o j) (s.M j) (s.qs j)).M w := by rw [← mP_ow (w0 := w0) (T := T) hj]; exact h.m.m _
theorem MaM.ow (h : MaM w0 w c T Z s) {j : Nat} (hj : j < c.s.toNat) : O.OwS w0 (fun k => ¬ (Z.o j).BB k) w (Z.z.ob j) (Z.o j).sb (Z.o j).b (Z.o j).n (Z.o j).g (Z.o j).pb c.q.toNat (s.M j) ((s.qs j).map Qe.rq) := (h.ow' hj).1
theorem MaM.quiet (h : MaM w0 w c T Z s) (hf : Fr [] w w') : MaM w0 w' c T Z s := ⟨h.m.quiet hf, h.log, h.rows, h.few⟩
theorem MaM.fr (h : MaM w0 w c T Z s) : Fr [] w0 w := h.m.fr
/-- A block that is none of the machine's. -/
def MaM.off (w0 w : World) (c : Cf) (T : List Tx) (Z : Lay) (s : Ms) (b : Nat) : Prop := ∀ i, ¬ (mP w0 c T Z s i).O w b
/-- What was done to a machine. -/
structure Dn (w0 : World) (c : Cf) (T : List Tx) (w : World) (Z : Lay) (s : Ms) (w' : World) (Z' : Lay) (s' : Ms) : Prop where
  m : MaM w0 w' c T Z' s'
  x : Mx w (mP w0 c T Z s) w' (mP w0 c T Z' s')
  z : Z'.z = Z.z
  y : Z'.y = Z.y
theorem Dn.trans {w'' : World} {Z' Z'' : Lay} {s' s'' : Ms} (h : Dn w0 c T w Z s w' Z' s') (k : Dn w0 c T w' Z' s' w'' Z'' s'') : Dn w0 c T w Z s w'' Z'' s'' := ⟨k.m, h.x.trans k.x, k.z.trans h.z, k.y.trans h.y⟩
theorem MaM.dn (h : MaM w0 w c T Z s) (hf : Fr [] w w') : Dn w0 c T w Z s w' Z s := ⟨h.quiet hf, (h.m.quiet2 hf).2, rfl, rfl⟩
theorem MaM.offNew (h : MaM w0 w c T Z s) {b : Nat} (hb : w.heap.size ≤ b) : MaM.off w0 w c T Z s b := fun i hi => by
  have := ((h.m.ok i).lt w b (h.m.m i) hi).2
  omega
theorem Dn.off {Z' : Lay} {s' : Ms} (h : Dn w0 c T w Z s w' Z' s') {b : Nat} (hb : b < w.heap.size) (hn : MaM.off w0 w c T Z s b) : MaM.off w0 w' c T Z' s' b := h.x.not hb hn
theorem Dn.keep {Z' : Lay} {s' : Ms} (h : Dn w0 c T w Z s w' Z' s') {b : Nat} {o : Obj} (hb : w.heap[b]? = some o) (hn : MaM.off w0 w c T Z s b) : w'.heap[b]? = some o := h.x.keep hb hn
/-- Another's blocks may change. -/
theorem MaM.other (h : MaM w0 w c T Z s) {S : List Nat} (hf : Fr S w w') (hS : ∀ b ∈ S, w0.heap.size ≤ b ∧ MaM.off w0 w c T Z s b) : MaM w0 w' c T Z s := by
  have hk : ∀ i, ((mP w0 c T Z s i).M w' ∧ ∀ b, (mP w0 c T Z s i).O w' b → (mP w0 c T Z s i).O w b) := fun i => (h.m.ok i).keep S w w' (h.m.m i) h.m.fr hf fun b hb hl => ⟨(hS b hb).1, (hS b hb).2 i⟩
  exact ⟨⟨h.m.ok, fun i => (hk i).1, fun i j b h1 h2 => h.m.ap i j b ((hk i).2 b h1) ((hk j).2 b h2), hf.within h.m.fr fun b hb _ => (hS b hb).1⟩, h.log, h.rows, h.few⟩
theorem MaM.otherO (h : MaM w0 w c T Z s) {S : List Nat} (hf : Fr S w w') (hS : ∀ b ∈ S, w0.heap.size ≤ b ∧ MaM.off w0 w c T Z s b) {b : Nat} (hb : MaM.off w0 w c T Z s b) : MaM.off w0 w' c T Z s b := fun i hi =>
  hb i (((h.m.ok i).keep S w w' (h.m.m i) h.m.fr hf fun b hb hl => ⟨(hS b hb).1, (hS b hb).2 i⟩).2 b hi)
/-- A cell of the machine's struct. -/
theorem MaM.mc (h : MaM w0 w c T Z s) {j : Nat} {v : Value} (hv : (mC c Z.z)[j]? = some v) : w.cell? ⟨Z.z.mb, j, none⟩ = some v := by
  rw [cell_of_row _ _ _ _ _ _ h.st.box, List.getElem?_toArray]; exact hv
/-- Whatever lies in a block of its own that never changes. -/
theorem MaM.lt (h : MaM w0 w c T Z s) {b : Nat} (hb : St.own c Z.z b) : b < w.heap.size := by
  obtain ⟨cs, t, e⟩ := h.st.has hb
  exact lt_of_block e
theorem MaM.kdc (h : MaM w0 w c T Z s) : w.cell? ⟨Z.z.kd, 0, none⟩ = some (.pointer (some ⟨Z.z.mb, 0, none⟩)) ∧ w.cell? ⟨Z.z.kd, 1, none⟩ = some (.int .i64 0) := by
  constructor <;> (rw [cell_of_row _ _ _ _ _ _ h.st.kd]; rfl)
theorem MaM.kgc (h : MaM w0 w c T Z s) : w.cell? ⟨Z.z.kg, 0, none⟩ = some (.pointer (some ⟨Z.z.mb, 0, none⟩)) ∧ w.cell? ⟨Z.z.kg, 1, none⟩ = some (.int .i64 ((c.l.toNat + c.s.toNat + 1 : Nat) : Int)) := by
  constructor <;> (rw [cell_of_row _ _ _ _ _ _ h.st.kg]; rfl)
theorem MaM.kwc (h : MaM w0 w c T Z s) {i : Nat} (hi : i < c.l.toNat) : w.cell? ⟨Z.z.kw i, 0, none⟩ = some (.pointer (some ⟨Z.z.mb, 0, none⟩)) ∧ w.cell? ⟨Z.z.kw i, 1, none⟩ = some (.int .i64 ((i + 1 : Nat) : Int)) ∧ w.cell? ⟨Z.z.kw i, 2, none⟩ = some (.pointer (some ⟨Z.z.la i, 0, none⟩)) := by
  refine ⟨?_, ?_, ?_⟩ <;> (rw [cell_of_row _ _ _ _ _ _ (h.st.kw i hi)]; rfl)
theorem MaM.kkc (h : MaM w0 w c T Z s) {j : Nat} (hj : j < c.s.toNat) : w.cell? ⟨Z.z.kk j, 0, none⟩ = some (.pointer (some ⟨Z.z.mb, 0, none⟩)) ∧ w.cell? ⟨Z.z.kk j, 1, none⟩ = some (.int .i64 ((c.l.toNat + 1 + j : Nat) : Int)) ∧ w.cell? ⟨Z.z.kk j, 2, none⟩ = some (.int .i64 (j : Int)) ∧ w.cell? ⟨Z.z.kk j, 3, none⟩ = some (.pointer (some ⟨Z.z.ob j, 0, none⟩)) := by
  refine ⟨?_, ?_, ?_, ?_⟩ <;> (rw [cell_of_row _ _ _ _ _ _ (h.st.kk j hj)]; rfl)
/-- The owner of a shard, as the machine's row of them has it. -/
theorem MaM.osc (h : MaM w0 w c T Z s) {j : Nat} (hj : j < c.s.toNat) : w.cell? ⟨Z.z.osB, j, none⟩ = some (.pointer (some ⟨Z.z.ob j, 0, none⟩)) := by
  obtain ⟨cur, h1, h2⟩ := h.st.os
  rw [cell_of_row _ _ _ _ _ _ h1]; exact h2 j hj
/-- A task of the order. -/
theorem MaM.orc (h : MaM w0 w c T Z s) {i : Nat} (hi : i < c.l.toNat + c.s.toNat + 2) : w.cell? ⟨Z.z.orB, i, none⟩ = some (taskV c Z.z i) := by
  obtain ⟨cur, h1, h2⟩ := h.st.order
  rw [cell_of_row _ _ _ _ _ _ h1]; exact h2 i hi
/-- What the feed can do. -/
theorem can_eq (hm : c.may) : (F.Fe.can ⟨s.rd, s.fd, c.w.toNat, s.hv, false⟩ [] s.ma) = canD c s := by
  have hw : ((c.w.toNat : Nat) : Int) = c.w := by have := hm.2.2.1; omega
  simp only [F.Fe.can, canD, F.Fe.near, hw]
  cases s.hv
  · simp
  · simp only [Bool.true_eq_false, if_false, List.not_mem_nil, decide_eq_true_eq]
    by_cases h : (s.rd : Int) ≤ s.ma + c.w
    · rw [if_pos (by omega), if_pos h]
    · rw [if_neg (by omega), if_neg h]
end
end Go.Proofs.YtakbodlicfmkjaaGreat
