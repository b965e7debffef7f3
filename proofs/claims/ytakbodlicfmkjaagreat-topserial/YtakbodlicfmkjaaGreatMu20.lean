/- What a call that reaches one part leaves of a machine. Conditions as each names them. -/
import Derived.Test.YtakbodlicfmkjaaGreatMa20
namespace Go.Proofs.YtakbodlicfmkjaaGreat
open Go.ChangeShapes Go.WideShapes Go.ChangeAt Go.RowKit Go.Lib Go.Maps
set_option linter.unusedVariables false
set_option linter.unusedSimpArgs false
section
variable {w0 w w' : World} {c : Cf} {T : List Tx} {Z : Lay} {s : Ms} {S : List Nat}
theorem few_mono {a b k k' : Nat} {o : Nat → Oy} (h : a ≤ 65 * k ∧ b ≤ k ∧ ∀ j, j < c.s.toNat → (o j).n ≤ k) (hk : k ≤ k') : a ≤ 65 * k' ∧ b ≤ k' ∧ ∀ j, j < c.s.toNat → (o j).n ≤ k' :=
  ⟨by have := h.1; omega, by have := h.2.1; omega, fun j hj => by have := h.2.2 j hj; omega⟩
theorem dn_mk {Z' : Lay} {s' : Ms} (hm : Mach w0 w' (mP w0 c T Z' s') ∧ Mx w (mP w0 c T Z s) w' (mP w0 c T Z' s')) (hl : txs Z'.y.ts = T) (hr : s'.d ≤ Z'.nr) (hf : Z'.nd ≤ 65 * s'.k ∧ Z'.nw ≤ s'.k ∧ ∀ j, j < c.s.toNat → (Z'.o j).n ≤ s'.k) (hz : Z'.z = Z.z := by rfl) (hy : Z'.y = Z.y := by rfl) : Dn w0 c T w Z s w' Z' s' := ⟨⟨hm.1, hl, hr, hf⟩, hm.2, hz, hy⟩
/-- The feed. -/
theorem MaM.setFe (h : MaM w0 w c T Z s) (hf : Fr S w w') (hS : ∀ b ∈ S, b < w.heap.size → fdOwn w0 Z.y Z.v Z.hw b) {v' hw' : Value} {rd fd : Nat} {hv : Bool} (hm : FeM w0 w' c Z.z.fb Z.y v' hw' rd fd hv) (hnew : ∀ b, fdOwn w0 Z.y v' hw' b → fdOwn w0 Z.y Z.v Z.hw b ∨ w.heap.size ≤ b) {k : Nat} (hk : s.k ≤ k) :
    Dn w0 c T w Z s w' { Z with v := v', hw := hw' } { s with rd := rd, fd := fd, hv := hv, k := k } := by
  refine dn_mk (h.m.one .fe (feP w0 c Z.z.fb Z.y v' hw' rd fd hv) hf hS (fun j hj => ?_) rfl (feP_ok _ _ _ _ _ _ _ _ _) hm hnew) h.log h.rows (few_mono h.few hk)
  cases j <;> first | rfl | exact absurd rfl hj
/-- The table. -/
theorem MaM.setDe (h : MaM w0 w c T Z s) (hf : Fr S w w') (hS : ∀ b ∈ S, b < w.heap.size → b ∈ Z.B) {B : List Nat} {n d k : Nat} {en : Int → Prop} (hm : Tl w' Z.z.tb B n (lgT T d) en) (hnew : ∀ b ∈ B, b ∈ Z.B ∨ w.heap.size ≤ b) (hn : n ≤ 65 * k) (hk : s.k ≤ k) (hd : d ≤ Z.nr) :
    Dn w0 c T w Z s w' { Z with B := B, nd := n } { s with d := d, en := en, k := k } := by
  have h0 := (h.m.m .de).2
  refine dn_mk (h.m.one .de (deP w0 Z.z.tb B n (lgT T d) en) hf hS (fun j hj => ?_) rfl (deP_ok _ _ _ _ _ _) ⟨hm, fun b hb => ?_⟩ hnew) h.log hd (⟨hn, (few_mono h.few hk).2⟩)
  · cases j <;> first | rfl | exact absurd rfl hj
  · rcases hnew b hb with e | e
    · exact h0 b e
    · exact Nat.le_trans h.fr.size e
/-- What a call of the table made is none of the machine's. -/
theorem MaM.offDe (h : MaM w0 w c T Z s) (hf : Fr S w w') (hS : ∀ b ∈ S, b < w.heap.size → b ∈ Z.B) {n d k : Nat} {en : Int → Prop} {b : Nat} (hb : w.heap.size ≤ b) : MaM.off w0 w' c T { Z with nd := n } { s with d := d, en := en, k := k } b := fun i hi => by
  have hlt : ∀ x ∈ Z.B, x < w.heap.size := h.de.mine
  have old : i ≠ .de → (mP w0 c T Z s i).O w' b → False := fun hne ho => by
    have := ((h.m.ok i).keep S w w' (h.m.m i) h.m.fr hf fun x hx hl => ⟨(h.m.m .de).2 x (hS x hx hl), fun h3 => hne (h.m.ap i .de x h3 (hS x hx hl))⟩).2 b ho
    have := ((h.m.ok i).lt w b (h.m.m i) this).2
    omega
  cases i with
  | de => have := hlt b hi; omega
  | _ => exact old (by simp) hi
/-- The gate. -/
theorem MaM.setGa (h : MaM w0 w c T Z s) (hf : Fr [Z.z.gb] w w') {ma : Int} {bx : List Int} {k : Nat} (hm : GG w' Z.z.gb ma bx) (hk : s.k ≤ k) : Dn w0 c T w Z s w' Z { s with ma := ma, bx := bx, k := k } := by
  refine dn_mk (h.m.one .ga (gaP w0 Z.z.gb ma bx) hf (fun b hb _ => List.mem_singleton.1 hb) (fun j hj => ?_) rfl (gaP_ok _ _ _ _) ⟨hm, (h.m.m .ga).2⟩ (fun b hb => Or.inl hb)) h.log h.rows (few_mono h.few hk)
  cases j <;> first | rfl | exact absurd rfl hj
/-- The map of those that wait. -/
theorem MaM.setWa (h : MaM w0 w c T Z s) (hf : Fr [Z.z.wb] w w') {wt : Int → Prop} {n k : Nat} (hm : MapG kTx w' Z.z.wb n (wtF T Z.kb wt)) (hn : n ≤ k) (hk : s.k ≤ k) : Dn w0 c T w Z s w' { Z with nw := n } { s with wt := wt, k := k } := by
  refine dn_mk (h.m.one .wa (waP w0 Z.z.wb n T Z.kb wt) hf (fun b hb _ => List.mem_singleton.1 hb) (fun j hj => ?_) rfl (waP_ok _ _ _ _ _ _) ⟨hm, (h.m.m .wa).2⟩ (fun b hb => Or.inl hb)) h.log h.rows (⟨(few_mono h.few hk).1, hn, (few_mono h.few hk).2.2⟩)
  cases j <;> first | rfl | exact absurd rfl hj
/-- The line. -/
theorem MaM.setLi (h : MaM w0 w c T Z s) {p' : Option Nat} (hf : Fr (GT.Rg.own Z.z.lr Z.lp) w w') {line : List Int} {k : Nat} (hm : GT.Rg w' Z.z.lr p' c.w.toNat (line.map (txR T Z.kb)) false) (hp : GT.Mv w.heap.size Z.lp p') (hk : s.k ≤ k) : Dn w0 c T w Z s w' { Z with lp := p' } { s with line := line, k := k } := by
  have h0 := (h.m.m .li).2
  have hnew : ∀ b ∈ GT.Rg.own Z.z.lr p', b ∈ GT.Rg.own Z.z.lr Z.lp ∨ w.heap.size ≤ b := fun b hb => by
    simp only [GT.Rg.own, List.mem_cons, Option.mem_toList] at hb ⊢
    rcases hb with rfl | hb
    · exact Or.inl (Or.inl rfl)
    · rcases hp with e | ⟨k', e, hk'⟩
      · rw [e] at hb; exact Or.inl (Or.inr hb)
      · rw [e] at hb; cases hb; exact Or.inr hk'
  refine dn_mk (h.m.one .li (liP w0 Z.z.lr p' c.w.toNat T Z.kb line) hf (fun b hb _ => hb) (fun j hj => ?_) rfl (liP_ok _ _ _ _ _ _ _) ⟨hm, fun b hb => ?_⟩ hnew) h.log h.rows (few_mono h.few hk)
  · cases j <;> first | rfl | exact absurd rfl hj
  · rcases hnew b hb with e | e
    · exact h0 b e
    · exact Nat.le_trans h.fr.size e
/-- The gate's line. -/
theorem MaM.setPa (h : MaM w0 w c T Z s) {p' : Option Nat} (hf : Fr (GI.Rg.own Z.z.pr Z.pp) w w') {pass : List Int} {k : Nat} (hm : GI.Rg w' Z.z.pr p' c.w.toNat pass false) (hp : GI.Mv w.heap.size Z.pp p') (hk : s.k ≤ k) : Dn w0 c T w Z s w' { Z with pp := p' } { s with pass := pass, k := k } := by
  have h0 := (h.m.m .pa).2
  have hnew : ∀ b ∈ GI.Rg.own Z.z.pr p', b ∈ GI.Rg.own Z.z.pr Z.pp ∨ w.heap.size ≤ b := fun b hb => by
    simp only [GI.Rg.own, List.mem_cons, Option.mem_toList] at hb ⊢
    rcases hb with rfl | hb
    · exact Or.inl (Or.inl rfl)
    · rcases hp with e | ⟨k', e, hk'⟩
      · rw [e] at hb; exact Or.inl (Or.inr hb)
      · rw [e] at hb; cases hb; exact Or.inr hk'
  refine dn_mk (h.m.one .pa (paP w0 Z.z.pr p' c.w.toNat pass) hf (fun b hb _ => hb) (fun j hj => ?_) rfl (paP_ok _ _ _ _ _) ⟨hm, fun b hb => ?_⟩ hnew) h.log h.rows (few_mono h.few hk)
  · cases j <;> first | rfl | exact absurd rfl hj
  · rcases hnew b hb with e | e
    · exact h0 b e
    · exact Nat.le_trans h.fr.size e
/-- A lane. -/
theorem MaM.setLa (h : MaM w0 w c T Z s) {i : Nat} (hi : i < c.l.toNat) (hf : Fr S w w') (hS : ∀ b ∈ S, b < w.heap.size → b = Z.z.la i ∨ b ∈ Z.S i) {st : Option Hl} {S' : List Nat} {k : Nat} (hm : LnM w' (Z.z.la i) ((i + 1 : Nat) : Int) c.l c.s c.w c.q st S') (hnew : ∀ b ∈ S', b ∈ Z.S i ∨ (w.heap.size ≤ b ∧ b < w'.heap.size)) (hk : s.k ≤ k) :
    Dn w0 c T w Z s w' { Z with S := upd Z.S i S' } { s with ln := upd s.ln i st, k := k } := by
  have h0 := (h.la' hi).2
  refine dn_mk (h.m.one (.la i) (lnP w0 c (Z.z.la i) i st S') hf (fun b hb hl => ?_) (fun j hj => ?_) ?_ (lnP_ok _ _ _ _ _ _) ⟨hm, fun b hb => ?_⟩ (fun b hb => ?_)) h.log h.rows (few_mono h.few hk)
  · rw [mP_la hi]; exact hS b hb hl
  · cases j with
    | la i' =>
      have hne : i' ≠ i := fun e => hj (by rw [e])
      simp only [mP, upd_other _ _ hne]
    | _ => rfl
  · rw [mP_la hi]; simp only [upd_same]
  · rcases hb with rfl | hb
    · exact ⟨(h0 _ (Or.inl rfl)).1, Nat.lt_of_lt_of_le (h0 _ (Or.inl rfl)).2 hf.size⟩
    · rcases hnew b hb with e | ⟨e1, e2⟩
      · exact ⟨(h0 b (Or.inr e)).1, Nat.lt_of_lt_of_le (h0 b (Or.inr e)).2 hf.size⟩
      · exact ⟨Nat.le_trans h.fr.size e1, e2⟩
  · rw [mP_la hi]
    rcases hb with rfl | hb
    · exact Or.inl (Or.inl rfl)
    · exact (hnew b hb).imp Or.inr fun e => e.1
/-- An owner. -/
theorem MaM.setOw (h : MaM w0 w c T Z s) {j : Nat} (hj : j < c.s.toNat) (hf : Fr S w w') (hS : ∀ b ∈ S, b < w.heap.size → (owP w0 c (Z.z.ob j) (Z.o j) (s.M j) (s.qs j)).O w b) {Y : Oy} {M : ByteArray → List O.Vn} {q : List Qe} {k : Nat} (hm : (owP w0 c (Z.z.ob j) Y M q).M w') (hnew : ∀ b, (owP w0 c (Z.z.ob j) Y M q).O w' b → (owP w0 c (Z.z.ob j) (Z.o j) (s.M j) (s.qs j)).O w b ∨ w.heap.size ≤ b) (hn : Y.n ≤ k) (hk : s.k ≤ k) :
    Dn w0 c T w Z s w' { Z with o := fun i => if i = j then Y else Z.o i } { s with M := upd s.M j M, qs := upd s.qs j q, k := k } := by
  refine dn_mk (h.m.one (.ow j) (owP w0 c (Z.z.ob j) Y M q) hf (fun b hb hl => ?_) (fun i hi => ?_) ?_ (owP_ok _ _ _ _ _ _) hm (fun b hb => ?_)) h.log h.rows (⟨(few_mono h.few hk).1, (few_mono h.few hk).2.1, fun i hi => ?_⟩)
  · rw [mP_ow hj]; exact hS b hb hl
  · cases i with
    | ow i' =>
      have hne : i' ≠ j := fun e => hi (by rw [e])
      simp only [mP, upd_other _ _ hne, if_neg hne]
    | _ => rfl
  · rw [mP_ow hj]; simp only [upd_same, if_pos rfl]; rfl
  · rw [mP_ow hj]; exact hnew b hb
  · show (if i = j then Y else Z.o i).n ≤ k
    split
    · exact hn
    · exact (few_mono h.few hk).2.2 i hi
/-- A step of nothing. -/
theorem MaM.steps (h : MaM w0 w c T Z s) {k : Nat} (hk : s.k ≤ k) : MaM w0 w c T Z { s with k := k } := by
  refine ⟨?_, h.log, h.rows, few_mono h.few hk⟩
  have e : mP w0 c T Z { s with k := k } = mP w0 c T Z s := by funext i; cases i <;> rfl
  rw [e]; exact h.m
end
end Go.Proofs.YtakbodlicfmkjaaGreat
