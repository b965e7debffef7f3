/- Texts of this claim laid together, one behind the other: contracts and plain lemmas; conditions as each names them. -/
import Derived.Test.YtomajifklajilaaGp49
/- What an owner handed out, behind its later calls; what a reply says, by one word. Conditions as each names them. -/
namespace Go.Proofs.Ytomajifklajilaa
open Go.ChangeShapes Go.WideShapes Go.ChangeAt Go.RowKit Go.Lib Go.Maps
set_option linter.unusedVariables false
set_option linter.unusedSimpArgs false
/-- Keys with versions that were handed out since B, ahead of the block hi; none of them is a row of the shard's map. -/
structure HK (b : Nat) (B : World) (hi : Nat) (W : World) (ro : Option Addr) (N rc : Nat) (hs : List Hd) : Prop where
  o : HOut B W ro N rc hs
  lt : ∀ x ∈ hs, ∀ a, x.vo = some a → a.block < hi
  le : hi ≤ W.heap.size
  no : ∀ j, B.heap.size ≤ j → j < hi → ¬ RowOf W b j
theorem VOut.moveB {w w1 w3 : World} {ro : Option Addr} {N rc : Nat} {vs : List Vn} (h : VOut w w1 ro N rc vs) (hk : ∀ (j : Nat) (cur : Array Value), ro = some ⟨j, 0, none⟩ → w.heap.size ≤ j → w1.heap[j]? = some (.cells cur 97 (0, 0)) → w3.heap[j]? = some (.cells cur 97 (0, 0))) : VOut w w3 ro N rc vs := by
  obtain ⟨rc', hr, ho⟩ := h.own
  refine ⟨⟨rc', hr, ho.1, ?_⟩, h.len, h.cap⟩
  rcases ho.2 with h0 | ⟨g, cap, cur, hv, hg, hb, hrest⟩
  · exact .inl h0
  · cases hv
    exact .inr ⟨g, _, cur, rfl, hg, hk g cur rfl hg hb, hrest⟩
section
variable {b n ob sb g C hi : Nat} {t : Option Nat} {w0 w W W' B : World} {pb : Option Nat} {M : ByteArray → List Vn} {rs : List Rq} {ro : Option Addr} {N rc : Nat} {hs : List Hd}
theorem HK.move (h : HK b B hi W ro N rc hs) (hf : OwF b W W') (hb : ∃ es c, W.heap[b]? = some (.map es c)) : HK b B hi W' ro N rc hs := by
  have hbl : b < W.heap.size := by
    obtain ⟨es, c, hb⟩ := hb
    rcases Nat.lt_or_ge b W.heap.size with h1 | h1
    · exact h1
    · rw [Array.getElem?_eq_none h1] at hb; cases hb
  refine ⟨⟨h.o.len, ?_, fun x hx => (h.o.each x hx).moveB (fun j cur e hj hc => ?_), h.o.apart⟩, h.lt, Nat.le_trans h.le hf.size, fun j h1 h2 hr => ?_⟩
  · refine ⟨h.o.row.1, ?_⟩
    rcases h.o.row.2 with h0 | ⟨gg, cap, cur, hv, hg, hbb, hrest⟩
    · exact .inl h0
    · exact .inr ⟨gg, cap, cur, hv, hg, hf.keep hb hbb (by decide) (by decide) (by decide), hrest⟩
  · refine hf.apart hbl hc ?_
    rintro (⟨c, e2⟩ | ⟨c, e2⟩ | e2 | ⟨_, e2⟩)
    · rw [hc] at e2; simp only [Option.some.injEq, Obj.cells.injEq] at e2; exact absurd e2.2.1 (by decide)
    · rw [hc] at e2; simp only [Option.some.injEq, Obj.cells.injEq] at e2; exact absurd e2.2.1 (by decide)
    · obtain ⟨es, c, hb⟩ := hb
      rw [← e2, hc] at hb
      cases hb
    · exact h.no j hj (h.lt x hx _ e) e2
  · obtain ⟨S, hS, hm⟩ := hf
    rcases (hm hbl).2 j hr with q | q
    · exact h.no j h1 h2 q
    · have := h.le; omega
theorem HK.same (h : HK b B hi W ro N rc hs) (hf : Fr [] W W') (hb : ∃ es c, W.heap[b]? = some (.map es c)) : HK b B hi W' ro N rc hs := h.move (OwF.of hf) hb
theorem HK.new (hO : HOut W W' ro N rc hs) (hn : ∀ j, RowOf W' b j → j < W.heap.size) : HK b W W'.heap.size W' ro N rc hs := by
  refine ⟨hO, fun x hx a e => ?_, Nat.le_refl _, fun j h1 _ hr => by have := hn j hr; omega⟩
  exact (VOut.block (hO.each x hx) a e).2
theorem OwS.row_lt (h : OwS w0 t W ob sb b n g pb C M rs) (hf : Fr [] W W') : ∀ j, RowOf W' b j → j < W.heap.size := fun j hr => by
  obtain ⟨_, cur, e⟩ := h.sh.rowLt (hr.back hf (by simp) h.sh.bl)
  exact lt_of_block e
theorem Sh.key (h : Sh w0 W sb b n M) (k : ByteArray) (hk : M k ≠ []) : okK9 k := by
  obtain ⟨G, hM, h0, hr, _⟩ := h.map
  cases hG : G k with
  | none => exact absurd (h0 k hG) hk
  | some x =>
    obtain ⟨gg, L, c⟩ := x
    exact (hr k gg L c hG).2.2
theorem Sh.lo (h : Sh w0 W sb b n M) (hP : PkT M M hs) : LoOk hs := hP.ok h.key h.ok
theorem Sh.lod (h : Sh w0 W sb b n M) {k : Int} {ns : List Int} (hP : PkT M (fun s => dmp (M s) k ns) hs) : LoOk hs := hP.ok h.key (fun q => okV_sub (h.ok q) (dmp_sub (h.ok q) k ns))
theorem HK.reads (h : HK b B hi W ro N rc hs) (hl : LoOk hs) (hN : N ≤ 3518437208882) : HRs W ro hs := h.o.rs hl hN
theorem ERs.moveF {ps : List Pr} (h : ERs W ro ps) (hf : OwF b W W') (hb : ∃ es c, W.heap[b]? = some (.map es c)) : ERs W' ro ps :=
  ⟨h.few, fun h0 => by obtain ⟨gg, cur, e, hbb, ht⟩ := h.lies h0; exact ⟨gg, cur, e, hf.keep hb hbb (by decide) (by decide) (by decide), ht⟩⟩
theorem hk_nil (hw : B.heap.size ≤ W.heap.size) : HK b B B.heap.size W none 0 0 [] := ⟨⟨rfl, World.ownsRow_nil _ _ _ _, by simp, List.Pairwise.nil⟩, by simp, hw, fun j h1 h2 => by omega⟩
/-- What a reply to a read or a dump says. -/
def RepV (M : ByteArray → List Vn) (r : Rq) (ok : Bool) (ps : List Pr) (kv : List (ByteArray × List Vn)) : Prop :=
  (r.k = 2 ∧ kv = [] ∧ ((ok = false ∧ valAt (M r.key) r.n = none ∧ ps = []) ∨ (ok = true ∧ ∃ v, valAt (M r.key) r.n = some v ∧ ps = [(r.key, v)]))) ∨
  (r.k = 3 ∧ ok = true ∧ kv = [] ∧ Is (atMark M r.key r.en r.n) ps) ∨
  (r.k = 5 ∧ ok = true ∧ ps = [] ∧ ∃ hs, PkT M (fun s => dmp (M s) r.n r.bs) hs ∧ kv = hs.map hkv)
theorem RepV.one {r : Rq} {ok ok' : Bool} {ps ps' : List Pr} {kv kv' : List (ByteArray × List Vn)} (h : RepV M r ok ps kv) (k : RepV M r ok' ps' kv') : ok = ok' ∧ ps = ps' ∧ kv = kv' := by
  rcases h with ⟨h1, h2, h3⟩ | ⟨h1, h2, h3, h4⟩ | ⟨h1, h2, h3, hs1, h4, h5⟩ <;> rcases k with ⟨k1, k2, k3⟩ | ⟨k1, k2, k3, k4⟩ | ⟨k1, k2, k3, hs2, k4, k5⟩
  · rcases h3 with ⟨a1, a2, a3⟩ | ⟨a1, v, a2, a3⟩ <;> rcases k3 with ⟨b1, b2, b3⟩ | ⟨b1, v', b2, b3⟩
    · exact ⟨by rw [a1, b1], by rw [a3, b3], by rw [h2, k2]⟩
    · rw [a2] at b2; cases b2
    · rw [a2] at b2; cases b2
    · rw [a2] at b2; cases b2
      exact ⟨by rw [a1, b1], by rw [a3, b3], by rw [h2, k2]⟩
  · omega
  · omega
  · omega
  · exact ⟨by rw [h2, k2], h4.unique k4, by rw [h3, k3]⟩
  · omega
  · omega
  · omega
  · exact ⟨by rw [h2, k2], by rw [h3, k3], by rw [h5, k5]; exact h4.one k4⟩
/-- A reply to a read or a dump, as it lies there. -/
theorem rep_read {r : Rq} {M' : ByteArray → List Vn} {ok : Bool} {eo ho : Option Addr} {el ec hl hc : Nat} {c : Int} (h : OwS w0 t W ob sb b n g pb C M rs) (hn : n < 3518437208882) (hF : OwF b W W') (hR : Rep b M r M' n ok eo el ec ho hl hc c W W') (h1 : r.k ≠ 1) (h4 : r.k ≠ 4) :
    M' = M ∧ c = 0 ∧ ∃ ps hs B hi, RepV M r ok ps (hs.map hkv) ∧ ERs W' eo ps ∧ el = ps.length ∧ HK b B hi W' ho hl hc hs ∧ LoOk hs ∧ hl ≤ n := by
  rcases hR with ⟨e, _⟩ | ⟨e, ⟨rfl, rfl, rfl⟩, e2, e3, e4⟩ | ⟨e, e1, ⟨rfl, rfl, rfl⟩, e2, e3, e4, ps, e5, e6⟩ | ⟨e, _⟩ | ⟨e, e1, ⟨rfl, rfl, rfl⟩, e2, e3, e4, e5, hs, e6, e7⟩
  · exact absurd e h1
  · refine ⟨e3, e2, ?_⟩
    rcases e4 with ⟨a1, a2, rfl, rfl, rfl⟩ | ⟨a1, v, a2, a3, a4⟩
    · exact ⟨[], [], W, _, Or.inl ⟨e, rfl, Or.inl ⟨a1, a2, rfl⟩⟩, ⟨by simp, fun h => by simp at h⟩, rfl, hk_nil hF.size, lo_nil, Nat.zero_le _⟩
    · exact ⟨[(r.key, v)], [], W, _, Or.inl ⟨e, rfl, Or.inr ⟨a1, v, a2, rfl⟩⟩, ers_of a4.row a4.len (by simp), a3, hk_nil hF.size, lo_nil, Nat.zero_le _⟩
  · exact ⟨e3, e2, ps, [], W, _, Or.inr (Or.inl ⟨e, e1, rfl, e6⟩), ers_of e5.row e5.len (by have := e5.len; omega), e5.len, hk_nil hF.size, lo_nil, Nat.zero_le _⟩
  · exact absurd e h4
  · exact ⟨e3, e2, [], hs, W, _, Or.inr (Or.inr ⟨e, e1, rfl, hs, e7, rfl⟩), ⟨by simp, fun h => by simp at h⟩, rfl, HK.new e6 e5, h.sh.lod e7, e4⟩
end
theorem colV_idem {vs : List Vn} (ho : okV vs) (k : Int) : colV (colV vs k) k = colV vs k := by
  have h := colV_low ho k
  have e : colN (colV vs k) k = 0 := by unfold colN; omega
  show (colV vs k).drop (colN (colV vs k) k) = colV vs k
  rw [e, List.drop_zero]
theorem inst_twice {M M1 M2 : ByteArray → List Vn} {p : Pt} {o1 o2 : Bool} {c1 c2 : Nat} (hp : okP p) (h : InTold M p M1 o1 c1) (k : InTold M1 p M2 o2 c2) : o2 = false ∧ M2 = M1 ∧ (o1 = false → M1 = M) := by
  rcases h with ⟨_, _, a, _⟩ | ⟨_, _, h⟩
  · exact absurd hp a
  rcases k with ⟨_, _, a, _⟩ | ⟨_, _, k⟩
  · exact absurd hp a
  rcases h with ⟨a1, a2, y, hy, ey⟩ | ⟨a1, _, us, a3, a4, a5⟩ <;> rcases k with ⟨b1, b2, _⟩ | ⟨b1, b2, _⟩
  · exact ⟨b1, b2, fun _ => a2⟩
  · rw [a2] at b2; exact absurd ey (b2 y hy)
  · exact ⟨b1, b2, fun e => by rw [a1] at e; cases e⟩
  · refine absurd rfl (b2 p.v ?_)
    rw [a3]
    simp only [updM, if_true]
    exact (a5 p.v).2 (Or.inr rfl)
end Go.Proofs.Ytomajifklajilaa
