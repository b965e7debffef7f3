/- What the law CodecWrites keeps from step to step: the writer, the wanted bytes, the zero writer and the Book lie apart. Conditions as each lemma names them. -/
import Derived.Test.YtgepbhoebpgdkaaDoorGone
namespace Go.Proofs.YtgepbhoebpgdkaaDoor
open Go.ChangeShapes Go.WideShapes Go.ChangeAt Go.RowKit Go.Lib

theorem ne_types {w : World} {a b : Nat} {ca cb : Array Value} {ta tb : TypeId} {fa fb : Nat × Nat} (ha : w.heap[a]? = some (.cells ca ta fa)) (hb : w.heap[b]? = some (.cells cb tb fb)) (h : ta ≠ tb) : a ≠ b := by
  rintro rfl
  rw [ha] at hb
  injection hb with hb
  injection hb with _ hb _
  exact h hb
/-- A value's own block is none of a type. -/
theorem own_not {w : World} {e t : TypeId} {v : Value} {b : Nat} {cb : Array Value} {fb : Nat × Nat} (h : ∀ k, v.ownBlock = some k → ∃ cs, w.heap[k]? = some (.cells cs e (0, 0))) (hb : w.heap[b]? = some (.cells cb t fb)) (hne : e ≠ t) : b ∉ v.ownBlock.toList := by
  intro hm
  obtain ⟨cs, hc⟩ := h b (by simpa using hm)
  exact ne_types hc hb hne rfl

structure LI (w0 : World) (g : Nat) (v : Value) (xs : List Nat) (wv : Value) (ys : List Nat) (z bk : Nat) (rv : Value) (hs : List HB) (w : World) : Prop where
  wr : Wr w g v xs
  wn : Wn w wv ys
  zz : w.heap[z]? = some (.cells #[.bool false, .slice none 0 0] 28 (0, 0))
  book : Bk w bk rv hs
  p0 : ∀ (j : Nat) (h : HB), hs[j]? = some h → P0 w h
  alone : Alone hs
  num : Num hs
  fresh : Fresh hs
  fr : Fr [] w0 w
  newg : w0.heap.size ≤ g
  newz : w0.heap.size ≤ z
  newbk : w0.heap.size ≤ bk
  newv : ∀ k, v.ownBlock = some k → w0.heap.size ≤ k
  newwv : ∀ k, wv.ownBlock = some k → w0.heap.size ≤ k
  newrv : ∀ k, rv.ownBlock = some k → w0.heap.size ≤ k
  newl : ∀ (j : Nat) (h : HB), hs[j]? = some h → ∀ k, h.l.ownBlock = some k → w0.heap.size ≤ k
  gz : g ≠ z
  vwv : ∀ k, v.ownBlock = some k → wv.ownBlock ≠ some k
  vl : ∀ (j : Nat) (h : HB), hs[j]? = some h → ∀ k, h.l.ownBlock = some k → v.ownBlock ≠ some k
  wvl : ∀ (j : Nat) (h : HB), hs[j]? = some h → ∀ k, h.l.ownBlock = some k → wv.ownBlock ≠ some k

section
variable {w0 w w' : World} {g : Nat} {v : Value} {xs : List Nat} {wv : Value} {ys : List Nat} {z bk : Nat} {rv : Value} {hs : List HB}
theorem LI.gone (h : LI w0 g v xs wv ys z bk rv hs w) : Gone w (.pointer (some ⟨z, 0, none⟩)) := Or.inr ⟨z, rfl, by simp [World.cell?, h.zz]⟩
theorem LI.vt (h : LI w0 g v xs wv ys z bk rv hs w) : ∀ k, v.ownBlock = some k → ∃ cs, w.heap[k]? = some (.cells cs 5 (0, 0)) := own_type h.wr.row
theorem LI.wvt (h : LI w0 g v xs wv ys z bk rv hs w) : ∀ k, wv.ownBlock = some k → ∃ cs, w.heap[k]? = some (.cells cs 5 (0, 0)) := own_type h.wn
theorem LI.quiet (h : LI w0 g v xs wv ys z bk rv hs w) (hf : Fr [] w w') : LI w0 g v xs wv ys z bk rv hs w' :=
  { h with
    wr := h.wr.keep hf (by simp) (by simp)
    wn := h.wn.keep hf (by simp)
    zz := hf.keep h.zz (by simp)
    book := h.book.keep hf (by simp) (by simp)
    p0 := fun j b hb => (h.p0 j b hb).keep hf (by simp)
    fr := h.fr.then hf }
/-- The wanted bytes became others. -/
theorem LI.want {wv' : Value} {ys' : List Nat} (h : LI w0 g v xs wv ys z bk rv hs w) (k : WnTo w wv w' wv' ys') : LI w0 g v xs wv' ys' z bk rv hs w' := by
  have hwvt := h.wvt
  have hnv : ∀ k, v.ownBlock = some k → k ∉ wv.ownBlock.toList := fun k hk hm => h.vwv k hk (by simpa using hm)
  have hnl : ∀ (j : Nat) (b : HB), hs[j]? = some b → ∀ k, b.l.ownBlock = some k → k ∉ wv.ownBlock.toList := fun j b hb k hk hm => h.wvl j b hb k hk (by simpa using hm)
  have hlt : ∀ {e : TypeId} {u : Value}, (∀ k, u.ownBlock = some k → ∃ cs, w.heap[k]? = some (.cells cs e (0, 0))) → (∀ k, u.ownBlock = some k → wv.ownBlock ≠ some k) → ∀ k, u.ownBlock = some k → wv'.ownBlock ≠ some k := by
    intro e u hu hne k' hk hk'
    rcases k.mv with hm | ⟨x, hx, hge⟩
    · exact hne k' hk (by rw [← hm]; exact hk')
    · rw [hx] at hk'
      cases hk'
      obtain ⟨cs, hc⟩ := hu _ hk
      have := lt_of_block hc
      omega
  refine
    { h with
      wr := h.wr.keep k.fr (own_not hwvt h.wr.box (by decide)) hnv
      wn := k.wn
      zz := k.fr.keep h.zz (own_not hwvt h.zz (by decide))
      book := h.book.keep k.fr (own_not hwvt h.book.box (by decide)) ?_
      p0 := fun j b hb => (h.p0 j b hb).keep k.fr (hnl j b hb)
      fr := h.fr.on k.fr (fun x hx => h.newwv x (by simpa using hx))
      newwv := k.mv.lt h.fr.size h.newwv
      vwv := hlt h.vt h.vwv
      wvl := fun j b hb => hlt (h.p0 j b hb).type (h.wvl j b hb) }
  intro k' hk hm
  obtain ⟨cs, hc⟩ := own_type h.book.row k' hk
  exact own_not hwvt hc (by decide) hm
/-- The writer wrote. -/
theorem LI.wrote {v' : Value} {xs' : List Nat} (h : LI w0 g v xs wv ys z bk rv hs w) (hW : Wr w' g v' xs') (hF : Fr (Wr.own g v) w w') (hM : Moved w.heap.size v v') : LI w0 g v' xs' wv ys z bk rv hs w' := by
  have hvt := h.vt
  have hin : ∀ {b : Nat}, b ≠ g → b ∉ v.ownBlock.toList → b ∉ Wr.own g v := by
    intro b h1 h2 hm
    rcases List.mem_cons.1 hm with hm | hm
    · exact h1 hm
    · exact h2 hm
  have hbyte : ∀ {k : Nat} {cs : Array Value}, w.heap[k]? = some (.cells cs 5 (0, 0)) → k ≠ g := fun hc => ne_types hc h.wr.box (by decide)
  have hlt : ∀ {e : TypeId} {u : Value}, (∀ k, u.ownBlock = some k → ∃ cs, w.heap[k]? = some (.cells cs e (0, 0))) → (∀ k, u.ownBlock = some k → v.ownBlock ≠ some k) → ∀ k, u.ownBlock = some k → v'.ownBlock ≠ some k := by
    intro e u hu hne k' hk hk'
    rcases hM with hm | ⟨x, hx, hge⟩
    · exact hne k' hk (by rw [← hm]; exact hk')
    · rw [hx] at hk'
      cases hk'
      obtain ⟨cs, hc⟩ := hu _ hk
      have := lt_of_block hc
      omega
  refine
    { h with
      wr := hW
      wn := h.wn.keep hF ?_
      zz := hF.keep h.zz (hin h.gz.symm (own_not hvt h.zz (by decide)))
      book := h.book.keep hF (hin (ne_types h.book.box h.wr.box (by decide)) (own_not hvt h.book.box (by decide))) ?_
      p0 := fun j b hb => (h.p0 j b hb).keep hF ?_
      fr := h.fr.on hF ?_
      newv := hM.lt h.fr.size h.newv
      vwv := ?_
      vl := fun j b hb => hlt (h.p0 j b hb).type (h.vl j b hb) }
  · intro k hk
    obtain ⟨cs, hc⟩ := h.wvt k hk
    exact hin (hbyte hc) (fun hm => h.vwv k (by simpa using hm) hk)
  · intro k hk
    obtain ⟨cs, hc⟩ := own_type h.book.row k hk
    exact hin (ne_types hc h.wr.box (by decide)) (own_not hvt hc (by decide))
  · intro k hk
    obtain ⟨cs, hc⟩ := (h.p0 j b hb).type k hk
    exact hin (hbyte hc) (fun hm => h.vl j b hb k hk (by simpa using hm))
  · intro x hx
    rcases List.mem_cons.1 hx with rfl | hx
    · exact h.newg
    · exact h.newv x (by simpa using hx)
  · intro k hk hk'
    exact hlt h.wvt (fun k hk hk' => h.vwv k hk' hk) k hk' hk

/-- A list of bytes that is held by nobody yet. -/
structure Lo (w0 w : World) (l : Value) (xs : List Nat) (v wv : Value) (hs : List HB) : Prop where
  own : Wn w l xs
  few : xs.length < 2^40
  new : ∀ k, l.ownBlock = some k → w0.heap.size ≤ k
  nv : ∀ k, l.ownBlock = some k → v.ownBlock ≠ some k
  nwv : ∀ k, l.ownBlock = some k → wv.ownBlock ≠ some k
  nhs : ∀ (j : Nat) (h : HB), hs[j]? = some h → ∀ k, l.ownBlock = some k → h.l.ownBlock ≠ some k
theorem Lo.of_new {l : Value} {zs : List Nat} (h : LI w0 g v xs wv ys z bk rv hs w) (_ : Fr [] w w') (hl : Wn w' l zs) (hz : zs.length < 2^40) (hn : ∀ k, l.ownBlock = some k → w.heap.size ≤ k) : Lo w0 w' l zs v wv hs := by
  have hs0 := h.fr.size
  have hlt : ∀ {e : TypeId} {u : Value}, (∀ k, u.ownBlock = some k → ∃ cs, w.heap[k]? = some (.cells cs e (0, 0))) → ∀ k, l.ownBlock = some k → u.ownBlock ≠ some k := by
    intro e u hu k hk hk'
    obtain ⟨cs, hc⟩ := hu k hk'
    have := lt_of_block hc
    have := hn k hk
    omega
  exact ⟨hl, hz, fun k hk => by have := hn k hk; omega, hlt h.vt, hlt h.wvt, fun j b hb => hlt (h.p0 j b hb).type⟩
theorem Lo.keep {S : List Nat} {l : Value} {zs : List Nat} (h : Lo w0 w l zs v wv hs) (hf : Fr S w w') (hn : ∀ k, l.ownBlock = some k → k ∉ S) : Lo w0 w' l zs v wv hs := { h with own := h.own.keep hf hn }
/-- The Book was told a list. -/
theorem LI.told {rv' l : Value} {zs : List Nat} (h : LI w0 g v xs wv ys z bk rv hs w) (hl : Lo w0 w l zs v wv hs) (hB : Bk w' bk rv' (hs ++ [⟨l, .slice none 0 0, hs.length + 1⟩])) (hF : Fr (bk :: rv.ownBlock.toList) w w') (hM : Moved w.heap.size rv rv') :
    LI w0 g v xs wv ys z bk rv' (hs ++ [⟨l, .slice none 0 0, hs.length + 1⟩]) w' := by
  have hrt := own_type h.book.row
  have hin : ∀ {b : Nat} {cs : Array Value} {t : TypeId} {f : Nat × Nat}, w.heap[b]? = some (.cells cs t f) → t ≠ 41 → t ≠ 65 → b ∉ bk :: rv.ownBlock.toList := by
    intro b cs t f hb h1 h2 hm
    rcases List.mem_cons.1 hm with hm | hm
    · exact ne_types hb h.book.box h1 hm
    · exact own_not hrt hb h2.symm hm
  have hbyte : ∀ {u : Value}, (∀ k, u.ownBlock = some k → ∃ cs, w.heap[k]? = some (.cells cs 5 (0, 0))) → ∀ k, u.ownBlock = some k → k ∉ bk :: rv.ownBlock.toList := by
    intro u hu k hk
    obtain ⟨cs, hc⟩ := hu k hk
    exact hin hc (by decide) (by decide)
  have hget : ∀ (j : Nat) (b : HB), (hs ++ [⟨l, .slice none 0 0, hs.length + 1⟩])[j]? = some b → hs[j]? = some b ∨ (j = hs.length ∧ b = ⟨l, .slice none 0 0, hs.length + 1⟩) := by
    intro j b hb
    by_cases hj : j < hs.length
    · rw [List.getElem?_append_left hj] at hb
      exact Or.inl hb
    · rw [List.getElem?_append_right (by omega)] at hb
      by_cases hj2 : j = hs.length
      · subst hj2
        simp at hb
        exact Or.inr ⟨rfl, hb.symm⟩
      · rw [List.getElem?_eq_none (by simp; omega)] at hb
        cases hb
  refine
    { h with
      wr := h.wr.keep hF (hin h.wr.box (by decide) (by decide)) (hbyte h.vt)
      wn := h.wn.keep hF (hbyte h.wvt)
      zz := hF.keep h.zz (hin h.zz (by decide) (by decide))
      book := hB
      p0 := ?_
      alone := ?_
      num := ?_
      fresh := ?_
      fr := h.fr.on hF ?_
      newrv := hM.lt h.fr.size h.newrv
      newl := ?_
      vl := ?_
      wvl := ?_ }
  · intro j b hb
    rcases hget j b hb with hb | ⟨_, rfl⟩
    · exact (h.p0 j b hb).keep hF (hbyte (h.p0 j b hb).type)
    · exact ⟨_, _, hl.own.keep hF (hbyte (own_type hl.own)), hl.few⟩
  · intro i j a b hia hjb hij k hka hkb
    rcases hget i a hia with hia | ⟨hi, rfl⟩
    · rcases hget j b hjb with hjb | ⟨hj, rfl⟩
      · exact h.alone i j a b hia hjb hij k hka hkb
      · exact hl.nhs i a hia k hkb hka
    · rcases hget j b hjb with hjb | ⟨hj, rfl⟩
      · exact hl.nhs j b hjb k hka hkb
      · omega
  · intro j b hb
    rcases hget j b hb with hb | ⟨rfl, rfl⟩
    · exact h.num j b hb
    · rfl
  · intro j b hb
    rcases hget j b hb with hb | ⟨rfl, rfl⟩
    · exact h.fresh j b hb
    · rfl
  · intro x hx
    rcases List.mem_cons.1 hx with rfl | hx
    · exact h.newbk
    · exact h.newrv x (by simpa using hx)
  · intro j b hb
    rcases hget j b hb with hb | ⟨rfl, rfl⟩
    · exact h.newl j b hb
    · exact hl.new
  · intro j b hb
    rcases hget j b hb with hb | ⟨rfl, rfl⟩
    · exact h.vl j b hb
    · exact hl.nv
  · intro j b hb
    rcases hget j b hb with hb | ⟨rfl, rfl⟩
    · exact h.wvl j b hb
    · exact hl.nwv
end
end Go.Proofs.YtgepbhoebpgdkaaDoor
