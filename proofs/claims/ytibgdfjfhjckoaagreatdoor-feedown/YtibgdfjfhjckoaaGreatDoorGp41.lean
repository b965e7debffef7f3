/- Texts of this claim laid together, one behind the other: contracts and plain lemmas; conditions as each names them. -/
import Derived.Test.YtibgdfjfhjckoaaGreatDoorGp9
import Derived.Test.YtibgdfjfhjckoaaGreatDoorGp22
import Derived.Test.YtibgdfjfhjckoaaGreatDoorGp40
import Derived.BigQuiet
import Derived.BigRegion
/- A Book's birth, and its Apart in a law's own memory; what a feed's calls leave of a Book, and a Book's of a feed. Conditions as each lemma names them. -/
namespace Go.Proofs.YtibgdfjfhjckoaaGreatDoor
open Go.ChangeShapes Go.WideShapes Go.ChangeAt Go.RowKit Go.Lib Go.Maps
set_option linter.unusedVariables false
set_option linter.unusedSimpArgs false

namespace Bq
/-- A Book that was told nothing. -/
def newBk : Array Value := #[.int .i64 0, .slice none 0 0, .slice none 0 0, .slice none 0 0, .slice none 0 0, .slice none 0 0, .slice none 0 0, .slice none 0 0, .slice none 0 0, .slice none 0 0, .slice none 0 0, .slice none 0 0]
theorem S0.none {K : Kd} {w : World} {bk : Nat} (h : w.heap[bk]? = some (.cells newBk 35 (0, 0))) (hc : newBk[K.col]? = some (.slice none 0 0)) : S0 K w bk (.slice none 0 0) [] :=
  ⟨⟨⟨newBk, h, hc⟩, World.ownsRow_nil _ _ _ _, by simp, by simp⟩, by simp, fun i j a b ha => by simp at ha, fun j h hh => by simp at hh⟩
theorem B4.new {w0 w : World} {bk : Nat} (h : w.heap[bk]? = some (.cells newBk 35 (0, 0))) (hb : w0.heap.size ≤ bk) : B4 w0 w bk 0 (.slice none 0 0) (.slice none 0 0) (.slice none 0 0) (.slice none 0 0) [] [] [] [] := by
  refine ⟨⟨newBk, ⟨h, rfl, ?_⟩, rfl⟩, S0.none h rfl, S0.none h rfl, S0.none h rfl, S0.none h rfl, hb, ?_, ?_, ?_, ?_, by simp, by simp, by simp, by simp⟩
  · rintro c (rfl | rfl | rfl | rfl | rfl | rfl | rfl) <;> rfl
  all_goals (intro k hk; simp [Value.ownBlock] at hk)
/-- All that a Book's Apart writes was made since w0. -/
theorem B4.own {w0 w : World} {bk T : Nat} {rB rI rW rT : Value} {hB hI hW hT : List HB} (h : B4 w0 w bk T rB rI rW rT hB hI hW hT) (lB : ∀ k ∈ lbs hB, w0.heap.size ≤ k) (lI : ∀ k ∈ lbs hI, w0.heap.size ≤ k) (lW : ∀ k ∈ lbs hW, w0.heap.size ≤ k) (lT : ∀ k ∈ lbs hT, w0.heap.size ≤ k) : ∀ k ∈ own4 rB rI rW rT hB hI hW hT, w0.heap.size ≤ k := by
  intro k hk
  simp only [own4, List.mem_append, Option.mem_toList] at hk
  rcases hk with (hk | hk) | (hk | hk) | (hk | hk) | (hk | hk)
  · exact h.rBn k hk
  · exact lB k hk
  · exact h.rIn k hk
  · exact lI k hk
  · exact h.rWn k hk
  · exact lW k hk
  · exact h.rTn k hk
  · exact lT k hk
/-- Apart says true, and writes nothing that was there at w0. -/
theorem B4.apart {w0 w : World} {bk T : Nat} {rB rI rW rT : Value} {hB hI hW hT : List HB} (h : B4 w0 w bk T rB rI rW rT hB hI hW hT) (lB : ∀ k ∈ lbs hB, w0.heap.size ≤ k) (lI : ∀ k ∈ lbs hI, w0.heap.size ≤ k) (lW : ∀ k ∈ lbs hW, w0.heap.size ≤ k) (lT : ∀ k ∈ lbs hT, w0.heap.size ≤ k) (ht0 : Tab w0) (hf : Fr [] w0 w) :
    Calls Tryz.prog 12 #[.pointer (some ⟨bk, 0, none⟩)] w fun e w' => e = .returned (.bool true) ∧ Fr [] w0 w' := by
  obtain ⟨cs, hX, _⟩ := h.box
  have ho := h.own lB lI lW lT
  refine (apart4_any bk cs rB rI rW rT hB hI hW hT w hX h.sB h.sI h.sW h.sT (ht0.keep hf (by simp)) (fun hm => by have := ho _ hm; have := ht0.lt; omega)).mono ?_
  rintro e w' ⟨rfl, hF⟩
  exact ⟨rfl, hf.on hF ho⟩
end Bq
structure Wd16 (w1 : World) where
  W : World
  h : Fr [] w1 W
instance (w1 : World) : Nonempty (Wd16 w1) := ⟨⟨w1, Fr.refl _ _⟩⟩
theorem wp_region_wd16 {P : Program} {w1 wr : World} {id : Nat} {Q : Exit → Act → World → Prop} {a : Act} {l : List Oper} (hm : P.follows .mixedOrders = true) (hB : Region.lexB .any l.toArray = true) (hf : Fr [] w1 wr)
    (h : wpQuiet P l.toArray (fun w' => ∃ x : Wd16 w1, w' = x.W) (fun a' => ∀ w', (∃ x : Wd16 w1, w' = x.W) → Q .normal a' w') l a) : (Code.region id l.toArray true).wp P Q a wr :=
  wp_region_quiet (C := fun w' => ∃ x : Wd16 w1, w' = x.W) hm hB ⟨⟨_, hf.then (Fr.drew [] wr)⟩, rfl⟩ (by simpa using h)
theorem cells_type16 {w : World} {k : Nat} {c c' : Array Value} {t t' : TypeId} (h : w.heap[k]? = some (.cells c t (0, 0))) (h' : w.heap[k]? = some (.cells c' t' (0, 0))) : t = t' := by
  rw [h] at h'
  simp only [Option.some.injEq, Obj.cells.injEq] at h'
  exact h'.2.1
/-- What a feed writes is none of the Book's. -/
theorem b4_feed {w0 w w' : World} {bk T : Nat} {rW : Value} {hW : List Bq.HB} {S : List Nat} (h : Bq.B4 w0 w bk T (.slice none 0 0) (.slice none 0 0) rW (.slice none 0 0) [] [] hW []) (hf : Fr S w w') (hS : ∀ k ∈ S, ∃ cs t, w.heap[k]? = some (.cells cs t (0, 0)) ∧ (t = 59 ∨ t = 67 ∨ t = 3)) : Bq.B4 w0 w' bk T (.slice none 0 0) (.slice none 0 0) rW (.slice none 0 0) [] [] hW [] := by
  have hoff : ∀ K : Bq.Kd, K.tH ≠ 59 → K.tH ≠ 67 → K.tH ≠ 3 → K.tE ≠ 59 → K.tE ≠ 67 → K.tE ≠ 3 → Bq.Off K S w := by
    intro K a1 a2 a3 a4 a5 a6 k hk
    obtain ⟨cs, t, hc, ht⟩ := hS k hk
    refine ⟨cs, t, hc, ?_⟩
    rcases ht with rfl | rfl | rfl
    · exact ⟨by decide, Ne.symm a1, Ne.symm a4⟩
    · exact ⟨by decide, Ne.symm a2, Ne.symm a5⟩
    · exact ⟨by decide, Ne.symm a3, Ne.symm a6⟩
  have hbk : bk ∉ S := fun hm => by
    obtain ⟨cs, t, hc, ht⟩ := hS bk hm
    obtain ⟨cs', h1, _⟩ := h.box
    have := cells_type16 hc h1.box
    subst this
    rcases ht with e | e | e <;> exact absurd e (by decide)
  obtain ⟨cs, hX, hc⟩ := h.box
  refine ⟨⟨cs, hX.keep hf hbk, hc⟩, h.sB.stay hf (hoff _ (by decide) (by decide) (by decide) (by decide) (by decide) (by decide)), ⟨h.sI.bl.keep hf hbk (fun k hk hm => ?_), fun j b hb => by simp at hb, h.sI.alone, h.sI.fresh⟩, h.sW.stay hf (hoff _ (by decide) (by decide) (by decide) (by decide) (by decide) (by decide)), h.sT.stay hf (hoff _ (by decide) (by decide) (by decide) (by decide) (by decide) (by decide)), h.bn, h.rBn, h.rIn, h.rWn, h.rTn, h.lB, h.lI, h.lW, h.lT⟩
  simp [Value.ownBlock] at hk
theorem lbsW16 {w0 w : World} {bk T : Nat} {rW : Value} {hW : List Bq.HB} (h : Bq.B4 w0 w bk T (.slice none 0 0) (.slice none 0 0) rW (.slice none 0 0) [] [] hW []) {k : Nat} (hk : k ∈ Bq.lbs hW) : ∃ cs, w.heap[k]? = some (.cells cs 81 (0, 0)) := by
  obtain ⟨b, hb, hbk⟩ := Bq.mem_lbs.1 hk
  obtain ⟨j, hj⟩ := List.getElem?_of_mem hb
  exact (h.sW.each j b hj).type k hbk
/-- A feed beside a Book. -/
structure Pz (wl w0 w : World) (bk T : Nat) (rW : Value) (hW : List Bq.HB) (f g lb L : Nat) (ds : List Tm) (v : Value) (qs : List Nat) (mb : Nat) (s : Fe) (hw : Value) : Prop where
  fd : FdM w0 w f g lb L ds v qs mb [] s hw
  b : Bq.B4 wl w bk T (.slice none 0 0) (.slice none 0 0) rW (.slice none 0 0) [] [] hW []
  lw : ∀ k ∈ Bq.lbs hW, wl.heap.size ≤ k
  le : wl.heap.size ≤ w0.heap.size
  fr : Fr [] wl w
section
variable {wl w0 w w' : World} {bk T : Nat} {rW : Value} {hW : List Bq.HB} {f g lb L : Nat} {ds : List Tm} {v : Value} {qs : List Nat} {mb : Nat} {s : Fe} {hw : Value}
theorem Pz.keep (h : Pz wl w0 w bk T rW hW f g lb L ds v qs mb s hw) (hf : Fr [] w w') : Pz wl w0 w' bk T rW hW f g lb L ds v qs mb s hw := ⟨h.fd.keep hf, h.b.keep hf, h.lw, h.le, h.fr.then hf⟩
/-- Behind a call of the feed. -/
theorem Pz.feed (h : Pz wl w0 w bk T rW hW f g lb L ds v qs mb s hw) {v' : Value} {qs' : List Nat} {s' : Fe} {hw' : Value} {S : List Nat} (hd : FdM w0 w' f g lb L ds v' qs' mb [] s' hw') (hf : Fr S w w') (hS : ∀ k ∈ S, k = f ∨ k ∈ Src.own g v) : Pz wl w0 w' bk T rW hW f g lb L ds v' qs' mb s' hw' := by
  refine ⟨hd, b4_feed h.b hf (fun k hk => ?_), h.lw, h.le, h.fr.on hf (fun k hk => ?_)⟩
  · rcases hS k hk with rfl | hk
    · exact ⟨_, _, h.fd.box, Or.inr (Or.inl rfl)⟩
    · simp only [Src.own, List.mem_cons, Option.mem_toList] at hk
      rcases hk with rfl | hk
      · exact ⟨_, _, h.fd.src.box, Or.inl rfl⟩
      · obtain ⟨cur, hc⟩ := h.fd.src.rowNe hk
        exact ⟨_, _, hc, Or.inr (Or.inr rfl)⟩
  · have hl := h.le
    rcases hS k hk with rfl | hk
    · have := h.fd.fn; omega
    · simp only [Src.own, List.mem_cons, Option.mem_toList] at hk
      rcases hk with rfl | hk
      · have := h.fd.src.gn; omega
      · have := h.fd.src.rn k hk; omega
/-- The Book is told a transaction's writes. -/
theorem Pz.txn (h : Pz wl w0 w bk T rW hW f g lb L ds v qs mb s hw) (n : Int) (k M : Nat) (ws : List Wt) (hrow : w.heap[k]? = some (.cells (wtsC ws).toArray 81 (0, 0))) (hM : M = ws.length) (hMs : M ≤ 32) (hnew : k ∉ Bq.lbs hW) (hkl : wl.heap.size ≤ k) (hT : T < 1000) :
    Calls Tryz.prog 11 #[.pointer (some ⟨bk, 0, none⟩), .agg #[.int .i64 n, .slice (some ⟨k, 0, none⟩) M M]] w fun e w' => e = .returned (.tuple #[]) ∧ ∃ rW' hW', Hid (Pz wl w0 w' bk (T + 1) rW' hW' f g lb L ds v qs mb s hw) := by
  have hp : Bq.P0 Bq.kWrite w ⟨.slice (some ⟨k, 0, none⟩) M M, .slice none 0 0, T + 1⟩ := ⟨M, wtsC ws, ⟨by rw [wtsC_length, hM], .inr ⟨k, M, (wtsC ws).toArray, rfl, Nat.zero_le _, hrow, Nat.le_refl _, by unfold maxLen; omega, by simp [wtsC_length, hM], by rw [List.take_of_length_le (by simp [wtsC_length, hM])]⟩⟩, by omega⟩
  refine Calls.mono (Bq.txn_any h.b n (some ⟨k, 0, none⟩) M M hp (fun j hj => by simp [Value.ownBlock] at hj; subst hj; exact hnew) (by omega)) ?_
  rintro e w' ⟨he, rv', hb, hf, hm⟩
  have hty : ∀ j ∈ bk :: rW.ownBlock.toList, ∀ o, w.heap[j]? = some o → ∃ cs t, o = .cells cs t (0, 0) ∧ (t = 35 ∨ t = Bq.kWrite.tH) := by
    intro j hj o e
    rcases List.mem_cons.1 hj with rfl | hj
    · obtain ⟨cs', h1, _⟩ := h.b.box
      rw [h1.box] at e
      cases e
      exact ⟨_, _, rfl, Or.inl rfl⟩
    · obtain ⟨cs1, h1⟩ := Bq.own_type h.b.sW.bl.row j (by simpa using hj)
      rw [h1] at e
      cases e
      exact ⟨_, _, rfl, Or.inr rfl⟩
  refine ⟨he, rv', _, h.fd.keepS hf (fun j hj o e => ?_), hb, fun j hj => ?_, h.le, h.fr.on hf (fun j hj => ?_)⟩
  · obtain ⟨cs, t, rfl, ht⟩ := hty j hj o e
    refine ⟨cs, t, rfl, ?_⟩
    rcases ht with rfl | rfl
    · exact ⟨by decide, by decide, by decide, by decide, fun x => absurd x (by decide)⟩
    · exact ⟨by decide, by decide, by decide, by decide, fun x => absurd x (by decide)⟩
  · obtain ⟨b, hb1, hk1⟩ := Bq.mem_lbs.1 hj
    rcases List.mem_append.1 hb1 with hb1 | hb1
    · exact h.lw j (Bq.mem_lbs.2 ⟨b, hb1, hk1⟩)
    · simp only [List.mem_singleton] at hb1
      subst hb1
      simp [Value.ownBlock] at hk1
      omega
  · rcases List.mem_cons.1 hj with rfl | hj
    · exact h.b.bn
    · exact h.b.rWn j (by simpa using hj)
end
end Go.Proofs.YtibgdfjfhjckoaaGreatDoor
