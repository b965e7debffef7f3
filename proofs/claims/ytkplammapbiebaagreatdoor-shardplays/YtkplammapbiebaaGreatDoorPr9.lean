/- Both shards side by side, there or not: which blocks are theirs, what leaves them alone, each call on both sides. Conditions as each names them. -/
import Derived.Test.YtkplammapbiebaaGreatDoorKi9
import Derived.Test.YtkplammapbiebaaGreatDoorNz9
namespace Go.Proofs.YtkplammapbiebaaGreatDoor
open Go.ChangeShapes Go.WideShapes Go.ChangeAt Go.RowKit Go.Lib Go.Maps
set_option linter.unusedVariables false
set_option linter.unusedSimpArgs false

/-- The program's blocks, the document's. -/
def PB (w : World) (sb b j : Nat) : Prop := j = sb ∨ j = b ∨ RowOf w b j
def DB (g : Nat) (lo : Option Addr) (N lc : Nat) (hs : List Hd) (j : Nat) : Prop := j = g ∨ (Value.slice lo N lc).ownBlock = some j ∨ ∃ x ∈ hs, VB x j
/-- Both shards are there, and have the same versions. -/
structure Lv (w0 w : World) (sb b g N lc n : Nat) (lo : Option Addr) (hs : List Hd) (Own : Nat → Prop) : Prop where
  sh : Sh w0 w sb b n (mOf hs)
  ks : KSh w0 w g N lc lo hs
  le : N ≤ n
  ap : ∀ j, PB w sb b j → ¬ DB g lo N lc hs j
  own : ∀ j, Own j ↔ PB w sb b j ∨ DB g lo N lc hs j
  nw : ∀ j, Own j → w0.heap.size ≤ j
/-- Both shards: there, or neither. -/
def Pr9 (w0 w : World) (s r : Option Addr) (n : Nat) (Own : Nat → Prop) : Prop :=
  (∃ sb b g N lc lo hs, s = some ⟨sb, 0, none⟩ ∧ r = some ⟨g, 0, none⟩ ∧ Lv w0 w sb b g N lc n lo hs Own) ∨ (NoSh w s ∧ r = none ∧ (∀ j, Own j ↔ ∃ a, s = some a ∧ a.block = j) ∧ ∀ j, Own j → w0.heap.size ≤ j)
/-- Only blocks of one's own, and new ones, may differ. -/
def FrM (w w' : World) (Own : Nat → Prop) : Prop := ∃ S, Fr S w w' ∧ ∀ j ∈ S, j < w.heap.size → Own j
theorem FrM.of {w w' : World} {Own : Nat → Prop} (h : Fr [] w w') : FrM w w' Own := ⟨[], h, by simp⟩
theorem FrM.size {w w' : World} {Own : Nat → Prop} (h : FrM w w' Own) : w.heap.size ≤ w'.heap.size := by
  obtain ⟨S, h, _⟩ := h
  exact h.size
theorem FrM.to {w w' : World} {Own : Nat → Prop} (h : FrM w w' Own) : ∃ T, Fr T w w' ∧ ∀ j ∈ T, Own j := by
  obtain ⟨S, h1, h2⟩ := h
  classical
  refine ⟨S.filter fun j => decide (j < w.heap.size), h1.mono (fun x hx hl => List.mem_filter.2 ⟨hx, by simpa using hl⟩), fun j hj => ?_⟩
  obtain ⟨a, b⟩ := List.mem_filter.1 hj
  exact h2 j a (by simpa using b)
theorem FrM.trans {w w1 w2 : World} {Own Own1 : Nat → Prop} (h : FrM w w1 Own) (k : FrM w1 w2 Own1) (hO : ∀ j, Own1 j → Own j ∨ w.heap.size ≤ j) : FrM w w2 Own := by
  obtain ⟨S, h1, h2⟩ := h
  obtain ⟨T, k1, k2⟩ := k
  refine ⟨S ++ T, h1.trans k1 (fun x hx _ => List.mem_append_left _ hx) (fun x hx _ => List.mem_append_right _ hx), fun j hj hl => ?_⟩
  rcases List.mem_append.1 hj with e | e
  · exact h2 j e hl
  · rcases hO j (k2 j e (Nat.lt_of_lt_of_le hl h1.size)) with q | q
    · exact q
    · omega
section
variable {w0 w w' : World} {sb b g N lc n : Nat} {lo : Option Addr} {hs : List Hd} {Own : Nat → Prop} {s r : Option Addr} {S : List Nat}
theorem KSh.keepS (h : KSh w0 w g N lc lo hs) (hf : Fr S w w') (hn : ∀ j ∈ S, ¬ DB g lo N lc hs j) : KSh w0 w' g N lc lo hs :=
  ⟨hf.keep h.box (fun hm => hn g hm (Or.inl rfl)), ⟨h.log.len, owns_keepB h.log.row hf (fun k hk hm => hn k hm (Or.inr (Or.inl hk))), fun x hx => (h.log.each x hx).keepS hf (fun j hj hm => hn j hm (Or.inr (Or.inr ⟨x, hx, hj⟩))), fun x hx => (h.log.ty x hx).keepS hf (fun j hj hm => hn j hm (Or.inr (Or.inr ⟨x, hx, hj⟩)))⟩, h.ok, h.few, h.gn⟩
theorem KSh.blk (h : KSh w0 w g N lc lo hs) {j : Nat} (hj : DB g lo N lc hs j) : j < w.heap.size := by
  rcases hj with rfl | hj | ⟨x, hx, hj⟩
  · exact h.lt
  · obtain ⟨_, cur, e⟩ := owns_cells h.log.row hj
    exact lt_of_block e
  · exact (h.log.each x hx).blk hj
theorem Sh.blk9 {M : ByteArray → List Vn} (h : Sh w0 w sb b n M) {j : Nat} (hj : PB w sb b j) : j < w.heap.size := by
  rcases hj with rfl | rfl | hj
  · exact lt_of_block h.box
  · exact h.bl
  · obtain ⟨_, cur, e⟩ := h.rowLt hj
    exact lt_of_block e
theorem PB.same (hf : Fr S w w') (hb : b ∉ S) (hl : b < w.heap.size) (j : Nat) : PB w' sb b j ↔ PB w sb b j := by
  unfold PB
  constructor
  · rintro (e | e | e)
    · exact Or.inl e
    · exact Or.inr (Or.inl e)
    · exact Or.inr (Or.inr (e.back hf hb hl))
  · rintro (e | e | e)
    · exact Or.inl e
    · exact Or.inr (Or.inl e)
    · obtain ⟨G, m, k, L, c, hM, hk, hG⟩ := e
      exact Or.inr (Or.inr ⟨G, m, k, L, c, hM.keep hf hb, hk, hG⟩)
theorem Lv.keep (h : Lv w0 w sb b g N lc n lo hs Own) (hf : Fr S w w') (hS : ∀ j ∈ S, ¬ Own j) : Lv w0 w' sb b g N lc n lo hs Own := by
  have h1 : ∀ j ∈ S, ¬ PB w sb b j := fun j hj hm => hS j hj ((h.own j).2 (Or.inl hm))
  have h2 : ∀ j ∈ S, ¬ DB g lo N lc hs j := fun j hj hm => hS j hj ((h.own j).2 (Or.inr hm))
  have hb : b ∉ S := fun hm => h1 b hm (Or.inr (Or.inl rfl))
  have hP := PB.same (sb := sb) hf hb h.sh.bl
  refine ⟨h.sh.keepS hf (fun hm => h1 sb hm (Or.inl rfl)) (fun j hj hm => h1 j hj ?_), h.ks.keepS hf h2, h.le, fun j hj => h.ap j ((hP j).1 hj), fun j => ?_, h.nw⟩
  · rcases hm with e | e
    · exact Or.inr (Or.inl e)
    · exact Or.inr (Or.inr e.2)
  · rw [hP j]; exact h.own j
theorem Pr9.keep (h : Pr9 w0 w s r n Own) (hf : Fr S w w') (hS : ∀ j ∈ S, ¬ Own j) : Pr9 w0 w' s r n Own := by
  rcases h with ⟨sb, b, g, N, lc, lo, hs, e1, e2, h⟩ | ⟨h1, h2, h3, h4⟩
  · exact Or.inl ⟨sb, b, g, N, lc, lo, hs, e1, e2, h.keep hf hS⟩
  · exact Or.inr ⟨h1.keep hf (fun a ha hm => hS _ hm ((h3 _).2 ⟨a, ha, rfl⟩)), h2, h3, h4⟩
theorem Pr9.quiet (h : Pr9 w0 w s r n Own) (hf : Fr [] w w') : Pr9 w0 w' s r n Own := h.keep hf (by simp)
theorem Pr9.nw (h : Pr9 w0 w s r n Own) : ∀ j, Own j → w0.heap.size ≤ j := by
  rcases h with ⟨sb, b, g, N, lc, lo, hs, e1, e2, h⟩ | ⟨h1, h2, h3, h4⟩
  · exact h.nw
  · exact h4
theorem Pr9.lt (h : Pr9 w0 w s r n Own) : ∀ j, Own j → j < w.heap.size := by
  rcases h with ⟨sb, b, g, N, lc, lo, hs, e1, e2, h⟩ | ⟨h1, h2, h3, h4⟩
  · intro j hj
    rcases (h.own j).1 hj with e | e
    · exact h.sh.blk9 e
    · exact h.ks.blk e
  · intro j hj
    obtain ⟨a, ha, rfl⟩ := (h3 j).1 hj
    rcases h1 with e | ⟨z, e, hz⟩
    · rw [e] at ha; cases ha
    · rw [e] at ha; cases ha
      exact lt_of_block hz
/-- What a call that moves things leaves. -/
def Nx9 (w0 w w2 : World) (s r : Option Addr) (n : Nat) (Own : Nat → Prop) : Prop := ∃ Own', Pr9 w0 w2 s r n Own' ∧ FrM w w2 Own ∧ ∀ j, Own' j → Own j ∨ w.heap.size ≤ j
theorem InTold.one {M M1 M2 : ByteArray → List Vn} {p : Pt} {o1 o2 : Bool} {c1 c2 : Nat} (h : InTold M p M1 o1 c1) (k : InTold M p M2 o2 c2) : M1 = M2 ∧ o1 = o2 ∧ c1 = c2 := by
  rcases h with ⟨a1, a2, a3, a4⟩ | ⟨a1, a2, a3⟩ <;> rcases k with ⟨b1, b2, b3, b4⟩ | ⟨b1, b2, b3⟩
  · exact ⟨by rw [a4, b4], by rw [a2, b2], by rw [a1, b1]⟩
  · exact absurd b2 a3
  · exact absurd a2 b3
  · refine ⟨?_, ?_, by rw [a1, b1]⟩ <;> rcases a3 with ⟨p1, p2, y, hy, ey⟩ | ⟨p1, p2, us, p3, p4, p5⟩ <;> rcases b3 with ⟨q1, q2, z, hz, ez⟩ | ⟨q1, q2, vs, q3, q4, q5⟩
    · rw [p2, q2]
    · exact absurd ey (q2 y hy)
    · exact absurd ez (p2 z hz)
    · rw [p3, q3, ris_unique us vs p4.2 q4.2 (fun x => (p5 x).trans (q5 x).symm)]
    · rw [p1, q1]
    · exact absurd ey (q2 y hy)
    · exact absurd ez (p2 z hz)
    · rw [p1, q1]
theorem SzT.one {M : ByteArray → List Vn} {a c : Nat} (h : SzT M a) (k : SzT M c) : a = c := by
  obtain ⟨ks, h1, h2, rfl⟩ := h
  obtain ⟨qs, k1, k2, rfl⟩ := k
  exact sum_same _ h1 k1 (fun x => (h2 x).trans (k2 x).symm)
theorem GoT.one {M : ByteArray → List Vn} {q : Int} {a c : Nat} (h : GoT M q a) (k : GoT M q c) : a = c := by
  obtain ⟨ks, h1, h2, rfl⟩ := h
  obtain ⟨qs, k1, k2, rfl⟩ := k
  exact sum_same _ h1 k1 (fun x => (h2 x).trans (k2 x).symm)
theorem GtH.is {key : ByteArray} {mk : Int} {q : ByteArray} {o : Bool} (h : GtH hs key mk q o) (hl : LoOk hs) : o = (valAt (mOf hs key) mk).isSome ∧ q = (valAt (mOf hs key) mk).getD noS := by
  obtain ⟨i, ok, hP, ⟨rfl, rfl, rfl⟩ | ⟨rfl, hA⟩⟩ := h
  · have e : mOf hs key = [] := mOf_off (fun x hx => hP.off hl x hx)
    rw [e, valAt_nil]
    exact ⟨rfl, rfl⟩
  · obtain ⟨h1, h2, h3⟩ := hP.at hl
    rw [h3]
    exact hA.is (hl.2 _ (hgetD_mem hs i h1)).2.2
/-- What the program's call leaves of the document's shard. -/
theorem Lv.mid (h : Lv w0 w sb b g N lc n lo hs Own) (hf : FrS w0 b w w') : KSh w0 w' g N lc lo hs ∧ FrM w w' Own := by
  obtain ⟨S, hS, hm⟩ := hf
  obtain ⟨m1, m2⟩ := hm h.sh.bl
  have hin : ∀ j ∈ S, j < w.heap.size → PB w sb b j := fun j hj hl => by
    rcases m1 j hj hl with e | e
    · exact Or.inr (Or.inl e)
    · exact Or.inr (Or.inr e.2)
  refine ⟨?_, S, hS, fun j hj hl => (h.own j).2 (Or.inl (hin j hj hl))⟩
  obtain ⟨T, hT, hT2⟩ := FrM.to (Own := PB w sb b) ⟨S, hS, hin⟩
  exact h.ks.keepS hT (fun j hj hm => h.ap j (hT2 j hj) hm)
/-- And what the document's then leaves of both. -/
theorem Lv.next {w1 w2 : World} {n' N' lc' : Nat} {lo' : Option Addr} {gs : List Hd} (h : Lv w0 w sb b g N lc n lo hs Own) (hf : FrS w0 b w w1) (h1 : Sh w0 w1 sb b n' (mOf gs)) (h2 : KSh w0 w2 g N' lc' lo' gs) (hle : N' ≤ n') (hF : Fr (g :: (Value.slice lo N lc).ownBlock.toList) w1 w2) (hN : KNw w1 hs gs) (hrow : ∀ j, (Value.slice lo' N' lc').ownBlock = some j → (Value.slice lo N lc).ownBlock = some j ∨ w1.heap.size ≤ j) :
    ∃ Own', Lv w0 w2 sb b g N' lc' n' lo' gs Own' ∧ FrM w w2 Own ∧ ∀ j, Own' j → Own j ∨ w.heap.size ≤ j := by
  obtain ⟨_, hM⟩ := h.mid hf
  have hs1 : w.heap.size ≤ w1.heap.size := hf.size
  have hD : ∀ j, DB g lo' N' lc' gs j → DB g lo N lc hs j ∨ w1.heap.size ≤ j := fun j hj => by
    rcases hj with e | e | ⟨x, hx, e⟩
    · exact Or.inl (Or.inl e)
    · rcases hrow j e with q | q
      · exact Or.inl (Or.inr (Or.inl q))
      · exact Or.inr q
    · rcases hN x hx j e with q | ⟨y, hy, q⟩
      · exact Or.inr q
      · exact Or.inl (Or.inr (Or.inr ⟨y, hy, q⟩))
  have hFD : ∀ j ∈ g :: (Value.slice lo N lc).ownBlock.toList, DB g lo N lc hs j := fun j hj => by
    rcases List.mem_cons.1 hj with e | e
    · exact Or.inl e
    · exact Or.inr (Or.inl (Option.mem_toList.1 e))
  have hP1 : ∀ j, PB w1 sb b j → PB w sb b j ∨ w.heap.size ≤ j := fun j hj => by
    rcases hj with e | e | e
    · exact Or.inl (Or.inl e)
    · exact Or.inl (Or.inr (Or.inl e))
    · rcases hf.rows h.sh.bl e with q | q
      · exact Or.inl (Or.inr (Or.inr q))
      · exact Or.inr q
  have hDl : ∀ j, DB g lo N lc hs j → j < w.heap.size := fun j hj => h.ks.blk hj
  have hno : ∀ j, PB w1 sb b j → ¬ DB g lo N lc hs j := fun j hj hd => by
    rcases hP1 j hj with q | q
    · exact h.ap j q hd
    · have := hDl j hd; omega
  have hb : b ∉ g :: (Value.slice lo N lc).ownBlock.toList := fun hm => hno b (Or.inr (Or.inl rfl)) (hFD b hm)
  have hPs := PB.same (sb := sb) hF hb h1.bl
  have hown : ∀ j, (PB w2 sb b j ∨ DB g lo' N' lc' gs j) → Own j ∨ w.heap.size ≤ j := fun j hj => by
    rcases hj with e | e
    · rcases hP1 j ((hPs j).1 e) with q | q
      · exact Or.inl ((h.own j).2 (Or.inl q))
      · exact Or.inr q
    · rcases hD j e with q | q
      · exact Or.inl ((h.own j).2 (Or.inr q))
      · exact Or.inr (Nat.le_trans hs1 q)
  have h0 : w0.heap.size ≤ w.heap.size := by have := h.sh.bn; have := h.sh.bl; omega
  refine ⟨fun j => PB w2 sb b j ∨ DB g lo' N' lc' gs j, ⟨h1.keepS hF (fun hm => hno sb (Or.inl rfl) (hFD sb hm)) (fun j hj hm => ?_), h2, hle, fun j hj hd => ?_, fun j => Iff.rfl, fun j hj => ?_⟩, ?_, hown⟩
  · refine hno j ?_ (hFD j hj)
    rcases hm with e | e
    · exact Or.inr (Or.inl e)
    · exact Or.inr (Or.inr e.2)
  · have hj1 := (hPs j).1 hj
    rcases hD j hd with q | q
    · exact hno j hj1 q
    · have := h1.blk9 hj1; omega
  · rcases hown j hj with q | q
    · exact h.nw j q
    · omega
  · exact hM.trans (Own1 := DB g lo N lc hs) ⟨_, hF, fun j hj _ => hFD j hj⟩ (fun j hj => Or.inl ((h.own j).2 (Or.inr hj)))
end
end Go.Proofs.YtkplammapbiebaaGreatDoor
