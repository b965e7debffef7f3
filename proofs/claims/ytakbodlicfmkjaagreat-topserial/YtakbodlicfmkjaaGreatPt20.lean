/- A thing in memory that is made of parts, each with blocks of its own: what a step that reaches some of them leaves. No conditions but those each lemma names. -/
import Derived.Test.YtakbodlicfmkjaaGreatMem
namespace Go.Proofs.YtakbodlicfmkjaaGreat
open Go.ChangeShapes Go.WideShapes Go.ChangeAt Go.RowKit Go.Lib
set_option linter.unusedVariables false
set_option linter.unusedSimpArgs false

/-- A part: what is said of it in a world, and which blocks are its own there. -/
structure Part where
  M : World → Prop
  O : World → Nat → Prop
/-- Its blocks are there and newer than the world w0; it stays where none of them differs. -/
structure Part.Ok (p : Part) (w0 : World) : Prop where
  lt : ∀ w b, p.M w → p.O w b → w0.heap.size ≤ b ∧ b < w.heap.size
  keep : ∀ S w w', p.M w → Fr [] w0 w → Fr S w w' → (∀ b ∈ S, b < w.heap.size → w0.heap.size ≤ b ∧ ¬ p.O w b) → p.M w' ∧ ∀ b, p.O w' b → p.O w b
/-- A thing of parts, all apart, made since w0. -/
structure Mach {ι : Type} (w0 w : World) (P : ι → Part) : Prop where
  ok : ∀ i, (P i).Ok w0
  m : ∀ i, (P i).M w
  ap : ∀ i j b, (P i).O w b → (P j).O w b → i = j
  fr : Fr [] w0 w
/-- What was done to it: only blocks of its own differ; what is its own then was its own, or is new. -/
structure Mx {ι : Type} (w : World) (P : ι → Part) (w' : World) (P' : ι → Part) : Prop where
  fr : ∃ S, Fr S w w' ∧ ∀ b ∈ S, b < w.heap.size → ∃ i, (P i).O w b
  sub : ∀ i b, (P' i).O w' b → (∃ j, (P j).O w b) ∨ w.heap.size ≤ b
section
variable {ι : Type} {w0 w w' : World} {P P' : ι → Part} {S : List Nat}
theorem Fr.within (hf : Fr S w w') (h0 : Fr [] w0 w) (hS : ∀ b ∈ S, b < w.heap.size → w0.heap.size ≤ b) : Fr [] w0 w' :=
  h0.trans (hf.mono (T := S.filter fun b => decide (b < w.heap.size)) fun x hx hl => List.mem_filter.2 ⟨hx, by simpa using hl⟩) (fun _ x _ => x) (fun x hx hl => by
    obtain ⟨a, b⟩ := List.mem_filter.1 hx
    have := hS x a (by simpa using b)
    omega)
/-- A step that reaches the parts of A: their blocks then were theirs, or are new. -/
theorem Mach.step (h : Mach w0 w P) (A : ι → Prop) (hf : Fr S w w') (hS : ∀ b ∈ S, b < w.heap.size → ∃ i, A i ∧ (P i).O w b) (hsame : ∀ i, ¬ A i → P' i = P i)
    (hok : ∀ i, A i → (P' i).Ok w0) (hm : ∀ i, A i → (P' i).M w') (hO : ∀ i, A i → ∀ b, (P' i).O w' b → (∃ j, A j ∧ (P j).O w b) ∨ w.heap.size ≤ b)
    (hap : ∀ i j b, A i → A j → (P' i).O w' b → (P' j).O w' b → i = j) : Mach w0 w' P' ∧ Mx w P w' P' := by
  classical
  have hold : ∀ i, ¬ A i → (P i).M w' ∧ ∀ b, (P i).O w' b → (P i).O w b := fun i hi => (h.ok i).keep S w w' (h.m i) h.fr hf fun b hb hl => by
    obtain ⟨j, h1, h2⟩ := hS b hb hl
    exact ⟨((h.ok j).lt w b (h.m j) h2).1, fun h3 => hi (by rw [h.ap i j b h3 h2]; exact h1)⟩
  refine ⟨⟨fun i => ?_, fun i => ?_, fun i j b h1 h2 => ?_, hf.within h.fr fun b hb hl => ?_⟩, ⟨⟨S, hf, fun b hb hl => ?_⟩, fun i b hb => ?_⟩⟩
  · by_cases hi : A i
    · exact hok i hi
    · rw [hsame i hi]; exact h.ok i
  · by_cases hi : A i
    · exact hm i hi
    · rw [hsame i hi]; exact (hold i hi).1
  · by_cases hi : A i <;> by_cases hj : A j
    · exact hap i j b hi hj h1 h2
    · rw [hsame j hj] at h2
      have k2 := (hold j hj).2 b h2
      rcases hO i hi b h1 with ⟨k, ka, k1⟩ | k1
      · exact absurd ka (by rw [h.ap k j b k1 k2]; exact hj)
      · have := ((h.ok j).lt w b (h.m j) k2).2; omega
    · rw [hsame i hi] at h1
      have k1 := (hold i hi).2 b h1
      rcases hO j hj b h2 with ⟨k, ka, k2⟩ | k2
      · exact absurd ka (by rw [h.ap k i b k2 k1]; exact hi)
      · have := ((h.ok i).lt w b (h.m i) k1).2; omega
    · rw [hsame i hi] at h1
      rw [hsame j hj] at h2
      exact h.ap i j b ((hold i hi).2 b h1) ((hold j hj).2 b h2)
  · obtain ⟨j, h1, h2⟩ := hS b hb hl
    exact ((h.ok j).lt w b (h.m j) h2).1
  · obtain ⟨j, _, h2⟩ := hS b hb hl
    exact ⟨j, h2⟩
  · by_cases hi : A i
    · exact (hO i hi b hb).imp (fun ⟨j, _, x⟩ => ⟨j, x⟩) id
    · rw [hsame i hi] at hb
      exact Or.inl ⟨i, (hold i hi).2 b hb⟩
/-- A step that reaches one part. -/
theorem Mach.one (h : Mach w0 w P) (i : ι) (p : Part) (hf : Fr S w w') (hS : ∀ b ∈ S, b < w.heap.size → (P i).O w b) (hsame : ∀ j, j ≠ i → P' j = P j) (hP : P' i = p)
    (hok : p.Ok w0) (hm : p.M w') (hO : ∀ b, p.O w' b → (P i).O w b ∨ w.heap.size ≤ b) : Mach w0 w' P' ∧ Mx w P w' P' :=
  h.step (fun j => j = i) hf (fun b hb hl => ⟨i, rfl, hS b hb hl⟩) (fun j hj => hsame j hj) (fun j hj => by rw [hj, hP]; exact hok) (fun j hj => by rw [hj, hP]; exact hm)
    (fun j hj b hb => by rw [hj, hP] at hb; exact (hO b hb).imp (fun x => ⟨i, rfl, x⟩) id) (fun a b _ ha hb _ _ => ha.trans hb.symm)
theorem Mach.quiet2 (h : Mach w0 w P) (hf : Fr [] w w') : Mach w0 w' P ∧ Mx w P w' P :=
  h.step (fun _ => False) hf (by simp) (fun _ _ => rfl) (fun _ h => h.elim) (fun _ h => h.elim) (fun _ h => h.elim) (fun _ _ _ h => h.elim)
theorem Mach.quiet (h : Mach w0 w P) (hf : Fr [] w w') : Mach w0 w' P := (h.quiet2 hf).1
variable {w'' : World} {P'' : ι → Part}
theorem Mx.size (h : Mx w P w' P') : w.heap.size ≤ w'.heap.size := by
  obtain ⟨S, hf, _⟩ := h.fr
  exact hf.size
theorem Mx.trans (h : Mx w P w' P') (k : Mx w' P' w'' P'') : Mx w P w'' P'' := by
  obtain ⟨S, hf, hS⟩ := h.fr
  obtain ⟨U, kf, kS⟩ := k.fr
  refine ⟨⟨S ++ U.filter (fun b => decide (b < w.heap.size)), hf.trans kf (fun x hx _ => List.mem_append_left _ hx) (fun x hx hl => List.mem_append_right _ (List.mem_filter.2 ⟨hx, by simpa using hl⟩)), fun b hb hl => ?_⟩, fun i b hb => ?_⟩
  · rcases List.mem_append.1 hb with e | e
    · exact hS b e hl
    · obtain ⟨e1, e2⟩ := List.mem_filter.1 e
      obtain ⟨i, hi⟩ := kS b e1 (Nat.lt_of_lt_of_le hl hf.size)
      rcases h.sub i b hi with h3 | h3
      · exact h3
      · omega
  · rcases k.sub i b hb with ⟨j, h3⟩ | h3
    · exact h.sub j b h3
    · exact Or.inr (Nat.le_trans h.size h3)
/-- What it does not own stays, and is not its own then. -/
theorem Mx.keep (h : Mx w P w' P') {b : Nat} {o : Obj} (hb : w.heap[b]? = some o) (hn : ∀ i, ¬ (P i).O w b) : w'.heap[b]? = some o := by
  obtain ⟨S, hf, hS⟩ := h.fr
  exact hf.keep hb (fun hm => by obtain ⟨i, hi⟩ := hS b hm (lt_of_block hb); exact hn i hi)
theorem Mx.not (h : Mx w P w' P') {b : Nat} (hb : b < w.heap.size) (hn : ∀ i, ¬ (P i).O w b) : ∀ i, ¬ (P' i).O w' b := fun i hi => by
  rcases h.sub i b hi with ⟨j, h1⟩ | h1
  · exact hn j h1
  · omega
/-- Seen from a world ahead, in which nothing of it was new. -/
theorem Mx.from (h : Mx w' P w'' P'') (hf : Fr [] w w') (hO : ∀ i b, (P i).O w' b → (P' i).O w b ∨ w.heap.size ≤ b) : Mx w P' w'' P'' := by
  obtain ⟨S, kf, kS⟩ := h.fr
  refine ⟨⟨S.filter (fun b => decide (b < w.heap.size)), hf.trans kf (by simp) (fun x hx hl => List.mem_filter.2 ⟨hx, by simpa using hl⟩), fun b hb hl => ?_⟩, fun i b hb => ?_⟩
  · obtain ⟨e1, e2⟩ := List.mem_filter.1 hb
    obtain ⟨i, hi⟩ := kS b e1 (Nat.lt_of_lt_of_le hl hf.size)
    rcases hO i b hi with h3 | h3
    · exact ⟨i, h3⟩
    · omega
  · rcases h.sub i b hb with ⟨j, h3⟩ | h3
    · exact (hO j b h3).imp (fun x => ⟨j, x⟩) id
    · exact Or.inr (Nat.le_trans hf.size h3)
end
end Go.Proofs.YtakbodlicfmkjaaGreat
