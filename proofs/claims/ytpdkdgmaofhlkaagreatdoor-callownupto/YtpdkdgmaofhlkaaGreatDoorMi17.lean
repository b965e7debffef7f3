/- Things in the stable order of their keys, as mathematics: there is one such row; laying each into its place makes it. No conditions but those each lemma names. -/
import Derived.Test.YtpdkdgmaofhlkaaGreatDoorSm17
import Derived.Test.YtpdkdgmaofhlkaaGreatDoorOrd7
namespace Go.Proofs.YtpdkdgmaofhlkaaGreatDoor
open Go.Sort
set_option linter.unusedVariables false
set_option linter.unusedSimpArgs false

section
variable {α β : Type}
/-- One key is below another one. -/
def ltB (key : α → ByteArray) (x y : α) : Bool := Op.bytesLess (key x).toList (key y).toList
theorem swoB (key : α → ByteArray) : SWO (ltB key) where
  irrefl x := bl_irrefl _
  trans x y z h1 h2 := bl_trans h1 h2
  ntrans x y z h1 h2 := bl_ntrans h1 h2
theorem koB (key : α → ByteArray) : KO (ltB key) (fun x => (key x).toList) where
  swo := swoB key
  ne x y h e := by
    unfold ltB at h
    have e2 : (key x).toList = (key y).toList := e
    rw [e2, bl_irrefl] at h
    cases h
  eq x y h1 h2 := bl_eq h1 h2
/-- In the order of their keys, each laid into its place behind those of the same key. -/
def sortB (key : α → ByteArray) (l : List α) : List α := l.foldl (fun acc x => insK (ltB key) x acc) []
theorem foldB_sorted (key : α → ByteArray) : ∀ (l acc : List α), acc.Pairwise (fun x y => ltB key y x = false) → (l.foldl (fun acc x => insK (ltB key) x acc) acc).Pairwise (fun x y => ltB key y x = false)
  | [], acc, h => h
  | x :: l, acc, h => foldB_sorted key l _ (insK_sorted (swoB key) x acc h)
theorem sortB_sorted (key : α → ByteArray) (l : List α) : (sortB key l).Pairwise (fun x y => ltB key y x = false) := foldB_sorted key l [] List.Pairwise.nil
theorem foldB_fl (key : α → ByteArray) (c : List UInt8) : ∀ (l acc : List α), acc.Pairwise (fun x y => ltB key y x = false) → fl (fun x => (key x).toList) c (l.foldl (fun acc x => insK (ltB key) x acc) acc) = fl (fun x => (key x).toList) c (acc ++ l)
  | [], acc, h => by simp
  | x :: l, acc, h => by
    rw [List.foldl_cons, foldB_fl key c l _ (insK_sorted (swoB key) x acc h), fl_append, insK_fl (koB key) x c acc h, ← fl_append]
    simp
theorem sortB_fl (key : α → ByteArray) (c : List UInt8) (l : List α) : fl (fun x => (key x).toList) c (sortB key l) = fl (fun x => (key x).toList) c l := by
  have := foldB_fl key c l [] List.Pairwise.nil
  rw [List.nil_append] at this
  exact this
theorem sort_is (key : α → ByteArray) {l l' : List α} (hs : l'.Pairwise (fun x y => ltB key y x = false)) (hf : ∀ c, fl (fun x => (key x).toList) c l' = fl (fun x => (key x).toList) c l) : l' = sortB key l :=
  stable_unique (koB key) l' (sortB key l) hs (sortB_sorted key l) (fun c => (hf c).trans (sortB_fl key c l).symm)
theorem insK_map (ka : α → ByteArray) (kb : β → ByteArray) (g : α → β) (hk : ∀ x, kb (g x) = ka x) (x : α) : ∀ l : List α, (insK (ltB ka) x l).map g = insK (ltB kb) (g x) (l.map g)
  | [] => rfl
  | y :: l => by
    have e : ltB kb (g x) (g y) = ltB ka x y := by unfold ltB; rw [hk, hk]
    simp only [insK, List.map_cons, e]
    cases h : ltB ka x y with
    | true => simp
    | false => simp [insK_map ka kb g hk x l]
theorem foldB_map (ka : α → ByteArray) (kb : β → ByteArray) (g : α → β) (hk : ∀ x, kb (g x) = ka x) : ∀ (l acc : List α), (l.foldl (fun acc x => insK (ltB ka) x acc) acc).map g = (l.map g).foldl (fun acc x => insK (ltB kb) x acc) (acc.map g)
  | [], acc => rfl
  | x :: l, acc => by rw [List.foldl_cons, foldB_map ka kb g hk l, insK_map ka kb g hk, List.map_cons, List.foldl_cons]
theorem sortB_map (ka : α → ByteArray) (kb : β → ByteArray) (g : α → β) (hk : ∀ x, kb (g x) = ka x) (l : List α) : (sortB ka l).map g = sortB kb (l.map g) := foldB_map ka kb g hk l []
theorem insK_length (lt : α → α → Bool) (x : α) : ∀ l : List α, (insK lt x l).length = l.length + 1
  | [] => rfl
  | y :: l => by
    unfold insK
    split
    · simp
    · simp [insK_length lt x l]
theorem foldB_length (key : α → ByteArray) : ∀ (l acc : List α), (l.foldl (fun acc x => insK (ltB key) x acc) acc).length = acc.length + l.length
  | [], acc => by simp
  | x :: l, acc => by rw [List.foldl_cons, foldB_length key l, insK_length, List.length_cons]; omega
theorem sortB_length (key : α → ByteArray) (l : List α) : (sortB key l).length = l.length := by
  have := foldB_length key l []
  simpa [sortB] using this
theorem foldB_mem (key : α → ByteArray) : ∀ (l acc : List α) (z : α), z ∈ l.foldl (fun acc x => insK (ltB key) x acc) acc → z ∈ acc ∨ z ∈ l
  | [], acc, z, h => Or.inl h
  | x :: l, acc, z, h => by
    rcases foldB_mem key l _ z h with e | e
    · rcases insK_mem e with e | e
      · exact Or.inr (by simp [e])
      · exact Or.inl e
    · exact Or.inr (by simp [e])
theorem sortB_mem (key : α → ByteArray) {l : List α} {z : α} (h : z ∈ sortB key l) : z ∈ l := by
  rcases foldB_mem key l [] z h with e | e
  · cases e
  · exact e
theorem sortB_snoc (key : α → ByteArray) (l : List α) (x : α) : sortB key (l ++ [x]) = insK (ltB key) x (sortB key l) := by unfold sortB; rw [List.foldl_append]; rfl
theorem sortB_one (key : α → ByteArray) (x : α) : sortB key [x] = [x] := rfl
theorem sortB_nil (key : α → ByteArray) : sortB key ([] : List α) = [] := rfl
/-- What stands ahead of the place of x, and what behind it. -/
theorem insK_split (lt : α → α → Bool) (x : α) : ∀ l : List α, ∃ a b, l = a ++ b ∧ insK lt x l = a ++ x :: b
  | [] => ⟨[], [], rfl, rfl⟩
  | y :: l => by
    unfold insK
    split
    · exact ⟨[], y :: l, rfl, rfl⟩
    · obtain ⟨a, b, h1, h2⟩ := insK_split lt x l
      exact ⟨y :: a, b, by rw [h1]; rfl, by rw [h2]; rfl⟩
end
section
variable {α : Type} [Inhabited α]
theorem seg_arr (d : Array α) : seg (fA d) 0 d.size = d.toList := by
  apply List.ext_getElem?
  intro i
  by_cases h : i < d.size
  · simp [seg, fA, h]
  · rw [List.getElem?_eq_none (by rw [seg_length]; omega), List.getElem?_eq_none (by simp; omega)]
theorem srt_arr {lt : α → α → Bool} {d : Array α} (h : Srt lt (fA d) 0 d.size) : d.toList.Pairwise (fun x y => lt y x = false) := by
  rw [List.pairwise_iff_getElem]
  intro i j hi hj hij
  have := h i j (Nat.zero_le _) hij (by simpa using hj)
  have h1 : i < d.size := by simpa using hi
  have h2 : j < d.size := by simpa using hj
  simpa [fA, h1, h2] using this
theorem sorted_is (key : α → ByteArray) {d d' : Array α} (hz : d'.size = d.size) (hs : Srt (ltB key) (fA d') 0 d.size) (ht : St (fun x => (key x).toList) (fA d) (fA d') 0 d.size) : d'.toList = sortB key d.toList := by
  refine sort_is key (srt_arr (by rw [hz]; exact hs)) fun c => ?_
  have := ht c
  rw [seg_arr d] at this
  rw [← hz, seg_arr d'] at this
  exact this
end
end Go.Proofs.YtpdkdgmaofhlkaaGreatDoor
