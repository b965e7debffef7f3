/- Texts of this claim laid together, one behind the other: contracts and plain lemmas; conditions as each names them. -/
import Derived.Test.YtpdkdgmaofhlkaaGp12
import Derived.Test.YtpdkdgmaofhlkaaGp26
import Derived.Test.YtpdkdgmaofhlkaaGp22
/- Things in the stable order of their keys, as mathematics: there is one such row; laying each into its place makes it. No conditions but those each lemma names. -/
namespace Go.Proofs.Ytpdkdgmaofhlkaa
open Go.Sort
set_option linter.unusedVariables false
set_option linter.unusedSimpArgs false

section
variable {α β : Type}
/-- One key is below another one. -/
def ltB (key : α → ByteArray) (x y : α) : Bool := Op.bytesLess (key x).toList (key y).toList
theorem swoB (key : α → ByteArray) : SWO (ltB key) where
  irrefl x := bl_irrefl _
  trans x y z h1 h2 := bl_trans h1 h2
  ntrans x y z h1 h2 := bl_ntrans h1 h2
theorem koB (key : α → ByteArray) : KO (ltB key) (fun x => (key x).toList) where
  swo := swoB key
  ne x y h e := by
    unfold ltB at h
    have e2 : (key x).toList = (key y).toList := e
    rw [e2, bl_irrefl] at h
    cases h
  eq x y h1 h2 := bl_eq h1 h2
/-- In the order of their keys, each laid into its place behind those of the same key. -/
def sortB (key : α → ByteArray) (l : List α) : List α := l.foldl (fun acc x => insK (ltB key) x acc) []
theorem foldB_sorted (key : α → ByteArray) : ∀ (l acc : List α), acc.Pairwise (fun x y => ltB key y x = false) → (l.foldl (fun acc x => insK (ltB key) x acc) acc).Pairwise (fun x y => ltB key y x = false)
  | [], acc, h => h
  | x :: l, acc, h => foldB_sorted key l _ (insK_sorted (swoB key) x acc h)
theorem sortB_sorted (key : α → ByteArray) (l : List α) : (sortB key l).Pairwise (fun x y => ltB key y x = false) := foldB_sorted key l [] List.Pairwise.nil
theorem foldB_fl (key : α → ByteArray) (c : List UInt8) : ∀ (l acc : List α), acc.Pairwise (fun x y => ltB key y x = false) → fl (fun x => (key x).toList) c (l.foldl (fun acc x => insK (ltB key) x acc) acc) = fl (fun x => (key x).toList) c (acc ++ l)
  | [], acc, h => by simp
  | x :: l, acc, h => by
    rw [List.foldl_cons, foldB_fl key c l _ (insK_sorted (swoB key) x acc h), fl_append, insK_fl (koB key) x c acc h, ← fl_append]
    simp
theorem sortB_fl (key : α → ByteArray) (c : List UInt8) (l : List α) : fl (fun x => (key x).toList) c (sortB key l) = fl (fun x => (key x).toList) c l := by
  have := foldB_fl key c l [] List.Pairwise.nil
  rw [List.nil_append] at this
  exact this
theorem sort_is (key : α → ByteArray) {l l' : List α} (hs : l'.Pairwise (fun x y => ltB key y x = false)) (hf : ∀ c, fl (fun x => (key x).toList) c l' = fl (fun x => (key x).toList) c l) : l' = sortB key l :=
  stable_unique (koB key) l' (sortB key l) hs (sortB_sorted key l) (fun c => (hf c).trans (sortB_fl key c l).symm)
theorem insK_map (ka : α → ByteArray) (kb : β → ByteArray) (g : α → β) (hk : ∀ x, kb (g x) = ka x) (x : α) : ∀ l : List α, (insK (ltB ka) x l).map g = insK (ltB kb) (g x) (l.map g)
  | [] => rfl
  | y :: l => by
    have e : ltB kb (g x) (g y) = ltB ka x y := by unfold ltB; rw [hk, hk]
    simp only [insK, List.map_cons, e]
    cases h : ltB ka x y with
    | true => simp
    | false => simp [insK_map ka kb g hk x l]
theorem foldB_map (ka : α → ByteArray) (kb : β → ByteArray) (g : α → β) (hk : ∀ x, kb (g x) = ka x) : ∀ (l acc : List α), (l.foldl (fun acc x => insK (ltB ka) x acc) acc).map g = (l.map g).foldl (fun acc x => insK (ltB kb) x acc) (acc.map g)
  | [], acc => rfl
  | x :: l, acc => by rw [List.foldl_cons, foldB_map ka kb g hk l, insK_map ka kb g hk, List.map_cons, List.foldl_cons]
theorem sortB_map (ka : α → ByteArray) (kb : β → ByteArray) (g : α → β) (hk : ∀ x, kb (g x) = ka x) (l : List α) : (sortB ka l).map g = sortB kb (l.map g) := foldB_map ka kb g hk l []
theorem insK_length (lt : α → α → Bool) (x : α) : ∀ l : List α, (insK lt x l).length = l.length + 1
  | [] => rfl
  | y :: l => by
    unfold insK
    split
    · simp
    · simp [insK_length lt x l]
theorem foldB_length (key : α → ByteArray) : ∀ (l acc : List α), (l.foldl (fun acc x => insK (ltB key) x acc) acc).length = acc.length + l.length
  | [], acc => by simp
  | x :: l, acc => by rw [List.foldl_cons, foldB_length key l, insK_length, List.length_cons]; omega
theorem sortB_length (key : α → ByteArray) (l : List α) : (sortB key l).length = l.length := by
  have := foldB_length key l []
  simpa [sortB] using this
theorem foldB_mem (key : α → ByteArray) : ∀ (l acc : List α) (z : α), z ∈ l.foldl (fun acc x => insK (ltB key) x acc) acc → z ∈ acc ∨ z ∈ l
  | [], acc, z, h => Or.inl h
  | x :: l, acc, z, h => by
    rcases foldB_mem key l _ z h with e | e
    · rcases insK_mem e with e | e
      · exact Or.inr (by simp [e])
      · exact Or.inl e
    · exact Or.inr (by simp [e])
theorem sortB_mem (key : α → ByteArray) {l : List α} {z : α} (h : z ∈ sortB key l) : z ∈ l := by
  rcases foldB_mem key l [] z h with e | e
  · cases e
  · exact e
theorem sortB_snoc (key : α → ByteArray) (l : List α) (x : α) : sortB key (l ++ [x]) = insK (ltB key) x (sortB key l) := by unfold sortB; rw [List.foldl_append]; rfl
theorem sortB_one (key : α → ByteArray) (x : α) : sortB key [x] = [x] := rfl
theorem sortB_nil (key : α → ByteArray) : sortB key ([] : List α) = [] := rfl
/-- What stands ahead of the place of x, and what behind it. -/
theorem insK_split (lt : α → α → Bool) (x : α) : ∀ l : List α, ∃ a b, l = a ++ b ∧ insK lt x l = a ++ x :: b
  | [] => ⟨[], [], rfl, rfl⟩
  | y :: l => by
    unfold insK
    split
    · exact ⟨[], y :: l, rfl, rfl⟩
    · obtain ⟨a, b, h1, h2⟩ := insK_split lt x l
      exact ⟨y :: a, b, by rw [h1]; rfl, by rw [h2]; rfl⟩
end
section
variable {α : Type} [Inhabited α]
theorem seg_arr (d : Array α) : seg (fA d) 0 d.size = d.toList := by
  apply List.ext_getElem?
  intro i
  by_cases h : i < d.size
  · simp [seg, fA, h]
  · rw [List.getElem?_eq_none (by rw [seg_length]; omega), List.getElem?_eq_none (by simp; omega)]
theorem srt_arr {lt : α → α → Bool} {d : Array α} (h : Srt lt (fA d) 0 d.size) : d.toList.Pairwise (fun x y => lt y x = false) := by
  rw [List.pairwise_iff_getElem]
  intro i j hi hj hij
  have := h i j (Nat.zero_le _) hij (by simpa using hj)
  have h1 : i < d.size := by simpa using hi
  have h2 : j < d.size := by simpa using hj
  simpa [fA, h1, h2] using this
theorem sorted_is (key : α → ByteArray) {d d' : Array α} (hz : d'.size = d.size) (hs : Srt (ltB key) (fA d') 0 d.size) (ht : St (fun x => (key x).toList) (fA d) (fA d') 0 d.size) : d'.toList = sortB key d.toList := by
  refine sort_is key (srt_arr (by rw [hz]; exact hs)) fun c => ?_
  have := ht c
  rw [seg_arr d] at this
  rw [← hz, seg_arr d'] at this
  exact this
end
end Go.Proofs.Ytpdkdgmaofhlkaa
/- What the statements' helpers TwinResp and LeftResp answer. No conditions. -/
namespace Go.Proofs.Ytpdkdgmaofhlkaa
open Go.ChangeShapes Go.WideShapes Go.ChangeAt Go.RowKit Go.Lib
set_option linter.unusedVariables false
set_option linter.unusedSimpArgs false

theorem HRs.lfew {w : World} {ao : Option Addr} {hs : List Hd} (h : HRs w ao hs) : Few hs := fun t ht => by
  have h1 := (h.each t ht).len
  have h2 := (h.each t ht).rs.few
  omega
/-- A reply's twin. -/
structure TwR (w0 w : World) (r : Rp) (es : List Ey) (hs : List Hd) (be bh : Nat) (ks : List Nat) : Prop where
  ne : w0.heap.size ≤ be
  nh : w0.heap.size ≤ bh
  apart : be ≠ bh
  re : w.heap[be]? = some (.cells (eysC (es ++ [spE])).toArray 85 (0, 0))
  rh : w.heap[bh]? = some (.cells (hdsC (twTs hs ks ++ [spT])).toArray 88 (0, 0))
  tw : Twd w0 w hs ks
def twRp (r : Rp) (be bh : Nat) : Rp := ⟨r.to_, r.ok, some ⟨be, 0, none⟩, r.el, r.el + 1, some ⟨bh, 0, none⟩, r.hl, r.hl + 1, r.ct⟩
theorem TwR.keep {w0 w w' : World} {r : Rp} {es : List Ey} {hs : List Hd} {be bh : Nat} {ks : List Nat} (h : TwR w0 w r es hs be bh ks) (hf : Fr [] w w') : TwR w0 w' r es hs be bh ks := ⟨h.ne, h.nh, h.apart, hf.keep h.re (by simp), hf.keep h.rh (by simp), h.tw.keep hf (by simp)⟩
theorem rp_cells {W : World} {b : Nat} {v0 v1 v2 v3 v4 : Value} {ty : TypeId} (h : W.heap[b]? = some (.cells #[v0, v1, v2, v3, v4] ty (0, 0))) : W.cell? ⟨b, 0, none⟩ = some v0 ∧ W.cell? ⟨b, 1, none⟩ = some v1 ∧ W.cell? ⟨b, 2, none⟩ = some v2 ∧ W.cell? ⟨b, 3, none⟩ = some v3 ∧ W.cell? ⟨b, 4, none⟩ = some v4 := by
  refine ⟨?_, ?_, ?_, ?_, ?_⟩ <;> (rw [cell_of_row _ _ _ _ _ _ h]; rfl)
set_option maxHeartbeats 4000000 in
set_option maxRecDepth 100000 in
theorem leftR_any {w0 w : World} {r : Rp} {es : List Ey} {hs : List Hd} {be bh : Nat} {ks : List Nat} (h : RpB w r es hs) (hT : TwR w0 w r es hs be bh ks) : Calls Try.prog 30 #[.agg (twRp r be bh).a, .agg r.a] w fun e w' => e = .returned (.bool true) ∧ Fr [] w w' := by
  have hF0 : Fr [] w ((w.alloc (.cells (twRp r be bh).a 46)).alloc (.cells r.a 46)) := (Fr.alloc [] w _).then (Fr.alloc [] _ _)
  have hE : ∀ W, Fr [] w W → Calls Try.prog 57 #[.slice (some ⟨be, 0, none⟩) r.el (r.el + 1), .slice r.eo r.el r.ec] W fun e w' => e = .returned (.bool true) ∧ Fr [] W w' := fun W hW => leftEs_any be r.eo r.el r.ec es W (h.ye.keep hW) h.el (by have := h.ye.few; have := h.el; omega) (hT.keep hW).re
  have hH : ∀ W, Fr [] w W → Calls Try.prog 58 #[.slice (some ⟨bh, 0, none⟩) r.hl (r.hl + 1), .slice r.ho r.hl r.hc] W fun e w' => e = .returned (.bool true) ∧ Fr [] W w' := fun W hW => leftHs_any bh ks w0 r.ho r.hl r.hc hs W (h.yh.keep hW) h.hl (by have := h.yh.few; have := h.hl; omega) h.yh.lfew (hT.keep hW).tw (hT.keep hW).rh
  clear h hT
  obtain ⟨a, b, c, d, e, f, g, i, j⟩ := r
  simp only [Rp.a, twRp] at hF0 hE hH ⊢
  have HE : Hid _ := hE
  have HH : Hid _ := hH
  have HF0 : Hid _ := hF0
  obtain ⟨W0, HW0⟩ : ∃ W0, Hid (((w.alloc (.cells #[.int .i64 a, .bool b, .slice (some ⟨be, 0, none⟩) d (d + 1), .slice (some ⟨bh, 0, none⟩) g (g + 1), .int .i64 j] 46)).alloc (.cells #[.int .i64 a, .bool b, .slice c d e, .slice f g i, .int .i64 j] 46)) = W0) := ⟨_, rfl⟩
  have h1 : W0.heap[w.heap.size]? = some (.cells #[.int .i64 a, .bool b, .slice (some ⟨be, 0, none⟩) d (d + 1), .slice (some ⟨bh, 0, none⟩) g (g + 1), .int .i64 j] 46 (0, 0)) := by
    rw [← HW0.out]; exact (Fr.alloc [] _ _).keep (heap_alloc_new w _) (by simp)
  have h2 : W0.heap[w.heap.size + 1]? = some (.cells #[.int .i64 a, .bool b, .slice c d e, .slice f g i, .int .i64 j] 46 (0, 0)) := by
    rw [← HW0.out]
    have := heap_alloc_new (w.alloc (.cells #[.int .i64 a, .bool b, .slice (some ⟨be, 0, none⟩) d (d + 1), .slice (some ⟨bh, 0, none⟩) g (g + 1), .int .i64 j] 46)) (.cells #[.int .i64 a, .bool b, .slice c d e, .slice f g i, .int .i64 j] 46)
    simpa using this
  have HC : Hid (∀ W, Fr [] W0 W → W.heap[w.heap.size]? = some (.cells #[.int .i64 a, .bool b, .slice (some ⟨be, 0, none⟩) d (d + 1), .slice (some ⟨bh, 0, none⟩) g (g + 1), .int .i64 j] 46 (0, 0)) ∧ W.heap[w.heap.size + 1]? = some (.cells #[.int .i64 a, .bool b, .slice c d e, .slice f g i, .int .i64 j] 46 (0, 0))) := fun W hW => ⟨hW.keep h1 (by simp), hW.keep h2 (by simp)⟩
  rw [HW0.out] at hF0
  replace HF0 : Hid (Fr [] w W0) := hF0
  clear hE hH hF0 h1 h2
  go_enter Try.func30, Try.ntmps30
  go_upto_region 1 with fail
  rw [HW0.out]
  obtain ⟨q1, q2⟩ := HC.out W0 (Fr.refl _ _)
  obtain ⟨a0, a1, a2, a3, a4⟩ := rp_cells q1
  obtain ⟨b0, b1, b2, b3, b4⟩ := rp_cells q2
  clear q1 q2 HW0
  go_wp2_with fail
  refine (HE.out _ HF0.out).mono ?_
  rintro e' w1 ⟨rfl, hf1⟩
  have HF1 : Hid (Fr [] W0 w1) := hf1
  obtain ⟨q1, q2⟩ := HC.out w1 hf1
  clear a0 a1 a2 a3 a4 b0 b1 b2 b3 b4 hf1
  obtain ⟨a0, a1, a2, a3, a4⟩ := rp_cells q1
  obtain ⟨b0, b1, b2, b3, b4⟩ := rp_cells q2
  clear q1 q2
  go_wp2_with fail
  refine (HH.out _ (HF0.out.then HF1.out)).mono ?_
  rintro e' w2 ⟨rfl, hf2⟩
  have HF2 : Hid (Fr [] W0 w2) := HF1.out.then hf2
  obtain ⟨q1, q2⟩ := HC.out w2 HF2.out
  clear a0 a1 a2 a3 a4 b0 b1 b2 b3 b4 hf2
  obtain ⟨a0, a1, a2, a3, a4⟩ := rp_cells q1
  obtain ⟨b0, b1, b2, b3, b4⟩ := rp_cells q2
  clear q1 q2
  go_wp2
  go_ret
  exact ⟨by simp, HF0.out.then HF2.out⟩
-- twinR
set_option maxHeartbeats 4000000 in
set_option maxRecDepth 100000 in
theorem twinR_any {w : World} {r : Rp} {es : List Ey} {hs : List Hd} (h : RpB w r es hs) : Calls Try.prog 28 #[.agg r.a] w fun e w' => ∃ be bh ks, e = .returned (.agg (twRp r be bh).a) ∧ TwR w w' r es hs be bh ks ∧ Fr [] w w' := by
  have hE : ∀ W, Fr [] w W → Calls Try.prog 55 #[.slice r.eo r.el r.ec] W fun e w' => ∃ b, e = .returned (.slice (some ⟨b, 0, none⟩) r.el (r.el + 1)) ∧ W.heap.size ≤ b ∧ w'.heap[b]? = some (.cells (eysC (es ++ [spE])).toArray 85 (0, 0)) ∧ Fr [] W w' := fun W hW => twinEs_any r.eo r.el r.ec es W (h.ye.keep hW) h.el (by have := h.ye.few; have := h.el; omega)
  have hH : ∀ W, Fr [] w W → Calls Try.prog 56 #[.slice r.ho r.hl r.hc] W fun e w' => ∃ b ks, e = .returned (.slice (some ⟨b, 0, none⟩) r.hl (r.hl + 1)) ∧ W.heap.size ≤ b ∧ w'.heap[b]? = some (.cells (hdsC (twTs hs ks ++ [spT])).toArray 88 (0, 0)) ∧ Twd W w' hs ks ∧ Fr [] W w' := fun W hW => twinHs_any r.ho r.hl r.hc hs W (h.yh.keep hW) h.hl (by have := h.yh.few; have := h.hl; omega) h.yh.lfew
  clear h
  obtain ⟨a, b, c, d, e, f, g, i, j⟩ := r
  simp only [Rp.a, twRp] at hE hH ⊢
  obtain ⟨w0, HW0⟩ : ∃ w0, Hid ((w.alloc (.cells #[.int .i64 a, .bool b, .slice c d e, .slice f g i, .int .i64 j] 46)).alloc (.cells #[.int .i64 0, .bool false, .slice none 0 0, .slice none 0 0, .int .i64 0] 46) = w0) := ⟨_, rfl⟩
  have hF0 : Fr [] w w0 := by rw [← HW0.out]; exact (Fr.alloc [] w _).then (Fr.alloc [] _ _)
  have hb0 : w0.heap[w.heap.size]? = some (.cells #[.int .i64 a, .bool b, .slice c d e, .slice f g i, .int .i64 j] 46 (0, 0)) := by rw [← HW0.out]; exact (Fr.alloc [] _ _).keep (heap_alloc_new w _) (by simp)
  have hb1 : w0.heap[w.heap.size + 1]? = some (.cells #[.int .i64 0, .bool false, .slice none 0 0, .slice none 0 0, .int .i64 0] 46 (0, 0)) := by
    rw [← HW0.out]
    have := heap_alloc_new (w.alloc (.cells #[.int .i64 a, .bool b, .slice c d e, .slice f g i, .int .i64 j] 46)) (.cells #[.int .i64 0, .bool false, .slice none 0 0, .slice none 0 0, .int .i64 0] 46)
    simpa using this
  have hs0 : w0.heap.size = w.heap.size + 2 := by rw [← HW0.out]; simp
  have hcell : ∀ W, Fr [] w0 W → W.cell? ⟨w.heap.size, 0, none⟩ = some (.int .i64 a) ∧ W.cell? ⟨w.heap.size, 1, none⟩ = some (.bool b) ∧ W.cell? ⟨w.heap.size, 2, none⟩ = some (.slice c d e) ∧ W.cell? ⟨w.heap.size, 3, none⟩ = some (.slice f g i) ∧ W.cell? ⟨w.heap.size, 4, none⟩ = some (.int .i64 j) ∧ W.cell? ⟨w.heap.size + 1, 0, none⟩ = some (.int .i64 0) ∧ W.cell? ⟨w.heap.size + 1, 1, none⟩ = some (.bool false) ∧ W.cell? ⟨w.heap.size + 1, 2, none⟩ = some (.slice none 0 0) ∧ W.cell? ⟨w.heap.size + 1, 3, none⟩ = some (.slice none 0 0) ∧ W.cell? ⟨w.heap.size + 1, 4, none⟩ = some (.int .i64 0) ∧ W.frozen? ⟨w.heap.size + 1, 0, none⟩ = false ∧ W.frozen? ⟨w.heap.size + 1, 1, none⟩ = false ∧ W.frozen? ⟨w.heap.size + 1, 2, none⟩ = false ∧ W.frozen? ⟨w.heap.size + 1, 3, none⟩ = false ∧ W.frozen? ⟨w.heap.size + 1, 4, none⟩ = false := by
    intro W hf
    have q1 := hf.keep hb0 (by simp)
    have q2 := hf.keep hb1 (by simp)
    obtain ⟨x0, x1, x2, x3, x4⟩ := rp_cells q1
    obtain ⟨y0, y1, y2, y3, y4⟩ := rp_cells q2
    exact ⟨x0, x1, x2, x3, x4, y0, y1, y2, y3, y4, by simp [World.frozen?, q2], by simp [World.frozen?, q2], by simp [World.frozen?, q2], by simp [World.frozen?, q2], by simp [World.frozen?, q2]⟩
  have HE : Hid (∀ W, Fr [] w0 W → Calls Try.prog 55 #[.slice c d e] W fun e' w' => ∃ be, e' = .returned (.slice (some ⟨be, 0, none⟩) d (d + 1)) ∧ Hid (W.heap.size ≤ be ∧ w'.heap[be]? = some (.cells (eysC (es ++ [spE])).toArray 85 (0, 0))) ∧ Fr [] w0 w' ∧ w'.cell? ⟨w.heap.size, 0, none⟩ = some (.int .i64 a) ∧ w'.cell? ⟨w.heap.size, 1, none⟩ = some (.bool b) ∧ w'.cell? ⟨w.heap.size, 2, none⟩ = some (.slice c d e) ∧ w'.cell? ⟨w.heap.size, 3, none⟩ = some (.slice f g i) ∧ w'.cell? ⟨w.heap.size, 4, none⟩ = some (.int .i64 j) ∧ w'.cell? ⟨w.heap.size + 1, 0, none⟩ = some (.int .i64 0) ∧ w'.cell? ⟨w.heap.size + 1, 1, none⟩ = some (.bool false) ∧ w'.cell? ⟨w.heap.size + 1, 2, none⟩ = some (.slice none 0 0) ∧ w'.cell? ⟨w.heap.size + 1, 3, none⟩ = some (.slice none 0 0) ∧ w'.cell? ⟨w.heap.size + 1, 4, none⟩ = some (.int .i64 0) ∧ w'.frozen? ⟨w.heap.size + 1, 0, none⟩ = false ∧ w'.frozen? ⟨w.heap.size + 1, 1, none⟩ = false ∧ w'.frozen? ⟨w.heap.size + 1, 2, none⟩ = false ∧ w'.frozen? ⟨w.heap.size + 1, 3, none⟩ = false ∧ w'.frozen? ⟨w.heap.size + 1, 4, none⟩ = false) := fun W hW => (hE W (hF0.then hW)).mono (by
    rintro e' w' ⟨b', h1, h2, h3, h4⟩
    exact ⟨b', h1, ⟨h2, h3⟩, hW.then h4, hcell _ (hW.then h4)⟩)
  have HH : Hid (∀ W, Fr [] w0 W → Calls Try.prog 56 #[.slice f g i] W fun e' w' => ∃ bh ks, e' = .returned (.slice (some ⟨bh, 0, none⟩) g (g + 1)) ∧ Hid (W.heap.size ≤ bh ∧ w'.heap[bh]? = some (.cells (hdsC (twTs hs ks ++ [spT])).toArray 88 (0, 0)) ∧ Twd W w' hs ks ∧ Fr [] W w') ∧ w'.cell? ⟨w.heap.size, 0, none⟩ = some (.int .i64 a) ∧ w'.cell? ⟨w.heap.size, 1, none⟩ = some (.bool b) ∧ w'.cell? ⟨w.heap.size, 2, none⟩ = some (.slice c d e) ∧ w'.cell? ⟨w.heap.size, 3, none⟩ = some (.slice f g i) ∧ w'.cell? ⟨w.heap.size, 4, none⟩ = some (.int .i64 j) ∧ w'.cell? ⟨w.heap.size + 1, 0, none⟩ = some (.int .i64 0) ∧ w'.cell? ⟨w.heap.size + 1, 1, none⟩ = some (.bool false) ∧ w'.cell? ⟨w.heap.size + 1, 2, none⟩ = some (.slice none 0 0) ∧ w'.cell? ⟨w.heap.size + 1, 3, none⟩ = some (.slice none 0 0) ∧ w'.cell? ⟨w.heap.size + 1, 4, none⟩ = some (.int .i64 0) ∧ w'.frozen? ⟨w.heap.size + 1, 0, none⟩ = false ∧ w'.frozen? ⟨w.heap.size + 1, 1, none⟩ = false ∧ w'.frozen? ⟨w.heap.size + 1, 2, none⟩ = false ∧ w'.frozen? ⟨w.heap.size + 1, 3, none⟩ = false ∧ w'.frozen? ⟨w.heap.size + 1, 4, none⟩ = false) := fun W hW => (hH W (hF0.then hW)).mono (by
    rintro e' w' ⟨b', ks, h1, h2, h3, h4, h5⟩
    exact ⟨b', ks, h1, ⟨h2, h3, h4, h5⟩, hcell _ (hW.then h5)⟩)
  have HC : Hid (∀ W, Fr [] w0 W → W.heap[w.heap.size + 1]? = some (.cells #[.int .i64 0, .bool false, .slice none 0 0, .slice none 0 0, .int .i64 0] 46 (0, 0))) := fun W hf => hf.keep hb1 (by simp)
  obtain ⟨k0, k1, k2, k3, k4, k5, k6, k7, k8, k9, k10, k11, k12, k13, k14⟩ := hcell _ (Fr.drew [] w0)
  have HD : Hid (Fr [] w0 w0.drew) := Fr.drew [] w0
  have HFw : Hid (Fr [] w w0 ∧ w0.heap.size = w.heap.size + 2) := ⟨hF0, hs0⟩
  clear hcell hb0 hb1 hE hH hF0 hs0
  go_enter Try.func28, Try.ntmps28
  go_upto_region 1 with fail
  rw [HW0.out]
  clear HW0
  go_loud (go_region_held3 (fun W => W.cell? ⟨w.heap.size, 0, none⟩ = some (.int .i64 a) ∧ W.cell? ⟨w.heap.size, 1, none⟩ = some (.bool b) ∧ W.cell? ⟨w.heap.size, 2, none⟩ = some (.slice c d e) ∧ W.cell? ⟨w.heap.size, 3, none⟩ = some (.slice f g i) ∧ W.cell? ⟨w.heap.size, 4, none⟩ = some (.int .i64 j)) (go_keep)
    (first
    | (go_at_call 55; with_reducible refine (HE.out _ HD.out).mono ?_; rintro e1 w1 ⟨be, rfl, HB1, hF1, l0, l1, l2, l3, l4, l5, l6, l7, l8, l9, l10, l11, l12, l13, l14⟩)
    | (go_at_call 56; with_reducible refine (HH.out _ hF1).mono ?_; rintro e2 w2 ⟨bh, ks, rfl, HB2, m0, m1, m2, m3, m4, m5, m6, m7, m8, m9, m10, m11, m12, m13, m14⟩)))
  have hFs : Fr [w.heap.size + 1] w2 (((((w2.setCell ⟨w.heap.size + 1, 0, none⟩ (.int .i64 a)).setCell ⟨w.heap.size + 1, 1, none⟩ (.bool b)).setCell ⟨w.heap.size + 1, 2, none⟩ (.slice (some ⟨be, 0, none⟩) d (d + 1))).setCell ⟨w.heap.size + 1, 3, none⟩ (.slice (some ⟨bh, 0, none⟩) g (g + 1))).setCell ⟨w.heap.size + 1, 4, none⟩ (.int .i64 j)) := ((((Fr.set w2 ⟨w.heap.size + 1, 0, none⟩ _ (by simp)).then (Fr.set _ ⟨w.heap.size + 1, 1, none⟩ _ (by simp))).then (Fr.set _ ⟨w.heap.size + 1, 2, none⟩ _ (by simp))).then (Fr.set _ ⟨w.heap.size + 1, 3, none⟩ _ (by simp))).then (Fr.set _ ⟨w.heap.size + 1, 4, none⟩ _ (by simp))
  have HR : Hid (TwR w (((((w2.setCell ⟨w.heap.size + 1, 0, none⟩ (.int .i64 a)).setCell ⟨w.heap.size + 1, 1, none⟩ (.bool b)).setCell ⟨w.heap.size + 1, 2, none⟩ (.slice (some ⟨be, 0, none⟩) d (d + 1))).setCell ⟨w.heap.size + 1, 3, none⟩ (.slice (some ⟨bh, 0, none⟩) g (g + 1))).setCell ⟨w.heap.size + 1, 4, none⟩ (.int .i64 j)) ⟨a, b, c, d, e, f, g, i, j⟩ es hs be bh ks ∧ Fr [] w (((((w2.setCell ⟨w.heap.size + 1, 0, none⟩ (.int .i64 a)).setCell ⟨w.heap.size + 1, 1, none⟩ (.bool b)).setCell ⟨w.heap.size + 1, 2, none⟩ (.slice (some ⟨be, 0, none⟩) d (d + 1))).setCell ⟨w.heap.size + 1, 3, none⟩ (.slice (some ⟨bh, 0, none⟩) g (g + 1))).setCell ⟨w.heap.size + 1, 4, none⟩ (.int .i64 j))) := by
    obtain ⟨g1, g2⟩ := HB1.out
    obtain ⟨g3, g4, g5, g6⟩ := HB2.out
    obtain ⟨g7, g8⟩ := HFw.out
    have g9 : w0.drew.heap.size = w0.heap.size := rfl
    have g10 : be < w1.heap.size := lt_of_block g2
    have g11 : w0.heap.size ≤ w1.heap.size := hF1.size
    have g12 := g6.keep g2 (by simp)
    refine ⟨⟨by omega, by omega, by omega, hFs.keep g12 (by simp; omega), hFs.keep g4 (by simp; omega), ?_⟩, (g7.then (hF1.then g6)).on hFs (by intro x hx; simp at hx; omega)⟩
    refine ⟨g5.len, fun k hk => by have := g5.new k hk; omega, fun i' t' k' ht' hk' => ?_, g5.apart⟩
    have := g5.new k' (List.mem_of_getElem? hk')
    exact hFs.keep (g5.row i' t' k' ht' hk') (by simp; omega)
  clear hFs HB1 HB2 hF1 HE HH HC HD HFw
  go_wp2
  refine bodyPost_ret (v := (.agg #[.int .i64 a, .bool b, .slice (some ⟨be, 0, none⟩) d (d + 1), .slice (some ⟨bh, 0, none⟩) g (g + 1), .int .i64 j])) (by rw [Bq.res_c1 rfl]; go_simp) rfl ⟨be, bh, ks, rfl, HR.out.1, HR.out.2⟩
end Go.Proofs.Ytpdkdgmaofhlkaa
/- Asks of a task that is not there. No conditions. -/
namespace Go.Proofs.Ytpdkdgmaofhlkaa
open Go.ChangeShapes Go.WideShapes Go.ChangeAt Go.RowKit Go.Lib
set_option linter.unusedVariables false
set_option linter.unusedSimpArgs false

def Aj.v (a : Aj) : Array Value := #[.int .u8 a.k, .int .i64 a.ma, .int .i64 a.le, .slice a.bo a.bl a.bc, .int .i64 a.r.to_, .bool a.r.ok, .slice a.r.eo a.r.el a.r.ec, .slice a.r.ho a.r.hl a.r.hc, .int .i64 a.r.ct]
set_option maxHeartbeats 4000000 in
set_option maxRecDepth 100000 in
theorem asks_sent_no {p : Value} {w : World} (h : NoT p w) (a : Aj) (h0 : (a.k == 0) = false) (h1 : (a.k == 2) = false) : Calls Try.prog 12 #[p, .pointer none, .agg a.v] w fun e w' => e = .returned (.bool true) ∧ Fr [] w w' := by
  obtain ⟨ak, ma, le, bo, bl, bc, ns, ⟨rt, rk, eo, el, ec, ho, hl, hc, ct⟩, es, hs⟩ := a
  simp only [Aj.v] at h0 ⊢
  have HAc : Hid (∀ W, Fr [] (w.alloc (.cells #[.int .u8 ak, .int .i64 ma, .int .i64 le, .slice bo bl bc, .int .i64 rt, .bool rk, .slice eo el ec, .slice ho hl hc, .int .i64 ct] 48)) W → W.cell? ⟨w.heap.size, 0, none⟩ = some (.int .u8 ak) ∧ W.cell? ⟨w.heap.size, 1, none⟩ = some (.int .i64 ma) ∧ W.cell? ⟨w.heap.size, 2, none⟩ = some (.int .i64 le) ∧ W.cell? ⟨w.heap.size, 3, none⟩ = some (.slice bo bl bc) ∧ W.cell? ⟨w.heap.size, 4, none⟩ = some (.int .i64 rt) ∧ W.cell? ⟨w.heap.size, 5, none⟩ = some (.bool rk) ∧ W.cell? ⟨w.heap.size, 6, none⟩ = some (.slice eo el ec) ∧ W.cell? ⟨w.heap.size, 7, none⟩ = some (.slice ho hl hc) ∧ W.cell? ⟨w.heap.size, 8, none⟩ = some (.int .i64 ct)) := fun W hW => by
    have := rq_cells (hW.keep (heap_alloc_new w (.cells #[.int .u8 ak, .int .i64 ma, .int .i64 le, .slice bo bl bc, .int .i64 rt, .bool rk, .slice eo el ec, .slice ho hl hc, .int .i64 ct] 48)) (by simp))
    exact this
  have HF0 : Hid (Fr [] w (w.alloc (.cells #[.int .u8 ak, .int .i64 ma, .int .i64 le, .slice bo bl bc, .int .i64 rt, .bool rk, .slice eo el ec, .slice ho hl hc, .int .i64 ct] 48))) := Fr.alloc [] w _
  simp only at h1
  have HS : Hid (∀ W, Fr [] w W → Calls Try.prog 18 #[p] W fun e w' => e = .returned (.int .i64 2) ∧ W = w') := fun W hW => qSent_no (h.keep hW)
  have HY : Hid (∀ W, Calls Try.prog 31 #[.pointer none] W fun e w' => e = .returned (.int .i64 2) ∧ W = w') := fun W => ysent_nil W
  obtain ⟨o, rfl⟩ := h.ptr
  clear h
  go_enter Try.func12, Try.ntmps12
  go_wp2_with fail
  refine (HS.out _ HF0.out).mono ?_
  rintro e w1 ⟨rfl, rfl⟩
  go_wp2_with fail
  refine (HY.out _).mono ?_
  rintro e w1 ⟨rfl, rfl⟩
  go_wp2
  go_ret
  exact ⟨rfl, HF0.out⟩
set_option maxHeartbeats 4000000 in
set_option maxRecDepth 100000 in
theorem asks_begin_no {p : Value} {w : World} (h : NoT p w) (a : Aj) (hA : AjB w a) (h0 : a.k = 0) : Calls Try.prog 12 #[p, .pointer none, .agg a.v] w fun e w' => e = .returned (.bool true) ∧ Fr [] w w' := by
  obtain ⟨ak, ma, le, bo, bl, bc, ns, ⟨rt, rk, eo, el, ec, ho, hl, hc, ct⟩, es, hs⟩ := a
  simp only [Aj.v] at h0 ⊢
  have HAc : Hid (∀ W, Fr [] (w.alloc (.cells #[.int .u8 ak, .int .i64 ma, .int .i64 le, .slice bo bl bc, .int .i64 rt, .bool rk, .slice eo el ec, .slice ho hl hc, .int .i64 ct] 48)) W → W.cell? ⟨w.heap.size, 0, none⟩ = some (.int .u8 ak) ∧ W.cell? ⟨w.heap.size, 1, none⟩ = some (.int .i64 ma) ∧ W.cell? ⟨w.heap.size, 2, none⟩ = some (.int .i64 le) ∧ W.cell? ⟨w.heap.size, 3, none⟩ = some (.slice bo bl bc) ∧ W.cell? ⟨w.heap.size, 4, none⟩ = some (.int .i64 rt) ∧ W.cell? ⟨w.heap.size, 5, none⟩ = some (.bool rk) ∧ W.cell? ⟨w.heap.size, 6, none⟩ = some (.slice eo el ec) ∧ W.cell? ⟨w.heap.size, 7, none⟩ = some (.slice ho hl hc) ∧ W.cell? ⟨w.heap.size, 8, none⟩ = some (.int .i64 ct)) := fun W hW => by
    have := rq_cells (hW.keep (heap_alloc_new w (.cells #[.int .u8 ak, .int .i64 ma, .int .i64 le, .slice bo bl bc, .int .i64 rt, .bool rk, .slice eo el ec, .slice ho hl hc, .int .i64 ct] 48)) (by simp))
    exact this
  have HF0 : Hid (Fr [] w (w.alloc (.cells #[.int .u8 ak, .int .i64 ma, .int .i64 le, .slice bo bl bc, .int .i64 rt, .bool rk, .slice eo el ec, .slice ho hl hc, .int .i64 ct] 48))) := Fr.alloc [] w _
  have HTI : Hid (∀ W, Fr [] w W → Calls Try.prog 25 #[.slice bo bl bc] W fun e w' => ∃ b, e = .returned (.slice (some ⟨b, 0, none⟩) bl (bl + 1)) ∧ W.heap.size ≤ b ∧ w'.heap[b]? = some (.cells (intsT (ns ++ [7777])).toArray 3 (0, 0)) ∧ Fr [] W w') := fun W hW => twinIs_any bo bl bc ns W (hA.is.keep hW) hA.bl (by have := hA.is.few; have := hA.bl; simp only at *; omega)
  have HLf : Hid (∀ W b, Fr [] w W → W.heap[b]? = some (.cells (intsT (ns ++ [7777])).toArray 3 (0, 0)) → Calls Try.prog 27 #[.slice (some ⟨b, 0, none⟩) bl (bl + 1), .slice bo bl bc] W fun e w' => e = .returned (.bool true) ∧ Fr [] W w') := fun W b hW hr => leftIs_any b bo bl bc ns W (hA.is.keep hW) hA.bl (by have := hA.is.few; have := hA.bl; simp only at *; omega) hr
  have HB : Hid (∀ W v, Fr [] w W → Calls Try.prog 14 #[p, .int .i64 ma, .int .i64 le, v] W fun e w' => e = .returned (.int .i64 2) ∧ W = w') := fun W v hW => qbegin_no ma le v (h.keep hW)
  have HY : Hid (∀ W v, Calls Try.prog 26 #[.pointer none, .int .i64 ma, .int .i64 le, v] W fun e w' => e = .returned (.int .i64 2) ∧ W = w') := fun W v => ybegin_nil ma le v W
  have HBl : Hid (bl = ns.length) := hA.bl
  have hbl : bl ≤ 17592186044416 := by have := hA.is.few; have := hA.bl; simp only at *; omega
  obtain ⟨o, rfl⟩ := h.ptr
  subst h0
  clear h hA
  go_enter Try.func12, Try.ntmps12
  go_wp2_with fail
  refine (HTI.out _ HF0.out).mono ?_
  rintro e w1 ⟨b, rfl, hb, hr, hf1⟩
  have HBb : Hid (w.heap.size ≤ b) := (by have h := hb; simp at h; omega : w.heap.size ≤ b)
  have HR1 : Hid (w1.heap[b]? = some (.cells (intsT (ns ++ [7777])).toArray 3 (0, 0))) := hr
  have HF1 : Hid (Fr [] w w1) := HF0.out.then hf1
  obtain ⟨a0, a1, a2, a3, a4, a5, a6, a7, a8⟩ := HAc.out w1 hf1
  have HA1 : Hid (Fr [] (w.alloc (.cells #[.int .u8 0, .int .i64 ma, .int .i64 le, .slice bo bl bc, .int .i64 rt, .bool rk, .slice eo el ec, .slice ho hl hc, .int .i64 ct] 48)) w1) := hf1
  clear hb hr hf1 HTI
  go_wp2_with fail
  refine (HB.out _ _ HF1.out).mono ?_
  rintro e w2 ⟨rfl, rfl⟩
  go_wp2_with fail
  refine (HY.out _ _).mono ?_
  rintro e w2 ⟨rfl, rfl⟩
  go_wp2_with fail
  refine (HLf.out _ b HF1.out HR1.out).mono ?_
  rintro e w2 ⟨rfl, hf2⟩
  have HR2 : Hid (w2.heap[b]? = some (.cells (intsT (ns ++ [7777])).toArray 3 (0, 0))) := hf2.keep HR1.out (by simp)
  have HF2 : Hid (Fr [] w w2) := HF1.out.then hf2
  clear a0 a1 a2 a3 a4 a5 a6 a7 a8 hf2 HLf HB HY HR1 HF1 HAc HA1
  go_wp2_with fail
  go_loopw [10] (fun ii wr => ∃ i : Nat, ii = .int .i64 i ∧ i ≤ bl ∧ Hid (∃ cs : Array Value, wr.heap[b]? = some (.cells cs 3 (0, 0)) ∧ cs.size = bl + 1) ∧ Hid (Fr [b] w2 wr)) (fun ii _ => bl - (RowKit.intOf ii).toNat)
  case atStart => exact ⟨0, rfl, Nat.zero_le _, ⟨_, HR2.out, by simp [intsT, HBl.out]⟩, Fr.refl _ _⟩
  case round =>
    obtain ⟨i, rfl, hiM, HCs, HFw⟩ := hrel
    by_cases hil : i < bl
    · obtain ⟨cs, hcs, hsz⟩ := HCs.out
      obtain ⟨u, hu⟩ : ∃ u, wr.cell? ⟨b, i, none⟩ = some u := by
        rw [cell_of_row _ _ _ _ _ _ hcs]
        exact ⟨cs[i]'(by omega), by rw [Array.getElem?_eq_getElem]⟩
      have hz : wr.frozen? ⟨b, i, none⟩ = false := by simp [World.frozen?, hcs]
      have HC2 : Hid (∃ cs : Array Value, (wr.setCell ⟨b, i, none⟩ (.int .i64 (-77))).heap[b]? = some (.cells cs 3 (0, 0)) ∧ cs.size = bl + 1) := ⟨_, row_put17 _ hcs, by simpa using hsz⟩
      have HF3 : Hid (Fr [b] w2 (wr.setCell ⟨b, i, none⟩ (.int .i64 (-77)))) := HFw.out.then (Fr.set _ _ _ (by simp))
      clear hcs hsz HCs
      go_wp2
      go_roundw
      case rel => exact ⟨i + 1, by simp, by omega, HC2, HF3⟩
      case measure => simp [RowKit.intOf]; omega
    · obtain rfl : i = bl := by omega
      go_wp2
      go_ret
      exact ⟨rfl, HF2.out.on HFw.out (fun y hy => by simp at hy; have := HBb.out; omega)⟩
end Go.Proofs.Ytpdkdgmaofhlkaa
