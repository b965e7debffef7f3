/- What the laws of logs lean on: sizes that bound all parts, twins as rows of which a Book may be told, the Book's birth. Conditions as each lemma names them. -/
import Derived.Test.YtaefninikmaiiaaGreatDoorLfT
import Derived.Test.YtaefninikmaiiaaGreatDoorTxb
import Derived.Test.YtaefninikmaiiaaGreatDoorApt
namespace Go.Proofs.YtaefninikmaiiaaGreatDoor
open Go.ChangeShapes Go.WideShapes Go.ChangeAt Go.RowKit Go.Lib
set_option linter.unusedVariables false
set_option linter.unusedSimpArgs false

/-- Twins as a Book sees them. -/
def dts (us : List Tm) : List Bq.Dt := us.map fun u => (u.n, .slice u.ao u.L u.cap)
theorem dtC_dts (us : List Tm) : Bq.dtC (dts us) = tmsC us := by
  induction us with
  | nil => rfl
  | cons u r ih =>
    have e : Bq.dtC (dts (u :: r)) = .int .i64 u.n :: .slice u.ao u.L u.cap :: Bq.dtC (dts r) := rfl
    rw [e, ih]
    rfl
theorem dts_get {us : List Tm} {i : Nat} {d : Bq.Dt} (h : (dts us)[i]? = some d) : ∃ u, us[i]? = some u ∧ d = (u.n, .slice u.ao u.L u.cap) := by
  unfold dts at h
  rw [List.getElem?_map] at h
  cases hu : us[i]? with
  | none => simp [hu] at h
  | some u => simp [hu] at h; exact ⟨u, rfl, h.symm⟩
theorem dts_twins {ts : List Tm} {ks : List Nat} {i : Nat} {d : Bq.Dt} (h : (dts (twTs ts ks))[i]? = some d) : ∃ t k, ts[i]? = some t ∧ ks[i]? = some k ∧ d = (t.n, .slice (some ⟨k, 0, none⟩) t.L (t.L + 1)) := by
  obtain ⟨u, hu, rfl⟩ := dts_get h
  obtain ⟨t, k, ht, hk, rfl⟩ := twTs_get hu
  exact ⟨t, k, ht, hk, rfl⟩
theorem twins_dts {w0 w w' : World} {ts : List Tm} {ks : List Nat} {b L : Nat} {ao : Option Addr} (h : TRs w0 ao ts) (hL : L = ts.length) (hLs : L < 1048577) (hfew : Few ts) (hT : Twd w w' ts ks) (hb : w'.heap[b]? = some (.cells (tmsC (twTs ts ks ++ [spT])).toArray 63 (0, 0))) : Bq.Dts w' (some ⟨b, 0, none⟩) L (L + 1) (dts (twTs ts ks)) := by
  have hl := twTs_length ts ks hT.len
  refine ⟨?_, by simp [dts, hl, hL], hLs, ?_, ?_⟩
  · rw [dtC_dts]
    refine ⟨by rw [tmsC_length, hl, hL], .inr ⟨b, L + 1, (tmsC (twTs ts ks ++ [spT])).toArray, rfl, Nat.zero_le _, hb, by omega, by simp only [maxLen]; omega, by simp [tmsC_length, hl]; omega, ?_⟩⟩
    simp only [tmsC_append]
    rw [List.take_append_of_le_length (by rw [tmsC_length]; omega), List.take_of_length_le (by rw [tmsC_length]; omega)]
  · intro i d hd
    obtain ⟨t, k, ht, hk, rfl⟩ := dts_twins hd
    have hm := List.mem_of_getElem? ht
    have hat := h.each t hm
    have hlw := hat.len
    have hfw := hfew t hm
    refine ⟨t.L, wtsC t.ws, ?_, by omega⟩
    refine ⟨by rw [wtsC_length, hlw], .inr ⟨k, t.L + 1, (wtsC (t.ws ++ [spW])).toArray, rfl, Nat.zero_le _, hT.row i t k ht hk, by omega, by simp only [maxLen]; omega, by simp [wtsC_length]; omega, ?_⟩⟩
    simp only [wtsC_append]
    rw [List.take_append_of_le_length (by rw [wtsC_length]; omega), List.take_of_length_le (by rw [wtsC_length]; omega)]
  · intro i j a c ha hc hij k hk1 hk2
    obtain ⟨t, k', ht, hk', rfl⟩ := dts_twins ha
    obtain ⟨u, k'', hu, hk'', rfl⟩ := dts_twins hc
    simp [Value.ownBlock] at hk1 hk2
    subst hk1 hk2
    exact hij ((List.getElem?_inj (List.getElem?_eq_some_iff.1 hk').1 hT.apart).1 (hk'.trans hk''.symm))
/-- Blocks of twins in a Book. -/
theorem lbs_twins {T : Nat} {ts : List Tm} {ks : List Nat} {k : Nat} (h : k ∈ Bq.lbs (Bq.held T (dts (twTs ts ks)))) : k ∈ ks := by
  obtain ⟨i, d, hd, hk⟩ := Bq.mem_held h
  obtain ⟨t, k', ht, hk', rfl⟩ := dts_twins hd
  simp [Value.ownBlock] at hk
  subst hk
  exact List.mem_of_getElem? hk'
namespace Bq
/-- A Book that was told nothing. -/
def newBk : Array Value := #[.int .i64 0, .slice none 0 0, .slice none 0 0, .slice none 0 0, .slice none 0 0, .slice none 0 0, .slice none 0 0, .slice none 0 0, .slice none 0 0, .slice none 0 0, .slice none 0 0, .slice none 0 0]
theorem S0.none {K : Kd} {w : World} {bk : Nat} (h : w.heap[bk]? = some (.cells newBk 45 (0, 0))) (hc : newBk[K.col]? = some (.slice none 0 0)) : S0 K w bk (.slice none 0 0) [] :=
  ⟨⟨⟨newBk, h, hc⟩, World.ownsRow_nil _ _ _ _, by simp, by simp⟩, by simp, fun i j a b ha => by simp at ha, fun j h hh => by simp at hh⟩
theorem B4.new {w0 w : World} {bk : Nat} (h : w.heap[bk]? = some (.cells newBk 45 (0, 0))) (hb : w0.heap.size ≤ bk) : B4 w0 w bk 0 (.slice none 0 0) (.slice none 0 0) (.slice none 0 0) (.slice none 0 0) [] [] [] [] := by
  refine ⟨⟨newBk, ⟨h, rfl, ?_⟩, rfl⟩, S0.none h rfl, S0.none h rfl, S0.none h rfl, S0.none h rfl, hb, ?_, ?_, ?_, ?_, by simp, by simp, by simp, by simp⟩
  · rintro c (rfl | rfl | rfl | rfl | rfl | rfl | rfl) <;> rfl
  all_goals (intro k hk; simp [Value.ownBlock] at hk)
/-- All that a Book's Apart writes was made since w0. -/
theorem B4.own {w0 w : World} {bk T : Nat} {rB rI rW rT : Value} {hB hI hW hT : List HB} (h : B4 w0 w bk T rB rI rW rT hB hI hW hT) (lB : ∀ k ∈ lbs hB, w0.heap.size ≤ k) (lI : ∀ k ∈ lbs hI, w0.heap.size ≤ k) (lW : ∀ k ∈ lbs hW, w0.heap.size ≤ k) (lT : ∀ k ∈ lbs hT, w0.heap.size ≤ k) : ∀ k ∈ own4 rB rI rW rT hB hI hW hT, w0.heap.size ≤ k := by
  intro k hk
  simp only [own4, List.mem_append, Option.mem_toList] at hk
  rcases hk with (hk | hk) | (hk | hk) | (hk | hk) | (hk | hk)
  · exact h.rBn k hk
  · exact lB k hk
  · exact h.rIn k hk
  · exact lI k hk
  · exact h.rWn k hk
  · exact lW k hk
  · exact h.rTn k hk
  · exact lT k hk
/-- Apart says true, and writes nothing that was there at w0. -/
theorem B4.apart {w0 w : World} {bk T : Nat} {rB rI rW rT : Value} {hB hI hW hT : List HB} (h : B4 w0 w bk T rB rI rW rT hB hI hW hT) (lB : ∀ k ∈ lbs hB, w0.heap.size ≤ k) (lI : ∀ k ∈ lbs hI, w0.heap.size ≤ k) (lW : ∀ k ∈ lbs hW, w0.heap.size ≤ k) (lT : ∀ k ∈ lbs hT, w0.heap.size ≤ k) (ht0 : Tab w0) (hf : Fr [] w0 w) :
    Calls Tryz.prog 17 #[.pointer (some ⟨bk, 0, none⟩)] w fun e w' => e = .returned (.bool true) ∧ Fr [] w0 w' := by
  obtain ⟨cs, hX, _⟩ := h.box
  have ho := h.own lB lI lW lT
  refine (apart4_any bk cs rB rI rW rT hB hI hW hT w hX h.sB h.sI h.sW h.sT (ht0.keep hf (by simp)) (fun hm => by have := ho _ hm; have := ht0.lt; omega)).mono ?_
  rintro e w' ⟨rfl, hF⟩
  exact ⟨rfl, hf.on hF ho⟩
end Bq
end Go.Proofs.YtaefninikmaiiaaGreatDoor
