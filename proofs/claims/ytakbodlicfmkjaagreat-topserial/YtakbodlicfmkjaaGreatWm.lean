/- Writes in memory: cells, slices of writes that read as a list, structs of a transaction. Conditions as each lemma names them. -/
import Derived.Test.YtakbodlicfmkjaaGreatRec
import Derived.Test.YtakbodlicfmkjaaGreatArg
import Derived.Deep.Slices
import Derived.SizedLaws
import Derived.Deep.RegionWith
import Derived.Deep.LoopGhost
namespace Go.Proofs.YtakbodlicfmkjaaGreat
open Go.ChangeShapes Go.WideShapes Go.ChangeAt Go.RowKit Go.Lib

def Wt.zero : Wt := ⟨noS, noS, false⟩
/-- A write's cells. -/
def wtC (x : Wt) : List Value := [.string x.key, .string x.val, .bool x.drop]
def wtsC : List Wt → List Value
  | [] => []
  | x :: r => wtC x ++ wtsC r
theorem wtsC_append (a b : List Wt) : wtsC (a ++ b) = wtsC a ++ wtsC b := by
  induction a with
  | nil => rfl
  | cons v r ih => simp [wtsC, ih]
theorem wtsC_length (a : List Wt) : (wtsC a).length = a.length * 3 := by
  induction a with
  | nil => rfl
  | cons v r ih => simp only [wtsC, wtC, List.length_append, List.length_cons, List.length_nil, ih]; omega
theorem wtsC_get (a : List Wt) (j c : Nat) (hj : j < a.length) (hc : c < 3) : (wtsC a)[j * 3 + c]? = (wtC (a.getD j Wt.zero))[c]? := by
  induction a generalizing j with
  | nil => simp at hj
  | cons v r ih =>
    cases j with
    | zero =>
      simp only [wtsC, Nat.zero_mul, Nat.zero_add]
      rw [List.getElem?_append_left (by simp [wtC]; omega)]
      simp
    | succ j =>
      simp only [wtsC]
      rw [List.getElem?_append_right (by simp [wtC]; omega)]
      have e : (j + 1) * 3 + c - (wtC v).length = j * 3 + c := by simp [wtC]; omega
      rw [e, ih j (by simpa using hj)]
      simp
theorem wtsC_oneCell (a : List Wt) : ∀ u ∈ wtsC a, u.oneCell' = true := by
  induction a with
  | nil => intro u hu; simp [wtsC] at hu
  | cons v r ih =>
    intro u hu
    rcases List.mem_append.1 hu with h | h
    · simp only [wtC, List.mem_cons, List.not_mem_nil, or_false] at h
      rcases h with rfl | rfl | rfl <;> rfl
    · exact ih u h

/-- A write lies at o in block b. -/
structure WAt (w : World) (b o : Nat) (x : Wt) : Prop where
  c0 : w.cell? ⟨b, o, none⟩ = some (.string x.key)
  c1 : w.cell? ⟨b, o + 1, none⟩ = some (.string x.val)
  c2 : w.cell? ⟨b, o + 2, none⟩ = some (.bool x.drop)
/-- The slice at ao reads as the writes ws. -/
structure WRs (w : World) (ao : Option Addr) (ws : List Wt) : Prop where
  lies : 0 < ws.length → ∃ b off, ao = some ⟨b, off, none⟩ ∧ b < w.heap.size ∧ ∀ i, i < ws.length → WAt w b (off + i * 3) (ws.getD i Wt.zero)
  few : ws.length ≤ 140737488355328
  each : ∀ x ∈ ws, x.key.size ≤ 140737488355328 ∧ x.val.size ≤ 140737488355328
theorem WRs.nil (w : World) (ao : Option Addr) : WRs w ao [] := ⟨fun h => by simp at h, by simp, by simp⟩
theorem WRs.keepS {S : List Nat} {w w' : World} {ao : Option Addr} {ws : List Wt} (h : WRs w ao ws) (hf : Fr S w w') (hn : 0 < ws.length → ∀ a, ao = some a → a.block ∉ S) : WRs w' ao ws := by
  refine ⟨fun h0 => ?_, h.few, h.each⟩
  obtain ⟨b, off, e, hb, hc⟩ := h.lies h0
  have hk : ∀ o, w'.cell? ⟨b, o, none⟩ = w.cell? ⟨b, o, none⟩ := fun o => World.cell?_of_block (hf.block b hb (hn h0 _ e))
  exact ⟨b, off, e, Nat.lt_of_lt_of_le hb hf.size, fun i hi => ⟨(hk _).trans (hc i hi).c0, (hk _).trans (hc i hi).c1, (hk _).trans (hc i hi).c2⟩⟩
theorem WRs.keep {w w' : World} {ao : Option Addr} {ws : List Wt} (h : WRs w ao ws) (hf : Fr [] w w') : WRs w' ao ws := h.keepS hf (by simp)
theorem WRs.of_row {w : World} {b : Nat} {ws : List Wt} {rest : List Value} {t : TypeId} {f : Nat × Nat} (h : w.heap[b]? = some (.cells (wtsC ws ++ rest).toArray t f)) (hl : ws.length ≤ 140737488355328) (he : ∀ x ∈ ws, x.key.size ≤ 140737488355328 ∧ x.val.size ≤ 140737488355328) : WRs w (some ⟨b, 0, none⟩) ws := by
  refine ⟨fun _ => ⟨b, 0, rfl, lt_of_block h, fun i hi => ?_⟩, hl, he⟩
  have key : ∀ c, c < 3 → w.cell? ⟨b, 0 + i * 3 + c, none⟩ = (wtC (ws.getD i Wt.zero))[c]? := by
    intro c hc
    rw [cell_of_row _ _ _ _ _ _ h, Nat.zero_add, ← wtsC_get ws i c hi hc]
    have hlt : i * 3 + c < (wtsC ws).length := by rw [wtsC_length]; omega
    simp [List.getElem?_append_left hlt]
  exact ⟨key 0 (by omega), key 1 (by omega), key 2 (by omega)⟩
theorem wgetD_mem (ws : List Wt) (i : Nat) (h : i < ws.length) : ws.getD i Wt.zero ∈ ws := by simp [List.getD, h]
theorem wtake_snoc (ws : List Wt) (i : Nat) (h : i < ws.length) : ws.take (i + 1) = ws.take i ++ [ws.getD i Wt.zero] := by
  rw [List.take_add_one]
  simp [List.getD, h]

/-- A transaction as a value. -/
def txV (n : Int) (ao : Option Addr) (L cap : Nat) : Value := .agg #[.int .i64 n, .slice ao L cap]

theorem tl_nil (s : ByteArray) : s.toList = [] ↔ s.size = 0 := by
  rw [ByteArray.toList_eq]
  constructor
  · intro h
    have h2 := congrArg List.length h
    simpa [Array.length_toList] using h2
  · intro h
    have h2 : s.data.toList.length = 0 := by rw [Array.length_toList]; exact h
    exact List.eq_nil_of_length_eq_zero h2
theorem tl_inj (a b : ByteArray) : a.toList = b.toList ↔ a = b := by
  rw [ByteArray.toList_eq, ByteArray.toList_eq]
  constructor
  · intro h
    exact bytes_inj h
  · rintro rfl
    rfl
theorem okW_iff (key val : ByteArray) (drop : Bool) : okW ⟨key, val, drop⟩ ↔ (¬ key.toList = []) ∧ (key.size : Int) ≤ 64 ∧ (val.size : Int) ≤ 1024 ∧ (drop = true → val.toList = []) := by
  unfold okW
  rw [tl_nil, tl_nil, ← noS_iff]
  simp only
  constructor
  · rintro ⟨h1, h2, h3, h4⟩
    exact ⟨by omega, by omega, by omega, h4⟩
  · rintro ⟨h1, h2, h3, h4⟩
    exact ⟨by omega, by omega, by omega, h4⟩
end Go.Proofs.YtakbodlicfmkjaaGreat
