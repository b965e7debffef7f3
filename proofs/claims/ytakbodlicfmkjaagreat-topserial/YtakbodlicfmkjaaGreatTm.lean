/- Transactions in memory: slices of them that read as a list, rows of them. Conditions as each lemma names them. -/
import Derived.Test.YtakbodlicfmkjaaGreatTxo
import Derived.Test.YtakbodlicfmkjaaGreatLog
import Derived.Test.YtakbodlicfmkjaaGreatChk

namespace Go.Proofs.YtakbodlicfmkjaaGreat
open Go.ChangeShapes Go.WideShapes Go.ChangeAt Go.RowKit Go.Lib
set_option linter.unusedVariables false

/-- A transaction, and where its writes lie. -/
structure Tm where
  n : Int
  ao : Option Addr
  L : Nat
  cap : Nat
  ws : List Wt
def Tm.zero : Tm := ⟨0, none, 0, 0, []⟩
def Tm.tx (t : Tm) : Tx := ⟨t.n, t.ws⟩
def Tm.val (t : Tm) : Value := .agg #[.int .i64 t.n, .slice t.ao t.L t.cap]
def txs (ts : List Tm) : List Tx := ts.map Tm.tx
theorem txs_length (ts : List Tm) : (txs ts).length = ts.length := by simp [txs]
theorem txs_getD (ts : List Tm) (i : Nat) : (txs ts).getD i Tx.zero = (ts.getD i Tm.zero).tx := by
  by_cases h : i < ts.length
  · simp [txs, List.getD, h]
  · simp [txs, List.getD, h, Tm.zero, Tm.tx, Tx.zero]
theorem txs_take (ts : List Tm) (i : Nat) : (txs ts).take i = txs (ts.take i) := by simp [txs, List.map_take]
theorem txs_append (a b : List Tm) : txs (a ++ b) = txs a ++ txs b := by simp [txs]
/-- It is there. -/
def Tm.at (t : Tm) (w : World) : Prop := TArg w t.n t.ao t.L t.cap t.ws
theorem Tm.at.keep {t : Tm} {w w' : World} (h : t.at w) (hf : Fr [] w w') : t.at w' := TArg.keep h hf
theorem Tm.zero_at (w : World) : Tm.zero.at w := ⟨WRs.nil _ _, rfl, by decide, by decide⟩
/-- Its struct lies at o in block b. -/
structure TAt (w : World) (b o : Nat) (t : Tm) : Prop where
  c0 : w.cell? ⟨b, o, none⟩ = some (.int .i64 t.n)
  c1 : w.cell? ⟨b, o + 1, none⟩ = some (.slice t.ao t.L t.cap)
/-- The slice at ao reads as the transactions ts. -/
structure TRs (w : World) (ao : Option Addr) (ts : List Tm) : Prop where
  lies : 0 < ts.length → ∃ b off, ao = some ⟨b, off, none⟩ ∧ b < w.heap.size ∧ ∀ i, i < ts.length → TAt w b (off + i * 2) (ts.getD i Tm.zero)
  few : ts.length ≤ 140737488355328
  each : ∀ t ∈ ts, t.at w
theorem TRs.nil (w : World) (ao : Option Addr) : TRs w ao [] := ⟨fun h => by simp at h, by simp, by simp⟩
theorem TRs.keep {w w' : World} {ao : Option Addr} {ts : List Tm} (h : TRs w ao ts) (hf : Fr [] w w') : TRs w' ao ts := by
  refine ⟨fun h0 => ?_, h.few, fun t ht => (h.each t ht).keep hf⟩
  obtain ⟨b, off, e, hb, hc⟩ := h.lies h0
  have hk : ∀ o, w'.cell? ⟨b, o, none⟩ = w.cell? ⟨b, o, none⟩ := fun o => World.cell?_of_block (hf.block b hb (by simp))
  exact ⟨b, off, e, Nat.lt_of_lt_of_le hb hf.size, fun i hi => ⟨(hk _).trans (hc i hi).c0, (hk _).trans (hc i hi).c1⟩⟩
theorem tgetD_mem (ts : List Tm) (i : Nat) (h : i < ts.length) : ts.getD i Tm.zero ∈ ts := by simp [List.getD, h]
theorem ttake_snoc (ts : List Tm) (i : Nat) (h : i < ts.length) : ts.take (i + 1) = ts.take i ++ [ts.getD i Tm.zero] := by
  rw [List.take_add_one]
  simp [List.getD, h]
theorem TRs.take {w : World} {ao : Option Addr} {ts : List Tm} (h : TRs w ao ts) (k : Nat) : TRs w ao (ts.take k) := by
  refine ⟨fun h0 => ?_, by have := h.few; rw [List.length_take]; omega, fun t ht => h.each t (List.mem_of_mem_take ht)⟩
  rw [List.length_take] at h0
  obtain ⟨b, off, e, hb, hc⟩ := h.lies (by omega)
  refine ⟨b, off, e, hb, fun i hi => ?_⟩
  rw [List.length_take] at hi
  have e2 : (ts.take k).getD i Tm.zero = ts.getD i Tm.zero := by
    have : i < k := by omega
    simp [List.getD, this]
  rw [e2]
  exact hc i (by omega)
/-- A transaction's cells. -/
def tmC (t : Tm) : List Value := [.int .i64 t.n, .slice t.ao t.L t.cap]
def tmsC : List Tm → List Value
  | [] => []
  | t :: r => tmC t ++ tmsC r
theorem tmsC_append (a b : List Tm) : tmsC (a ++ b) = tmsC a ++ tmsC b := by
  induction a with
  | nil => rfl
  | cons v r ih => simp [tmsC, ih]
theorem tmsC_length (a : List Tm) : (tmsC a).length = a.length * 2 := by
  induction a with
  | nil => rfl
  | cons v r ih => simp only [tmsC, tmC, List.length_append, List.length_cons, List.length_nil, ih]; omega
theorem tmsC_get (a : List Tm) (j c : Nat) (hj : j < a.length) (hc : c < 2) : (tmsC a)[j * 2 + c]? = (tmC (a.getD j Tm.zero))[c]? := by
  induction a generalizing j with
  | nil => simp at hj
  | cons v r ih =>
    cases j with
    | zero =>
      simp only [tmsC, Nat.zero_mul, Nat.zero_add]
      rw [List.getElem?_append_left (by simp [tmC]; omega)]
      simp
    | succ j =>
      simp only [tmsC]
      rw [List.getElem?_append_right (by simp [tmC]; omega)]
      have e : (j + 1) * 2 + c - (tmC v).length = j * 2 + c := by simp [tmC]; omega
      rw [e, ih j (by simpa using hj)]
      simp
theorem tmsC_oneCell (a : List Tm) : ∀ u ∈ tmsC a, u.oneCell' = true := by
  induction a with
  | nil => intro u hu; simp [tmsC] at hu
  | cons v r ih =>
    intro u hu
    rcases List.mem_append.1 hu with h | h
    · simp only [tmC, List.mem_cons, List.not_mem_nil, or_false] at h
      rcases h with rfl | rfl <;> rfl
    · exact ih u h
theorem TRs.of_row {w : World} {b : Nat} {ts : List Tm} {rest : List Value} {t : TypeId} {f : Nat × Nat} (h : w.heap[b]? = some (.cells (tmsC ts ++ rest).toArray t f)) (hl : ts.length ≤ 140737488355328) (he : ∀ t ∈ ts, t.at w) : TRs w (some ⟨b, 0, none⟩) ts := by
  refine ⟨fun _ => ⟨b, 0, rfl, lt_of_block h, fun i hi => ?_⟩, hl, he⟩
  have key : ∀ c, c < 2 → w.cell? ⟨b, 0 + i * 2 + c, none⟩ = (tmC (ts.getD i Tm.zero))[c]? := by
    intro c hc
    rw [cell_of_row _ _ _ _ _ _ h, Nat.zero_add, ← tmsC_get ts i c hi hc]
    have hlt : i * 2 + c < (tmsC ts).length := by rw [tmsC_length]; omega
    simp [List.getElem?_append_left hlt]
  exact ⟨key 0 (by omega), key 1 (by omega)⟩
/-- Its number is one of 64 bits. -/
theorem Tm.at.bounds {t : Tm} {w : World} (h : t.at w) : -9223372036854775808 ≤ t.n ∧ t.n ≤ 9223372036854775807 := ⟨h.n0, h.n1⟩
end Go.Proofs.YtakbodlicfmkjaaGreat
