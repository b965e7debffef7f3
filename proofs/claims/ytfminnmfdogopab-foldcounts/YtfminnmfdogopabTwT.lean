/- What the statements' helpers TwinTxns and LeftTxns answer. Conditions: fewer than 2^21 transactions, of fewer than 2^21 writes each. -/
import Derived.Test.YtfminnmfdogopabTwW
namespace Go.Proofs.Ytfminnmfdogopab
open Go.ChangeShapes Go.WideShapes Go.ChangeAt Go.RowKit Go.Lib
set_option linter.unusedVariables false
set_option linter.unusedSimpArgs false

/-- The transaction that stands in a twin's spare room. -/
def spT : Tm := ⟨7777, none, 0, 0, []⟩
/-- The twin of a transaction, its writes in block b. -/
def twT (t : Tm) (b : Nat) : Tm := ⟨t.n, some ⟨b, 0, none⟩, t.L, t.L + 1, t.ws⟩
def twTs (ts : List Tm) (ks : List Nat) : List Tm := List.zipWith twT ts ks
theorem twTs_length (ts : List Tm) (ks : List Nat) (h : ks.length = ts.length) : (twTs ts ks).length = ts.length := by simp [twTs, h]
theorem twTs_snoc (ts : List Tm) (ks : List Nat) (t : Tm) (k : Nat) (h : ks.length = ts.length) : twTs (ts ++ [t]) (ks ++ [k]) = twTs ts ks ++ [twT t k] := by
  unfold twTs
  rw [List.zipWith_append h.symm]
  rfl
theorem twTs_get {ts : List Tm} {ks : List Nat} {i : Nat} {u : Tm} (h : (twTs ts ks)[i]? = some u) : ∃ t k, ts[i]? = some t ∧ ks[i]? = some k ∧ u = twT t k := by
  unfold twTs at h
  rw [List.getElem?_zipWith] at h
  cases ht : ts[i]? with
  | none => simp [ht] at h
  | some t =>
    cases hk : ks[i]? with
    | none => simp [ht, hk] at h
    | some k => simp [ht, hk] at h; exact ⟨t, k, rfl, rfl, h.symm⟩
theorem txs_twTs (ts : List Tm) (ks : List Nat) (h : ks.length = ts.length) : txs (twTs ts ks) = txs ts := by
  apply List.ext_getElem?
  intro i
  unfold txs
  rw [List.getElem?_map, List.getElem?_map]
  by_cases hi : i < ts.length
  · have h1 : i < (twTs ts ks).length := by rw [twTs_length ts ks h]; exact hi
    obtain ⟨u, hu⟩ : ∃ u, (twTs ts ks)[i]? = some u := ⟨_, List.getElem?_eq_getElem h1⟩
    obtain ⟨t, k, ht, hk, rfl⟩ := twTs_get hu
    rw [hu, ht]
    rfl
  · rw [List.getElem?_eq_none (by rw [twTs_length ts ks h]; omega), List.getElem?_eq_none (by omega)]
/-- The twins' writes lie in blocks of their own, made since w. -/
structure Twd (w w' : World) (ts : List Tm) (ks : List Nat) : Prop where
  len : ks.length = ts.length
  new : ∀ k ∈ ks, w.heap.size ≤ k
  row : ∀ (i : Nat) (t : Tm) (k : Nat), ts[i]? = some t → ks[i]? = some k → w'.heap[k]? = some (.cells (wtsC (t.ws ++ [spW])).toArray 32 (0, 0))
  apart : ks.Nodup
theorem Twd.nil (w w' : World) : Twd w w' [] [] := ⟨rfl, by simp, by simp, by simp⟩
theorem Twd.keep {S : List Nat} {w w1 w2 : World} {ts : List Tm} {ks : List Nat} (h : Twd w w1 ts ks) (hf : Fr S w1 w2) (hn : ∀ k ∈ ks, k ∉ S) : Twd w w2 ts ks :=
  ⟨h.len, h.new, fun i t k ht hk => hf.keep (h.row i t k ht hk) (hn k (List.mem_of_getElem? hk)), h.apart⟩
theorem Twd.lt {w w' : World} {ts : List Tm} {ks : List Nat} (h : Twd w w' ts ks) : ∀ k ∈ ks, k < w'.heap.size := by
  intro k hk
  obtain ⟨i, hi⟩ := List.getElem?_of_mem hk
  have hl : i < ts.length := by rw [← h.len]; exact (List.getElem?_eq_some_iff.1 hi).1
  exact lt_of_block (h.row i _ k (List.getElem?_eq_getElem hl) hi)
theorem Twd.snoc {w w1 w2 : World} {ts : List Tm} {ks : List Nat} (h : Twd w w1 ts ks) (hf : Fr [] w1 w2) (hw : w.heap.size ≤ w1.heap.size) (t : Tm) (k : Nat) (hk : w1.heap.size ≤ k) (hr : w2.heap[k]? = some (.cells (wtsC (t.ws ++ [spW])).toArray 32 (0, 0))) : Twd w w2 (ts ++ [t]) (ks ++ [k]) := by
  have hl := h.len
  refine ⟨by simp [hl], ?_, ?_, ?_⟩
  · intro j hj
    rcases List.mem_append.1 hj with hj | hj
    · exact h.new j hj
    · simp at hj; omega
  · intro i u j hu hj
    by_cases hi : i < ts.length
    · rw [List.getElem?_append_left hi] at hu
      rw [List.getElem?_append_left (by omega)] at hj
      exact hf.keep (h.row i u j hu hj) (by simp)
    · have hi2 : i = ts.length := by have := (List.getElem?_eq_some_iff.1 hu).1; simp at this; omega
      subst hi2
      rw [List.getElem?_append_right (Nat.le_refl _)] at hu
      rw [← hl, List.getElem?_append_right (Nat.le_refl _)] at hj
      simp at hu hj
      subst hu hj
      exact hr
  · rw [List.nodup_append]
    refine ⟨h.apart, by simp, ?_⟩
    intro a ha b hb
    simp at hb
    have := h.lt a ha
    omega
/-- All writes of a row are few. -/
def Few (ts : List Tm) : Prop := ∀ t ∈ ts, t.L < 2^21
theorem tms_full {w : World} {g n : Nat} {xs : List Value} (h : w.ownsRow 0 30 2 (.slice (some ⟨g, 0, none⟩) n n) n xs) : w.heap[g]? = some (.cells xs.toArray 30 (0, 0)) := by
  have hl := h.1
  rcases h.2 with ⟨hh, _⟩ | ⟨g', cap', cur, hh, _, hg, _, _, hcs, ht⟩
  · cases hh
  · cases hh
    rw [hg]
    congr 2
    rw [← Array.toList_inj]
    simp only
    rw [← ht, List.take_of_length_le (by simp [hcs])]
theorem own_typeT {w : World} {e : TypeId} {size : Nat} {v : Value} {n : Nat} {vs : List Value} (h : w.ownsRow 0 e size v n vs) : ∀ k, v.ownBlock = some k → ∃ cs, w.heap[k]? = some (.cells cs e (0, 0)) := by
  intro k hk
  rcases h.2 with ⟨rfl, _⟩ | ⟨g, cap, cur, rfl, _, hg, _⟩
  · simp [Value.ownBlock] at hk
  · simp [Value.ownBlock] at hk
    subst hk
    exact ⟨_, hg⟩
theorem Try.infoTW : (Try.prog.info? 30).map (fun i => (i.zero, i.size, i.bytes)) = some (some (.agg #[.int .i64 0, .slice none 0 0]), 2, 32) := by kernel_rfl
theorem Try.undTsW : Try.prog.underlying 22 = some (.slice 30) := by kernel_rfl
