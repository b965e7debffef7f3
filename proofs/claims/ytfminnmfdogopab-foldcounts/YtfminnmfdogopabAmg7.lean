/- A row of keys of one's own: among, one more; how many of them have a value. Conditions as each names them. -/
import Derived.Test.YtfminnmfdogopabLst7
namespace Go.Proofs.Ytfminnmfdogopab
open Go.ChangeShapes Go.WideShapes Go.ChangeAt Go.RowKit Go.Lib Go.Maps Go.Sort
set_option linter.unusedVariables false
set_option linter.unusedSimpArgs false

def strC (ss : List ByteArray) : List Value := ss.map Value.string
/-- A row of keys of its own. -/
structure KOut (w w' : World) (so : Option Addr) (N c : Nat) (ss : List ByteArray) : Prop where
  len : N = ss.length
  row : w'.ownsRow w.heap.size 9 1 (.slice so N c) N (strC ss)
theorem KOut.keep {w w' w'' : World} {so : Option Addr} {N c : Nat} {ss : List ByteArray} (h : KOut w w' so N c ss) (hf : Fr [] w' w'') : KOut w w'' so N c ss := ⟨h.len, owns_keepB h.row hf (by simp)⟩
theorem KOut.at {w w' : World} {so : Option Addr} {N c : Nat} {ss : List ByteArray} (h : KOut w w' so N c ss) (i : Nat) (hi : i < ss.length) : ∃ g, so = some ⟨g, 0, none⟩ ∧ w'.cell? ⟨g, i, none⟩ = some (.string (ss.getD i ⟨#[]⟩)) := by
  rcases h.row.2 with ⟨_, h0⟩ | ⟨g, cap, cur, hv, _, hg, _, _, _, ht⟩
  · have := h.len; omega
  · cases hv
    refine ⟨g, rfl, ?_⟩
    have hN := h.len
    rw [cell_of_row _ _ _ _ _ _ hg, ← Array.getElem?_toList]
    have h1 : (cur.toList.take (N * 1))[i]? = (strC ss)[i]? := by rw [ht]
    rw [List.getElem?_take_of_lt (by omega)] at h1
    rw [h1]
    simp [strC, List.getD, hi]
theorem Try.infoSt : (Try.prog.info? 9).map (fun i => (i.zero, i.size, i.bytes)) = some (some (.string ⟨#[]⟩), 1, 16) := by kernel_rfl
theorem capplys_len : ∀ (ws : List Wt) (E : ByteArray → Option ByteArray) (ps : List Pr), Is E ps → ∃ qs, Is (capplys (fun _ => true) E ws) qs ∧ qs.length ≤ ps.length + ws.length
  | [], E, ps, h => ⟨ps, h, by simp⟩
  | x :: ws, E, ps, h => by
    have h1 : Is (capply (fun _ => true) E x) (wrote ps x) := by unfold capply; rw [if_pos rfl]; exact h.write x
    obtain ⟨qs, hq, hl⟩ := capplys_len ws _ _ h1
    exact ⟨qs, hq, by have := wrote_length ps x; simp; omega⟩
theorem call_len : ∀ (l : List Tx) (E : ByteArray → Option ByteArray) (ps : List Pr), Is E ps → (∀ t ∈ l, t.ws.length ≤ 32) → ∃ qs, Is (call (fun _ => true) E l) qs ∧ qs.length ≤ ps.length + 32 * l.length
  | [], E, ps, h, _ => ⟨ps, h, by simp⟩
  | t :: l, E, ps, h, hw => by
    obtain ⟨qs, hq, hl⟩ := capplys_len t.ws E ps h
    obtain ⟨rs, hr, hl2⟩ := call_len l _ _ hq (fun t' ht => hw t' (List.mem_cons_of_mem _ ht))
    have := hw t (by simp)
    exact ⟨rs, hr, by simp; omega⟩
/-- There are not many. -/
theorem fo_len (l : List Tx) (hw : ∀ t ∈ l, t.ws.length ≤ 32) : ∃ ps, Is (fo l) ps ∧ ps.length ≤ 32 * l.length := by
  obtain ⟨qs, h1, h2⟩ := call_len l _ _ Is.nil hw
  exact ⟨qs, h1, by simpa using h2⟩
/-- As many of the keys as have a value are as many as there are entries. -/
theorem count_keys {E : ByteArray → Option ByteArray} {ps : List Pr} (h : Is E ps) {ss : List ByteArray} (hn : ss.Nodup) (ha : ∀ s, (E s).isSome = true → s ∈ ss) : (ss.filter fun s => (E s).isSome).length = ps.length := by
  have hp : (ps.map (·.1)).Nodup := by
    unfold List.Nodup
    rw [List.pairwise_map]
    exact List.Pairwise.imp (fun {a b} hab e => by rw [e, bl_irrefl] at hab; cases hab) h.inc
  have hf : (ss.filter fun s => (E s).isSome).Nodup := hn.filter _
  have hm : ∀ s, s ∈ (ss.filter fun s => (E s).isSome) ↔ s ∈ ps.map (·.1) := by
    intro s
    rw [List.mem_filter, List.mem_map]
    constructor
    · rintro ⟨_, h2⟩
      obtain ⟨v, hv⟩ := Option.isSome_iff_exists.1 h2
      exact ⟨(s, v), (h.mem _).2 hv, rfl⟩
    · rintro ⟨p, hp, rfl⟩
      have := (h.mem p).1 hp
      exact ⟨ha _ (by rw [this]; rfl), by rw [this]; rfl⟩
  have := (List.perm_ext_iff_of_nodup hf hp).2 hm
  rw [this.length_eq]
  simp
end Go.Proofs.Ytfminnmfdogopab
