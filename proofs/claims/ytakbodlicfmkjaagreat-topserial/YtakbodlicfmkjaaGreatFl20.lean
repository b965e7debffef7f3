/- How many entries a log comes to at most; what Store tells of a log that may be. Conditions as each names them. -/
import Derived.Test.YtakbodlicfmkjaaGreatScn
namespace Go.Proofs.YtakbodlicfmkjaaGreat.Fo
open Go.ChangeShapes Go.WideShapes Go.ChangeAt Go.RowKit Go.Lib Go.Maps
set_option linter.unusedVariables false
set_option linter.unusedSimpArgs false
theorem filt_two {α : Type} (p q : α → Bool) (h : ∀ x, p x = true → q x = false) : ∀ l : List α, (l.filter p).length + (l.filter q).length ≤ l.length
  | [] => by simp
  | x :: l => by
    have ih := filt_two p q h l
    cases hp : p x with
    | true => simp [hp, h x hp]; omega
    | false =>
      cases hq : q x with
      | true => simp [hp, hq]; omega
      | false => simp [hp, hq]; omega
theorem wrote_length (ps : List Pr) (x : Wt) : (wrote ps x).length ≤ ps.length + 1 := by
  have h := filt_two (fun p : Pr => Op.bytesLess p.1.toList x.key.toList) (fun p : Pr => Op.bytesLess x.key.toList p.1.toList) (fun p hp => bl_asymm hp) ps
  unfold wrote
  rw [List.length_append, List.length_append]
  have : (if x.drop = true then ([] : List Pr) else [(x.key, x.val)]).length ≤ 1 := by by_cases hd : x.drop = true <;> simp [hd]
  omega
theorem capplys_len : ∀ (ws : List Wt) (E : ByteArray → Option ByteArray) (ps : List Pr), Is E ps → ∃ qs, Is (capplys (fun _ => true) E ws) qs ∧ qs.length ≤ ps.length + ws.length
  | [], E, ps, h => ⟨ps, h, by simp⟩
  | x :: ws, E, ps, h => by
    have h1 : Is (capply (fun _ => true) E x) (wrote ps x) := by unfold capply; rw [if_pos rfl]; exact h.write x
    obtain ⟨qs, hq, hl⟩ := capplys_len ws _ _ h1
    exact ⟨qs, hq, by have := wrote_length ps x; simp; omega⟩
theorem call_len : ∀ (l : List Tx) (E : ByteArray → Option ByteArray) (ps : List Pr), Is E ps → (∀ t ∈ l, t.ws.length ≤ 32) → ∃ qs, Is (call (fun _ => true) E l) qs ∧ qs.length ≤ ps.length + 32 * l.length
  | [], E, ps, h, _ => ⟨ps, h, by simp⟩
  | t :: l, E, ps, h, hw => by
    obtain ⟨qs, hq, hl⟩ := capplys_len t.ws E ps h
    obtain ⟨rs, hr, hl2⟩ := call_len l _ _ hq (fun t' ht => hw t' (List.mem_cons_of_mem _ ht))
    have := hw t (by simp)
    exact ⟨rs, hr, by simp; omega⟩
/-- There are not many. -/
theorem fo_len (l : List Tx) (hw : ∀ t ∈ l, t.ws.length ≤ 32) : ∃ ps, Is (fo l) ps ∧ ps.length ≤ 32 * l.length := by
  obtain ⟨qs, h1, h2⟩ := call_len l _ _ Is.nil hw
  exact ⟨qs, h1, by simpa using h2⟩
theorem inS_all2 (s : ByteArray) : inS ⟨#[]⟩ ⟨#[]⟩ s = true := by
  have hE0 : (⟨#[]⟩ : ByteArray).toList = [] := (tl_nil _).2 rfl
  unfold inS
  rw [hE0]
  cases s.toList <;> simp [Op.bytesLess]
theorem sc_of {l : List Tx} {f : Nat} {ps : List Pr} (hok : okL 1 l) (hf : f ≤ l.length) (h : Is (fo (l.take f)) ps) : ScTold l (f : Int) ⟨#[]⟩ ⟨#[]⟩ ps 0 :=
  ⟨Or.inr (Or.inr ⟨hok, ⟨by omega, by omega⟩, rfl⟩), Or.inr ⟨rfl, by rw [Int.toNat_natCast]; exact h.cong (fun s => by rw [call_fo, if_pos (inS_all2 s)])⟩⟩
end Go.Proofs.YtakbodlicfmkjaaGreat.Fo
