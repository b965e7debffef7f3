/- What is read of a key's versions at a mark; what an install makes; what goes in of parts: mathematics alone. -/
import Derived.Test.YtdojhkgnnbdfkaaGreatSm9
namespace Go.Proofs.YtdojhkgnnbdfkaaGreat
set_option linter.unusedVariables false
set_option linter.unusedSimpArgs false

/-- The newest version at a mark. -/
def vAt (vs : List Vn) (k : Int) : Option Vn := (vs.filter fun v => decide (v.num ≤ k)).getLast?
/-- The value at a mark: none, if the newest is a Drop. -/
def valOf (o : Option Vn) : Option ByteArray :=
  match o with
  | none => none
  | some x => if x.drop = true then none else some x.val
def valAt (vs : List Vn) (k : Int) : Option ByteArray := valOf (vAt vs k)
theorem filt_upTo {vs : List Vn} {k : Int} {d : Nat} (h : UpTo vs k d) : vs.filter (fun v => decide (v.num ≤ k)) = vs.take d := by
  rw [← List.take_append_drop d vs, List.filter_append]
  have hle := h.le
  have h1 : (vs.take d).filter (fun v => decide (v.num ≤ k)) = vs.take d := by
    refine List.filter_eq_self.2 fun p hp => ?_
    obtain ⟨j, hj, e⟩ := List.mem_iff_getElem.1 hp
    have hj' : j < d ∧ j < vs.length := by simp at hj; omega
    have := h.lo j hj'.1
    simp only [List.getD, List.getElem?_eq_getElem hj'.2, Option.getD_some] at this
    rw [← e]
    simpa using this
  have h2 : (vs.drop d).filter (fun v => decide (v.num ≤ k)) = [] := by
    refine List.filter_eq_nil_iff.2 fun p hp => ?_
    obtain ⟨j, hj, e⟩ := List.mem_iff_getElem.1 hp
    have hj' : d + j < vs.length := by simp at hj; omega
    have := h.hi (d + j) (by omega) hj'
    simp only [List.getD, List.getElem?_eq_getElem hj', Option.getD_some] at this
    rw [← e]
    simp
    omega
  rw [h1, h2, List.append_nil, List.take_append_drop]
theorem vAt_upTo {vs : List Vn} {k : Int} {d : Nat} (h : UpTo vs k d) : vAt vs k = if d = 0 then none else some (atV vs d) := by
  unfold vAt
  rw [filt_upTo h]
  have hle := h.le
  by_cases h0 : d = 0
  · subst h0; simp
  · rw [if_neg h0, List.getLast?_eq_getElem?]
    unfold atV
    rw [if_neg h0]
    have e : (vs.take d).length - 1 = d - 1 := by simp; omega
    have hl : d - 1 < vs.length := by omega
    rw [e, List.getElem?_take_of_lt (by omega), List.getElem?_eq_getElem hl]
    simp [List.getD, hl]
theorem atV_mem {vs : List Vn} {d : Nat} (h0 : 0 < d) (hd : d ≤ vs.length) : atV vs d ∈ vs := by
  unfold atV
  rw [if_neg (by omega)]
  exact vgetD_mem vs (d - 1) (by omega)
/-- What Get says. -/
theorem get_told {vs : List Vn} {k : Int} {x : Vn} {ok : Bool} {c : Nat} (hok : okV vs) (h : AtTold vs k x ok c) : (ok && !x.drop) = (valAt vs k).isSome ∧ x.val = (valAt vs k).getD noS ∧ c = 0 := by
  rcases h with ⟨_, h, _⟩ | ⟨hc, _, d, hd, h1, h2⟩
  · exact absurd hok h
  · have hv := vAt_upTo hd
    unfold valAt valOf
    by_cases h0 : d = 0
    · rw [if_pos h0] at hv
      rw [hv, h1, h2]
      subst h0
      exact ⟨rfl, rfl, hc⟩
    · rw [if_neg h0] at hv
      rw [hv, h2]
      simp only
      rw [← h1]
      have hm : x ∈ vs := by rw [h1]; exact atV_mem (by omega) hd.le
      have hx := hok.1 x hm
      have hd0 : decide (0 < d) = true := by simp; omega
      rw [hd0]
      cases hdr : x.drop with
      | true => exact ⟨rfl, by simpa using hx.2.2.2 hdr, hc⟩
      | false => exact ⟨rfl, by simp, hc⟩
end Go.Proofs.YtdojhkgnnbdfkaaGreat
