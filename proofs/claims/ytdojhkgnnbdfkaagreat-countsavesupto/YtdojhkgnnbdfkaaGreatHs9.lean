/- Contracts of a shard's New, there, mayBe, Get, put, Install. Conditions as each names them. -/
import Derived.Test.YtdojhkgnnbdfkaaGreatHm9
import Derived.WideLaws
import Derived.WalkSpells
namespace Go.Proofs.YtdojhkgnnbdfkaaGreat
open Go.ChangeShapes Go.WideShapes Go.ChangeAt Go.RowKit Go.Lib Go.Maps
set_option linter.unusedVariables false
set_option linter.unusedSimpArgs false

theorem hnew_any (w : World) : Calls Tryz.prog 44 #[] w fun e w' => ∃ sb b, e = .returned (.pointer (some ⟨sb, 0, none⟩)) ∧ Sh w w' sb b 0 (fun _ => []) ∧ Fr [] w w' := by
  have hmm := @run_makeMap Tryz.prog
  have HS : Hid (Sh w ((w.alloc (.map #[] 0)).alloc (.cells #[.map (some w.heap.size)] 99)) (w.heap.size + 1) w.heap.size 0 (fun _ => [])) := Sh.made w w (Nat.le_refl _)
  have HF : Hid (Fr [] w ((w.alloc (.map #[] 0)).alloc (.cells #[.map (some w.heap.size)] 99))) := (Fr.alloc [] _ _).then (Fr.alloc [] _ _)
  go_enter Tryz.func44, Tryz.ntmps44
  go_wp2
  go_ret
  exact ⟨w.heap.size + 1, w.heap.size, rfl, HS.out, HF.out⟩
theorem Sh.cell {w0 w : World} {sb b n : Nat} {M : ByteArray → List Vn} (h : Sh w0 w sb b n M) : w.cell? ⟨sb, 0, none⟩ = some (.map (some b)) := by
  rw [cell_of_row _ _ _ _ _ _ h.box]; rfl
set_option maxHeartbeats 1000000 in
theorem hmay_any (key : ByteArray) (B : Bool) (w : World) (hB : B = true ↔ okK9 key) : Calls Tryz.prog 45 #[.string key] w fun e w' => e = .returned (.bool B) ∧ Fr [] w w' := by
  have hE0 : (⟨#[]⟩ : ByteArray).toList = [] := (tl_nil _).2 rfl
  by_cases h1 : key.toList = []
  · obtain ⟨E, hE⟩ : ∃ E, (key.toList == ([] : List UInt8)) = E := ⟨_, rfl⟩
    have hE1 : E = true := by rw [← hE, h1]; rfl
    have hE2 : (key.toList != ([] : List UInt8)) = false := by rw [bne, hE, hE1]; rfl
    have hBf : B = false := by
      cases B with
      | false => rfl
      | true => have := (hB.1 rfl).1; have := (tl_nil key).1 h1; omega
    subst hBf
    clear hB h1
    go_enter Tryz.func45, Tryz.ntmps45
    go_wp2
    all_goals (go_ret; exact ⟨rfl, Fr.refl _ _⟩)
  · obtain ⟨E, hE⟩ : ∃ E, (key.toList == ([] : List UInt8)) = E := ⟨_, rfl⟩
    have hE1 : E = false := by rw [← hE]; simpa using h1
    have hE2 : (key.toList != ([] : List UInt8)) = true := by rw [bne, hE, hE1]; rfl
    have hpos : 1 ≤ key.size := by
      rcases Nat.eq_zero_or_pos key.size with h | h
      · exact absurd ((tl_nil key).2 h) h1
      · exact h
    have hBf : B = decide ((key.size : Int) ≤ 64) := by
      by_cases h2 : key.size ≤ 64
      · rw [hB.2 ⟨hpos, h2⟩]
        symm
        simp
        omega
      · have : B = false := by
          cases B with
          | false => rfl
          | true => exact absurd (hB.1 rfl).2 h2
        rw [this]
        symm
        simp
        omega
    rw [hBf]
    clear hB h1 hBf hpos
    go_enter Tryz.func45, Tryz.ntmps45
    go_wp2
    all_goals (go_ret; exact ⟨rfl, Fr.refl _ _⟩)
theorem VOut.each {w0 w : World} {ro : Option Addr} {N rc : Nat} {vs : List Vn} (h : VOut w0 w ro N rc vs) (ho : okV vs) : VRs w ro vs := h.rs (by have := okV_few ho; omega) (fun x hx => okX_each (ho.1 x hx))