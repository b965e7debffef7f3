/- Contracts of a shard's New, there, mayBe, Get, put, Install. Conditions as each names them. -/
import Derived.Test.YtakbodlicfmkjaaGreatHm9
import Derived.WideLaws
import Derived.WalkSpells
namespace Go.Proofs.YtakbodlicfmkjaaGreat.O
open Go.ChangeShapes Go.WideShapes Go.ChangeAt Go.RowKit Go.Lib Go.Maps
set_option linter.unusedVariables false
set_option linter.unusedSimpArgs false

theorem hnew_any (w : World) : Calls Tryz.prog 167 #[] w fun e w' => ∃ sb b, e = .returned (.pointer (some ⟨sb, 0, none⟩)) ∧ Sh w w' sb b 0 (fun _ => []) ∧ Fr [] w w' := by
  have hmm := @run_makeMap Tryz.prog
  have HS : Hid (Sh w ((w.alloc (.map #[] 0)).alloc (.cells #[.map (some w.heap.size)] 242)) (w.heap.size + 1) w.heap.size 0 (fun _ => [])) := Sh.made w w (Nat.le_refl _)
  have HF : Hid (Fr [] w ((w.alloc (.map #[] 0)).alloc (.cells #[.map (some w.heap.size)] 242))) := (Fr.alloc [] _ _).then (Fr.alloc [] _ _)
  go_enter Tryz.func167, Tryz.ntmps167
  go_wp2
  go_ret
  exact ⟨w.heap.size + 1, w.heap.size, rfl, HS.out, HF.out⟩
theorem Sh.cell {w0 w : World} {sb b n : Nat} {M : ByteArray → List Vn} (h : Sh w0 w sb b n M) : w.cell? ⟨sb, 0, none⟩ = some (.map (some b)) := by
  rw [cell_of_row _ _ _ _ _ _ h.box]; rfl
theorem hthere_any {w0 : World} {sb b n : Nat} {M : ByteArray → List Vn} (w : World) (h : Sh w0 w sb b n M) : Calls Tryz.prog 111 #[.pointer (some ⟨sb, 0, none⟩)] w fun e w' => e = .returned (.bool true) ∧ Fr [] w w' := by
  have qT : ∀ (w : World) (r : Option Nat), (binOp .neq 238 (.map r) (.map none)).run Tryz.prog w = .ok (.bool (!r.isNone)) w := fun w r => run_neq_map_nil w _ _ _ r Tryz.undVMap
  have c0 := h.cell
  go_enter Tryz.func111, Tryz.ntmps111
  go_wp2
  go_ret
  exact ⟨rfl, Fr.refl _ _⟩
set_option maxHeartbeats 1000000 in
theorem hmay_any (key : ByteArray) (B : Bool) (w : World) (hB : B = true ↔ okK9 key) : Calls Tryz.prog 168 #[.string key] w fun e w' => e = .returned (.bool B) ∧ Fr [] w w' := by
  have hE0 : (⟨#[]⟩ : ByteArray).toList = [] := (tl_nil _).2 rfl
  by_cases h1 : key.toList = []
  · obtain ⟨E, hE⟩ : ∃ E, (key.toList == ([] : List UInt8)) = E := ⟨_, rfl⟩
    have hE1 : E = true := by rw [← hE, h1]; rfl
    have hE2 : (key.toList != ([] : List UInt8)) = false := by rw [bne, hE, hE1]; rfl
    have hBf : B = false := by
      cases B with
      | false => rfl
      | true => have := (hB.1 rfl).1; have := (tl_nil key).1 h1; omega
    subst hBf
    clear hB h1
    go_enter Tryz.func168, Tryz.ntmps168
    go_wp2
    all_goals (go_ret; exact ⟨rfl, Fr.refl _ _⟩)
  · obtain ⟨E, hE⟩ : ∃ E, (key.toList == ([] : List UInt8)) = E := ⟨_, rfl⟩
    have hE1 : E = false := by rw [← hE]; simpa using h1
    have hE2 : (key.toList != ([] : List UInt8)) = true := by rw [bne, hE, hE1]; rfl
    have hpos : 1 ≤ key.size := by
      rcases Nat.eq_zero_or_pos key.size with h | h
      · exact absurd ((tl_nil key).2 h) h1
      · exact h
    have hBf : B = decide ((key.size : Int) ≤ 64) := by
      by_cases h2 : key.size ≤ 64
      · rw [hB.2 ⟨hpos, h2⟩]
        symm
        simp
        omega
      · have : B = false := by
          cases B with
          | false => rfl
          | true => exact absurd (hB.1 rfl).2 h2
        rw [this]
        symm
        simp
        omega
    rw [hBf]
    clear hB h1 hBf hpos
    go_enter Tryz.func168, Tryz.ntmps168
    go_wp2
    all_goals (go_ret; exact ⟨rfl, Fr.refl _ _⟩)
theorem VOut.each {w0 w : World} {ro : Option Addr} {N rc : Nat} {vs : List Vn} (h : VOut w0 w ro N rc vs) (ho : okV vs) : VRs w ro vs := h.rs (by have := okV_few ho; omega) (fun x hx => okX_each (ho.1 x hx))
set_option maxHeartbeats 4000000 in
set_option maxRecDepth 100000 in
theorem hget_any {w0 : World} {sb b n : Nat} {M : ByteArray → List Vn} (key : ByteArray) (k : Int) (w : World) (h : Sh w0 w sb b n M) (hk : key.size ≤ 140737488355328) :
    Calls Tryz.prog 313 #[.pointer (some ⟨sb, 0, none⟩), .string key, .int .i64 k] w fun e w' => e = .returned (.tuple #[.string ((valAt (M key) k).getD noS), .bool (valAt (M key) k).isSome]) ∧ Fr [] w w' := by
  have HT : Hid (Calls _ _ _ _ _) := hthere_any w h
  have HS : Hid (∀ W, Fr [] w W → Sh w0 W sb b n M) := fun W hf => h.keep hf
  clear h
  go_enter Tryz.func313, Tryz.ntmps313
  go_wp2_with fail
  refine Calls.mono HT.out ?_
  rintro e w1 ⟨rfl, hF1⟩
  have hS1 := HS.out _ hF1
  have c0 := hS1.cell
  obtain ⟨ro, N, rc, hlk, hV, _⟩ := hS1.look key (by unfold maxLen; omega)
  have hok := hS1.ok key
  have HA : Hid (Calls _ _ _ _ _) := at_any ro N rc k (M key) w1 (hV.each hok) hV.len
  have HO : Hid (okV (M key)) := hok
  clear HT hS1 hV hok
  go_wp2_with fail
  refine Calls.mono HA.out ?_
  rintro e w2 ⟨x, ok, c, rfl, hT, hF2⟩
  have hG := hF1.then hF2
  obtain ⟨h1, h2, rfl⟩ := get_told HO.out hT
  have HG : Hid (Fr [] w w2) := hG
  obtain ⟨num, val, drop⟩ := x
  simp only at h1 h2
  have HH : Hid ((ok && !drop) = (valAt (M key) k).isSome ∧ val = (valAt (M key) k).getD noS) := ⟨h1, h2⟩
  clear h1 h2 hT HA HO HS hF1 hF2 hG c0 hlk
  simp only
  cases ok with
  | true =>
    go_wp2_with fail
    go_quiet (fail)
    go_wp2
    refine bodyPost_ret (results_tmp2 rfl _ _ _) rfl ?_
    rw [← HH.out.1, ← HH.out.2]
    exact ⟨rfl, HG.out.then (((Fr.alloc _ _ _)).then (Fr.drewN _ _ _))⟩
  | false =>
    go_wp2_with fail
    go_quiet (fail)
    go_wp2
    refine bodyPost_ret (results_tmp2 rfl _ _ _) rfl ?_
    rw [← HH.out.1, ← HH.out.2]
    exact ⟨rfl, HG.out.then (((Fr.alloc _ _ _)).then (Fr.drewN _ _ _))⟩
end Go.Proofs.YtakbodlicfmkjaaGreat.O
