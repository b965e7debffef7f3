/- Contracts of a ring's New, there, Len, Room, First, place, Close, Over. Conditions as each names them. -/
import Derived.Test.YtakbodlicfmkjaaGreatRm20
namespace Go.Proofs.YtakbodlicfmkjaaGreat.GT
open Go.ChangeShapes Go.WideShapes Go.ChangeAt Go.RowKit Go.Lib
set_option linter.unusedVariables false
set_option linter.unusedSimpArgs false

theorem gnew_any (c : Int) (w : World) (hc : 1 ≤ c ∧ c ≤ 65536) : Calls Tryz.prog 58 #[.int .i64 c] w fun e w' => ∃ g, e = .returned (.tuple #[.pointer (some ⟨g, 0, none⟩), .int .i64 0]) ∧ w.heap.size ≤ g ∧ Rg w' g none c.toNat [] false ∧ Fr [] w w' := by
  obtain ⟨h1, h2⟩ := hc
  have HM : Hid (Rg (w.alloc (.cells #[.int .i64 c, .slice none 0 0, .int .i64 0, .int .i64 0, .bool false] 201)) w.heap.size none c.toNat [] false) := by
    refine ⟨0, 0, 0, [], ?_, Pl.nil, fun b e => (by cases e), ⟨fun _ => rfl, fun _ => rfl⟩, by omega, by omega, by omega⟩
    have e : ((c.toNat : Nat) : Int) = c := by omega
    rw [e]
    exact heap_alloc_new w _
  go_enter Tryz.func58, Tryz.ntmps58
  go_wp2
  refine bodyPost_ret (results_tmp2 rfl _ _ _) rfl ?_
  exact ⟨w.heap.size, rfl, Nat.le_refl _, HM.out, Fr.alloc _ _ _⟩
theorem gnew_no (c : Int) (w : World) (hc : c < 1 ∨ 65536 < c) : Calls Tryz.prog 58 #[.int .i64 c] w fun e w' => e = .returned (.tuple #[.pointer none, .int .i64 1]) ∧ w = w' := by
  by_cases h1 : c < 1
  · clear hc
    go_enter Tryz.func58, Tryz.ntmps58
    go_wp2
    refine bodyPost_ret (results_tmp2 rfl _ _ _) rfl ?_
    exact ⟨rfl, rfl⟩
  · have h2 : 65536 < c := by omega
    clear hc
    go_enter Tryz.func58, Tryz.ntmps58
    go_wp2
    refine bodyPost_ret (results_tmp2 rfl _ _ _) rfl ?_
    exact ⟨rfl, rfl⟩
/-- A ring that is not there: nil, or a zero struct. -/
def NoR (w : World) (p : Option Addr) : Prop := p = none ∨ ∃ z, p = some ⟨z, 0, none⟩ ∧ w.heap[z]? = some (.cells #[.int .i64 0, .slice none 0 0, .int .i64 0, .int .i64 0, .bool false] 201 (0, 0))
theorem NoR.keep {S : List Nat} {w w' : World} {p : Option Addr} (h : NoR w p) (hf : Fr S w w') (hn : ∀ a, p = some a → a.block ∉ S) : NoR w' p := by
  rcases h with h | ⟨z, e, hz⟩
  · exact Or.inl h
  · exact Or.inr ⟨z, e, hf.keep hz (hn _ e)⟩
theorem gthere_no (p : Option Addr) (w : World) (h : NoR w p) : Calls Tryz.prog 266 #[.pointer p] w fun e w' => e = .returned (.bool false) ∧ w = w' := by
  rcases h with rfl | ⟨z, rfl, hz⟩
  · go_enter Tryz.func266, Tryz.ntmps266
    go_wp2
    go_ret
    exact ⟨rfl, rfl⟩
  · have c0 : w.cell? ⟨z, 0, none⟩ = some (.int .i64 0) := by rw [cell_of_row _ _ _ _ _ _ hz]; rfl
    go_enter Tryz.func266, Tryz.ntmps266
    go_wp2
    go_ret
    exact ⟨rfl, rfl⟩
section
variable {g C N F K : Nat} {pb : Option Nat} {ps xs : List Rv} {cl : Bool}
theorem gthere_any (w : World) (h : RgM w g pb C N F K ps xs cl) : Calls Tryz.prog 266 #[.pointer (some ⟨g, 0, none⟩)] w fun e w' => e = .returned (.bool true) ∧ w = w' := by
  have c0 := h.c0
  have h1 : decide (0 < C) = true := by have := h.cap; simp; omega
  clear h
  go_enter Tryz.func266, Tryz.ntmps266
  go_wp2
  go_ret
  exact ⟨rfl, rfl⟩
theorem glen_any (w : World) (h : RgM w g pb C N F K ps xs cl) : Calls Tryz.prog 272 #[.pointer (some ⟨g, 0, none⟩)] w fun e w' => e = .returned (.int .i64 (K : Int)) ∧ w = w' := by
  have c3 := h.c3
  have HT : Hid (Calls _ _ _ _ _) := gthere_any w h
  clear h
  go_enter Tryz.func272, Tryz.ntmps272
  go_wp2_with fail
  refine Calls.mono HT.out ?_
  rintro e w1 ⟨rfl, rfl⟩
  go_wp2
  go_ret
  exact ⟨rfl, rfl⟩
theorem glen_no (p : Option Addr) (w : World) (h : NoR w p) : Calls Tryz.prog 272 #[.pointer p] w fun e w' => e = .returned (.int .i64 0) ∧ w = w' := by
  have HT : Hid (Calls _ _ _ _ _) := gthere_no p w h
  clear h
  go_enter Tryz.func272, Tryz.ntmps272
  go_wp2_with fail
  refine Calls.mono HT.out ?_
  rintro e w1 ⟨rfl, rfl⟩
  go_wp2
  go_ret
  exact ⟨rfl, rfl⟩
theorem groom_no (p : Option Addr) (w : World) (h : NoR w p) : Calls Tryz.prog 263 #[.pointer p] w fun e w' => e = .returned (.int .i64 0) ∧ w = w' := by
  have HT : Hid (Calls _ _ _ _ _) := gthere_no p w h
  clear h
  go_enter Tryz.func263, Tryz.ntmps263
  go_wp2_with fail
  refine Calls.mono HT.out ?_
  rintro e w1 ⟨rfl, rfl⟩
  go_wp2
  go_ret
  exact ⟨rfl, rfl⟩
theorem groom_any (w : World) (h : RgM w g pb C N F K ps xs cl) (R : Nat) (hR : R = if cl then 0 else C - K) : Calls Tryz.prog 263 #[.pointer (some ⟨g, 0, none⟩)] w fun e w' => e = .returned (.int .i64 (R : Int)) ∧ Fr [] w w' := by
  have HT : Hid (Calls _ _ _ _ _) := gthere_any w h
  have c0 := h.c0
  have c3 := h.c3
  have c4 := h.c4
  have h1 : K ≤ C := by have := h.cap; have := h.pl.fit; omega
  have h2 : C ≤ 65536 := h.cap.2.1
  cases cl with
  | true =>
    obtain rfl : R = 0 := by simpa using hR
    clear h hR
    go_enter Tryz.func263, Tryz.ntmps263
    go_wp2_with fail
    refine Calls.mono HT.out ?_
    rintro e w1 ⟨rfl, rfl⟩
    go_wp2
    go_ret
    exact ⟨rfl, Fr.refl _ _⟩
  | false =>
    have HR : Hid (R = C - K) := by show R = C - K; simpa using hR
    have hw : IntKind.i64.wrap ((C : Int) - (K : Int)) = ((R : Nat) : Int) := by
      have := HR.out
      rw [IntKind.wrap_i64]
      omega
    clear h hR
    go_enter Tryz.func263, Tryz.ntmps263
    go_wp2_with fail
    refine Calls.mono HT.out ?_
    rintro e w1 ⟨rfl, rfl⟩
    go_wp2_with fail
    go_quiet (fail)
    go_wp2
    go_ret
    refine ⟨?_, Fr.drewN _ _ _⟩
    rfl
theorem gplace_any (w : World) (n : Nat) (P : Nat) (h : RgM w g pb C N F K ps xs cl) (hN : 0 < N) (hn : n ≤ N) (hP : P = atN F n N) : Calls Tryz.prog 265 #[.pointer (some ⟨g, 0, none⟩), .int .i64 (n : Int)] w fun e w' => e = .returned (.int .i64 (P : Int)) ∧ Fr [] w w' := by
  have c1 := h.c1
  have c2 := h.c2
  have hF := h.pl.f1 hN
  have h2 : N ≤ 65536 := by have := h.cap; omega
  have hm : ((F : Int) + (n : Int)).tmod (N : Int) = (P : Int) := by
    rw [hP, ← atN_mod hF hn]
    norm_cast
  have hm2 : ((F : Int) + (n : Int)) % (N : Int) = (P : Int) := by
    rw [hP, ← atN_mod hF hn]
    norm_cast
  obtain ⟨q, hq⟩ : ∃ q, q = pb.map fun b => (⟨b, 0, none⟩ : Addr) := ⟨_, rfl⟩
  rw [← hq] at c1
  have hN0 : ¬ (N : Int) = 0 := by omega
  have hN1 : ¬ N = 0 := by omega
  clear h hP hq
  go_enter Tryz.func265, Tryz.ntmps265
  go_wp2_with fail
  go_quiet (fail)
  go_wp2
  go_ret
  refine ⟨?_, Fr.drewN _ _ _⟩
  first
    | rw [hm]
    | rw [hm2]
    | rfl
theorem RgM.some_ {w : World} (h : RgM w g pb C N F K ps xs cl) (hN : 0 < N) : ∃ b, pb = some b := by
  cases pb with
  | none => have := h.none_.1 rfl; omega
  | some b => exact ⟨b, rfl⟩
end
end Go.Proofs.YtakbodlicfmkjaaGreat.GT
