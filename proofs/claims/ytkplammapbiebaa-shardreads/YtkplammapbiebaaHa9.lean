/- The statements' own test that the program answers as the document fixes: contract of alive. No conditions. -/
import Derived.Test.YtkplammapbiebaaHl9
namespace Go.Proofs.Ytkplammapbiebaa
open Go.ChangeShapes Go.WideShapes Go.ChangeAt Go.RowKit Go.Lib Go.Maps
set_option linter.unusedVariables false
set_option linter.unusedSimpArgs false

def kA : ByteArray := ⟨#[97]⟩
def p1 : Pt := ⟨1, kA, ⟨#[120]⟩, false⟩
def p2 : Pt := ⟨3, kA, noS, true⟩
def p3 : Pt := ⟨3, kA, ⟨#[122]⟩, false⟩
theorem ok1 : okP p1 := ⟨⟨by decide, by decide⟩, by decide, by decide, by decide, fun h => by cases h⟩
theorem ok2 : okP p2 := ⟨⟨by decide, by decide⟩, by decide, by decide, by decide, fun _ => rfl⟩
theorem ok3 : okP p3 := ⟨⟨by decide, by decide⟩, by decide, by decide, by decide, fun h => by cases h⟩
theorem inst_new {M M' : ByteArray → List Vn} {ins : List Pt} {p : Pt} {ok : Bool} {c : Nat} (h : HoldsP M ins) (hI : InTold M p M' ok c) (hp : okP p) (hn : ∀ q ∈ ins, q.key = p.key → q.num ≠ p.num) : ok = true ∧ c = 0 ∧ HoldsP M' (ins ++ [p]) := by
  rcases h.step hI with ⟨h1, h2, h3, _⟩ | ⟨_, _, h3⟩
  · exact ⟨h1, h2, h3⟩
  · exact absurd ⟨hp, hn⟩ h3
theorem inst_old {M M' : ByteArray → List Vn} {ins : List Pt} {p : Pt} {ok : Bool} {c : Nat} (h : HoldsP M ins) (hI : InTold M p M' ok c) (hp : okP p) (hn : ¬ ∀ q ∈ ins, q.key = p.key → q.num ≠ p.num) : ok = false ∧ c = 0 ∧ HoldsP M' ins := by
  rcases h.step hI with ⟨_, _, _, _, h3⟩ | ⟨h1, h2, _⟩
  · exact absurd h3 hn
  · rcases hI with ⟨_, _, h4, _⟩ | ⟨h4, _, _⟩
    · exact absurd hp h4
    · exact ⟨h1, h4, h2⟩
theorem doc9 {M : ByteArray → List Vn} (h : HoldsP M [p1, p2]) (ho : ∀ k, okV (M k)) : M kA = [p1.v, p2.v] := by
  refine ris_unique _ _ (ho kA).2 (by simp [Ris, p1, p2, Pt.v]) fun v => ?_
  rw [h kA v]
  simp [p1, p2]
theorem doc9_at {M : ByteArray → List Vn} (h : HoldsP M [p1, p2]) (ho : ∀ k, okV (M k)) : valAt (M kA) 2 = some ⟨#[120]⟩ ∧ valAt (M kA) 3 = none := by
  rw [doc9 h ho]
  constructor
  · simp [valAt, vAt, valOf, p1, p2, Pt.v]
  · simp [valAt, vAt, valOf, p1, p2, Pt.v]
theorem doc9_size {M : ByteArray → List Vn} {S : Nat} (h : HoldsP M [p1, p2]) (ho : ∀ k, okV (M k)) (hS : SzT M S) : S = 2 := hS.holds h ho (by simp [DisP, p1, p2])
theorem hrs_one (w : World) (t : TypeId) (key : ByteArray) (hk : key.size ≤ 140737488355328) : HRs (w.alloc (.cells #[.string key, .slice none 0 0] t)) (some ⟨w.heap.size, 0, none⟩) [⟨key, none, 0, 0, []⟩] := by
  have hb := heap_alloc_new w (.cells #[.string key, .slice none 0 0] t)
  refine ⟨fun _ => ⟨_, 0, rfl, lt_of_block hb, fun i hi => ?_⟩, by simp, fun x hx => ?_⟩
  · simp at hi
    subst hi
    exact ⟨by rw [cell_of_row _ _ _ _ _ _ hb]; rfl, by rw [cell_of_row _ _ _ _ _ _ hb]; rfl⟩
  · simp at hx
    subst hx
    exact ⟨hk, rfl, Nat.le_refl _, VRs.nil _ _⟩
theorem pe9 (n : Int) (k v : ByteArray) (d : Bool) (h1 : k.size ≤ 64) (h2 : v.size ≤ 64) (h3 : 0 ≤ n) (h4 : n ≤ 64) : PEach ⟨n, k, v, d⟩ := ⟨by simp only; omega, by simp only; omega, by simp only; omega, by simp only; omega⟩
set_option maxHeartbeats 8000000 in
set_option maxRecDepth 100000 in
theorem alive9_any (w : World) : Calls Try.prog 7 #[] w fun e w' => e = .returned (.bool true) ∧ Fr [] w w' := by
  go_enter Try.func7, Try.ntmps7
  go_wp2_with fail
  refine (hnew_any w).mono ?_
  rintro e w1 ⟨sb, b, rfl, hS1, hF1⟩
  have HI : Hid (Calls _ _ _ _ _) := hinstall_any 1 ⟨#[97]⟩ ⟨#[120]⟩ false w1 hS1 hF1.size (pe9 _ _ _ _ (by decide) (by decide) (by decide) (by decide)) (by omega)
  have HS1 : Hid (Sh w w1 sb b 0 (fun _ => []) ∧ Fr [] w w1) := ⟨hS1, hF1⟩
  clear hS1 hF1
  go_wp2_with fail
  refine Calls.mono HI.out ?_
  rintro e w2 ⟨ok, c, M1, rfl, hT, hS2, hF2⟩
  obtain ⟨rfl, rfl, hH⟩ := inst_new HoldsP.nil hT ok1 (by simp)
  have HS2 : Hid (Sh w w2 sb b 1 M1 ∧ Fr [] w w2 ∧ HoldsP M1 [p1]) := ⟨hS2, hF2.below HS1.out.1.bn HS1.out.2, hH⟩
  clear hT hS2 hF2 hH HI
  have HI : Hid (Calls _ _ _ _ _) := hinstall_any 3 ⟨#[97]⟩ ⟨#[]⟩ true w2 HS2.out.1 HS2.out.2.1.size (pe9 _ _ _ _ (by decide) (by decide) (by decide) (by decide)) (by omega)
  go_wp2_with fail
  refine Calls.mono HI.out ?_
  rintro e w3 ⟨ok, c, M2, rfl, hT, hS3, hF3⟩
  obtain ⟨rfl, rfl, hH⟩ := inst_new HS2.out.2.2 hT ok2 (by simp [p1])
  have HS3 : Hid (Sh w w3 sb b 2 M2 ∧ Fr [] w w3 ∧ HoldsP M2 [p1, p2]) := ⟨hS3, hF3.below HS2.out.1.bn HS2.out.2.1, hH⟩
  clear hT hS3 hF3 hH HI
  have HI : Hid (Calls _ _ _ _ _) := hinstall_any 3 ⟨#[97]⟩ ⟨#[122]⟩ false w3 HS3.out.1 HS3.out.2.1.size (pe9 _ _ _ _ (by decide) (by decide) (by decide) (by decide)) (by omega)
  go_wp2_with fail
  refine Calls.mono HI.out ?_
  rintro e w4 ⟨ok, c, M3, rfl, hT, hS4, hF4⟩
  obtain ⟨rfl, rfl, hH⟩ := inst_old HS3.out.2.2 hT ok3 (by simp [p1, p2, kA])
  have HS4 : Hid (Sh w w4 sb b 3 M3 ∧ Fr [] w w4 ∧ HoldsP M3 [p1, p2]) := ⟨hS4, hF4.below HS3.out.1.bn HS3.out.2.1, hH⟩
  clear hT hS4 hF4 hH HI
  have hat := doc9_at HS4.out.2.2 HS4.out.1.ok
  have HG : Hid (∀ k W, Fr [] w4 W → Calls Try.prog 16 #[.pointer (some ⟨sb, 0, none⟩), .string ⟨#[97]⟩, .int .i64 k] W fun e w' => e = .returned (.tuple #[.string ((valAt (M3 kA) k).getD noS), .bool (valAt (M3 kA) k).isSome]) ∧ Fr [] W w') := fun k W hf => hget_any kA k W (HS4.out.1.keep hf) (by decide)
  have HG1 : Hid (Calls Try.prog 16 #[.pointer (some ⟨sb, 0, none⟩), .string ⟨#[97]⟩, .int .i64 2] w4 fun e w' => e = .returned (.tuple #[.string ⟨#[120]⟩, .bool true]) ∧ Fr [] w4 w') := by
    have := HG.out 2 w4 (Fr.refl _ _)
    rw [hat.1] at this
    exact this
  go_wp2_with fail
  refine Calls.mono HG1.out ?_
  rintro e w5 ⟨rfl, hF5⟩
  have HG2 : Hid (Calls Try.prog 16 #[.pointer (some ⟨sb, 0, none⟩), .string ⟨#[97]⟩, .int .i64 3] w5 fun e w' => e = .returned (.tuple #[.string ⟨#[]⟩, .bool false]) ∧ Fr [] w5 w') := by
    have := HG.out 3 w5 hF5
    rw [hat.2] at this
    exact this
  have HF5 : Hid (Fr [] w4 w5) := hF5
  clear hF5 HG HG1 hat
  go_wp2_with fail
  refine Calls.mono HG2.out ?_
  rintro e w6 ⟨rfl, hF6⟩
  have HF6 : Hid (Fr [] w4 w6) := HF5.out.then hF6
  clear hF6 HG2 HF5
  have HLo : Hid (Calls _ _ _ _ _) := hload_any (some ⟨w6.heap.size, 0, none⟩) 1 1 _ (w6.alloc (.cells #[.string ⟨#[97]⟩, .slice none 0 0] 51)) (hrs_one w6 51 ⟨#[97]⟩ (by decide)) rfl
  go_wp2_with fail
  refine Calls.mono HLo.out ?_
  rintro e w7 h7
  obtain ⟨rfl, hF7⟩ : e = .returned (.tuple #[.pointer none, .int .i64 1]) ∧ Fr [] (w6.alloc (.cells #[.string ⟨#[97]⟩, .slice none 0 0] 51)) w7 := by
    rcases h7 with ⟨h, _⟩ | ⟨_, h⟩
    · exact absurd rfl ((h.2 ⟨⟨#[97]⟩, none, 0, 0, []⟩ (by simp)).2.1)
    · exact h
  have HF7 : Hid (Fr [] w4 w7) := HF6.out.then ((Fr.alloc [] _ _).then hF7)
  clear hF7 h7 HLo HF6
  have HZ : Hid (Calls Try.prog 13 #[.pointer (some ⟨sb, 0, none⟩)] w7 fun e w' => e = .returned (.int .i64 2) ∧ Fr [] w w') := by
    refine (hsize_any w7 (HS4.out.1.keep HF7.out) (by omega)).mono ?_
    rintro e w' ⟨S, rfl, hS, hF⟩
    rw [doc9_size HS4.out.2.2 HS4.out.1.ok hS]
    exact ⟨rfl, (HS4.out.2.1.then HF7.out).then hF⟩
  go_wp2_with fail
  refine Calls.mono HZ.out ?_
  rintro e w8 ⟨rfl, hF8⟩
  go_wp2
  go_ret
  exact ⟨rfl, hF8⟩
end Go.Proofs.Ytkplammapbiebaa
