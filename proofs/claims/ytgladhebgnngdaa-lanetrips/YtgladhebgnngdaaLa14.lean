/- SameReq of a request and itself; the law's helper alive. Conditions: none. -/
import Derived.Test.YtgladhebgnngdaaLx14
import Derived.Test.YtgladhebgnngdaaLo14
import Derived.Test.YtgladhebgnngdaaLt14
namespace Go.Proofs.Ytgladhebgnngdaa
open Go.ChangeShapes Go.WideShapes Go.ChangeAt Go.RowKit Go.Lib Go.Maps
set_option linter.unusedVariables false
set_option linter.unusedSimpArgs false

theorem sameNil (w : World) : Calls Try.prog 42 #[.slice none 0 0, .slice none 0 0] w fun e w' => e = .returned (.bool true) ∧ w = w' := by
  go_enter Try.func42, Try.ntmps42
  go_wp2_with fail
  refine wp_loop_rounds 1 ?_
  rw [rounds_succ]
  go_wp2
  go_ret
  exact ⟨rfl, rfl⟩
set_option maxHeartbeats 4000000 in
set_option maxRecDepth 100000 in
theorem sameReq_any (r : Rq) (w : World) : Calls Try.prog 24 #[r.v, r.v] w fun e w' => e = .returned (.bool true) ∧ Fr [] w w' := by
  obtain ⟨k, f, n, key, val, drop⟩ := r
  have hw : ∀ W, (binOp .eql 55 (.agg #[.string key, .string val, .bool drop]) (.agg #[.string key, .string val, .bool drop])).run Try.prog W = .ok (.bool true) W := fun W => by
    have := wt_eql W ⟨key, val, drop⟩ ⟨key, val, drop⟩
    rw [(sameW_iff _ _).2 rfl] at this
    exact this
  simp only [Rq.v]
  go_enter Try.func24, Try.ntmps24
  go_wp2_with fail
  refine (sameNil _).mono ?_
  rintro e w1 ⟨rfl, rfl⟩
  go_wp2
  go_ret
  exact ⟨rfl, (Fr.alloc _ _ _).then (Fr.alloc _ _ _)⟩
/-- The chapter's transaction. -/
def al0 : Wt := ⟨⟨#[97]⟩, ⟨#[49]⟩, false⟩
def al1 : Wt := ⟨⟨#[98]⟩, ⟨#[50]⟩, false⟩
def al2 : Wt := ⟨⟨#[97]⟩, ⟨#[]⟩, true⟩
theorem al_dd : dd [al0, al1, al2] = [al1, al2] := by
  have k0 : ¬ Kept [al0, al1, al2] 0 := fun h => h 2 (by omega) (by simp) rfl
  have k1 : Kept [al0, al1, al2] 1 := by
    intro m h1 h2 e
    have : m = 2 := by simp at h2; omega
    subst this
    exact absurd e (by decide)
  have k2 : Kept [al0, al1, al2] 2 := by
    intro m h1 h2 e
    simp at h2
    omega
  show ddTo [al0, al1, al2] 3 = _
  rw [ddTo_yes k2, ddTo_yes k1, ddTo_no k0]
  rfl
theorem al_ok : okT 4 [al0, al1, al2] := by
  refine ⟨by decide, by decide, by decide, ?_⟩
  intro x hx
  simp only [List.mem_cons, List.not_mem_nil, or_false] at hx
  rcases hx with rfl | rfl | rfl <;> (unfold okW; decide)
theorem al_shard : (Cf.shard ⟨1, 1, 1, 1⟩ al1.key).1 = 0 := by
  have hm : Cf.may ⟨1, 1, 1, 1⟩ := by decide
  have hz : 1 ≤ al1.key.size ∧ al1.key.size ≤ 64 := by decide
  simp [Cf.shard, hm, hz, shN13, Int.emod_one]
set_option maxHeartbeats 8000000 in
set_option maxRecDepth 100000 in
theorem alive14_any (w : World) : Calls Try.prog 10 #[] w fun e w' => e = .returned (.bool true) ∧ Fr [] w w' := by
  have hE1 : newE ⟨1, 1, 1, 1⟩ 1 = 0 := by decide
  have hE2 : newE ⟨1, 1, 1, 1⟩ 2 = 1 := by decide
  have HN1 : Hid (∀ W, Calls _ _ _ _ _) := fun W => lnew_any (l := 1) (s := 1) (x := 1) (q := 1) (nm := 1) hE1 W
  have HN2 : Hid (∀ W, Calls Try.prog 7 #[.int .i64 2, .agg #[.int .i64 1, .int .i64 1, .int .i64 1, .int .i64 1]] W fun e w' => e = .returned (.tuple #[.pointer none, .int .i64 1]) ∧ Fr [] W w') := fun W => (lnew_bad (l := 1) (s := 1) (x := 1) (q := 1) (nm := 2) (by rw [hE2]; decide) W).mono fun e w' h => ⟨by rw [h.1, hE2], h.2⟩
  have hC0 := CfM.new w 1 1 1 1 23
  have hF0 := Fr.alloc [] w (.cells #[.int .i64 1, .int .i64 1, .int .i64 1, .int .i64 1] 23)
  have hw : ∀ W, (binOp .eql 55 (.agg #[.string ⟨#[98]⟩, .string ⟨#[50]⟩, .bool false]) (.agg #[.string ⟨#[98]⟩, .string ⟨#[50]⟩, .bool false])).run Try.prog W = .ok (.bool true) W := fun W => by
    have := wt_eql W al1 al1
    rw [(sameW_iff _ _).2 rfl] at this
    exact this
  clear hE1 hE2
  go_enter Try.func10, Try.ntmps10
  go_wp2_with fail
  refine Calls.mono (HN1.out _) ?_
  rintro e w1 ⟨lb, rfl, hlb, hM1, hF1⟩
  have hG1 := hF0.then hF1
  have hlb' : w.heap.size < lb := by have := hC0.1; omega
  obtain ⟨_, c0, c1, c2, c3⟩ := hC0.keep hF1
  clear hF0 hF1 hC0 hlb
  go_wp2_with fail
  refine Calls.mono (HN2.out _) ?_
  rintro e w2 ⟨rfl, hF2⟩
  have HS : Hid (Calls _ _ _ _ _) := lsent_any (hM1.kept _ hF2)
  have hG2 := hG1.then hF2
  clear c0 c1 c2 c3 hM1 hG1 hF2
  go_wp2_with fail
  refine Calls.mono HS.out ?_
  rintro e w3 ⟨rfl, hM3, hF3⟩
  have hG3 : Fr [] w w3 := hG2.on hF3 (by intro k hk; simp at hk; omega)
  clear HS hG2 hF3
  change LnM w3 lb 1 1 1 1 1 none [] at hM3
  simp only [sentE]
  have f4 : Fr [] w3 (w3.alloc (.cells #[.string ⟨#[97]⟩, .string ⟨#[49]⟩, .bool false, .string ⟨#[98]⟩, .string ⟨#[50]⟩, .bool false, .string ⟨#[97]⟩, .string ⟨#[]⟩, .bool true] 55)) := Fr.alloc _ _ _
  have hrow4 := heap_alloc_new w3 (.cells #[.string ⟨#[97]⟩, .string ⟨#[49]⟩, .bool false, .string ⟨#[98]⟩, .string ⟨#[50]⟩, .bool false, .string ⟨#[97]⟩, .string ⟨#[]⟩, .bool true] 55)
  have hrs : WRs (w3.alloc (.cells #[.string ⟨#[97]⟩, .string ⟨#[49]⟩, .bool false, .string ⟨#[98]⟩, .string ⟨#[50]⟩, .bool false, .string ⟨#[97]⟩, .string ⟨#[]⟩, .bool true] 55)) (some ⟨w3.heap.size, 0, none⟩) [al0, al1, al2] := WRs.of_row (ws := [al0, al1, al2]) (rest := []) hrow4 (by simp) (by
    intro x hx
    simp only [List.mem_cons, List.not_mem_nil, or_false] at hx
    rcases hx with rfl | rfl | rfl <;> decide)
  have HT : Hid (Calls _ _ _ _ _) := ltake_any 4 (some ⟨w3.heap.size, 0, none⟩) 3 3 [al0, al1, al2] (hM3.kept _ f4) ⟨hrs, rfl, by decide, by decide⟩ al_ok
  have hG4 := hG3.then f4
  clear hrs hrow4 hM3 hG3
  go_wp2_with fail
  refine Calls.mono HT.out ?_
  rintro e w5 ⟨S5, rfl, hM5, hS5, hF5⟩
  rw [al_dd] at hM5
  have hS5 : ∀ k ∈ S5, w.heap.size ≤ k ∧ k < w5.heap.size := fun k hk => ⟨by have := hG4.size; have := (hS5 k hk).1; omega, (hS5 k hk).2⟩
  have hG5 : Fr [] w w5 := hG4.on hF5 (by intro k hk; simp at hk; omega)
  have HX : Hid (Calls _ _ _ _ _) := lnext_any hM5
  clear HT f4 hG4 hF5
  go_wp2_with fail
  refine Calls.mono HX.out ?_
  rintro e w6 ⟨rfl, hF6⟩
  have hG6 := hG5.then hF6
  have hM6 := hM5.kept _ hF6
  have f7 := Fr.alloc [] w6 (.cells #[.int .u8 1, .int .i64 1, .int .i64 4, .string ⟨#[98]⟩, .string ⟨#[50]⟩, .bool false, .string ⟨#[]⟩, .string ⟨#[]⟩, .slice none 0 0] 59)
  have hrow7 := heap_alloc_new w6 (.cells #[.int .u8 1, .int .i64 1, .int .i64 4, .string ⟨#[98]⟩, .string ⟨#[50]⟩, .bool false, .string ⟨#[]⟩, .string ⟨#[]⟩, .slice none 0 0] 59)
  have HD : Hid (Calls _ _ _ _ _) := ldone_any (hM6.kept _ f7)
  have hG7 := hG6.then f7
  have hlt6 := hM6.lt
  have hs6 := hF6.size
  clear HX hG5 hF6 hM5 hG6 hM6
  simp only [nextS, nextR, nextB, Rq.v, al_shard]
  simp only [al1]
  go_wp2_with fail
  refine Calls.mono HD.out ?_
  rintro e w8 ⟨rfl, hM8, hF8⟩
  have hnS : w6.heap.size ∉ lb :: S5 := by
    simp only [List.mem_cons, not_or]
    exact ⟨by omega, fun hk => by have := (hS5 _ hk).2; omega⟩
  have hrow8 := hF8.keep hrow7 hnS
  have d1 : w8.cell? ⟨w6.heap.size, 1, none⟩ = some (.int .i64 1) := by rw [cell_of_row _ _ _ _ _ _ hrow8]; rfl
  have d2 : w8.cell? ⟨w6.heap.size, 2, none⟩ = some (.int .i64 4) := by rw [cell_of_row _ _ _ _ _ _ hrow8]; rfl
  have d3 : w8.cell? ⟨w6.heap.size, 3, none⟩ = some (.string ⟨#[98]⟩) := by rw [cell_of_row _ _ _ _ _ _ hrow8]; rfl
  have d4 : w8.cell? ⟨w6.heap.size, 4, none⟩ = some (.string ⟨#[50]⟩) := by rw [cell_of_row _ _ _ _ _ _ hrow8]; rfl
  have d5 : w8.cell? ⟨w6.heap.size, 5, none⟩ = some (.bool false) := by rw [cell_of_row _ _ _ _ _ _ hrow8]; rfl
  have hG8 : Fr [] w w8 := hG7.on hF8 (by
    intro k hk
    simp only [List.mem_cons] at hk
    rcases hk with rfl | hk
    · omega
    · exact (hS5 _ hk).1)
  have e1 : doneN (some ⟨4, [al1, al2], 0⟩) = 0 := by simp [doneN, readyB]
  have e2 : doneE (some ⟨4, [al1, al2], 0⟩) = 10 := by simp [doneE, readyB]
  have e3 : doneS (some ⟨4, [al1, al2], 0⟩) = some ⟨4, [al1, al2], 0⟩ := by simp [doneS, readyB]
  rw [e3] at hM8
  rw [e1, e2]
  have HH : Hid (Calls _ _ _ _ _) := lholds_any hM8
  simp only [holdsN] at HH
  clear e1 e2 e3 hM8 hF8 HD hrow7 hrow8 f7 hG7
  go_wp2_with fail
  refine Calls.mono HH.out ?_
  rintro e w9 ⟨rfl, hF9⟩
  have hG9 := hG8.then hF9
  go_wp2
  go_ret
  exact ⟨rfl, hG9⟩
end Go.Proofs.Ytgladhebgnngdaa
