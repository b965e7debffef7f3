/- That the statements' own check of some fixed answers (the function alive) is true. No conditions. -/
import Derived.Test.YtfminnmfdogopabRg7
import Derived.Test.YtfminnmfdogopabRefCh
namespace Go.Proofs.Ytfminnmfdogopab
open Go.ChangeShapes Go.WideShapes Go.ChangeAt Go.RowKit Go.Lib Go.Maps Go.Sort
set_option linter.unusedVariables false
set_option linter.unusedSimpArgs false

def sA : ByteArray := ⟨#[97]⟩
def sB : ByteArray := ⟨#[98]⟩
def lW1 : List Wt := [⟨⟨#[97]⟩, ⟨#[49]⟩, false⟩]
def lW2 : List Wt := [⟨⟨#[98]⟩, ⟨#[50]⟩, false⟩]
def lW3 : List Wt := [⟨⟨#[97]⟩, ⟨#[51]⟩, false⟩, ⟨⟨#[98]⟩, ⟨#[]⟩, true⟩]
def lX : List Tx := [⟨1, lW1⟩, ⟨2, lW2⟩, ⟨3, lW3⟩]
def lT (S : Nat) : List Tm := [⟨1, some ⟨S, 0, none⟩, 1, 1, lW1⟩, ⟨2, some ⟨S + 1, 0, none⟩, 1, 1, lW2⟩, ⟨3, some ⟨S + 1 + 1, 0, none⟩, 2, 2, lW3⟩]
theorem lT_txs (S : Nat) : txs (lT S) = lX := rfl
theorem lW_ok : (∀ x ∈ lW1, okW x) ∧ (∀ x ∈ lW2, okW x) ∧ ∀ x ∈ lW3, okW x := by
  refine ⟨?_, ?_, ?_⟩
  all_goals
    intro x hx
    simp only [lW1, lW2, lW3, List.mem_cons, List.not_mem_nil, or_false] at hx
  · subst hx; exact ⟨by decide, by decide, by decide, fun h => by simp at h⟩
  · subst hx; exact ⟨by decide, by decide, by decide, fun h => by simp at h⟩
  · rcases hx with rfl | rfl
    · exact ⟨by decide, by decide, by decide, fun h => by simp at h⟩
    · exact ⟨by decide, by decide, by decide, fun _ => rfl⟩
theorem lX_ok : okL 1 lX := ⟨⟨by decide, by decide, by decide, lW_ok.1⟩, rfl, ⟨by decide, by decide, by decide, lW_ok.2.1⟩, rfl, ⟨by decide, by decide, by decide, lW_ok.2.2⟩, rfl, trivial⟩
def e2 : List Pr := [(⟨#[97]⟩, ⟨#[49]⟩), (⟨#[98]⟩, ⟨#[50]⟩)]
def e3 : List Pr := [(⟨#[97]⟩, ⟨#[51]⟩)]
theorem tl1 (b : UInt8) : (⟨#[b]⟩ : ByteArray).toList = [b] := by rw [ByteArray.toList_eq]
theorem w1_eq : wrote [] ⟨⟨#[97]⟩, ⟨#[49]⟩, false⟩ = [(⟨#[97]⟩, ⟨#[49]⟩)] := rfl
theorem w2_eq : wrote [((⟨#[97]⟩ : ByteArray), (⟨#[49]⟩ : ByteArray))] ⟨⟨#[98]⟩, ⟨#[50]⟩, false⟩ = e2 := by
  simp only [wrote, e2, List.filter_cons, List.filter_nil, tl1]
  simp [Op.bytesLess]
theorem w3_eq : wrote e2 ⟨⟨#[97]⟩, ⟨#[51]⟩, false⟩ = [(⟨#[97]⟩, ⟨#[51]⟩), (⟨#[98]⟩, ⟨#[50]⟩)] := by
  simp only [wrote, e2, List.filter_cons, List.filter_nil, tl1]
  simp [Op.bytesLess]
theorem w4_eq : wrote [((⟨#[97]⟩ : ByteArray), (⟨#[51]⟩ : ByteArray)), (⟨#[98]⟩, ⟨#[50]⟩)] ⟨⟨#[98]⟩, ⟨#[]⟩, true⟩ = e3 := by
  simp only [wrote, e3, List.filter_cons, List.filter_nil, tl1]
  simp [Op.bytesLess]
theorem is2 : Is (fo (lX.take 2)) e2 := by
  have h1 := Is.nil.write ⟨⟨#[97]⟩, ⟨#[49]⟩, false⟩
  rw [w1_eq] at h1
  have h2 := h1.write ⟨⟨#[98]⟩, ⟨#[50]⟩, false⟩
  rw [w2_eq] at h2
  exact h2
theorem is3 : Is (fo (lX.take 3)) e3 := by
  have h1 := is2.write ⟨⟨#[97]⟩, ⟨#[51]⟩, false⟩
  rw [w3_eq] at h1
  have h2 := h1.write ⟨⟨#[98]⟩, ⟨#[]⟩, true⟩
  rw [w4_eq] at h2
  exact h2
theorem sc_of {l : List Tx} {f : Nat} {ps : List Pr} (hok : okL 1 l) (hf : f ≤ l.length) (h : Is (fo (l.take f)) ps) : ScTold l (f : Int) ⟨#[]⟩ ⟨#[]⟩ ps 0 :=
  ⟨Or.inr (Or.inr ⟨hok, ⟨by omega, by omega⟩, rfl⟩), Or.inr ⟨rfl, by rw [Int.toNat_natCast]; exact h.cong (fun s => by rw [call_fo, if_pos (inS_all2 s)])⟩⟩
theorem ch12 : ChTold lX 1 2 false 0 := by
  refine Or.inr (Or.inr ⟨lX_ok, ⟨by decide, by decide, by decide⟩, rfl, ?_⟩)
  constructor
  · intro h; cases h
  · intro h
    exfalso
    cases h with
    | step h1 h2 h3 =>
      rename_i m
      have := h1.ge
      obtain rfl : m = 1 := by omega
      obtain ⟨s, ⟨x, hx, ex⟩, y, hy, ey⟩ := h3
      simp only [lX, lW1, lW2] at hx hy
      simp at hx hy
      subst hx hy
      simp at ex ey
      rw [← ex] at ey
      simp at ey
theorem ch13 : ChTold lX 1 3 true 0 := by
  refine Or.inr (Or.inr ⟨lX_ok, ⟨by decide, by decide, by decide⟩, rfl, ?_⟩)
  refine ⟨fun _ => ?_, fun _ => rfl⟩
  exact Rch.step Rch.base (by decide) ⟨⟨#[97]⟩, ⟨⟨⟨#[97]⟩, ⟨#[49]⟩, false⟩, by simp [lX, lW1], rfl⟩, ⟨⟨⟨#[97]⟩, ⟨#[51]⟩, false⟩, by simp [lX, lW3], rfl⟩⟩
theorem sc4 : ScTold lX 4 ⟨#[]⟩ ⟨#[]⟩ [] 1 := ⟨Or.inr (Or.inl ⟨lX_ok, by simp [lX], rfl⟩), Or.inl ⟨by decide, rfl⟩⟩
def bA : Obj := .cells #[.string ⟨#[97]⟩, .string ⟨#[49]⟩, .bool false] 32
def bB : Obj := .cells #[.string ⟨#[98]⟩, .string ⟨#[50]⟩, .bool false] 32
def bC : Obj := .cells #[.string ⟨#[97]⟩, .string ⟨#[51]⟩, .bool false, .string ⟨#[98]⟩, .string ⟨#[]⟩, .bool true] 32
def bD (S : Nat) : Obj := .cells #[.int .i64 1, .slice (some ⟨S, 0, none⟩) 1 1, .int .i64 2, .slice (some ⟨S + 1, 0, none⟩) 1 1, .int .i64 3, .slice (some ⟨S + 1 + 1, 0, none⟩) 2 2] 30
def wLog (w : World) : World := (((w.alloc bA).alloc bB).alloc bC).alloc (bD w.heap.size)
theorem wLog_fr (w : World) : Fr [] w (wLog w) := (((Fr.alloc [] w _).then (Fr.alloc [] _ _)).then (Fr.alloc [] _ _)).then (Fr.alloc [] _ _)
theorem wLog_trs (w : World) : TRs (wLog w) (some ⟨w.heap.size + 1 + 1 + 1, 0, none⟩) (lT w.heap.size) := by
  have hA : (wLog w).heap[w.heap.size]? = some bA := by
    unfold wLog
    exact (Below.heap_alloc _ _ _ (by simp <;> omega)).trans ((Below.heap_alloc _ _ _ (by simp <;> omega)).trans ((Below.heap_alloc _ _ _ (by simp)).trans (heap_alloc_new w _)))
  have hB : (wLog w).heap[w.heap.size + 1]? = some bB := by
    unfold wLog
    refine (Below.heap_alloc _ _ _ (by simp <;> omega)).trans ((Below.heap_alloc _ _ _ (by simp)).trans ?_)
    have := heap_alloc_new (w.alloc bA) bB
    rwa [World.size_alloc] at this
  have hC : (wLog w).heap[w.heap.size + 1 + 1]? = some bC := by
    unfold wLog
    refine (Below.heap_alloc _ _ _ (by simp)).trans ?_
    have := heap_alloc_new ((w.alloc bA).alloc bB) bC
    rwa [World.size_alloc, World.size_alloc] at this
  have hD : (wLog w).heap[w.heap.size + 1 + 1 + 1]? = some (bD w.heap.size) := by
    unfold wLog
    have := heap_alloc_new (((w.alloc bA).alloc bB).alloc bC) (bD w.heap.size)
    rwa [World.size_alloc, World.size_alloc, World.size_alloc] at this
  have hsz : ∀ x : Wt, okW x → x.key.size ≤ 140737488355328 ∧ x.val.size ≤ 140737488355328 := fun x h => ⟨by have := h.2.1; omega, by have := h.2.2.1; omega⟩
  refine TRs.of_row (rest := []) (t := 30) (f := (0, 0)) (by rw [List.append_nil]; exact hD) (by simp [lT]) ?_
  intro t ht
  simp only [lT, List.mem_cons, List.not_mem_nil, or_false] at ht
  rcases ht with rfl | rfl | rfl
  · exact ⟨WRs.of_row (rest := []) (t := 32) (f := (0, 0)) (by rw [List.append_nil]; exact hA) (by simp [lW1]) (fun x hx => hsz x (lW_ok.1 x hx)), rfl, by simp, by simp⟩
  · exact ⟨WRs.of_row (rest := []) (t := 32) (f := (0, 0)) (by rw [List.append_nil]; exact hB) (by simp [lW2]) (fun x hx => hsz x (lW_ok.2.1 x hx)), rfl, by simp, by simp⟩
  · exact ⟨WRs.of_row (rest := []) (t := 32) (f := (0, 0)) (by rw [List.append_nil]; exact hC) (by simp [lW3]) (fun x hx => hsz x (lW_ok.2.2 x hx)), rfl, by simp, by simp⟩
set_option maxHeartbeats 4000000 in
theorem log7_any (w : World) : Calls Try.prog 11 #[] w fun e w' => ∃ b S, e = .returned (.slice (some ⟨b, 0, none⟩) 3 3) ∧ TRs w' (some ⟨b, 0, none⟩) (lT S) ∧ Fr [] w w' := by
  go_enter Try.func11, Try.ntmps11
  go_wp2
  go_ret
  exact ⟨w.heap.size + 1 + 1 + 1, w.heap.size, rfl, wLog_trs w, wLog_fr w⟩
theorem litE (w : World) (ps : List Pr) (h : ps.length < 1099511627776) : ERs (w.alloc (.cells (celsE ps).toArray 43)) (some ⟨w.heap.size, 0, none⟩) ps :=
  ⟨h, fun _ => ⟨_, _, rfl, heap_alloc_new w _, by rw [List.toList_toArray]; exact List.take_of_length_le (by rw [celsE_length]; omega)⟩⟩
set_option maxHeartbeats 8000000 in
set_option maxRecDepth 100000 in
theorem alive7_any (w : World) : Calls Try.prog 4 #[] w fun e w' => e = .returned (.bool true) ∧ Fr [] w w' := by
  go_enter Try.func4, Try.ntmps4
  go_wp2_with fail
  refine (log7_any _).mono ?_
  rintro e w1 ⟨b1, S1, rfl, hT1, hF1⟩
  go_wp2_with fail
  refine (fStore_any (some ⟨b1, 0, none⟩) 3 3 2 e2 2 0 (lT S1) _ hT1 rfl (by omega) (by omega) (by omega) (sc_of (f := 2) lX_ok (by simp [lT_txs, lX]) is2) rfl).mono ?_
  rintro e w2 ⟨ro2, rc2, rfl, hE2, hF2⟩
  have hG2 := hF1.then hF2
  clear hT1 hF1 hF2
  go_wp2_with fail
  refine (log7_any _).mono ?_
  rintro e w3 ⟨b3, S3, rfl, hT3, hF3⟩
  go_wp2_with fail
  refine (fStore_any (some ⟨b3, 0, none⟩) 3 3 3 e3 1 0 (lT S3) _ hT3 rfl (by omega) (by omega) (by omega) (sc_of (f := 3) lX_ok (by simp [lT_txs, lX]) is3) rfl).mono ?_
  rintro e w4 ⟨ro4, rc4, rfl, hE4, hF4⟩
  have hG4 := hG2.then (hF3.then hF4)
  have hE2' := hE2.keep (hF3.then hF4)
  clear hT3 hF3 hF4 hG2 hE2
  go_wp2_with fail
  refine (log7_any _).mono ?_
  rintro e w5 ⟨b5, S5, rfl, hT5, hF5⟩
  go_wp2_with fail
  refine (fChained_any (some ⟨b5, 0, none⟩) 3 3 1 2 0 false (lT S5) _ hT5 rfl (by omega) (by omega) (by omega) (by omega) (by omega) ch12).mono ?_
  rintro e w6 ⟨rfl, hF6⟩
  have hK6 := hF5.then hF6
  clear hT5 hF5 hF6
  go_wp2_with fail
  refine (log7_any _).mono ?_
  rintro e w7 ⟨b7, S7, rfl, hT7, hF7⟩
  go_wp2_with fail
  refine (fChained_any (some ⟨b7, 0, none⟩) 3 3 1 3 0 true (lT S7) _ hT7 rfl (by omega) (by omega) (by omega) (by omega) (by omega) ch13).mono ?_
  rintro e w8 ⟨rfl, hF8⟩
  have hK8 := hK6.then (hF7.then hF8)
  clear hT7 hF7 hF8 hK6
  go_wp2_with fail
  refine (log7_any _).mono ?_
  rintro e w9 ⟨b9, S9, rfl, hT9, hF9⟩
  go_wp2_with fail
  refine (fStore_any (some ⟨b9, 0, none⟩) 3 3 4 [] 0 1 (lT S9) _ hT9 rfl (by omega) (by omega) (by omega) sc4 rfl).mono ?_
  rintro e wa ⟨roa, rca, rfl, _, hFa⟩
  have hKa := hK8.then (hF9.then hFa)
  have hGa := hG4.then hKa
  have hx := (hE2'.keep hKa).ers (by decide)
  have hy := (hE4.keep hKa).ers (by decide)
  clear hT9 hF9 hFa hK8 hE2' hE4 hG4 hKa
  have hFb : Fr [] wa (wa.alloc (.cells (celsE e2).toArray 43)) := Fr.alloc _ _ _
  have HSa : Hid _ := sameEntries_any ro2 (some ⟨wa.heap.size, 0, none⟩) 2 rc2 2 e2 _ (hx.keep hFb) (litE wa e2 (by decide)) rfl
  go_wp2_with fail
  refine Calls.mono HSa.out ?_
  rintro e wb ⟨rfl, hFc⟩
  have hyb := (hy.keep hFb).keep hFc
  have hGb := (hGa.then hFb).then hFc
  have hFd : Fr [] wb (wb.alloc (.cells (celsE e3).toArray 43)) := Fr.alloc _ _ _
  have HSb : Hid _ := sameEntries_any ro4 (some ⟨wb.heap.size, 0, none⟩) 1 rc4 1 e3 _ (hyb.keep hFd) (litE wb e3 (by decide)) rfl
  clear HSa hx hy hFb hFc hGa
  go_wp2_with fail
  refine Calls.mono HSb.out ?_
  rintro e wc ⟨rfl, hFe⟩
  have hGc := (hGb.then hFd).then hFe
  clear HSb hyb hFd hFe hGb
  go_wp2
  go_ret
  exact ⟨rfl, hGc⟩
end Go.Proofs.Ytfminnmfdogopab
