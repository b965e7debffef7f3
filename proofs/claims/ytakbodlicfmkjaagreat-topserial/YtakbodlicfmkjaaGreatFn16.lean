/- The program's feed: contracts of isThere, mayBeBeyond, greatest, kept, New. Conditions as each names them. -/
import Derived.Test.YtakbodlicfmkjaaGreatFd16
import Derived.Test.YtakbodlicfmkjaaGreatIr16
namespace Go.Proofs.YtakbodlicfmkjaaGreat.F
open Go.ChangeShapes Go.WideShapes Go.ChangeAt Go.RowKit Go.Lib Go.Maps
set_option linter.unusedVariables false
set_option linter.unusedSimpArgs false

/-- The number ahead of the one at i. -/
def ahB (mark : Int) (bs : List Int) (i : Nat) : Int := if i = 0 then mark else bs.getD (i - 1) 0
theorem ahB_succ (mark : Int) (bs : List Int) (i : Nat) : ahB mark bs (i + 1) = bs.getD i 0 := by simp [ahB]
/-- The numbers may be beyond a mark. -/
structure MayB (mark : Int) (bs : List Int) : Prop where
  up : ∀ j, j < bs.length → ahB mark bs j < bs.getD j 0
  first : 0 < bs.length → mark + 1 < bs.getD 0 0
def grB (mark : Int) (bs : List Int) : Int := if bs.length = 0 then mark else bs.getD (bs.length - 1) 0
open Classical in
/-- What New answers, of a source that is there. -/
noncomputable def newC (mark : Int) (bs : List Int) (win : Int) (L : Nat) : Nat := if mark < 0 ∨ ¬ MayB mark bs ∨ win < 1 ∨ 64 < win then 1 else if (L : Int) < grB mark bs then 6 else 0
theorem newC_ok {mark : Int} {bs : List Int} {win : Int} {L : Nat} (h : newC mark bs win L = 0) : 0 ≤ mark ∧ MayB mark bs ∧ 1 ≤ win ∧ win ≤ 64 ∧ grB mark bs ≤ L := by
  unfold newC at h
  split at h
  · cases h
  · rename_i h1
    split at h
    · cases h
    · rename_i h2
      simp only [not_or, Classical.not_not] at h1
      exact ⟨by omega, h1.2.1, by omega, by omega, by omega⟩
theorem MayB.le {mark : Int} {bs : List Int} (h : MayB mark bs) : ∀ i j, i ≤ j → j < bs.length → bs.getD i 0 ≤ bs.getD j 0 := by
  intro i j hij hj
  induction j with
  | zero => obtain rfl : i = 0 := by omega
            exact Int.le_refl _
  | succ j ih =>
    by_cases e : i = j + 1
    · subst e; exact Int.le_refl _
    · have h1 := ih (by omega) (by omega)
      have h2 := h.up (j + 1) hj
      rw [ahB_succ] at h2
      omega
theorem MayB.gr {mark : Int} {bs : List Int} (h : MayB mark bs) : mark ≤ grB mark bs ∧ ∀ x ∈ bs, mark + 1 < x ∧ x ≤ grB mark bs := by
  by_cases h0 : bs.length = 0
  · have : bs = [] := List.eq_nil_of_length_eq_zero h0
    subst this
    exact ⟨by simp [grB], by simp⟩
  · have hf := h.first (by omega)
    have e : grB mark bs = bs.getD (bs.length - 1) 0 := by simp [grB, h0]
    rw [e]
    refine ⟨by have := h.le 0 (bs.length - 1) (by omega) (by omega); omega, fun x hx => ?_⟩
    obtain ⟨i, hi, rfl⟩ := List.getElem_of_mem hx
    have e1 : bs[i] = bs.getD i 0 := by simp [List.getD, hi]
    rw [e1]
    have a := h.le 0 i (by omega) hi
    have b := h.le i (bs.length - 1) (by omega) (by omega)
    exact ⟨by omega, b⟩
set_option maxHeartbeats 2000000 in
set_option maxRecDepth 100000 in
theorem fIsThere_any {w0 w : World} {g lb L : Nat} {ts : List Tm} {v : Value} {qs : List Nat} (h : Src w0 w g lb L ts v qs) : Calls Tryz.prog 94 #[.pointer (some ⟨g, 0, none⟩)] w fun e w' => e = .returned (.bool true) ∧ Fr [] w w' := by
  have HG : Hid (Calls _ _ _ _ _) := get_no h 0 (Or.inl (by omega)) (by omega)
  clear h
  go_enter Tryz.func94, Tryz.ntmps94
  go_wp2_with fail
  refine Calls.mono HG.out ?_
  rintro e w1 ⟨rfl, hF1⟩
  have hF2 : Fr [] w1 (w1.alloc (.cells #[.int .i64 0, .slice none 0 0] 59)) := Fr.alloc _ _ _
  have HF : Hid (Fr [] w (w1.alloc (.cells #[.int .i64 0, .slice none 0 0] 59))) := hF1.then hF2
  clear hF1 hF2
  go_wp2
  go_ret
  exact ⟨rfl, HF.out⟩
set_option maxHeartbeats 2000000 in
set_option maxRecDepth 100000 in
theorem fIsThere_no {w : World} {p : Value} (h : NoS p w) : Calls Tryz.prog 94 #[p] w fun e w' => e = .returned (.bool false) ∧ Fr [] w w' := by
  have HG : Hid (Calls _ _ _ _ _) := sGet_none h 0
  clear h
  go_enter Tryz.func94, Tryz.ntmps94
  go_wp2_with fail
  refine Calls.mono HG.out ?_
  rintro e w1 ⟨rfl, hF1⟩
  have hF2 : Fr [] w1 (w1.alloc (.cells #[.int .i64 0, .slice none 0 0] 59)) := Fr.alloc _ _ _
  have HF : Hid (Fr [] w (w1.alloc (.cells #[.int .i64 0, .slice none 0 0] 59))) := hF1.then hF2
  clear hF1 hF2
  go_wp2
  go_ret
  exact ⟨rfl, HF.out⟩
set_option maxHeartbeats 4000000 in
set_option maxRecDepth 100000 in
theorem fMayBe_any (mark : Int) (bo : Option Addr) (M bc : Nat) (bs : List Int) (w : World) (h : IRs w bo bs) (hM : M = bs.length) (hi : ∀ x ∈ bs, i64 x) (hm : i64 mark) (b : Bool) (hb : b = true ↔ MayB mark bs) :
    Calls Tryz.prog 95 #[.int .i64 mark, .slice bo M bc] w fun e w' => e = .returned (.bool b) ∧ Fr [] w w' := by
  have HM : Hid (M = bs.length) := hM
  have HB : Hid (b = true ↔ MayB mark bs) := hb
  have HI : Hid (∀ x ∈ bs, i64 x) := hi
  have hfew : M ≤ 17592186044416 := by rw [hM]; exact h.few
  obtain ⟨m1, m2⟩ := hm
  clear hM hb hi
  go_enter Tryz.func95, Tryz.ntmps95
  go_wp2_with fail
  go_loopw [5, 11] (fun aa ii wr => ∃ i : Nat, aa = .int .i64 (ahB mark bs i) ∧ ii = .int .i64 i ∧ i ≤ M ∧ Hid (∀ j, j < i → ahB mark bs j < bs.getD j 0) ∧ Hid (Fr [] w wr)) (fun _ ii _ => M - (RowKit.intOf ii).toNat)
  case atStart => exact ⟨0, by simp [ahB], rfl, Nat.zero_le _, fun j hj => by omega, Fr.refl _ _⟩
  case round =>
    obtain ⟨i, rfl, rfl, hiM, HU, HF⟩ := hrel
    by_cases hil : i < M
    · have hi' : i < bs.length := by rw [← HM.out]; exact hil
      obtain ⟨k, off, e, _, hc⟩ := (h.keep HF.out).lies (by omega)
      subst e
      have d0 := hc i hi'
      obtain ⟨x, hx⟩ : ∃ x, x = bs.getD i 0 := ⟨_, rfl⟩
      obtain ⟨a, ha⟩ : ∃ a, a = ahB mark bs i := ⟨_, rfl⟩
      rw [← hx] at d0
      have HX : Hid (x = bs.getD i 0) := hx
      have HA : Hid (a = ahB mark bs i) := ha
      rw [← ha]
      clear hc hx ha
      by_cases hle : x ≤ a
      · have HN : Hid (b = false) := by
          show _ = _
          have hn : ¬ MayB mark bs := fun hh => by have := hh.up i hi'; rw [← HX.out, ← HA.out] at this; omega
          cases b with
          | true => exact absurd (HB.out.1 rfl) hn
          | false => rfl
        clear HA HX
        go_wp2
        go_ret
        rw [HN.out]
        exact ⟨rfl, HF.out⟩
      · have hd : decide (x ≤ a) = false := by simpa using hle
        have HU2 : Hid (∀ j, j < i + 1 → ahB mark bs j < bs.getD j 0) := fun j hj => by
          by_cases e : j = i
          · rw [e, ← HX.out, ← HA.out]; omega
          · exact HU.out j (by omega)
        have HX2 : Hid (x = ahB mark bs (i + 1)) := by show _ = _; rw [ahB_succ]; exact HX.out
        clear HA HX HU
        go_wp2
        go_roundw
        case rel => exact ⟨i + 1, by rw [HX2.out], by simp, by omega, HU2, HF⟩
        case measure => simp [RowKit.intOf]; omega
    · obtain rfl : i = M := by omega
      by_cases h0 : 0 < i
      · have h0' : 0 < bs.length := by rw [← HM.out]; exact h0
        obtain ⟨k, off, e, _, hc⟩ := (h.keep HF.out).lies h0'
        subst e
        have d0 := hc 0 h0'
        rw [Nat.add_zero] at d0
        have hx0 := HU.out 0 h0
        have hxi : i64 (bs.getD 0 0) := HI.out _ (by simp [List.getD, h0'])
        obtain ⟨x, hx⟩ : ∃ x, x = bs.getD 0 0 := ⟨_, rfl⟩
        simp only [ahB, if_true] at hx0
        rw [← hx] at d0 hx0 hxi
        have HX : Hid (x = bs.getD 0 0) := hx
        obtain ⟨x1, x2⟩ := hxi
        have hnz : ((i : Int) == 0) = false := by rw [beq_eq_false_iff_ne]; omega
        have HR : Hid (decide (mark + 1 < x) = b) := by
          show _ = _
          have : (mark + 1 < x) ↔ MayB mark bs := ⟨fun hh => ⟨fun j hj => HU.out j (by rw [HM.out]; exact hj), fun _ => by rw [← HX.out]; exact hh⟩, fun hh => by have := hh.first h0'; rw [← HX.out] at this; exact this⟩
          have h2 := this.trans HB.out.symm
          cases b with
          | true => simpa using h2
          | false => simpa using h2
        clear hc hx HX HU
        go_wp2
        go_ret
        rw [HR.out]
        exact ⟨rfl, HF.out⟩
      · obtain rfl : i = 0 := by omega
        have HR : Hid (b = true) := HB.out.2 ⟨fun j hj => by have := HM.out; omega, fun hh => by have := HM.out; omega⟩
        go_wp2
        go_ret
        rw [HR.out]
        exact ⟨rfl, HF.out⟩
set_option maxHeartbeats 2000000 in
set_option maxRecDepth 100000 in
theorem fGreatest_any (mark : Int) (bo : Option Addr) (M bc : Nat) (bs : List Int) (w : World) (h : IRs w bo bs) (hM : M = bs.length) :
    Calls Tryz.prog 96 #[.int .i64 mark, .slice bo M bc] w fun e w' => e = .returned (.int .i64 (grB mark bs)) ∧ w = w' := by
  have hfew : M ≤ 17592186044416 := by rw [hM]; exact h.few
  by_cases h0 : 0 < M
  · obtain ⟨k, off, e, _, hc⟩ := h.lies (by omega)
    subst e
    have d0 := hc (M - 1) (by omega)
    have HE : Hid (grB mark bs = bs.getD (M - 1) 0) := by show _ = _; unfold grB; rw [if_neg (by omega), hM]
    rw [HE.out]
    obtain ⟨x, hx⟩ : ∃ x, x = bs.getD (M - 1) 0 := ⟨_, rfl⟩
    rw [← hx] at d0 ⊢
    obtain ⟨m, rfl⟩ : ∃ m, M = m + 1 := ⟨M - 1, by omega⟩
    simp only [Nat.add_sub_cancel] at d0
    have hnz : (((m + 1 : Nat) : Int) == 0) = false := by rw [beq_eq_false_iff_ne]; omega
    clear hc hx HE hM h
    go_enter Tryz.func96, Tryz.ntmps96
    go_wp2
    go_ret
    exact ⟨rfl, rfl⟩
  · obtain rfl : M = 0 := by omega
    have HE : Hid (grB mark bs = mark) := by show _ = _; unfold grB; rw [if_pos (by omega)]
    rw [HE.out]
    clear hM h
    go_enter Tryz.func96, Tryz.ntmps96
    go_wp2
    go_ret
    exact ⟨rfl, rfl⟩
/-- The numbers of a list, as a map says them. -/
def inF (bs : List Int) : Int → Option Unit := fun x => if x ∈ bs then some () else none
theorem inF_snoc (bs : List Int) (x : Int) : inF (bs ++ [x]) = updF (inF bs) x (some ()) := by
  funext y
  by_cases e : y = x
  · subst e; rw [updF_same]; simp [inF]
  · rw [updF_other _ _ e]; simp [inF, e]
set_option maxHeartbeats 4000000 in
set_option maxRecDepth 100000 in
theorem fKept_any (bo : Option Addr) (M bc : Nat) (bs : List Int) (w : World) (h : IRs w bo bs) (hM : M = bs.length) (hi : ∀ x ∈ bs, i64 x) :
    Calls Tryz.prog 97 #[.slice bo M bc] w fun e w' => ∃ mb, e = .returned (.map (some mb)) ∧ w.heap.size ≤ mb ∧ MapG kBey w' mb M (inF bs) ∧ Fr [] w w' := by
  have HM : Hid (M = bs.length) := hM
  have HI : Hid (∀ x ∈ bs, i64 x) := hi
  have hfew : M ≤ 17592186044416 := by rw [hM]; exact h.few
  have hmm := fun w => run_makeMapB (M : Int) w
  have hM0 : MapG kBey (w.alloc (.map #[] 0)) w.heap.size 0 (inF []) := by
    have e : inF [] = fun _ => none := by funext x; simp [inF]
    rw [e]; exact MapG.made w
  have hF0 : Fr [] w (w.alloc (.map #[] 0)) := Fr.alloc [] w _
  clear hM hi
  go_enter Tryz.func97, Tryz.ntmps97
  go_wp2_with fail
  obtain ⟨b, hb⟩ : ∃ b, b = w.heap.size := ⟨_, rfl⟩
  rw [← hb] at hM0 ⊢
  have hbw : w.heap.size ≤ b := by omega
  clear hb
  go_loopw [11] (fun ii wr => ∃ (i : Nat), ii = .int .i64 i ∧ i ≤ M ∧ Hid (MapG kBey wr b i (inF (bs.take i))) ∧ Fr [] w wr) (fun ii _ => M - (RowKit.intOf ii).toNat)
  case atStart => exact ⟨0, rfl, Nat.zero_le _, hM0, hF0⟩
  case round =>
    obtain ⟨i, rfl, hiL, HMp, hFr⟩ := hrel
    by_cases hi : i < M
    · have hi' : i < bs.length := by rw [← HM.out]; exact hi
      obtain ⟨bb, off, rfl, _, hc⟩ := (h.keep hFr).lies (by omega)
      have d0 := hc i hi'
      have hxi : i64 (bs.getD i 0) := HI.out _ (by simp [List.getD, hi'])
      have HT := itake_snoc bs i hi'
      obtain ⟨x, hx⟩ : ∃ x, x = bs.getD i 0 := ⟨_, rfl⟩
      rw [← hx] at d0 hxi HT
      clear hx hc
      obtain ⟨w4, hst, hM4, hF4⟩ := HMp.out.store x () hxi (by unfold maxLen; omega)
      have HM4 : Hid (MapG kBey w4 b (i + 1) (inF (bs.take (i + 1)))) := by
        show MapG _ _ _ _ _
        rw [HT, inF_snoc]
        exact hM4
      have hG4 : Fr [] w w4 := hFr.on hF4 (by intro x hx; simp at hx; omega)
      change (Instr.mapUpdate 161 (.map (some b)) (.int .i64 x) (.agg #[])).run Tryz.prog wr = .ok () w4 at hst
      clear hM4 hF4 HMp hFr HT
      go_wp2
      go_roundw
      case rel => exact ⟨i + 1, by simp, by omega, HM4, hG4⟩
      case measure => simp [RowKit.intOf]; omega
    · obtain rfl : i = M := by omega
      have HM1 : Hid (MapG kBey wr b i (inF bs)) := by
        have := HMp.out
        rw [List.take_of_length_le (by rw [← HM.out]; omega)] at this
        exact this
      go_wp2
      go_ret
      exact ⟨b, rfl, hbw, HM1.out, hFr⟩
end Go.Proofs.YtakbodlicfmkjaaGreat.F
