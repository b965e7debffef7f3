/- Texts of this claim laid together, one behind the other: contracts and plain lemmas; conditions as each names them. -/
import Derived.Test.YtdojhkgnnbdfkaaGreatGp12
import Derived.Shelf.Slices.SearchI
import Derived.Shelf.Slices.Empties
import Derived.Shelf.Lay
import Derived.Ground.Names2Prog
/- May what a checkpoint says be? Contracts of beyondMayBe, saved, Check. Conditions as each names them. -/
namespace Go.Proofs
open Go.Shelf
shelf_lay Lays2.n25 Nm2 25 at Tryz as Tryz.laysBS
end Go.Proofs
namespace Go.Proofs.YtdojhkgnnbdfkaaGreat
open Go.ChangeShapes Go.WideShapes Go.ChangeAt Go.RowKit Go.Lib Go.Maps Go.Shelf
set_option linter.unusedVariables false
set_option linter.unusedSimpArgs false

theorem bs_any (ao : Option Addr) (L cap : Nat) (ns : List Int) (x : Int) (B : Bool) (w : World) (hI : IRs w ao ns) (hL : L = ns.length) (hs : ns.Pairwise (· < ·)) (hB : B = true ↔ x ∈ ns) :
    Calls Tryz.prog 48 #[.slice ao L cap, .int .i64 x] w fun e w' => ∃ i : Int, e = .returned (.tuple #[.int .i64 i, .bool B]) ∧ Fr [] w w' := by
  have hB2 : B = ns.contains x := by
    cases B with
    | true => symm; simpa using hB.1 rfl
    | false => symm; simp; intro h; have := hB.2 h; cases this
  rcases Nat.eq_zero_or_pos ns.length with h0 | h0
  · obtain rfl : ns = [] := List.eq_nil_of_length_eq_zero h0
    simp at hL
    subst hL
    have hcon := Any.slices_BinarySearch_int_empty Tryz.laysBS ao cap x w
    change Calls Tryz.prog 48 _ _ _ at hcon
    refine hcon.mono ?_
    rintro e w' ⟨rfl, rfl⟩
    exact ⟨0, by rw [hB2]; rfl, Fr.refl _ _⟩
  · obtain ⟨b, off, rfl, hb, hc⟩ := hI.lies h0
    have hcon := Any.slices_BinarySearch_int Tryz.laysBS b off L cap ns x w (by omega) (by have := hI.few; omega) hc (by rw [hL, List.take_length]; exact hs.imp (fun h => by omega))
    change Calls Tryz.prog 48 _ _ _ at hcon
    refine hcon.mono ?_
    rintro e w' ⟨rfl, q, rfl⟩
    rw [hL, List.take_length]
    exact ⟨_, by rw [hB2], Fr.drewN _ _ _⟩
/-- The least that the next number beyond may be. -/
def lastB (m : Int) (bs : List Int) (i : Nat) : Int := if i = 0 then m + 2 else bs.getD (i - 1) 0 + 1
theorem lastB_succ (m : Int) (bs : List Int) (i : Nat) : lastB m bs (i + 1) = bs.getD i 0 + 1 := by unfold lastB; rw [if_neg (by omega), Nat.add_sub_cancel]
theorem BeyOk.nil (m : Int) : BeyOk m [] := ⟨List.Pairwise.nil, by simp, by simp⟩
theorem BeyOk.take {m : Int} {bs : List Int} (h : BeyOk m bs) (i : Nat) : BeyOk m (bs.take i) := ⟨h.rise.sublist (List.take_sublist _ _), fun b hb => h.low b (List.mem_of_mem_take hb), fun b hb => h.high b (List.mem_of_mem_take hb)⟩
theorem BeyOk.step {m : Int} {bs : List Int} {i : Nat} (h : BeyOk m (bs.take i)) (hi : i < bs.length) : BeyOk m (bs.take (i + 1)) ↔ lastB m bs i ≤ bs.getD i 0 ∧ bs.getD i 0 ≤ 65536 := by
  rw [itake_snoc bs i hi]
  have hmem : ∀ j, j < i → bs.getD j 0 ∈ bs.take i := fun j hj => List.mem_iff_getElem.2 ⟨j, by simp; omega, by simp [List.getD, show j < bs.length by omega]⟩
  constructor
  · rintro ⟨h1, h2, h3⟩
    refine ⟨?_, h3 _ (by simp)⟩
    unfold lastB
    by_cases h0 : i = 0
    · rw [if_pos h0]; exact h2 _ (by simp)
    · rw [if_neg h0]
      have := (List.pairwise_append.1 h1).2.2 _ (hmem (i - 1) (by omega)) (bs.getD i 0) (by simp)
      omega
  · rintro ⟨h1, h2⟩
    have hlow : ∀ b ∈ bs.take i, b < bs.getD i 0 := by
      intro b hb
      obtain ⟨j, hj, e⟩ := List.mem_iff_getElem.1 hb
      have hj' : j < i := by simp at hj; omega
      have h0 : i ≠ 0 := by omega
      unfold lastB at h1
      rw [if_neg h0] at h1
      have eb : b = bs.getD j 0 := by rw [← e]; simp [List.getD, show j < bs.length by omega]
      by_cases hjl : j = i - 1
      · rw [eb, hjl]; omega
      · have hp := List.pairwise_iff_getElem.1 h.rise j (i - 1) (by simp; omega) (by simp; omega) (by omega)
        simp only [List.getElem_take] at hp
        have e2 : bs.getD (i - 1) 0 = bs[i - 1] := by simp [List.getD, show i - 1 < bs.length by omega]
        have e3 : bs.getD j 0 = bs[j] := by simp [List.getD, show j < bs.length by omega]
        rw [eb]
        omega
    refine ⟨?_, ?_, ?_⟩
    · rw [List.pairwise_append]
      exact ⟨h.rise, List.pairwise_singleton _ _, fun a ha b hb => by rw [List.mem_singleton] at hb; subst hb; exact hlow a ha⟩
    · intro b hb
      rcases List.mem_append.1 hb with h3 | h3
      · exact h.low b h3
      · rw [List.mem_singleton] at h3
        subst h3
        by_cases h0 : i = 0
        · unfold lastB at h1; rw [if_pos h0] at h1; exact h1
        · have a1 := hlow _ (hmem 0 (by omega))
          have a2 := h.low _ (hmem 0 (by omega))
          omega
    · intro b hb
      rcases List.mem_append.1 hb with h3 | h3
      · exact h.high b h3
      · rw [List.mem_singleton] at h3; subst h3; exact h2
set_option maxHeartbeats 4000000 in
set_option maxRecDepth 100000 in
theorem bey_any (m : Int) (ao : Option Addr) (L cap : Nat) (bs : List Int) (B : Bool) (w : World) (hI : IRs w ao bs) (hL : L = bs.length) (hm0 : 0 ≤ m) (hm1 : m ≤ 65536) (hB : B = true ↔ BeyOk m bs) :
    Calls Tryz.prog 25 #[.int .i64 m, .slice ao L cap] w fun e w' => e = .returned (.bool B) ∧ w = w' := by
  have HL : Hid (L = bs.length) := hL
  have HI : Hid (IRs w ao bs) := hI
  have hLL : L ≤ 17592186044416 := by have := hI.few; omega
  have HB : Hid (B = true ↔ BeyOk m bs) := hB
  clear hL hI hB
  go_enter Tryz.func25, Tryz.ntmps25
  go_wp2_with fail
  go_loopw [5, 12] (fun ss ii wr => ∃ (i : Nat) (l : Int), ss = .int .i64 l ∧ ii = .int .i64 i ∧ i ≤ L ∧ Hid (l = lastB m bs i) ∧ Hid (BeyOk m (bs.take i)) ∧ w = wr) (fun _ ii _ => L - (RowKit.intOf ii).toNat)
  case atStart => exact ⟨0, m + 2, rfl, rfl, Nat.zero_le _, rfl, BeyOk.nil _, rfl⟩
  case round =>
    obtain ⟨i, l, rfl, rfl, hiL, HLa, HK, rfl⟩ := hrel
    by_cases hi : i < L
    · have hi' : i < bs.length := by rw [← HL.out]; exact hi
      have hlt : (i : Int) < L := by omega
      obtain ⟨b, off, rfl, hb, hc⟩ := HI.out.lies (by omega)
      have c0 := hc i hi'
      have hst := HK.out.step hi'
      rw [← HLa.out] at hst
      have hsu := lastB_succ m bs i
      obtain ⟨x, hx⟩ : ∃ x, x = bs.getD i 0 := ⟨_, rfl⟩
      rw [← hx] at c0 hst hsu
      have HSt : Hid (BeyOk m (bs.take (i + 1)) ↔ l ≤ x ∧ x ≤ 65536) := hst
      have HSu : Hid (lastB m bs (i + 1) = x + 1) := hsu
      have HNo : Hid (¬ BeyOk m (bs.take (i + 1)) → B = false) := fun h1 => by
        cases hBB : B with
        | false => rfl
        | true => exact absurd ((HB.out.1 hBB).take _) h1
      have hl2 : 2 ≤ l := by
        rw [HLa.out]
        unfold lastB
        by_cases h0 : i = 0
        · rw [if_pos h0]; omega
        · rw [if_neg h0]
          have := HK.out.low (bs.getD (i - 1) 0) (List.mem_iff_getElem.2 ⟨i - 1, by simp; omega, by simp [List.getD, show i - 1 < bs.length by omega]⟩)
          omega
      clear hx hst hsu hc HLa HB
      by_cases h1 : x < l
      · have hBf : B = false := HNo.out (fun h => by have := (HSt.out.1 h).1; omega)
        subst hBf
        clear HSt HSu HNo
        go_wp2
        go_ret
        exact ⟨rfl, rfl⟩
      · by_cases h2 : 65536 < x
        · have hBf : B = false := HNo.out (fun h => by have := (HSt.out.1 h).2; omega)
          subst hBf
          clear HSt HSu HNo
          go_wp2
          go_ret
          exact ⟨rfl, rfl⟩
        · have HK2 : Hid (BeyOk m (bs.take (i + 1))) := HSt.out.2 ⟨by omega, by omega⟩
          have h3 : x ≤ 65536 := by omega
          have h4 : l ≤ x := by omega
          clear HSt HNo h2 h1
          go_wp2_with fail
          go_roundw
          case rel => exact ⟨i + 1, x + 1, rfl, by simp, by omega, HSu.out.symm, HK2, by simp⟩
          case measure => simp [RowKit.intOf]; omega
    · have hiL2 : i = bs.length := by have := HL.out; omega
      have hBt : B = true := HB.out.2 (by have := HK.out; rw [hiL2, List.take_length] at this; exact this)
      subst hBt
      clear hiL2 HB HK HLa
      go_wp2
      go_ret
      exact ⟨rfl, rfl⟩
-- SAVED
set_option maxHeartbeats 8000000 in
set_option maxRecDepth 100000 in
theorem saved_any (vo bo : Option Addr) (Lv cv Lb cb : Nat) (vs : List Vn) (m : Int) (bs : List Int) (B : Bool) (w : World) (hV : VRs w vo vs) (hLv : Lv = vs.length) (hcv : Lv ≤ cv) (h0 : 0 < Lv) (hI : IRs w bo bs) (hLb : Lb = bs.length) (hr : bs.Pairwise (· < ·)) (hB : B = true ↔ SvV m bs vs) :
    Calls Tryz.prog 27 #[.slice vo Lv cv, .int .i64 m, .slice bo Lb cb] w fun e w' => e = .returned (.bool B) ∧ Fr [] w w' := by
  have HLv : Hid (Lv = vs.length) := hLv
  have HLb : Hid (Lb = bs.length) := hLb
  have HRi : Hid (bs.Pairwise (· < ·)) := hr
  have HVv : Hid (∀ W, Fr [] w W → VRs W vo vs) := fun W hf => hV.keep hf
  have HBI : Hid (∀ W, Fr [] w W → IRs W bo bs) := fun W hf => hI.keep hf
  have hLL : Lv ≤ 4398046511104 := by have := hV.few; omega
  have HB : Hid (B = true ↔ SvV m bs vs) := hB
  obtain ⟨pb, off, hpe, hpb, hat⟩ := hV.lies (by omega)
  obtain ⟨a0, a1, a2⟩ := hat 0 (by omega)
  obtain ⟨f, hf⟩ : ∃ f, f = vs.getD 0 Vn.zero := ⟨_, rfl⟩
  rw [← hf, Nat.zero_mul, Nat.add_zero] at a0 a1 a2
  have HFst : Hid (f = vs.getD 0 Vn.zero) := hf
  obtain ⟨fn, fv, fd⟩ := f
  simp only at a0 a1 a2
  obtain ⟨w1, HW1⟩ : ∃ w1, Hid (w.alloc (.cells #[.int .i64 fn, .string fv, .bool fd] 74) = w1) := ⟨_, rfl⟩
  have hF1 : Fr [] w w1 := by rw [← HW1.out]; exact Fr.alloc [] w _
  have hb1 : w1.heap[w.heap.size]? = some (.cells #[.int .i64 fn, .string fv, .bool fd] 74 (0, 0)) := by rw [← HW1.out]; exact heap_alloc_new w _
  have y0 : w1.cell? ⟨w.heap.size, 0, none⟩ = some (.int .i64 fn) := by rw [cell_of_row _ _ _ _ _ _ hb1]; rfl
  have y2 : w1.cell? ⟨w.heap.size, 2, none⟩ = some (.bool fd) := by rw [cell_of_row _ _ _ _ _ _ hb1]; rfl
  have HF1 : Hid (Fr [] w w1) := hF1
  clear hV hI hLv hLb hr hB hat hf hb1 hF1 hpb
  by_cases hfm : fn ≤ m
  · cases fd with
    | true =>
      have hBf : B = false := by
        cases hBB : B with
        | false => rfl
        | true =>
          have h1 := ((HB.out.1 hBB).1 (by rw [← HFst.out]; exact hfm)).1
          rw [← HFst.out] at h1
          cases h1
      subst hBf
      clear HB HFst
      subst hpe
      go_enter Tryz.func27, Tryz.ntmps27
      go_upto_region 2 with fail
      rw [HW1.out]
      go_wp2
      go_ret
      exact ⟨rfl, HF1.out⟩
    | false =>
      have hsl : ∀ w : World, (Instr.sliceAt 56 (.slice vo Lv cv) (some (.int .i64 1)) none none).run Tryz.prog w = .ok (.slice (fromV vo cv 1) (Lv - 1) (cv - 1)) w := fun w => slV_l vo Lv cv 1 (by omega) w
      have HV1 : Hid (∀ W, Fr [] w W → VRs W (fromV vo cv 1) (vs.drop 1)) := fun W hf => by
        have h1 := (HVv.out W hf).from cv 1 vs.length (by have := HLv.out; omega) (Nat.le_refl _) (by have := HLv.out; omega)
        rwa [List.take_of_length_le (by simp)] at h1
      have HL1 : Hid (Lv - 1 = (vs.drop 1).length) := by show _ = _; rw [List.length_drop, HLv.out]
      have HG0 : Hid (SvV m bs vs → ∀ v ∈ vs.drop 1, v.num ∈ bs) := fun h => (h.1 (by rw [← HFst.out]; exact hfm)).2
      have HG1 : Hid ((∀ v ∈ vs.drop 1, v.num ∈ bs) → SvV m bs vs) := fun h => ⟨fun _ => ⟨by rw [← HFst.out], h⟩, fun h2 => by rw [← HFst.out] at h2; simp only at h2; omega⟩
      clear HVv HFst
      have hvz : Hid (vo = some ⟨pb, off, none⟩) := hpe
      rw [hpe] at hsl ⊢
      rw [hpe] at HV1
      clear hpe hvz
      obtain ⟨so1, hso1⟩ : ∃ s, s = fromV (some ⟨pb, off, none⟩) cv 1 := ⟨_, rfl⟩
      rw [← hso1] at hsl HV1
      clear hso1
      have hsl1 := hsl w1
      clear hsl
      obtain ⟨L1, hL1⟩ : ∃ n, n = Lv - 1 := ⟨_, rfl⟩
      obtain ⟨c1, hc1⟩ : ∃ n, n = cv - 1 := ⟨_, rfl⟩
      rw [← hL1, ← hc1] at hsl1
      rw [← hL1] at HL1
      have hLL1 : L1 ≤ 4398046511104 := by omega
      clear hL1 hc1
      go_enter Tryz.func27, Tryz.ntmps27
      go_upto_region 2 with fail
      rw [HW1.out]
      go_wp2_with fail
      go_loopw [25] (fun ii wr => ∃ (i : Nat), ii = .int .i64 i ∧ i ≤ L1 ∧ Hid (∀ v ∈ (vs.drop 1).take i, v.num ∈ bs) ∧ Hid (Fr [] w wr)) (fun ii _ => L1 - (RowKit.intOf ii).toNat)
      case atStart => exact ⟨0, rfl, Nat.zero_le _, by simp [Hid], HF1⟩
      case round =>
        obtain ⟨i, rfl, hiL, HA, HF⟩ := hrel
        by_cases hi : i < L1
        · have hi' : i < (vs.drop 1).length := by have := HL1.out; omega
          have hlt : (i : Int) < (L1 : Nat) := by omega
          obtain ⟨pb, off, hpe, hpb, hat⟩ := (HV1.out _ HF.out).lies (by omega)
          obtain ⟨c0, c1, c2⟩ := hat i hi'
          have hmem := vgetD_mem (vs.drop 1) i hi'
          have hsn := vtake_snoc (vs.drop 1) i hi'
          obtain ⟨x, hx⟩ : ∃ x, x = (vs.drop 1).getD i Vn.zero := ⟨_, rfl⟩
          rw [← hx] at c0 c1 c2 hmem hsn
          have HMem : Hid (x ∈ vs.drop 1) := hmem
          have HSn : Hid ((vs.drop 1).take (i + 1) = (vs.drop 1).take i ++ [x]) := hsn
          obtain ⟨num, val, drop⟩ := x
          simp only at c0 c1 c2
          clear hx hat hmem hsn
          subst hpe
          obtain ⟨T, hT⟩ : ∃ T : Bool, T = true ↔ num ∈ bs := ⟨decide (num ∈ bs), by simp⟩
          obtain ⟨w2, HW2⟩ : ∃ w2, Hid (wr.alloc (.cells #[.int .i64 num, .string val, .bool drop] 74) = w2) := ⟨_, rfl⟩
          have hF2 : Fr [] wr w2 := by rw [← HW2.out]; exact Fr.alloc [] wr _
          have hb2 : w2.heap[wr.heap.size]? = some (.cells #[.int .i64 num, .string val, .bool drop] 74 (0, 0)) := by rw [← HW2.out]; exact heap_alloc_new wr _
          have x0 : w2.cell? ⟨wr.heap.size, 0, none⟩ = some (.int .i64 num) := by rw [cell_of_row _ _ _ _ _ _ hb2]; rfl
          have HBS : Hid (Calls _ _ _ _ _) := bs_any bo Lb cb bs num T w2 (HBI.out _ (HF.out.then hF2)) HLb.out HRi.out hT
          have HF2 : Hid (Fr [] w w2) := HF.out.then hF2
          have HT : Hid (T = true ↔ num ∈ bs) := hT
          clear hb2 hF2 hT HF
          go_upto_region 9 with fail
          rw [HW2.out]
          go_wp2_with fail
          refine Calls.mono HBS.out ?_
          rintro e w3 ⟨ix, rfl, hF3⟩
          have HF3 : Hid (Fr [] w w3) := HF2.out.then hF3
          clear hF3 HBS HF2
          cases T with
          | false =>
            have hBf : B = false := by
              cases hBB : B with
              | false => rfl
              | true =>
                have h1 := HG0.out (HB.out.1 hBB)
                have h2 := h1 _ HMem.out
                have := HT.out.2 h2
                cases this
            subst hBf
            clear HB HA HT HMem HSn
            go_wp2
            go_ret
            exact ⟨rfl, HF3.out⟩
          | true =>
            have HA2 : Hid (∀ v ∈ (vs.drop 1).take (i + 1), v.num ∈ bs) := by
              show ∀ v ∈ (vs.drop 1).take (i + 1), v.num ∈ bs
              rw [HSn.out]
              intro v hv
              rcases List.mem_append.1 hv with h1 | h1
              · exact HA.out v h1
              · simp at h1; subst h1; exact HT.out.1 rfl
            clear HA HT HMem HSn
            go_wp2_with fail
            go_roundw
            case rel => exact ⟨i + 1, by simp, by omega, HA2, HF3⟩
            case measure => simp [RowKit.intOf]; omega
        · have hi2 : (vs.drop 1).length ≤ i := by have := HL1.out; omega
          have hBt : B = true := HB.out.2 (HG1.out (by have := HA.out; rw [List.take_of_length_le hi2] at this; exact this))
          subst hBt
          have hlt : ¬ (i : Int) < (L1 : Nat) := by omega
          clear hi2 HB HA
          go_wp2
          go_ret
          exact ⟨rfl, HF.out⟩
  · have hfm2 : m < fn := by omega
    have HG0 : Hid (SvV m bs vs → ∀ v ∈ vs, v.num ∈ bs) := fun h => h.2 (by rw [← HFst.out]; exact hfm2)
    have HG1 : Hid ((∀ v ∈ vs, v.num ∈ bs) → SvV m bs vs) := fun h => ⟨fun h2 => by rw [← HFst.out] at h2; simp only at h2; omega, fun _ => h⟩
    clear HFst
    rw [hpe]
    rw [hpe] at HVv
    clear hpe
    go_enter Tryz.func27, Tryz.ntmps27
    go_upto_region 2 with fail
    rw [HW1.out]
    go_wp2_with fail
    go_loopw [25] (fun ii wr => ∃ (i : Nat), ii = .int .i64 i ∧ i ≤ Lv ∧ Hid (∀ v ∈ (vs).take i, v.num ∈ bs) ∧ Hid (Fr [] w wr)) (fun ii _ => Lv - (RowKit.intOf ii).toNat)
    case atStart => exact ⟨0, rfl, Nat.zero_le _, by simp [Hid], HF1⟩
    case round =>
      obtain ⟨i, rfl, hiL, HA, HF⟩ := hrel
      by_cases hi : i < Lv
      · have hi' : i < (vs).length := by have := HLv.out; omega
        have hlt : (i : Int) < (Lv : Nat) := by omega
        obtain ⟨pb, off, hpe, hpb, hat⟩ := (HVv.out _ HF.out).lies (by omega)
        obtain ⟨c0, c1, c2⟩ := hat i hi'
        have hmem := vgetD_mem (vs) i hi'
        have hsn := vtake_snoc (vs) i hi'
        obtain ⟨x, hx⟩ : ∃ x, x = (vs).getD i Vn.zero := ⟨_, rfl⟩
        rw [← hx] at c0 c1 c2 hmem hsn
        have HMem : Hid (x ∈ vs) := hmem
        have HSn : Hid ((vs).take (i + 1) = (vs).take i ++ [x]) := hsn
        obtain ⟨num, val, drop⟩ := x
        simp only at c0 c1 c2
        clear hx hat hmem hsn
        cases hpe
        obtain ⟨T, hT⟩ : ∃ T : Bool, T = true ↔ num ∈ bs := ⟨decide (num ∈ bs), by simp⟩
        obtain ⟨w2, HW2⟩ : ∃ w2, Hid (wr.alloc (.cells #[.int .i64 num, .string val, .bool drop] 74) = w2) := ⟨_, rfl⟩
        have hF2 : Fr [] wr w2 := by rw [← HW2.out]; exact Fr.alloc [] wr _
        have hb2 : w2.heap[wr.heap.size]? = some (.cells #[.int .i64 num, .string val, .bool drop] 74 (0, 0)) := by rw [← HW2.out]; exact heap_alloc_new wr _
        have x0 : w2.cell? ⟨wr.heap.size, 0, none⟩ = some (.int .i64 num) := by rw [cell_of_row _ _ _ _ _ _ hb2]; rfl
        have HBS : Hid (Calls _ _ _ _ _) := bs_any bo Lb cb bs num T w2 (HBI.out _ (HF.out.then hF2)) HLb.out HRi.out hT
        have HF2 : Hid (Fr [] w w2) := HF.out.then hF2
        have HT : Hid (T = true ↔ num ∈ bs) := hT
        clear hb2 hF2 hT HF
        go_upto_region 9 with fail
        rw [HW2.out]
        go_wp2_with fail
        refine Calls.mono HBS.out ?_
        rintro e w3 ⟨ix, rfl, hF3⟩
        have HF3 : Hid (Fr [] w w3) := HF2.out.then hF3
        clear hF3 HBS HF2
        cases T with
        | false =>
          have hBf : B = false := by
            cases hBB : B with
            | false => rfl
            | true =>
              have h1 := HG0.out (HB.out.1 hBB)
              have h2 := h1 _ HMem.out
              have := HT.out.2 h2
              cases this
          subst hBf
          clear HB HA HT HMem HSn
          go_wp2
          go_ret
          exact ⟨rfl, HF3.out⟩
        | true =>
          have HA2 : Hid (∀ v ∈ (vs).take (i + 1), v.num ∈ bs) := by
            show ∀ v ∈ (vs).take (i + 1), v.num ∈ bs
            rw [HSn.out]
            intro v hv
            rcases List.mem_append.1 hv with h1 | h1
            · exact HA.out v h1
            · simp at h1; subst h1; exact HT.out.1 rfl
          clear HA HT HMem HSn
          go_wp2_with fail
          go_roundw
          case rel => exact ⟨i + 1, by simp, by omega, HA2, HF3⟩
          case measure => simp [RowKit.intOf]; omega
      · have hi2 : (vs).length ≤ i := by have := HLv.out; omega
        have hBt : B = true := HB.out.2 (HG1.out (by have := HA.out; rw [List.take_of_length_le hi2] at this; exact this))
        subst hBt
        have hlt : ¬ (i : Int) < (Lv : Nat) := by omega
        clear hi2 HB HA
        go_wp2
        go_ret
        exact ⟨rfl, HF.out⟩
end Go.Proofs.YtdojhkgnnbdfkaaGreat
/- May what a checkpoint says be? Contract of Check. Conditions as each names them. -/
namespace Go.Proofs.YtdojhkgnnbdfkaaGreat
open Go.ChangeShapes Go.WideShapes Go.ChangeAt Go.RowKit Go.Lib Go.Maps
set_option linter.unusedVariables false
set_option linter.unusedSimpArgs false

/-- What Check answers. -/
def CkS (m : Int) (bs : List Int) (hs : List Hd) (c : Nat) : Prop := (c = 0 ∧ OkS m bs (hs.map Hd.kv)) ∨ (c = 1 ∧ ¬ OkS m bs (hs.map Hd.kv))
theorem CkS.ex (m : Int) (bs : List Int) (hs : List Hd) : ∃ c, CkS m bs hs c := by
  by_cases h : OkS m bs (hs.map Hd.kv)
  · exact ⟨0, Or.inl ⟨rfl, h⟩⟩
  · exact ⟨1, Or.inr ⟨rfl, h⟩⟩
theorem CkS.ok {m : Int} {bs : List Int} {hs : List Hd} (h : CkS m bs hs 0) : OkS m bs (hs.map Hd.kv) := by
  rcases h with ⟨_, h⟩ | ⟨h, _⟩
  · exact h
  · cases h
theorem CkS.no {m : Int} {bs : List Int} {hs : List Hd} {c : Nat} (h : CkS m bs hs c) (hn : ¬ OkS m bs (hs.map Hd.kv)) : c = 1 := by
  rcases h with ⟨_, h⟩ | ⟨h, _⟩
  · exact absurd h hn
  · exact h
theorem CkS.yes {m : Int} {bs : List Int} {hs : List Hd} {c : Nat} (h : CkS m bs hs c) (hn : OkS m bs (hs.map Hd.kv)) : c = 0 := by
  rcases h with ⟨h, _⟩ | ⟨_, h⟩
  · exact h
  · exact absurd hn h
set_option maxHeartbeats 8000000 in
set_option maxRecDepth 100000 in
theorem dcheck_any (m : Int) (bo ho : Option Addr) (Lb cb Lh ch c : Nat) (bs : List Int) (hs : List Hd) (w : World) (hI : IRs w bo bs) (hLb : Lb = bs.length) (hH : HRs w ho hs) (hLh : Lh = hs.length) (hc : CkS m bs hs c) :
    Calls Tryz.prog 12 #[.agg #[.int .i64 m, .slice bo Lb cb, .slice ho Lh ch]] w fun e w' => e = .returned (.int .i64 (c : Int)) ∧ Fr [] w w' := by
  have HLb : Hid (Lb = bs.length) := hLb
  have HLh : Hid (Lh = hs.length) := hLh
  have hLL : Lh ≤ 3518437208882 := by have := hH.few; omega
  have HC : Hid (CkS m bs hs c) := hc
  obtain ⟨w1, HW1⟩ : ∃ w1, Hid (w.alloc (.cells #[.int .i64 m, .slice bo Lb cb, .slice ho Lh ch] 27) = w1) := ⟨_, rfl⟩
  have hF1 : Fr [] w w1 := by rw [← HW1.out]; exact Fr.alloc [] w _
  have hb1 : w1.heap[w.heap.size]? = some (.cells #[.int .i64 m, .slice bo Lb cb, .slice ho Lh ch] 27 (0, 0)) := by rw [← HW1.out]; exact heap_alloc_new w _
  have HBx : Hid (∀ W, Fr [] w1 W → W.cell? ⟨w.heap.size, 0, none⟩ = some (.int .i64 m) ∧ W.cell? ⟨w.heap.size, 1, none⟩ = some (.slice bo Lb cb) ∧ W.cell? ⟨w.heap.size, 2, none⟩ = some (.slice ho Lh ch)) := fun W hf => by
    have hr := hf.keep hb1 (by simp)
    exact ⟨by rw [cell_of_row _ _ _ _ _ _ hr]; rfl, by rw [cell_of_row _ _ _ _ _ _ hr]; rfl, by rw [cell_of_row _ _ _ _ _ _ hr]; rfl⟩
  have HI : Hid (∀ W, Fr [] w1 W → IRs W bo bs) := fun W hf => hI.keep (hF1.then hf)
  have HH : Hid (∀ W, Fr [] w1 W → HRs W ho hs) := fun W hf => hH.keep (hF1.then hf)
  obtain ⟨k0, k1, k2⟩ := HBx.out _ (Fr.refl _ _)
  have HF1 : Hid (Fr [] w w1) := hF1
  clear hI hH hLb hLh hc hb1 hF1
  by_cases h0 : m < 0
  · obtain rfl := HC.out.no (fun h => by have := h.m0; omega)
    clear HC HBx
    go_enter Tryz.func12, Tryz.ntmps12
    go_upto_region 1 with fail
    rw [HW1.out]
    go_wp2
    go_ret
    exact ⟨rfl, HF1.out⟩
  · by_cases h1 : 65536 < m
    · obtain rfl := HC.out.no (fun h => by have := h.m1; omega)
      clear HC HBx
      go_enter Tryz.func12, Tryz.ntmps12
      go_upto_region 1 with fail
      rw [HW1.out]
      go_wp2
      go_ret
      exact ⟨rfl, HF1.out⟩
    · have h0' : 0 ≤ m := by omega
      have h1' : m ≤ 65536 := by omega
      obtain ⟨B, hB⟩ : ∃ B : Bool, B = true ↔ BeyOk m bs := by
        by_cases h : BeyOk m bs
        · exact ⟨true, by simp [h]⟩
        · exact ⟨false, by simp [h]⟩
      have HY : Hid (Calls _ _ _ _ _) := bey_any m bo Lb cb bs B w1 (HI.out _ (Fr.refl _ _)) HLb.out h0' h1' hB
      have HB : Hid (B = true ↔ BeyOk m bs) := hB
      clear h0 h1 hB
      cases B with
      | false =>
        obtain rfl := HC.out.no (fun h => by have := HB.out.2 h.bey; cases this)
        clear HC HBx HB
        go_enter Tryz.func12, Tryz.ntmps12
        go_upto_region 1 with fail
        rw [HW1.out]
        go_wp2_with fail
        refine Calls.mono HY.out ?_
        rintro e w2 ⟨rfl, rfl⟩
        go_wp2
        go_ret
        exact ⟨rfl, HF1.out⟩
      | true =>
        have HBe : Hid (BeyOk m bs) := HB.out.1 rfl
        have HLd : Hid (Calls _ _ _ _ _) := hload_any ho Lh ch hs w1 (HH.out _ (Fr.refl _ _)) HLh.out
        clear HB
        go_enter Tryz.func12, Tryz.ntmps12
        go_upto_region 1 with fail
        rw [HW1.out]
        go_wp2_with fail
        refine Calls.mono HY.out ?_
        rintro e w2 ⟨rfl, rfl⟩
        go_wp2_with fail
        refine Calls.mono HLd.out ?_
        rintro e w3 (⟨hlo, sb, b, rfl, _, hF3⟩ | ⟨hlo, rfl, hF3⟩)
        · have HLo : Hid (LoOk hs) := hlo
          have HF3 : Hid (Fr [] w1 w3) := hF3
          obtain ⟨k0, k1, k2⟩ := HBx.out _ hF3
          clear HY HLd hlo hF3
          go_wp2_with fail
          go_loopw [34] (fun ii wr => ∃ (i : Nat), ii = .int .i64 i ∧ i ≤ Lh ∧ Hid (∀ h ∈ hs.take i, SvV m bs h.vs) ∧ Hid (Fr [] w1 wr)) (fun ii _ => Lh - (RowKit.intOf ii).toNat)
          case atStart => exact ⟨0, rfl, Nat.zero_le _, by simp [Hid], HF3⟩
          case round =>
            obtain ⟨i, rfl, hiL, HA, HF⟩ := hrel
            by_cases hi : i < Lh
            · have hi' : i < hs.length := by rw [← HLh.out]; exact hi
              have hlt : (i : Int) < Lh := by omega
              have hHr := HH.out _ HF.out
              obtain ⟨pb, off, rfl, hpb, hat⟩ := hHr.lies (by omega)
              obtain ⟨c0, c1⟩ := hat i hi'
              have hEc := hHr.each _ (hgetD_mem hs i hi')
              have hmem := hgetD_mem hs i hi'
              have hsn := htake_snoc hs i hi'
              obtain ⟨x, hx⟩ : ∃ x, x = hs.getD i Hd.zero := ⟨_, rfl⟩
              rw [← hx] at c0 c1 hEc hmem hsn
              have HMem : Hid (x ∈ hs) := hmem
              have HSn : Hid (hs.take (i + 1) = hs.take i ++ [x]) := hsn
              have HEc : Hid (HEach wr x) := hEc
              obtain ⟨key, vo, Lv, cv, vs⟩ := x
              simp only at c0 c1
              clear hx hat hpb hHr hEc hmem hsn
              have hne : vs ≠ [] := (HLo.out.2 _ HMem.out).2.1
              have hLv : Lv = vs.length := HEc.out.len
              have hLv0 : 0 < Lv := by rw [hLv]; exact List.length_pos_iff.2 hne
              obtain ⟨T, hT⟩ : ∃ T : Bool, T = true ↔ SvV m bs vs := by
                by_cases h : SvV m bs vs
                · exact ⟨true, by simp [h]⟩
                · exact ⟨false, by simp [h]⟩
              obtain ⟨w4, HW4⟩ : ∃ w4, Hid (wr.alloc (.cells #[.string key, .slice vo Lv cv] 58) = w4) := ⟨_, rfl⟩
              have hF4 : Fr [] wr w4 := by rw [← HW4.out]; exact Fr.alloc [] wr _
              have hb4 : w4.heap[wr.heap.size]? = some (.cells #[.string key, .slice vo Lv cv] 58 (0, 0)) := by rw [← HW4.out]; exact heap_alloc_new wr _
              have x1 : w4.cell? ⟨wr.heap.size, 1, none⟩ = some (.slice vo Lv cv) := by rw [cell_of_row _ _ _ _ _ _ hb4]; rfl
              have HF4 : Hid (Fr [] w1 w4) := HF.out.then hF4
              have HS : Hid (Calls _ _ _ _ _) := saved_any vo bo Lv cv Lb cb vs m bs T w4 (HEc.out.rs.keep hF4) hLv HEc.out.cp hLv0 (HI.out _ HF4.out) HLb.out HBe.out.rise hT
              have HT : Hid (T = true ↔ SvV m bs vs) := hT
              obtain ⟨k0, k1, k2⟩ := HBx.out _ HF4.out
              clear hb4 hF4 hT HF hne hLv hLv0 HEc
              go_upto_region 9 with fail
              rw [HW4.out]
              go_wp2_with fail
              refine Calls.mono HS.out ?_
              rintro e w5 ⟨rfl, hF5⟩
              have HF5 : Hid (Fr [] w1 w5) := HF4.out.then hF5
              clear hF5 HS HF4
              cases T with
              | false =>
                obtain rfl := HC.out.no (fun h => by
                  have := HT.out.2 (h.sv _ (List.mem_map.2 ⟨_, HMem.out, rfl⟩))
                  cases this)
                clear HC HA HT HMem HSn
                go_wp2
                go_ret
                exact ⟨rfl, HF1.out.then HF5.out⟩
              | true =>
                have HA2 : Hid (∀ h ∈ hs.take (i + 1), SvV m bs h.vs) := by
                  show ∀ h ∈ hs.take (i + 1), SvV m bs h.vs
                  rw [HSn.out]
                  intro v hv
                  rcases List.mem_append.1 hv with h1 | h1
                  · exact HA.out v h1
                  · rw [List.mem_singleton] at h1; subst h1; exact HT.out.1 rfl
                clear HA HT HMem HSn
                go_wp2_with fail
                go_roundw
                case rel => exact ⟨i + 1, by simp, by omega, HA2, HF5⟩
                case measure => simp [RowKit.intOf]; omega
            · have hi2 : hs.length ≤ i := by have := HLh.out; omega
              obtain rfl := HC.out.yes ⟨h0', h1', HBe.out, (LoOk_iff hs).1 HLo.out, fun p hp => by
                obtain ⟨h, hh, rfl⟩ := List.mem_map.1 hp
                exact HA.out h (by rw [List.take_of_length_le hi2]; exact hh)⟩
              have hlt : ¬ (i : Int) < Lh := by omega
              clear hi2 HC HA
              go_wp2
              go_ret
              exact ⟨rfl, HF1.out.then HF.out⟩
        · obtain rfl := HC.out.no (fun h => hlo ((LoOk_iff hs).2 h.lo))
          have HF3 : Hid (Fr [] w1 w3) := hF3
          clear HC HBx HLd hlo hF3
          go_wp2
          go_ret
          exact ⟨rfl, HF1.out.then HF3.out⟩
end Go.Proofs.YtdojhkgnnbdfkaaGreat
