/- May what a checkpoint says be? Contract of Check. Conditions as each names them. -/
import Derived.Test.YtdojhkgnnbdfkaaGreatCk18
namespace Go.Proofs.YtdojhkgnnbdfkaaGreat
open Go.ChangeShapes Go.WideShapes Go.ChangeAt Go.RowKit Go.Lib Go.Maps
set_option linter.unusedVariables false
set_option linter.unusedSimpArgs false

/-- What Check answers. -/
def CkS (m : Int) (bs : List Int) (hs : List Hd) (c : Nat) : Prop := (c = 0 ∧ OkS m bs (hs.map Hd.kv)) ∨ (c = 1 ∧ ¬ OkS m bs (hs.map Hd.kv))
theorem CkS.ex (m : Int) (bs : List Int) (hs : List Hd) : ∃ c, CkS m bs hs c := by
  by_cases h : OkS m bs (hs.map Hd.kv)
  · exact ⟨0, Or.inl ⟨rfl, h⟩⟩
  · exact ⟨1, Or.inr ⟨rfl, h⟩⟩
theorem CkS.ok {m : Int} {bs : List Int} {hs : List Hd} (h : CkS m bs hs 0) : OkS m bs (hs.map Hd.kv) := by
  rcases h with ⟨_, h⟩ | ⟨h, _⟩
  · exact h
  · cases h
theorem CkS.no {m : Int} {bs : List Int} {hs : List Hd} {c : Nat} (h : CkS m bs hs c) (hn : ¬ OkS m bs (hs.map Hd.kv)) : c = 1 := by
  rcases h with ⟨_, h⟩ | ⟨h, _⟩
  · exact absurd h hn
  · exact h
theorem CkS.yes {m : Int} {bs : List Int} {hs : List Hd} {c : Nat} (h : CkS m bs hs c) (hn : OkS m bs (hs.map Hd.kv)) : c = 0 := by
  rcases h with ⟨h, _⟩ | ⟨_, h⟩
  · exact h
  · exact absurd hn h
set_option maxHeartbeats 8000000 in
set_option maxRecDepth 100000 in
theorem dcheck_any (m : Int) (bo ho : Option Addr) (Lb cb Lh ch c : Nat) (bs : List Int) (hs : List Hd) (w : World) (hI : IRs w bo bs) (hLb : Lb = bs.length) (hH : HRs w ho hs) (hLh : Lh = hs.length) (hc : CkS m bs hs c) :
    Calls Tryz.prog 12 #[.agg #[.int .i64 m, .slice bo Lb cb, .slice ho Lh ch]] w fun e w' => e = .returned (.int .i64 (c : Int)) ∧ Fr [] w w' := by
  have HLb : Hid (Lb = bs.length) := hLb
  have HLh : Hid (Lh = hs.length) := hLh
  have hLL : Lh ≤ 3518437208882 := by have := hH.few; omega
  have HC : Hid (CkS m bs hs c) := hc
  obtain ⟨w1, HW1⟩ : ∃ w1, Hid (w.alloc (.cells #[.int .i64 m, .slice bo Lb cb, .slice ho Lh ch] 27) = w1) := ⟨_, rfl⟩
  have hF1 : Fr [] w w1 := by rw [← HW1.out]; exact Fr.alloc [] w _
  have hb1 : w1.heap[w.heap.size]? = some (.cells #[.int .i64 m, .slice bo Lb cb, .slice ho Lh ch] 27 (0, 0)) := by rw [← HW1.out]; exact heap_alloc_new w _
  have HBx : Hid (∀ W, Fr [] w1 W → W.cell? ⟨w.heap.size, 0, none⟩ = some (.int .i64 m) ∧ W.cell? ⟨w.heap.size, 1, none⟩ = some (.slice bo Lb cb) ∧ W.cell? ⟨w.heap.size, 2, none⟩ = some (.slice ho Lh ch)) := fun W hf => by
    have hr := hf.keep hb1 (by simp)
    exact ⟨by rw [cell_of_row _ _ _ _ _ _ hr]; rfl, by rw [cell_of_row _ _ _ _ _ _ hr]; rfl, by rw [cell_of_row _ _ _ _ _ _ hr]; rfl⟩
  have HI : Hid (∀ W, Fr [] w1 W → IRs W bo bs) := fun W hf => hI.keep (hF1.then hf)
  have HH : Hid (∀ W, Fr [] w1 W → HRs W ho hs) := fun W hf => hH.keep (hF1.then hf)
  obtain ⟨k0, k1, k2⟩ := HBx.out _ (Fr.refl _ _)
  have HF1 : Hid (Fr [] w w1) := hF1
  clear hI hH hLb hLh hc hb1 hF1
  by_cases h0 : m < 0
  · obtain rfl := HC.out.no (fun h => by have := h.m0; omega)
    clear HC HBx
    go_enter Tryz.func12, Tryz.ntmps12
    go_upto_region 1 with fail
    rw [HW1.out]
    go_wp2
    go_ret
    exact ⟨rfl, HF1.out⟩
  · by_cases h1 : 65536 < m
    · obtain rfl := HC.out.no (fun h => by have := h.m1; omega)
      clear HC HBx
      go_enter Tryz.func12, Tryz.ntmps12
      go_upto_region 1 with fail
      rw [HW1.out]
      go_wp2
      go_ret
      exact ⟨rfl, HF1.out⟩
    · have h0' : 0 ≤ m := by omega
      have h1' : m ≤ 65536 := by omega
      obtain ⟨B, hB⟩ : ∃ B : Bool, B = true ↔ BeyOk m bs := by
        by_cases h : BeyOk m bs
        · exact ⟨true, by simp [h]⟩
        · exact ⟨false, by simp [h]⟩
      have HY : Hid (Calls _ _ _ _ _) := bey_any m bo Lb cb bs B w1 (HI.out _ (Fr.refl _ _)) HLb.out h0' h1' hB
      have HB : Hid (B = true ↔ BeyOk m bs) := hB
      clear h0 h1 hB
      cases B with
      | false =>
        obtain rfl := HC.out.no (fun h => by have := HB.out.2 h.bey; cases this)
        clear HC HBx HB
        go_enter Tryz.func12, Tryz.ntmps12
        go_upto_region 1 with fail
        rw [HW1.out]
        go_wp2_with fail
        refine Calls.mono HY.out ?_
        rintro e w2 ⟨rfl, rfl⟩
        go_wp2
        go_ret
        exact ⟨rfl, HF1.out⟩
      | true =>
        have HBe : Hid (BeyOk m bs) := HB.out.1 rfl
        have HLd : Hid (Calls _ _ _ _ _) := hload_any ho Lh ch hs w1 (HH.out _ (Fr.refl _ _)) HLh.out
        clear HB
        go_enter Tryz.func12, Tryz.ntmps12
        go_upto_region 1 with fail
        rw [HW1.out]
        go_wp2_with fail
        refine Calls.mono HY.out ?_
        rintro e w2 ⟨rfl, rfl⟩
        go_wp2_with fail
        refine Calls.mono HLd.out ?_
        rintro e w3 (⟨hlo, sb, b, rfl, _, hF3⟩ | ⟨hlo, rfl, hF3⟩)
        · have HLo : Hid (LoOk hs) := hlo
          have HF3 : Hid (Fr [] w1 w3) := hF3
          obtain ⟨k0, k1, k2⟩ := HBx.out _ hF3
          clear HY HLd hlo hF3
          go_wp2_with fail
          go_loopw [34] (fun ii wr => ∃ (i : Nat), ii = .int .i64 i ∧ i ≤ Lh ∧ Hid (∀ h ∈ hs.take i, SvV m bs h.vs) ∧ Hid (Fr [] w1 wr)) (fun ii _ => Lh - (RowKit.intOf ii).toNat)
          case atStart => exact ⟨0, rfl, Nat.zero_le _, by simp [Hid], HF3⟩
          case round =>
            obtain ⟨i, rfl, hiL, HA, HF⟩ := hrel
            by_cases hi : i < Lh
            · have hi' : i < hs.length := by rw [← HLh.out]; exact hi
              have hlt : (i : Int) < Lh := by omega
              have hHr := HH.out _ HF.out
              obtain ⟨pb, off, rfl, hpb, hat⟩ := hHr.lies (by omega)
              obtain ⟨c0, c1⟩ := hat i hi'
              have hEc := hHr.each _ (hgetD_mem hs i hi')
              have hmem := hgetD_mem hs i hi'
              have hsn := htake_snoc hs i hi'
              obtain ⟨x, hx⟩ : ∃ x, x = hs.getD i Hd.zero := ⟨_, rfl⟩
              rw [← hx] at c0 c1 hEc hmem hsn
              have HMem : Hid (x ∈ hs) := hmem
              have HSn : Hid (hs.take (i + 1) = hs.take i ++ [x]) := hsn
              have HEc : Hid (HEach wr x) := hEc
              obtain ⟨key, vo, Lv, cv, vs⟩ := x
              simp only at c0 c1
              clear hx hat hpb hHr hEc hmem hsn
              have hne : vs ≠ [] := (HLo.out.2 _ HMem.out).2.1
              have hLv : Lv = vs.length := HEc.out.len
              have hLv0 : 0 < Lv := by rw [hLv]; exact List.length_pos_iff.2 hne
              obtain ⟨T, hT⟩ : ∃ T : Bool, T = true ↔ SvV m bs vs := by
                by_cases h : SvV m bs vs
                · exact ⟨true, by simp [h]⟩
                · exact ⟨false, by simp [h]⟩
              obtain ⟨w4, HW4⟩ : ∃ w4, Hid (wr.alloc (.cells #[.string key, .slice vo Lv cv] 58) = w4) := ⟨_, rfl⟩
              have hF4 : Fr [] wr w4 := by rw [← HW4.out]; exact Fr.alloc [] wr _
              have hb4 : w4.heap[wr.heap.size]? = some (.cells #[.string key, .slice vo Lv cv] 58 (0, 0)) := by rw [← HW4.out]; exact heap_alloc_new wr _
              have x1 : w4.cell? ⟨wr.heap.size, 1, none⟩ = some (.slice vo Lv cv) := by rw [cell_of_row _ _ _ _ _ _ hb4]; rfl
              have HF4 : Hid (Fr [] w1 w4) := HF.out.then hF4
              have HS : Hid (Calls _ _ _ _ _) := saved_any vo bo Lv cv Lb cb vs m bs T w4 (HEc.out.rs.keep hF4) hLv HEc.out.cp hLv0 (HI.out _ HF4.out) HLb.out HBe.out.rise hT
              have HT : Hid (T = true ↔ SvV m bs vs) := hT
              obtain ⟨k0, k1, k2⟩ := HBx.out _ HF4.out
              clear hb4 hF4 hT HF hne hLv hLv0 HEc
              go_upto_region 9 with fail
              rw [HW4.out]
              go_wp2_with fail
              refine Calls.mono HS.out ?_
              rintro e w5 ⟨rfl, hF5⟩
              have HF5 : Hid (Fr [] w1 w5) := HF4.out.then hF5
              clear hF5 HS HF4
              cases T with
              | false =>
                obtain rfl := HC.out.no (fun h => by
                  have := HT.out.2 (h.sv _ (List.mem_map.2 ⟨_, HMem.out, rfl⟩))
                  cases this)
                clear HC HA HT HMem HSn
                go_wp2
                go_ret
                exact ⟨rfl, HF1.out.then HF5.out⟩
              | true =>
                have HA2 : Hid (∀ h ∈ hs.take (i + 1), SvV m bs h.vs) := by
                  show ∀ h ∈ hs.take (i + 1), SvV m bs h.vs
                  rw [HSn.out]
                  intro v hv
                  rcases List.mem_append.1 hv with h1 | h1
                  · exact HA.out v h1
                  · rw [List.mem_singleton] at h1; subst h1; exact HT.out.1 rfl
                clear HA HT HMem HSn
                go_wp2_with fail
                go_roundw
                case rel => exact ⟨i + 1, by simp, by omega, HA2, HF5⟩
                case measure => simp [RowKit.intOf]; omega
            · have hi2 : hs.length ≤ i := by have := HLh.out; omega
              obtain rfl := HC.out.yes ⟨h0', h1', HBe.out, (LoOk_iff hs).1 HLo.out, fun p hp => by
                obtain ⟨h, hh, rfl⟩ := List.mem_map.1 hp
                exact HA.out h (by rw [List.take_of_length_le hi2]; exact hh)⟩
              have hlt : ¬ (i : Int) < Lh := by omega
              clear hi2 HC HA
              go_wp2
              go_ret
              exact ⟨rfl, HF1.out.then HF.out⟩
        · obtain rfl := HC.out.no (fun h => hlo ((LoOk_iff hs).2 h.lo))
          have HF3 : Hid (Fr [] w1 w3) := hF3
          clear HC HBx HLd hlo hF3
          go_wp2
          go_ret
          exact ⟨rfl, HF1.out.then HF3.out⟩
end Go.Proofs.YtdojhkgnnbdfkaaGreat
