/- Texts of this claim laid together, one behind the other: contracts and plain lemmas; conditions as each names them. -/
import Derived.Test.YtdojhkgnnbdfkaaGreatGp25
import Derived.Test.YtdojhkgnnbdfkaaGreatGp26
import Derived.Test.YtdojhkgnnbdfkaaGreatGp12
/- The document's Check of a checkpoint. Conditions: it lies as it came in. -/
namespace Go.Proofs.YtdojhkgnnbdfkaaGreat
open BigFrame Go.ChangeShapes Go.WideShapes Go.ChangeAt Go.RowKit Go.Lib Go.Maps
set_option linter.unusedVariables false
set_option linter.unusedSimpArgs false

/-- What the document asks of one version. -/
def DcX (m : Int) (bs : List Int) (vs : List Vn) (k : Nat) : Prop := ((vs.getD k Vn.zero).num ≤ m → k = 0 ∧ (vs.getD k Vn.zero).drop = false) ∧ (m < (vs.getD k Vn.zero).num → (vs.getD k Vn.zero).num ∈ bs)
def DcV (m : Int) (bs : List Int) (vs : List Vn) (i : Nat) : Prop := ∀ k, k < i → DcX m bs vs k
theorem DcV.snoc {m : Int} {bs : List Int} {vs : List Vn} {i : Nat} (h : DcV m bs vs i) (h1 : DcX m bs vs i) : DcV m bs vs (i + 1) := fun k hk => by
  by_cases h2 : k = i
  · subst h2; exact h1
  · exact h k (by omega)
theorem DcV.sv {m : Int} {bs : List Int} {vs : List Vn} (h : DcV m bs vs vs.length) (hne : vs ≠ []) : SvV m bs vs := by
  have h0 : 0 < vs.length := List.length_pos_iff.2 hne
  have hall : ∀ k, k < vs.length → 0 < k → (vs.getD k Vn.zero).num ∈ bs := fun k hk hp => by
    obtain ⟨a, b⟩ := h k hk
    by_cases h1 : (vs.getD k Vn.zero).num ≤ m
    · have := (a h1).1; omega
    · exact b (by omega)
  constructor
  · intro h1
    refine ⟨((h 0 h0).1 h1).2, fun v hv => ?_⟩
    obtain ⟨j, hj, rfl⟩ := List.mem_iff_getElem.1 hv
    rw [List.length_drop] at hj
    have := hall (1 + j) (by omega) (by omega)
    rw [List.getElem_drop]
    simpa [List.getD, show 1 + j < vs.length by omega] using this
  · intro h1 v hv
    obtain ⟨j, hj, rfl⟩ := List.mem_iff_getElem.1 hv
    have e : vs[j] = vs.getD j Vn.zero := by simp [List.getD, hj]
    rw [e]
    by_cases hj0 : j = 0
    · subst hj0; exact (h 0 h0).2 h1
    · exact hall j hj (by omega)
theorem SvV.dc {m : Int} {bs : List Int} {vs : List Vn} (h : SvV m bs vs) (hb : BeyOk m bs) {k : Nat} (hk : k < vs.length) : DcX m bs vs k := by
  have hm : ∀ z, z ∈ bs → m < z := fun z hz => by have := hb.low z hz; omega
  have e : vs[k] = vs.getD k Vn.zero := by simp [List.getD, hk]
  by_cases h1 : (vs.getD 0 Vn.zero).num ≤ m
  · obtain ⟨a, b⟩ := h.1 h1
    by_cases hk0 : k = 0
    · subst hk0
      exact ⟨fun _ => ⟨rfl, a⟩, fun h2 => by omega⟩
    · have : (vs.getD k Vn.zero).num ∈ bs := by
        refine b _ ?_
        rw [← e]
        exact List.mem_iff_getElem.2 ⟨k - 1, by rw [List.length_drop]; omega, by rw [List.getElem_drop]; congr 1; omega⟩
      exact ⟨fun h2 => by have := hm _ this; omega, fun _ => this⟩
  · have : (vs.getD k Vn.zero).num ∈ bs := h.2 (by omega) _ (by rw [← e]; exact List.getElem_mem hk)
    exact ⟨fun h2 => by have := hm _ this; omega, fun _ => this⟩
set_option maxHeartbeats 16000000 in
set_option maxRecDepth 100000 in
theorem ywcheck_any (m : Int) (bo ho : Option Addr) (Lb cb Lh ch c : Nat) (bs : List Int) (hs : List Hd) (w : World) (hI : IRs w bo bs) (hLb : Lb = bs.length) (hH : HRs w ho hs) (hLh : Lh = hs.length) (hc : CkS m bs hs c) :
    Calls Tryz.prog 16 #[.agg #[.int .i64 m, .slice bo Lb cb, .slice ho Lh ch]] w fun e w' => e = .returned (.int .i64 (c : Int)) ∧ Fr [] w w' := by
  have HLb : Hid (Lb = bs.length) := hLb
  have HLh : Hid (Lh = hs.length) := hLh
  have hLL : Lh ≤ 3518437208882 := by have := hH.few; omega
  have HC : Hid (CkS m bs hs c) := hc
  obtain ⟨w1, HW1⟩ : ∃ w1, Hid (w.alloc (.cells #[.int .i64 m, .slice bo Lb cb, .slice ho Lh ch] 27) = w1) := ⟨_, rfl⟩
  have hF1 : Fr [] w w1 := by rw [← HW1.out]; exact Fr.alloc [] w _
  have hb1 : w1.heap[w.heap.size]? = some (.cells #[.int .i64 m, .slice bo Lb cb, .slice ho Lh ch] 27 (0, 0)) := by rw [← HW1.out]; exact heap_alloc_new w _
  have HBx : Hid (∀ W, Fr [] w1 W → W.cell? ⟨w.heap.size, 0, none⟩ = some (.int .i64 m) ∧ W.cell? ⟨w.heap.size, 1, none⟩ = some (.slice bo Lb cb) ∧ W.cell? ⟨w.heap.size, 2, none⟩ = some (.slice ho Lh ch)) := fun W hf => by
    have hr := hf.keep hb1 (by simp)
    exact ⟨by rw [cell_of_row _ _ _ _ _ _ hr]; rfl, by rw [cell_of_row _ _ _ _ _ _ hr]; rfl, by rw [cell_of_row _ _ _ _ _ _ hr]; rfl⟩
  have HI : Hid (∀ W, Fr [] w1 W → IRs W bo bs) := fun W hf => hI.keep (hF1.then hf)
  have HH : Hid (∀ W, Fr [] w1 W → HRs W ho hs) := fun W hf => hH.keep (hF1.then hf)
  obtain ⟨k0, k1, k2⟩ := HBx.out _ (Fr.refl _ _)
  have HF1 : Hid (Fr [] w w1) := hF1
  clear hI hH hLb hLh hc hb1 hF1
  obtain ⟨B, hB⟩ : ∃ B : Bool, B = true ↔ GokB m bs := by
    by_cases h : GokB m bs
    · exact ⟨true, by simp [h]⟩
    · exact ⟨false, by simp [h]⟩
  obtain ⟨A, hA⟩ : ∃ A : Bool, A = true ↔ LoOk hs := by
    by_cases h : LoOk hs
    · exact ⟨true, by simp [h]⟩
    · exact ⟨false, by simp [h]⟩
  have HY : Hid (Calls _ _ _ _ _) := omay18_any m bo Lb cb bs B w1 (HI.out _ (Fr.refl _ _)) HLb.out hB
  have HB : Hid (B = true ↔ GokB m bs) := hB
  have HA : Hid (A = true ↔ LoOk hs) := hA
  clear hB hA
  cases B with
  | false =>
    obtain rfl := HC.out.no (fun h => by have := HB.out.2 ⟨h.m0, h.m1, h.bey⟩; cases this)
    clear HC HBx HB HA
    go_enter Tryz.func16, Tryz.ntmps16
    go_upto_region 1 with fail
    rw [HW1.out]
    go_wp2_with fail
    refine Calls.mono HY.out ?_
    rintro e w2 ⟨rfl, hF2⟩
    have HF2 : Hid (Fr [] w w2) := HF1.out.then hF2
    clear hF2
    go_wp2
    go_ret
    exact ⟨rfl, HF2.out⟩
  | true =>
    have HG : Hid (GokB m bs) := HB.out.1 rfl
    clear HB
    go_enter Tryz.func16, Tryz.ntmps16
    go_upto_region 1 with fail
    rw [HW1.out]
    go_wp2_with fail
    refine Calls.mono HY.out ?_
    rintro e w2 ⟨rfl, hF2⟩
    have HF2 : Hid (Fr [] w1 w2) := hF2
    have HK : Hid (Calls _ _ _ _ _) := kmay_any ho Lh ch hs w2 (HH.out _ hF2) HLh.out A HA.out
    obtain ⟨k0, k1, k2⟩ := HBx.out _ hF2
    clear hF2 HY
    go_wp2_with fail
    refine Calls.mono HK.out ?_
    rintro e w3 ⟨rfl, hF3⟩
    have HF3 : Hid (Fr [] w1 w3) := HF2.out.then hF3
    obtain ⟨k0, k1, k2⟩ := HBx.out _ HF3.out
    clear hF3 HK HF2
    cases A with
    | false =>
      obtain rfl := HC.out.no (fun h => by have := HA.out.2 ((LoOk_iff hs).2 h.lo); cases this)
      clear HC HBx HA
      go_wp2
      go_ret
      exact ⟨rfl, HF1.out.then HF3.out⟩
    | true =>
      have HLo : Hid (LoOk hs) := HA.out.1 rfl
      clear HA
      go_wp2_with fail
      go_loopw [3] (fun ii wr => ∃ (i : Nat), ii = .int .i64 i ∧ i ≤ Lh ∧ Hid (∀ h ∈ hs.take i, SvV m bs h.vs) ∧ Hid (Fr [] w1 wr)) (fun ii _ => Lh - (RowKit.intOf ii).toNat)
      case atStart => exact ⟨0, rfl, Nat.zero_le _, by simp [Hid], HF3⟩
      case round =>
        obtain ⟨i, rfl, hiL, HA, HF⟩ := hrel
        rename World => wo
        obtain ⟨k0, k1, k2⟩ := HBx.out _ HF.out
        by_cases hi : i < Lh
        · have hi' : i < hs.length := by rw [← HLh.out]; exact hi
          have hlt : (i : Int) < Lh := by omega
          have hHr := HH.out _ HF.out
          obtain ⟨pb, off, rfl, hpb, hat⟩ := hHr.lies (by omega)
          obtain ⟨c0, c1⟩ := hat i hi'
          have hEc := hHr.each _ (hgetD_mem hs i hi')
          have hmem := hgetD_mem hs i hi'
          have hsn := htake_snoc hs i hi'
          obtain ⟨x, hx⟩ : ∃ x, x = hs.getD i Hd.zero := ⟨_, rfl⟩
          rw [← hx] at c0 c1 hEc hmem hsn
          have HMem : Hid (x ∈ hs) := hmem
          have HSn : Hid (hs.take (i + 1) = hs.take i ++ [x]) := hsn
          have HEc : Hid (HEach wo x) := hEc
          obtain ⟨key, vo, Lv, cv, vs⟩ := x
          simp only at c0 c1
          clear hx hat hpb hHr hEc hmem hsn
          have HNe : Hid (vs ≠ []) := (HLo.out.2 _ HMem.out).2.1
          have HLv : Hid (Lv = vs.length) := HEc.out.len
          have hLvL : Lv ≤ 4398046511104 := by have h1 : vs.length ≤ 4398046511104 := HEc.out.rs.few; have := HLv.out; omega
          have HV : Hid (∀ W, Fr [] wo W → VRs W vo vs) := fun W hf => HEc.out.rs.keep hf
          have HS2 : Hid (SvV m bs vs → ∀ h ∈ hs.take (i + 1), SvV m bs h.vs) := fun hT => by
            rw [HSn.out]
            intro v hv
            rcases List.mem_append.1 hv with h1 | h1
            · exact HA.out v h1
            · rw [List.mem_singleton] at h1; subst h1; exact hT
          have HBad : Hid (¬ SvV m bs vs → c = 1) := fun hT => HC.out.no (fun h => hT (h.sv _ (List.mem_map.2 ⟨_, HMem.out, rfl⟩)))
          clear HA HSn HMem HEc
          go_wp2_with fail
          go_loopw [5] (fun jj wr => ∃ (j : Nat), jj = .int .i64 j ∧ j ≤ Lv ∧ Hid (DcV m bs vs j) ∧ Hid (Fr [] wo wr)) (fun jj _ => Lv - (RowKit.intOf jj).toNat)
          case atStart => exact ⟨0, rfl, Nat.zero_le _, fun k hk => absurd hk (Nat.not_lt_zero _), Fr.refl _ _⟩
          case round =>
            obtain ⟨j, rfl, hjL, HD, HFq⟩ := hrel
            obtain ⟨k0, k1, k2⟩ := HBx.out _ (HF.out.then HFq.out)
            by_cases hj : j < Lv
            · have hj' : j < vs.length := by rw [← HLv.out]; exact hj
              have hlj : (j : Int) < Lv := by omega
              obtain ⟨qb, qo, rfl, hqb, hqt⟩ := (HV.out _ HFq.out).lies (by omega)
              obtain ⟨d0, d1, d2⟩ := hqt j hj'
              have HDx : Hid (DcX m bs vs j → DcV m bs vs (j + 1)) := fun h => HD.out.snoc h
              have HDn : Hid (¬ DcX m bs vs j → c = 1) := fun h => HBad.out (fun h2 => h (h2.dc HG.out.2.2 hj'))
              obtain ⟨v, hv⟩ : ∃ v, v = vs.getD j Vn.zero := ⟨_, rfl⟩
              rw [← hv] at d0 d1 d2
              unfold DcX at HDx HDn
              rw [← hv] at HDx HDn
              obtain ⟨num, val, drop⟩ := v
              simp only at d0 d1 d2 HDx HDn
              clear hv hqt
              by_cases hnm : num ≤ m
              · have hdn : decide (num ≤ m) = true := by simpa using hnm
                by_cases hj0 : 0 < j
                · have hc1 := HDn.out (fun h => by have := (h.1 hnm).1; omega)
                  subst hc1
                  have hjd : (0 : Int) < (j : Int) := by omega
                  clear HDn HDx HC HBad HD HS2
                  go_wp2_with fail
                  go_quiet (fail)
                  have HFn : Hid (Fr [] w (wr.drewN nq)) := HF1.out.then (HF.out.then (HFq.out.then (Fr.drewN _ _ _)))
                  go_wp2
                  go_ret
                  exact ⟨rfl, HFn.out⟩
                · have hjd : ¬ (0 : Int) < (j : Int) := by omega
                  cases drop with
                  | true =>
                    have hc1 := HDn.out (fun h => by have := (h.1 hnm).2; cases this)
                    subst hc1
                    clear HDn HDx HC HBad HD HS2
                    go_wp2_with fail
                    go_quiet (fail)
                    have HFn : Hid (Fr [] w (wr.drewN nq)) := HF1.out.then (HF.out.then (HFq.out.then (Fr.drewN _ _ _)))
                    go_wp2
                    go_ret
                    exact ⟨rfl, HFn.out⟩
                  | false =>
                    have HD2 : Hid (DcV m bs vs (j + 1)) := HDx.out ⟨fun _ => ⟨by omega, rfl⟩, fun h => by omega⟩
                    clear HDn HDx HD
                    go_wp2_with fail
                    go_quiet (fail)
                    have HFn : Hid (Fr [] wo (wr.drewN nq)) := HFq.out.then (Fr.drewN _ _ _)
                    go_wp2
                    go_roundw
                    case rel => exact ⟨j + 1, by simp, by omega, HD2, HFn⟩
                    case measure => simp [RowKit.intOf]; omega
              · have hdn : decide (num ≤ m) = false := by simpa using hnm
                obtain ⟨T, hT⟩ : ∃ T : Bool, T = true ↔ num ∈ bs := ⟨decide (num ∈ bs), by simp⟩
                have HAm : Hid (∀ W, Fr [] wr W → Calls Tryz.prog 34 #[.slice bo Lb cb, .int .i64 num] W fun e w' => e = .returned (.bool T) ∧ w' = W) := fun W hf => (ywamong_any bo Lb cb bs num T _ (HI.out _ (HF.out.then (HFq.out.then hf))) HLb.out hT).mono (fun e w' h => ⟨h.1, h.2.symm⟩)
                have HQ : Hid (∀ n, (wr.drewN n).cell? ⟨qb, qo + j * 3, none⟩ = some (.int .i64 num)) := fun n => (World.cell?_of_block ((Fr.drewN [] wr n).block qb hqb (by simp))).trans d0
                have HT : Hid (T = true ↔ num ∈ bs) := hT
                clear hT
                cases T with
                | false =>
                  have hc1 := HDn.out (fun h => by have := HT.out.2 (h.2 (by omega)); cases this)
                  subst hc1
                  clear HDn HDx HC HBad HD HS2
                  go_wp2_with fail
                  go_quiet (fail)
                  have HFn : Hid (Fr [] w (wr.drewN nq)) := HF1.out.then (HF.out.then (HFq.out.then (Fr.drewN _ _ _)))
                  have hF5 : Fr [] wr (wr.drewN nq) := Fr.drewN _ _ _
                  have d5 := HQ.out nq
                  obtain ⟨k0, k1, k2⟩ := HBx.out _ (HF.out.then (HFq.out.then hF5))
                  go_wp2_with fail
                  obtain ⟨w5, hw5⟩ : ∃ w5, w5 = wr.drewN nq := ⟨_, rfl⟩
                  rw [← hw5] at HFn hF5 d5 k0 k1 k2 ⊢
                  clear hw5 HQ
                  have HAn : Hid (∀ q, Calls Tryz.prog 34 #[.slice bo Lb cb, .int .i64 num] (w5.drewN q) fun e w' => e = .returned (.bool false) ∧ w' = w5.drewN q) := fun q => HAm.out _ (hF5.then (Fr.drewN _ _ _))
                  go_quiet ((go_at_call 34; exact Calls.quiet_of_same (HAn.out _)))
                  go_wp2
                  go_ret
                  exact ⟨rfl, HFn.out.then (Fr.drewN _ _ _)⟩
                | true =>
                  have HD2 : Hid (DcV m bs vs (j + 1)) := HDx.out ⟨fun h => by omega, fun _ => HT.out.1 rfl⟩
                  clear HDn HDx HD
                  go_wp2_with fail
                  go_quiet (fail)
                  have HFn : Hid (Fr [] wo (wr.drewN nq)) := HFq.out.then (Fr.drewN _ _ _)
                  have hF5 : Fr [] wr (wr.drewN nq) := Fr.drewN _ _ _
                  have d5 := HQ.out nq
                  obtain ⟨k0, k1, k2⟩ := HBx.out _ (HF.out.then (HFq.out.then hF5))
                  go_wp2_with fail
                  obtain ⟨w5, hw5⟩ : ∃ w5, w5 = wr.drewN nq := ⟨_, rfl⟩
                  rw [← hw5] at HFn hF5 d5 k0 k1 k2 ⊢
                  clear hw5 HQ
                  have HAn : Hid (∀ q, Calls Tryz.prog 34 #[.slice bo Lb cb, .int .i64 num] (w5.drewN q) fun e w' => e = .returned (.bool true) ∧ w' = w5.drewN q) := fun q => HAm.out _ (hF5.then (Fr.drewN _ _ _))
                  go_quiet ((go_at_call 34; exact Calls.quiet_of_same (HAn.out _)))
                  go_wp2
                  go_roundw
                  case rel => exact ⟨j + 1, by simp, by omega, HD2, HFn.out.then (Fr.drewN _ _ _)⟩
                  case measure => simp [RowKit.intOf]; omega
            · have hlj : ¬ (j : Int) < Lv := by omega
              have HA2 : Hid (∀ h ∈ hs.take (i + 1), SvV m bs h.vs) := HS2.out (DcV.sv (by have := HD.out; have h1 := HLv.out; rwa [show j = vs.length by omega] at this) HNe.out)
              have HFn : Hid (Fr [] w1 wr) := HF.out.then HFq.out
              clear HS2 HBad HD
              go_wp2_with fail
              go_roundw
              case rel => exact ⟨i + 1, by simp, by omega, HA2, HFn⟩
              case measure => simp [RowKit.intOf]; omega
        · have hi2 : hs.length ≤ i := by have := HLh.out; omega
          obtain rfl := HC.out.yes ⟨HG.out.1, HG.out.2.1, HG.out.2.2, (LoOk_iff hs).1 HLo.out, fun p hp => by
            obtain ⟨h, hh, rfl⟩ := List.mem_map.1 hp
            exact HA.out h (by rw [List.take_of_length_le hi2]; exact hh)⟩
          have hlt : ¬ (i : Int) < Lh := by omega
          clear hi2 HC HA
          go_wp2
          go_ret
          exact ⟨rfl, HF1.out.then HF.out⟩
end Go.Proofs.YtdojhkgnnbdfkaaGreat
/- Putting a checkpoint's parts: contracts of putNumber, putHeld over a writer. Conditions as each names them. -/
namespace Go.Proofs.YtdojhkgnnbdfkaaGreat
open Go.ChangeShapes Go.WideShapes Go.ChangeAt Go.RowKit Go.Lib Go.Maps
set_option linter.unusedVariables false
set_option linter.unusedSimpArgs false

theorem u64_nat (n : Int) (h0 : 0 ≤ n) (h1 : n ≤ 1099511627776) : IntKind.u64.wrap n = n := by rw [wr_u64]; omega
/-- Blocks of other things than a writer's stay. -/
def Kp (w w' : World) : Prop := ∀ (b : Nat) (cs : Array Value) (t : TypeId), t ≠ 5 → t ≠ 150 → w.heap[b]? = some (.cells cs t (0, 0)) → w'.heap[b]? = some (.cells cs t (0, 0))
theorem Kp.refl (w : World) : Kp w w := fun _ _ _ _ _ h => h
theorem Kp.of {w w' : World} (h : Fr [] w w') : Kp w w' := fun b cs t _ _ hb => h.keep hb (by simp)
theorem Kp.then {w w1 w2 : World} (h : Kp w w1) (k : Kp w1 w2) : Kp w w2 := fun b cs t h1 h2 hb => k b cs t h1 h2 (h b cs t h1 h2 hb)
theorem Wr.kp {w w' : World} {g : Nat} {v : Value} {xs : List Nat} (h : Wr w g v xs) (hF : Fr (Wr.own g v) w w') : Kp w w' := by
  intro b cs t h1 h2 hb
  refine hF.keep hb (fun hm => ?_)
  simp only [Wr.own, List.mem_cons, Option.mem_toList] at hm
  rcases hm with rfl | hm
  · rw [h.box] at hb
    simp only [Option.some.injEq, Obj.cells.injEq] at hb
    exact h2 hb.2.1.symm
  · obtain ⟨_, cur, hc⟩ := owns_cells h.row hm
    rw [hc] at hb
    simp only [Option.some.injEq, Obj.cells.injEq] at hb
    exact h1 hb.2.1.symm
/-- Such a call puts ys. -/
def Puts (w0 w : World) (g : Nat) (zs : List Nat) (w' : World) : Prop := ∃ v', WB w0 w' g v' zs ∧ Kp w w'
theorem putT_any (w0 : World) (g : Nat) (v : Value) (xs : List Nat) (s : ByteArray) (w : World) (h : WB w0 w g v xs) (hlen : xs.length < 2^39) (hs : s.size < 2^39) :
    Calls Tryz.prog 92 #[.pointer (some ⟨g, 0, none⟩), .string s] w fun e w' => e = .returned (.tuple #[]) ∧ Puts w0 w g (xs ++ encS s) w' := by
  refine (text_any g v xs s w h.wr (by omega) (by omega)).mono ?_
  rintro e w' ⟨rfl, v', hW, hF, hM⟩
  exact ⟨rfl, v', h.next hW hF hM, h.wr.kp hF⟩
theorem putF_any (w0 : World) (g : Nat) (v : Value) (xs : List Nat) (d : Int) (w : World) (h : WB w0 w g v xs) (hlen : xs.length < 2^39) (hd : d = 0 ∨ d = 1) :
    Calls Tryz.prog 93 #[.pointer (some ⟨g, 0, none⟩), .int .u64 d, .int .i64 1] w fun e w' => e = .returned (.int .i64 0) ∧ Puts w0 w g (xs ++ [d.toNat]) w' := by
  refine (fixed_any g v xs d 1 w h.wr (by omega) (by omega) (by decide) (by decide) ?_ (by omega)).mono ?_
  · rcases hd with rfl | rfl <;> decide
  · rintro e w' ⟨rfl, v', hW, hF, hM⟩
    have e1 : leB (1 : Int).toNat d.toNat = [d.toNat] := by rcases hd with rfl | rfl <;> rfl
    rw [e1] at hW
    exact ⟨rfl, v', h.next hW hF hM, h.wr.kp hF⟩
set_option maxHeartbeats 1000000 in
theorem putN_any (w0 : World) (g : Nat) (v : Value) (xs : List Nat) (n : Int) (w : World) (h : WB w0 w g v xs) (hlen : xs.length < 2^39) (h0 : 0 ≤ n) (h1 : n ≤ 1099511627776) :
    Calls Tryz.prog 73 #[.pointer (some ⟨g, 0, none⟩), .int .i64 n] w fun e w' => e = .returned (.tuple #[]) ∧ Puts w0 w g (xs ++ enc n.toNat) w' := by
  have HC : Hid (Calls Tryz.prog 91 #[.pointer (some ⟨g, 0, none⟩), .int .u64 n] w fun e w' => e = .returned (.tuple #[]) ∧ Puts w0 w g (xs ++ enc n.toNat) w') := by
    refine (var_any g v xs n w h.wr h0 (by omega) (by omega)).mono ?_
    rintro e w' ⟨rfl, v', hW, hF, hM⟩
    exact ⟨rfl, v', h.next hW hF hM, h.wr.kp hF⟩
  have hw := u64_nat n h0 h1
  clear h hlen
  go_enter Tryz.func73, Tryz.ntmps73
  go_wp2_with fail
  refine Calls.mono HC.out ?_
  rintro e w1 ⟨rfl, hP⟩
  go_wp2
  go_end0
  exact ⟨rfl, hP⟩
theorem fm_len {α : Type} (f : α → List Nat) (l : List α) (i : Nat) : ((l.take i).flatMap f).length ≤ (l.flatMap f).length := by
  conv => rhs; rw [← List.take_append_drop i l]
  rw [List.flatMap_append, List.length_append]
  omega
set_option maxHeartbeats 8000000 in
set_option maxRecDepth 100000 in
theorem putH_any (w0 : World) (g : Nat) (v : Value) (xs : List Nat) (key : ByteArray) (vo : Option Addr) (Lv cv : Nat) (vs : List Vn) (w : World) (h : WB w0 w g v xs) (hV : ∀ W, Fr [] w0 W → VRs W vo vs) (hLv : Lv = vs.length) (hk : key.size ≤ 64) (hok : okV vs) (hlen : xs.length + (encK (key, vs)).length < 2^38) :
    Calls Tryz.prog 74 #[.pointer (some ⟨g, 0, none⟩), .agg #[.string key, .slice vo Lv cv]] w fun e w' => e = .returned (.tuple #[]) ∧ Puts w0 w g (xs ++ encK (key, vs)) w' := by
  have HLv : Hid (Lv = vs.length) := hLv
  have HV : Hid (∀ W, Fr [] w0 W → VRs W vo vs) := hV
  have HO : Hid (okV vs) := hok
  have hLv1 : Lv ≤ 65536 := by rw [hLv]; exact okV_few hok
  have he : (encK (key, vs)).length = (encS key).length + ((enc vs.length).length + (encXs vs).length) := by simp [encK]
  have hxs : xs.length < 2^38 := by omega
  have hlk : (xs ++ encS key).length < 2^38 := by rw [List.length_append]; omega
  have hlv : (xs ++ encS key ++ enc Lv).length < 2^38 := by rw [List.length_append, List.length_append, hLv]; omega
  have HLen : Hid ((xs ++ encS key ++ enc Lv).length + (encXs vs).length < 2^38) := by show _ < _; rw [List.length_append, List.length_append, hLv]; omega
  obtain ⟨w1, HW1⟩ : ∃ w1, Hid (w.alloc (.cells #[.string key, .slice vo Lv cv] 58) = w1) := ⟨_, rfl⟩
  have hF1 : Fr [] w w1 := by rw [← HW1.out]; exact Fr.alloc [] w _
  have hb1 : w1.heap[w.heap.size]? = some (.cells #[.string key, .slice vo Lv cv] 58 (0, 0)) := by rw [← HW1.out]; exact heap_alloc_new w _
  have HBx : Hid (∀ W, Kp w1 W → W.cell? ⟨w.heap.size, 0, none⟩ = some (.string key) ∧ W.cell? ⟨w.heap.size, 1, none⟩ = some (.slice vo Lv cv)) := fun W hf => by
    have hr := hf _ _ _ (by decide) (by decide) hb1
    exact ⟨by rw [cell_of_row _ _ _ _ _ _ hr]; rfl, by rw [cell_of_row _ _ _ _ _ _ hr]; rfl⟩
  have HK1 : Hid (Kp w w1) := Kp.of hF1
  obtain ⟨k0, k1⟩ := HBx.out _ (Kp.refl _)
  have HC : Hid (Calls _ _ _ _ _) := putT_any w0 g v xs key w1 (h.quiet hF1) (by omega) (by omega)
  have HE : Hid (xs ++ encK (key, vs) = xs ++ encS key ++ enc Lv ++ encXs vs) := by show _ = _; rw [hLv]; simp [encK]
  clear hV hok hLv he hb1 hF1 hlen h
  go_enter Tryz.func74, Tryz.ntmps74
  go_upto_region 1 with fail
  rw [HW1.out]
  go_wp2_with fail
  refine Calls.mono HC.out ?_
  rintro e w2 ⟨rfl, v2, hB2, hK2⟩
  obtain ⟨k0, k1⟩ := HBx.out _ hK2
  have HC2 : Hid (Calls _ _ _ _ _) := putN_any w0 g v2 (xs ++ encS key) (Lv : Int) w2 hB2 (by omega) (by omega) (by omega)
  have HK2 : Hid (Kp w1 w2) := hK2
  clear HC hB2 hK2
  go_wp2_with fail
  refine Calls.mono HC2.out ?_
  rintro e w3 ⟨rfl, v3, hB3, hK3⟩
  have HK3 : Hid (Kp w1 w3) := HK2.out.then hK3
  obtain ⟨k0, k1⟩ := HBx.out _ HK3.out
  rw [Int.toNat_natCast] at hB3
  have HB3 : Hid (WB w0 w3 g v3 (xs ++ encS key ++ enc Lv)) := hB3
  clear HC2 hB3 hK3 HK2
  go_wp2_with fail
  go_loopw [18] (fun ii wr => ∃ (i : Nat) (vv : Value) (us : List Nat), ii = .int .i64 i ∧ i ≤ Lv ∧ Hid (us = xs ++ encS key ++ enc Lv ++ encXs (vs.take i)) ∧ Hid (WB w0 wr g vv us) ∧ Hid (Kp w1 wr)) (fun ii _ => Lv - (RowKit.intOf ii).toNat)
  case atStart => exact ⟨0, v3, _, rfl, Nat.zero_le _, by simp [Hid, encXs], HB3, HK3⟩
  case round =>
    obtain ⟨i, vv, us, rfl, hiL, HU, HB, HK⟩ := hrel
    by_cases hi : i < Lv
    · have hi' : i < vs.length := by rw [← HLv.out]; exact hi
      have hlt : (i : Int) < Lv := by omega
      obtain ⟨pb, off, rfl, hpb, hat⟩ := (HV.out _ HB.out.fr).lies (by omega)
      obtain ⟨c0, c1, c2⟩ := hat i hi'
      have hokx := HO.out.1 _ (vgetD_mem vs i hi')
      have hsn := vtake_snoc vs i hi'
      obtain ⟨x, hx⟩ : ∃ x, x = vs.getD i Vn.zero := ⟨_, rfl⟩
      rw [← hx] at c0 c1 c2 hokx hsn
      have HU2 : Hid (us ++ encX x = xs ++ encS key ++ enc Lv ++ encXs (vs.take (i + 1))) := by
        show _ = _
        rw [hsn, HU.out]
        simp [encXs]
      have hul : us.length + (encX x).length < 2^38 := by
        have a := fm_len encX vs (i + 1)
        have b := congrArg List.length HU2.out
        have cc := HLen.out
        simp only [encXs, List.length_append] at a b cc ⊢
        omega
      obtain ⟨num, val, drop⟩ := x
      obtain ⟨q1, q2, q3, q4⟩ := hokx
      simp only at c0 c1 c2 q1 q2 q3 q4
      have hex : (encX ⟨num, val, drop⟩).length = (enc num.toNat).length + (encV ⟨num, val, drop⟩).length := by simp [encX]
      have hev := encS_length val
      obtain ⟨w4, HW4⟩ : ∃ w4, Hid (wr.alloc (.cells #[.int .i64 num, .string val, .bool drop] 74) = w4) := ⟨_, rfl⟩
      have hF4 : Fr [] wr w4 := by rw [← HW4.out]; exact Fr.alloc [] wr _
      have hb4 : w4.heap[wr.heap.size]? = some (.cells #[.int .i64 num, .string val, .bool drop] 74 (0, 0)) := by rw [← HW4.out]; exact heap_alloc_new wr _
      have HBv : Hid (∀ W, Kp w4 W → W.cell? ⟨wr.heap.size, 0, none⟩ = some (.int .i64 num) ∧ W.cell? ⟨wr.heap.size, 1, none⟩ = some (.string val) ∧ W.cell? ⟨wr.heap.size, 2, none⟩ = some (.bool drop)) := fun W hf => by
        have hr := hf _ _ _ (by decide) (by decide) hb4
        exact ⟨by rw [cell_of_row _ _ _ _ _ _ hr]; rfl, by rw [cell_of_row _ _ _ _ _ _ hr]; rfl, by rw [cell_of_row _ _ _ _ _ _ hr]; rfl⟩
      obtain ⟨x0, x1, x2⟩ := HBv.out _ (Kp.refl _)
      have HK4 : Hid (Kp w1 w4) := HK.out.then (Kp.of hF4)
      have HC5 : Hid (Calls _ _ _ _ _) := putN_any w0 g vv us num w4 (HB.out.quiet hF4) (by omega) (by omega) (by omega)
      have hl5 : (us ++ enc num.toNat).length < 2^38 := by rw [List.length_append]; omega
      have hl6 : (us ++ enc num.toNat ++ [(0 : Int).toNat]).length < 2^39 := by rw [List.length_append]; simp only [List.length_cons, List.length_nil]; omega
      clear hx hat hpb hsn hb4 hF4 HU HB HK hex hul
      go_upto_region 6 with fail
      rw [HW4.out]
      go_wp2_with fail
      refine Calls.mono HC5.out ?_
      rintro e w5 ⟨rfl, v5, hB5, hK5⟩
      obtain ⟨x0, x1, x2⟩ := HBv.out _ hK5
      have HK5 : Hid (Kp w4 w5) := hK5
      have HB5 : Hid (WB w0 w5 g v5 (us ++ enc num.toNat)) := hB5
      clear HC5 hB5 hK5
      cases drop with
      | true =>
        have HC6 : Hid (Calls _ _ _ _ _) := putF_any w0 g v5 (us ++ enc num.toNat) 1 w5 HB5.out (by omega) (Or.inr rfl)
        have HE6 : Hid (us ++ enc num.toNat ++ [(1 : Int).toNat] = us ++ encX ⟨num, val, true⟩) := by show _ = _; simp [encX, encV]
        go_wp2_with fail
        refine Calls.mono HC6.out ?_
        rintro e w6 ⟨rfl, v6, hB6, hK6⟩
        rw [HE6.out] at hB6
        have HR : Hid (WB w0 w6 g v6 (us ++ encX ⟨num, val, true⟩) ∧ Kp w1 w6) := ⟨hB6, HK4.out.then (HK5.out.then hK6)⟩
        clear HC6 hB6 hK6 HE6
        go_wp2_with fail
        go_roundw
        case rel => exact ⟨i + 1, v6, _, by simp, by omega, HU2, HR.out.1, HR.out.2⟩
        case measure => simp [RowKit.intOf]; omega
      | false =>
        have HC6 : Hid (Calls _ _ _ _ _) := putF_any w0 g v5 (us ++ enc num.toNat) 0 w5 HB5.out (by omega) (Or.inl rfl)
        have HE6 : Hid (us ++ enc num.toNat ++ [(0 : Int).toNat] ++ encS val = us ++ encX ⟨num, val, false⟩) := by show _ = _; simp [encX, encV]
        go_wp2_with fail
        refine Calls.mono HC6.out ?_
        rintro e w6 ⟨rfl, v6, hB6, hK6⟩
        obtain ⟨x0, x1, x2⟩ := HBv.out _ (HK5.out.then hK6)
        have HK6 : Hid (Kp w4 w6) := HK5.out.then hK6
        have HC7 : Hid (Calls _ _ _ _ _) := putT_any w0 g v6 _ val w6 hB6 hl6 (by omega)
        clear HC6 hB6 hK6
        go_wp2_with fail
        refine Calls.mono HC7.out ?_
        rintro e w7 ⟨rfl, v7, hB7, hK7⟩
        rw [HE6.out] at hB7
        have HR : Hid (WB w0 w7 g v7 (us ++ encX ⟨num, val, false⟩) ∧ Kp w1 w7) := ⟨hB7, HK4.out.then (HK6.out.then hK7)⟩
        clear HC7 hB7 hK7 HE6
        go_wp2_with fail
        go_roundw
        case rel => exact ⟨i + 1, v7, _, by simp, by omega, HU2, HR.out.1, HR.out.2⟩
        case measure => simp [RowKit.intOf]; omega
    · have hi2 : vs.length ≤ i := by have := HLv.out; omega
      have HR : Hid (Puts w0 w g (xs ++ encK (key, vs)) wr) := ⟨vv, by
        have h1 := HB.out
        rw [HU.out, List.take_of_length_le hi2, ← HE.out] at h1
        exact h1, HK1.out.then HK.out⟩
      have hlt : ¬ (i : Int) < Lv := by omega
      clear hi2 HU HB HK
      go_wp2
      go_end0
      exact ⟨rfl, HR.out⟩
end Go.Proofs.YtdojhkgnnbdfkaaGreat
