/- Texts of this claim laid together, one behind the other: contracts and plain lemmas; conditions as each names them. -/
import Derived.Test.YtldghdbfhikcoaaGreatDoorGp36
import Derived.Test.YtldghdbfhikcoaaGreatDoorGp37
import Derived.Test.YtldghdbfhikcoaaGreatDoorGp15
/- The document's Check of a checkpoint. Conditions: it lies as it came in. -/
namespace Go.Proofs.YtldghdbfhikcoaaGreatDoor
open BigFrame Go.ChangeShapes Go.WideShapes Go.ChangeAt Go.RowKit Go.Lib Go.Maps
set_option linter.unusedVariables false
set_option linter.unusedSimpArgs false

/-- What the document asks of one version. -/
def DcX (m : Int) (bs : List Int) (vs : List Vn) (k : Nat) : Prop := ((vs.getD k Vn.zero).num ≤ m → k = 0 ∧ (vs.getD k Vn.zero).drop = false) ∧ (m < (vs.getD k Vn.zero).num → (vs.getD k Vn.zero).num ∈ bs)
def DcV (m : Int) (bs : List Int) (vs : List Vn) (i : Nat) : Prop := ∀ k, k < i → DcX m bs vs k
theorem DcV.snoc {m : Int} {bs : List Int} {vs : List Vn} {i : Nat} (h : DcV m bs vs i) (h1 : DcX m bs vs i) : DcV m bs vs (i + 1) := fun k hk => by
  by_cases h2 : k = i
  · subst h2; exact h1
  · exact h k (by omega)
theorem DcV.sv {m : Int} {bs : List Int} {vs : List Vn} (h : DcV m bs vs vs.length) (hne : vs ≠ []) : SvV m bs vs := by
  have h0 : 0 < vs.length := List.length_pos_iff.2 hne
  have hall : ∀ k, k < vs.length → 0 < k → (vs.getD k Vn.zero).num ∈ bs := fun k hk hp => by
    obtain ⟨a, b⟩ := h k hk
    by_cases h1 : (vs.getD k Vn.zero).num ≤ m
    · have := (a h1).1; omega
    · exact b (by omega)
  constructor
  · intro h1
    refine ⟨((h 0 h0).1 h1).2, fun v hv => ?_⟩
    obtain ⟨j, hj, rfl⟩ := List.mem_iff_getElem.1 hv
    rw [List.length_drop] at hj
    have := hall (1 + j) (by omega) (by omega)
    rw [List.getElem_drop]
    simpa [List.getD, show 1 + j < vs.length by omega] using this
  · intro h1 v hv
    obtain ⟨j, hj, rfl⟩ := List.mem_iff_getElem.1 hv
    have e : vs[j] = vs.getD j Vn.zero := by simp [List.getD, hj]
    rw [e]
    by_cases hj0 : j = 0
    · subst hj0; exact (h 0 h0).2 h1
    · exact hall j hj (by omega)
theorem SvV.dc {m : Int} {bs : List Int} {vs : List Vn} (h : SvV m bs vs) (hb : BeyOk m bs) {k : Nat} (hk : k < vs.length) : DcX m bs vs k := by
  have hm : ∀ z, z ∈ bs → m < z := fun z hz => by have := hb.low z hz; omega
  have e : vs[k] = vs.getD k Vn.zero := by simp [List.getD, hk]
  by_cases h1 : (vs.getD 0 Vn.zero).num ≤ m
  · obtain ⟨a, b⟩ := h.1 h1
    by_cases hk0 : k = 0
    · subst hk0
      exact ⟨fun _ => ⟨rfl, a⟩, fun h2 => by omega⟩
    · have : (vs.getD k Vn.zero).num ∈ bs := by
        refine b _ ?_
        rw [← e]
        exact List.mem_iff_getElem.2 ⟨k - 1, by rw [List.length_drop]; omega, by rw [List.getElem_drop]; congr 1; omega⟩
      exact ⟨fun h2 => by have := hm _ this; omega, fun _ => this⟩
  · have : (vs.getD k Vn.zero).num ∈ bs := h.2 (by omega) _ (by rw [← e]; exact List.getElem_mem hk)
    exact ⟨fun h2 => by have := hm _ this; omega, fun _ => this⟩
set_option maxHeartbeats 16000000 in
set_option maxRecDepth 100000 in
theorem ywcheck_any (m : Int) (bo ho : Option Addr) (Lb cb Lh ch c : Nat) (bs : List Int) (hs : List Hd) (w : World) (hI : IRs w bo bs) (hLb : Lb = bs.length) (hH : HRs w ho hs) (hLh : Lh = hs.length) (hc : CkS m bs hs c) :
    Calls Tryz.prog 12 #[.agg #[.int .i64 m, .slice bo Lb cb, .slice ho Lh ch]] w fun e w' => e = .returned (.int .i64 (c : Int)) ∧ Fr [] w w' := by
  have HLb : Hid (Lb = bs.length) := hLb
  have HLh : Hid (Lh = hs.length) := hLh
  have hLL : Lh ≤ 3518437208882 := by have := hH.few; omega
  have HC : Hid (CkS m bs hs c) := hc
  obtain ⟨w1, HW1⟩ : ∃ w1, Hid (w.alloc (.cells #[.int .i64 m, .slice bo Lb cb, .slice ho Lh ch] 25) = w1) := ⟨_, rfl⟩
  have hF1 : Fr [] w w1 := by rw [← HW1.out]; exact Fr.alloc [] w _
  have hb1 : w1.heap[w.heap.size]? = some (.cells #[.int .i64 m, .slice bo Lb cb, .slice ho Lh ch] 25 (0, 0)) := by rw [← HW1.out]; exact heap_alloc_new w _
  have HBx : Hid (∀ W, Fr [] w1 W → W.cell? ⟨w.heap.size, 0, none⟩ = some (.int .i64 m) ∧ W.cell? ⟨w.heap.size, 1, none⟩ = some (.slice bo Lb cb) ∧ W.cell? ⟨w.heap.size, 2, none⟩ = some (.slice ho Lh ch)) := fun W hf => by
    have hr := hf.keep hb1 (by simp)
    exact ⟨by rw [cell_of_row _ _ _ _ _ _ hr]; rfl, by rw [cell_of_row _ _ _ _ _ _ hr]; rfl, by rw [cell_of_row _ _ _ _ _ _ hr]; rfl⟩
  have HI : Hid (∀ W, Fr [] w1 W → IRs W bo bs) := fun W hf => hI.keep (hF1.then hf)
  have HH : Hid (∀ W, Fr [] w1 W → HRs W ho hs) := fun W hf => hH.keep (hF1.then hf)
  obtain ⟨k0, k1, k2⟩ := HBx.out _ (Fr.refl _ _)
  have HF1 : Hid (Fr [] w w1) := hF1
  clear hI hH hLb hLh hc hb1 hF1
  obtain ⟨B, hB⟩ : ∃ B : Bool, B = true ↔ GokB m bs := by
    by_cases h : GokB m bs
    · exact ⟨true, by simp [h]⟩
    · exact ⟨false, by simp [h]⟩
  obtain ⟨A, hA⟩ : ∃ A : Bool, A = true ↔ LoOk hs := by
    by_cases h : LoOk hs
    · exact ⟨true, by simp [h]⟩
    · exact ⟨false, by simp [h]⟩
  have HY : Hid (Calls _ _ _ _ _) := omay18_any m bo Lb cb bs B w1 (HI.out _ (Fr.refl _ _)) HLb.out hB
  have HB : Hid (B = true ↔ GokB m bs) := hB
  have HA : Hid (A = true ↔ LoOk hs) := hA
  clear hB hA
  cases B with
  | false =>
    obtain rfl := HC.out.no (fun h => by have := HB.out.2 ⟨h.m0, h.m1, h.bey⟩; cases this)
    clear HC HBx HB HA
    go_enter Tryz.func12, Tryz.ntmps12
    go_upto_region 1 with fail
    rw [HW1.out]
    go_wp2_with fail
    refine Calls.mono HY.out ?_
    rintro e w2 ⟨rfl, hF2⟩
    have HF2 : Hid (Fr [] w w2) := HF1.out.then hF2
    clear hF2
    go_wp2
    go_ret
    exact ⟨rfl, HF2.out⟩
  | true =>
    have HG : Hid (GokB m bs) := HB.out.1 rfl
    clear HB
    go_enter Tryz.func12, Tryz.ntmps12
    go_upto_region 1 with fail
    rw [HW1.out]
    go_wp2_with fail
    refine Calls.mono HY.out ?_
    rintro e w2 ⟨rfl, hF2⟩
    have HF2 : Hid (Fr [] w1 w2) := hF2
    have HK : Hid (Calls _ _ _ _ _) := kmay_any ho Lh ch hs w2 (HH.out _ hF2) HLh.out A HA.out
    obtain ⟨k0, k1, k2⟩ := HBx.out _ hF2
    clear hF2 HY
    go_wp2_with fail
    refine Calls.mono HK.out ?_
    rintro e w3 ⟨rfl, hF3⟩
    have HF3 : Hid (Fr [] w1 w3) := HF2.out.then hF3
    obtain ⟨k0, k1, k2⟩ := HBx.out _ HF3.out
    clear hF3 HK HF2
    cases A with
    | false =>
      obtain rfl := HC.out.no (fun h => by have := HA.out.2 ((LoOk_iff hs).2 h.lo); cases this)
      clear HC HBx HA
      go_wp2
      go_ret
      exact ⟨rfl, HF1.out.then HF3.out⟩
    | true =>
      have HLo : Hid (LoOk hs) := HA.out.1 rfl
      clear HA
      go_wp2_with fail
      go_loopw [3] (fun ii wr => ∃ (i : Nat), ii = .int .i64 i ∧ i ≤ Lh ∧ Hid (∀ h ∈ hs.take i, SvV m bs h.vs) ∧ Hid (Fr [] w1 wr)) (fun ii _ => Lh - (RowKit.intOf ii).toNat)
      case atStart => exact ⟨0, rfl, Nat.zero_le _, by simp [Hid], HF3⟩
      case round =>
        obtain ⟨i, rfl, hiL, HA, HF⟩ := hrel
        rename World => wo
        obtain ⟨k0, k1, k2⟩ := HBx.out _ HF.out
        by_cases hi : i < Lh
        · have hi' : i < hs.length := by rw [← HLh.out]; exact hi
          have hlt : (i : Int) < Lh := by omega
          have hHr := HH.out _ HF.out
          obtain ⟨pb, off, rfl, hpb, hat⟩ := hHr.lies (by omega)
          obtain ⟨c0, c1⟩ := hat i hi'
          have hEc := hHr.each _ (hgetD_mem hs i hi')
          have hmem := hgetD_mem hs i hi'
          have hsn := htake_snoc hs i hi'
          obtain ⟨x, hx⟩ : ∃ x, x = hs.getD i Hd.zero := ⟨_, rfl⟩
          rw [← hx] at c0 c1 hEc hmem hsn
          have HMem : Hid (x ∈ hs) := hmem
          have HSn : Hid (hs.take (i + 1) = hs.take i ++ [x]) := hsn
          have HEc : Hid (HEach wo x) := hEc
          obtain ⟨key, vo, Lv, cv, vs⟩ := x
          simp only at c0 c1
          clear hx hat hpb hHr hEc hmem hsn
          have HNe : Hid (vs ≠ []) := (HLo.out.2 _ HMem.out).2.1
          have HLv : Hid (Lv = vs.length) := HEc.out.len
          have hLvL : Lv ≤ 4398046511104 := by have h1 : vs.length ≤ 4398046511104 := HEc.out.rs.few; have := HLv.out; omega
          have HV : Hid (∀ W, Fr [] wo W → VRs W vo vs) := fun W hf => HEc.out.rs.keep hf
          have HS2 : Hid (SvV m bs vs → ∀ h ∈ hs.take (i + 1), SvV m bs h.vs) := fun hT => by
            rw [HSn.out]
            intro v hv
            rcases List.mem_append.1 hv with h1 | h1
            · exact HA.out v h1
            · rw [List.mem_singleton] at h1; subst h1; exact hT
          have HBad : Hid (¬ SvV m bs vs → c = 1) := fun hT => HC.out.no (fun h => hT (h.sv _ (List.mem_map.2 ⟨_, HMem.out, rfl⟩)))
          clear HA HSn HMem HEc
          go_wp2_with fail
          go_loopw [5] (fun jj wr => ∃ (j : Nat), jj = .int .i64 j ∧ j ≤ Lv ∧ Hid (DcV m bs vs j) ∧ Hid (Fr [] wo wr)) (fun jj _ => Lv - (RowKit.intOf jj).toNat)
          case atStart => exact ⟨0, rfl, Nat.zero_le _, fun k hk => absurd hk (Nat.not_lt_zero _), Fr.refl _ _⟩
          case round =>
            obtain ⟨j, rfl, hjL, HD, HFq⟩ := hrel
            obtain ⟨k0, k1, k2⟩ := HBx.out _ (HF.out.then HFq.out)
            by_cases hj : j < Lv
            · have hj' : j < vs.length := by rw [← HLv.out]; exact hj
              have hlj : (j : Int) < Lv := by omega
              obtain ⟨qb, qo, rfl, hqb, hqt⟩ := (HV.out _ HFq.out).lies (by omega)
              obtain ⟨d0, d1, d2⟩ := hqt j hj'
              have HDx : Hid (DcX m bs vs j → DcV m bs vs (j + 1)) := fun h => HD.out.snoc h
              have HDn : Hid (¬ DcX m bs vs j → c = 1) := fun h => HBad.out (fun h2 => h (h2.dc HG.out.2.2 hj'))
              obtain ⟨v, hv⟩ : ∃ v, v = vs.getD j Vn.zero := ⟨_, rfl⟩
              rw [← hv] at d0 d1 d2
              unfold DcX at HDx HDn
              rw [← hv] at HDx HDn
              obtain ⟨num, val, drop⟩ := v
              simp only at d0 d1 d2 HDx HDn
              clear hv hqt
              by_cases hnm : num ≤ m
              · have hdn : decide (num ≤ m) = true := by simpa using hnm
                by_cases hj0 : 0 < j
                · have hc1 := HDn.out (fun h => by have := (h.1 hnm).1; omega)
                  subst hc1
                  have hjd : (0 : Int) < (j : Int) := by omega
                  clear HDn HDx HC HBad HD HS2
                  go_wp2_with fail
                  go_quiet (fail)
                  have HFn : Hid (Fr [] w (wr.drewN nq)) := HF1.out.then (HF.out.then (HFq.out.then (Fr.drewN _ _ _)))
                  go_wp2
                  go_ret
                  exact ⟨rfl, HFn.out⟩
                · have hjd : ¬ (0 : Int) < (j : Int) := by omega
                  cases drop with
                  | true =>
                    have hc1 := HDn.out (fun h => by have := (h.1 hnm).2; cases this)
                    subst hc1
                    clear HDn HDx HC HBad HD HS2
                    go_wp2_with fail
                    go_quiet (fail)
                    have HFn : Hid (Fr [] w (wr.drewN nq)) := HF1.out.then (HF.out.then (HFq.out.then (Fr.drewN _ _ _)))
                    go_wp2
                    go_ret
                    exact ⟨rfl, HFn.out⟩
                  | false =>
                    have HD2 : Hid (DcV m bs vs (j + 1)) := HDx.out ⟨fun _ => ⟨by omega, rfl⟩, fun h => by omega⟩
                    clear HDn HDx HD
                    go_wp2_with fail
                    go_quiet (fail)
                    have HFn : Hid (Fr [] wo (wr.drewN nq)) := HFq.out.then (Fr.drewN _ _ _)
                    go_wp2
                    go_roundw
                    case rel => exact ⟨j + 1, by simp, by omega, HD2, HFn⟩
                    case measure => simp [RowKit.intOf]; omega
              · have hdn : decide (num ≤ m) = false := by simpa using hnm
                obtain ⟨T, hT⟩ : ∃ T : Bool, T = true ↔ num ∈ bs := ⟨decide (num ∈ bs), by simp⟩
                have HAm : Hid (∀ W, Fr [] wr W → Calls Tryz.prog 41 #[.slice bo Lb cb, .int .i64 num] W fun e w' => e = .returned (.bool T) ∧ w' = W) := fun W hf => (ywamong_any bo Lb cb bs num T _ (HI.out _ (HF.out.then (HFq.out.then hf))) HLb.out hT).mono (fun e w' h => ⟨h.1, h.2.symm⟩)
                have HQ : Hid (∀ n, (wr.drewN n).cell? ⟨qb, qo + j * 3, none⟩ = some (.int .i64 num)) := fun n => (World.cell?_of_block ((Fr.drewN [] wr n).block qb hqb (by simp))).trans d0
                have HT : Hid (T = true ↔ num ∈ bs) := hT
                clear hT
                cases T with
                | false =>
                  have hc1 := HDn.out (fun h => by have := HT.out.2 (h.2 (by omega)); cases this)
                  subst hc1
                  clear HDn HDx HC HBad HD HS2
                  go_wp2_with fail
                  go_quiet (fail)
                  have HFn : Hid (Fr [] w (wr.drewN nq)) := HF1.out.then (HF.out.then (HFq.out.then (Fr.drewN _ _ _)))
                  have hF5 : Fr [] wr (wr.drewN nq) := Fr.drewN _ _ _
                  have d5 := HQ.out nq
                  obtain ⟨k0, k1, k2⟩ := HBx.out _ (HF.out.then (HFq.out.then hF5))
                  go_wp2_with fail
                  obtain ⟨w5, hw5⟩ : ∃ w5, w5 = wr.drewN nq := ⟨_, rfl⟩
                  rw [← hw5] at HFn hF5 d5 k0 k1 k2 ⊢
                  clear hw5 HQ
                  have HAn : Hid (∀ q, Calls Tryz.prog 41 #[.slice bo Lb cb, .int .i64 num] (w5.drewN q) fun e w' => e = .returned (.bool false) ∧ w' = w5.drewN q) := fun q => HAm.out _ (hF5.then (Fr.drewN _ _ _))
                  go_quiet ((go_at_call 41; exact Calls.quiet_of_same (HAn.out _)))
                  go_wp2
                  go_ret
                  exact ⟨rfl, HFn.out.then (Fr.drewN _ _ _)⟩
                | true =>
                  have HD2 : Hid (DcV m bs vs (j + 1)) := HDx.out ⟨fun h => by omega, fun _ => HT.out.1 rfl⟩
                  clear HDn HDx HD
                  go_wp2_with fail
                  go_quiet (fail)
                  have HFn : Hid (Fr [] wo (wr.drewN nq)) := HFq.out.then (Fr.drewN _ _ _)
                  have hF5 : Fr [] wr (wr.drewN nq) := Fr.drewN _ _ _
                  have d5 := HQ.out nq
                  obtain ⟨k0, k1, k2⟩ := HBx.out _ (HF.out.then (HFq.out.then hF5))
                  go_wp2_with fail
                  obtain ⟨w5, hw5⟩ : ∃ w5, w5 = wr.drewN nq := ⟨_, rfl⟩
                  rw [← hw5] at HFn hF5 d5 k0 k1 k2 ⊢
                  clear hw5 HQ
                  have HAn : Hid (∀ q, Calls Tryz.prog 41 #[.slice bo Lb cb, .int .i64 num] (w5.drewN q) fun e w' => e = .returned (.bool true) ∧ w' = w5.drewN q) := fun q => HAm.out _ (hF5.then (Fr.drewN _ _ _))
                  go_quiet ((go_at_call 41; exact Calls.quiet_of_same (HAn.out _)))
                  go_wp2
                  go_roundw
                  case rel => exact ⟨j + 1, by simp, by omega, HD2, HFn.out.then (Fr.drewN _ _ _)⟩
                  case measure => simp [RowKit.intOf]; omega
            · have hlj : ¬ (j : Int) < Lv := by omega
              have HA2 : Hid (∀ h ∈ hs.take (i + 1), SvV m bs h.vs) := HS2.out (DcV.sv (by have := HD.out; have h1 := HLv.out; rwa [show j = vs.length by omega] at this) HNe.out)
              have HFn : Hid (Fr [] w1 wr) := HF.out.then HFq.out
              clear HS2 HBad HD
              go_wp2_with fail
              go_roundw
              case rel => exact ⟨i + 1, by simp, by omega, HA2, HFn⟩
              case measure => simp [RowKit.intOf]; omega
        · have hi2 : hs.length ≤ i := by have := HLh.out; omega
          obtain rfl := HC.out.yes ⟨HG.out.1, HG.out.2.1, HG.out.2.2, (LoOk_iff hs).1 HLo.out, fun p hp => by
            obtain ⟨h, hh, rfl⟩ := List.mem_map.1 hp
            exact HA.out h (by rw [List.take_of_length_le hi2]; exact hh)⟩
          have hlt : ¬ (i : Int) < Lh := by omega
          clear hi2 HC HA
          go_wp2
          go_ret
          exact ⟨rfl, HF1.out.then HF.out⟩
end Go.Proofs.YtldghdbfhikcoaaGreatDoor
/- What the document's writer does (Var, Int, Text, Fixed behind other bytes, in a row of one's own), and that a writer which is not there does nothing. Conditions: fewer than 2^40 bytes. -/
namespace Go.Proofs.YtldghdbfhikcoaaGreatDoor
open Go.ChangeShapes Go.WideShapes Go.ChangeAt Go.RowKit Go.Lib

/-- A row of bytes of one's own. -/
def Wn (w : World) (v : Value) (xs : List Nat) : Prop := w.ownsRow 0 5 1 v xs.length (bts xs)
/-- It became another one, and nothing else was written. -/
structure WnTo (w : World) (v : Value) (w' : World) (v' : Value) (ys : List Nat) : Prop where
  wn : Wn w' v' ys
  fr : Fr v.ownBlock.toList w w'
  mv : Moved w.heap.size v v'
theorem Wn.refl {w : World} {v : Value} {xs : List Nat} (h : Wn w v xs) : WnTo w v w v xs := ⟨h, Fr.refl _ _, Moved.refl _ _⟩
theorem moved_mem {n : Nat} {v v' : Value} (h : Moved n v v') {x : Nat} (hx : x ∈ v'.ownBlock.toList) (hn : x < n) : x ∈ v.ownBlock.toList := by
  have hx' : v'.ownBlock = some x := by simpa using hx
  rcases h with h | ⟨k, h1, h2⟩
  · rw [← h]; exact hx
  · rw [hx'] at h1; cases h1; omega
theorem WnTo.then {w w1 w2 : World} {v v1 v2 : Value} {xs ys : List Nat} (h : WnTo w v w1 v1 xs) (k : WnTo w1 v1 w2 v2 ys) : WnTo w v w2 v2 ys :=
  ⟨k.wn, h.fr.trans k.fr (fun _ hx _ => hx) (fun _ hx hn => moved_mem h.mv hx hn), h.mv.trans k.mv h.fr.size⟩
theorem WnTo.step {w wr w1 : World} {v v' v2 : Value} {ys : List Nat} {z n : Nat} {cs : List Value} {o : Obj} (h : WnTo w v wr v' ys) (hown : w1.ownsRow 0 5 1 v2 n cs) (hn : n = (ys ++ [z]).length) (hcs : cs = bts (ys ++ [z])) (hg : (wr.alloc o).grownBy w1 v'.ownBlock) {k : Nat} (hm : Moved k v' v2) (hk : wr.heap.size ≤ k) : WnTo w v w1 v2 (ys ++ [z]) := by
  subst hn
  subst hcs
  have hFa : Fr [] wr (wr.alloc o) := Fr.alloc [] _ _
  have hFg : Fr v'.ownBlock.toList (wr.alloc o) w1 := Fr.grown hg (by intro k hk _; rw [hk]; simp)
  refine ⟨hown, h.fr.trans (hFa.trans hFg (by simp) (fun x hx _ => hx)) (fun _ hx _ => hx) (fun _ hx hn => moved_mem h.mv hx hn), h.mv.trans hm (Nat.le_trans h.fr.size hk)⟩
theorem Wn.slice {w : World} {v : Value} {xs : List Nat} (h : Wn w v xs) : ∃ ao cap, v = .slice ao xs.length cap := own_slice h
theorem Wn.keep {S : List Nat} {w w' : World} {v : Value} {xs : List Nat} (h : Wn w v xs) (hf : Fr S w w') (hn : ∀ k, v.ownBlock = some k → k ∉ S) : Wn w' v xs := owns_keep h hf hn
theorem Wn.rs {w : World} {ao : Option Addr} {n cap : Nat} {xs : List Nat} (h : Wn w (.slice ao n cap) xs) (hl : xs.length < 2^41) : Rs w ao xs := by
  refine ⟨fun h0 => ?_, hl⟩
  obtain ⟨g, c, e, _⟩ := own_form h h0
  cases e
  refine ⟨g, 0, rfl, fun j hj => ?_⟩
  rw [Nat.zero_add, World.ownsRow.cellAt h j (by omega)]
  exact bts_get xs j hj

set_option maxHeartbeats 2000000 in
set_option maxRecDepth 100000 in
theorem refVar_any (v : Value) (xs : List Nat) (N : Nat) (w : World) (h : Wn w v xs) (hN : N < 2^64) (hlen : xs.length < 2^40) :
    Calls Tryz.prog 34 #[v, .int .u64 (N : Int)] w fun e w' => ∃ ao n cap, e = .returned (.slice ao n cap) ∧ WnTo w v w' (.slice ao n cap) (xs ++ enc N) := by
  obtain ⟨i0, hi, hz0, hz1, hz2⟩ := info_parts Tryz.infoB
  have hlen0 := enc_length N
  obtain ⟨zs, hzs⟩ : ∃ zs, zs = xs ++ enc N := ⟨_, rfl⟩
  rw [← hzs]
  have hzl : zs.length < 2^40 + 10 := by rw [hzs, List.length_append]; omega
  have E0 : Hid (zs = xs ++ enc N) := hzs
  clear hzs
  go_enter Tryz.func34, Tryz.ntmps34
  go_wp2_with fail
  go_loopw [0, 1] (fun bb vv wr => ∃ (m : Nat) (v' : Value) (ys : List Nat), bb = v' ∧ vv = .int .u64 m ∧ m < 2^64 ∧ Hid (zs = ys ++ enc m) ∧ Hid (WnTo w v wr v' ys)) (fun _ vv _ => (RowKit.intOf vv).toNat)
  case atStart => exact ⟨N, v, xs, rfl, rfl, hN, E0, h.refl⟩
  case round =>
    obtain ⟨m, v', ys, rfl, rfl, hm, E, HW⟩ := hrel
    obtain ⟨ao, cap, hv⟩ := HW.out.wn.slice
    obtain ⟨L, hL⟩ : ∃ L, L = ys.length := ⟨_, rfl⟩
    have hLs : L < 2^40 + 10 := by have := congrArg List.length E.out; simp only [List.length_append] at this; omega
    rw [← hL] at hv
    subst hv
    have HL : Hid (L = ys.length) := hL
    clear hL
    have HO : Hid (wr.ownsRow 0 5 1 (.slice ao L cap) L (bts ys)) := by rw [HL.out]; have := HW.out.wn; rw [HL.out] at this; exact this
    by_cases h128 : 128 ≤ m
    · have hb : (128 + (m : Int) % 128) % 256 = ((128 + m % 128 : Nat) : Int) := by omega
      have hq : IntKind.u64.wrap ((m : Int).tdiv 128) = ((m / 128 : Nat) : Int) := by rw [wr_u64, Int.tdiv_eq_ediv_of_nonneg (by omega)]; omega
      go_wp2_with (at_builtin; refine wpList_app1 _ rfl (.tmp 7) (.tmp 12) 29 rfl 5 i0 (.int .u8 0) 1 1 Tryz.undBs hi hz0 hz1 hz2 rfl (by decide) _ L _ rfl (HO.out.alloc _) ⟨wr.heap.size, 0, none⟩ 1 [.int .u8 ((128 + m % 128 : Nat) : Int)] rfl rfl ?c1 ?c2 ?c3 ?c4 ?_)
      case c1 => intro j u hj; match j, hj with | 0, hj => simp at hj; subst hj; simp [Addr.add]
      case c2 => intro u hu; simp at hu; subst hu; rfl
      case c3 => omega
      case c4 => unfold maxLen; omega
      intro g' cap' w1 hown hgrow hmov
      have HR : Hid (WnTo w v w1 (.slice (some ⟨g', 0, none⟩) (L + 1) cap') (ys ++ [128 + m % 128])) := HW.out.step (z := 128 + m % 128) hown (by simp [HL.out]) (by rw [bts_append]; rfl) hgrow hmov (by omega)
      have HE : Hid (zs = (ys ++ [128 + m % 128]) ++ enc (m / 128)) := by have := E.out; rw [enc_high m h128 hm] at this; show _ = _; rw [this]; simp
      clear hown hgrow hmov HO
      go_wp2
      go_roundw
      case rel => exact ⟨m / 128, _, _, rfl, rfl, by omega, HE, HR⟩
      case measure => simp [RowKit.intOf]; omega
    · have hb : (m : Int) % 256 = (m : Int) := by omega
      go_wp2_with (at_builtin; refine wpList_app1 _ rfl (.tmp 16) (.tmp 19) 29 rfl 5 i0 (.int .u8 0) 1 1 Tryz.undBs hi hz0 hz1 hz2 rfl (by decide) _ L _ rfl (HO.out.alloc _) ⟨wr.heap.size, 0, none⟩ 1 [.int .u8 (m : Int)] rfl rfl ?c1 ?c2 ?c3 ?c4 ?_)
      case c1 => intro j u hj; match j, hj with | 0, hj => simp at hj; subst hj; simp [Addr.add]
      case c2 => intro u hu; simp at hu; subst hu; rfl
      case c3 => omega
      case c4 => unfold maxLen; omega
      intro g' cap' w1 hown hgrow hmov
      have HE : Hid (zs = ys ++ [m]) := by have := E.out; rw [enc_low m (by omega)] at this; exact this
      have HR : Hid (WnTo w v w1 (.slice (some ⟨g', 0, none⟩) (L + 1) cap') zs) := by rw [HE.out]; exact HW.out.step (z := m) hown (by simp [HL.out]) (by rw [bts_append]; rfl) hgrow hmov (by omega)
      clear hown hgrow hmov HO
      go_wp2
      go_ret
      exact ⟨_, _, _, rfl, HR.out⟩
end Go.Proofs.YtldghdbfhikcoaaGreatDoor
/- What the document's Text and Fixed do behind other bytes. Conditions: fewer than 2^40 bytes. -/
namespace Go.Proofs.YtldghdbfhikcoaaGreatDoor
open Go.ChangeShapes Go.WideShapes Go.ChangeAt Go.RowKit Go.Lib

theorem strNs_take (s : ByteArray) (i : Nat) (h : i < s.size) : (strNs s).take (i + 1) = (strNs s).take i ++ [s[i].toNat] := by
  have hl : i < (strNs s).length := by rw [strNs_length]; exact h
  rw [List.take_add_one, List.getElem?_eq_getElem hl]
  simp only [strNs, List.getElem_map, Array.getElem_toList, Option.toList_some]
  rfl

set_option maxHeartbeats 2000000 in
set_option maxRecDepth 100000 in
theorem refText_any (v : Value) (xs : List Nat) (s : ByteArray) (w : World) (h : Wn w v xs) (hlen : xs.length < 2^39) (hs : s.size < 2^39) :
    Calls Tryz.prog 35 #[v, .string s] w fun e w' => ∃ ao n cap, e = .returned (.slice ao n cap) ∧ WnTo w v w' (.slice ao n cap) (xs ++ (enc s.size ++ strNs s)) := by
  obtain ⟨i0, hi, hz0, hz1, hz2⟩ := info_parts Tryz.infoB
  have hwr : IntKind.u64.wrap (s.size : Int) = (s.size : Int) := by rw [wr_u64]; omega
  go_enter Tryz.func35, Tryz.ntmps35
  go_wp2_with fail
  refine (refVar_any v xs s.size _ h (by omega) (by omega)).mono ?_
  rintro e w1 ⟨ao1, n1, cap1, rfl, R⟩
  have hel := enc_length s.size
  obtain ⟨ys, hys⟩ : ∃ ys, ys = xs ++ enc s.size := ⟨_, rfl⟩
  have hyl : ys.length < 2^39 + 11 := by rw [hys, List.length_append]; omega
  rw [← hys] at R
  have HY : Hid (ys = xs ++ enc s.size) := hys
  have HR : Hid (WnTo w v w1 (.slice ao1 n1 cap1) (ys ++ (strNs s).take 0)) := by rw [List.take_zero, List.append_nil]; exact R
  clear hys R
  go_wp2_with fail
  go_loopw [0, 5] (fun bb ii wr => ∃ (i : Nat) (v' : Value), bb = v' ∧ ii = .int .i64 i ∧ i ≤ s.size ∧ Hid (WnTo w v wr v' (ys ++ (strNs s).take i))) (fun _ ii _ => s.size - (RowKit.intOf ii).toNat)
  case atStart => exact ⟨0, _, rfl, rfl, Nat.zero_le _, HR⟩
  case round =>
    clear HR
    obtain ⟨i, v', rfl, rfl, his, HW⟩ := hrel
    obtain ⟨ao, cap, hv⟩ := HW.out.wn.slice
    obtain ⟨L, hL⟩ : ∃ L, L = (ys ++ (strNs s).take i).length := ⟨_, rfl⟩
    have hLs : L < 2^40 + 20 := by rw [hL, List.length_append, List.length_take, strNs_length]; omega
    rw [← hL] at hv
    subst hv
    have HL : Hid (L = (ys ++ (strNs s).take i).length) := hL
    clear hL
    by_cases hi' : i < s.size
    · have HO : Hid (wr.ownsRow 0 5 1 (.slice ao L cap) L (bts (ys ++ (strNs s).take i))) := by rw [HL.out]; have := HW.out.wn; rw [HL.out] at this; exact this
      go_wp2_with (at_builtin; refine wpList_app1 _ rfl (.tmp 17) (.tmp 21) 29 rfl 5 i0 (.int .u8 0) 1 1 Tryz.undBs hi hz0 hz1 hz2 rfl (by decide) _ L _ rfl (HO.out.alloc _) ⟨wr.heap.size, 0, none⟩ 1 [.int .u8 (s[i].toNat : Int)] rfl rfl ?c1 ?c2 ?c3 ?c4 ?_)
      case c1 => intro j u hj; match j, hj with | 0, hj => simp at hj; subst hj; simp [Addr.add]
      case c2 => intro u hu; simp at hu; subst hu; rfl
      case c3 => omega
      case c4 => unfold maxLen; omega
      intro g' cap' w2 hown hgrow hmov
      have HR2 : Hid (WnTo w v w2 (.slice (some ⟨g', 0, none⟩) (L + 1) cap') (ys ++ (strNs s).take (i + 1))) := by
        rw [strNs_take s i hi', ← List.append_assoc]
        exact HW.out.step (z := s[i].toNat) hown (by rw [List.length_append, ← HL.out]; rfl) (by rw [bts_append (ys ++ (strNs s).take i)]; rfl) hgrow hmov (by omega)
      clear hown hgrow hmov HO
      go_wp2
      go_roundw
      case rel => exact ⟨i + 1, _, rfl, by simp, by omega, HR2⟩
      case measure => simp [RowKit.intOf]; omega
    · have HR2 : Hid (WnTo w v wr (.slice ao L cap) (xs ++ (enc s.size ++ strNs s))) := by
        have := HW.out
        rw [List.take_of_length_le (by rw [strNs_length]; omega), HY.out, List.append_assoc] at this
        exact this
      go_wp2
      go_ret
      exact ⟨_, _, _, rfl, HR2.out⟩
end Go.Proofs.YtldghdbfhikcoaaGreatDoor
