/- For every list of parts and every two marks the law ShardDumps returns true, and the list reads as it did. No conditions. -/
import Derived.Test.YtkplammapbiebaaHn9
namespace Go.Proofs.Ytkplammapbiebaa.shardDumps
open Go.ChangeShapes Go.WideShapes Go.ChangeAt Go.RowKit Go.Lib Go.Maps
set_option linter.unusedVariables false
set_option linter.unusedSimpArgs false

/-- The numbers beyond the mark. -/
def bey (ps : List Pt) (k : Int) : List Int := (ps.filter fun p => decide (k < p.num)).map (·.num)
theorem bey_snoc (ps : List Pt) (p : Pt) (k : Int) : bey (ps ++ [p]) k = bey ps k ++ if k < p.num then [p.num] else [] := by
  unfold bey
  rw [List.filter_append, List.map_append]
  congr 1
  by_cases h : k < p.num <;> simp [h]
theorem bey_len (ps : List Pt) (k : Int) : (bey ps k).length ≤ ps.length := by
  unfold bey
  rw [List.length_map]
  exact List.length_filter_le _ _
theorem bey_all {M : ByteArray → List Vn} {ins : List Pt} (h : HoldsP M ins) (k : Int) (s : ByteArray) : ∀ v ∈ M s, k < v.num → v.num ∈ bey ins k := by
  intro v hv hk
  obtain ⟨p, hp, _, e⟩ := (h s v).1 hv
  unfold bey
  refine List.mem_map.2 ⟨p, List.mem_filter.2 ⟨hp, ?_⟩, by rw [e]; rfl⟩
  rw [e] at hk
  exact decide_eq_true hk
theorem same_at {M : ByteArray → List Vn} {ins : List Pt} (h : HoldsP M ins) (ho : ∀ k, okV (M k)) {k m : Int} (hkm : k ≤ m) (s : ByteArray) : valAt (dmp (M s) k (bey ins k)) m = valAt (M s) m := dmp_val (ho s) hkm (bey_all h k s)
theorem same_mark {M : ByteArray → List Vn} {ins : List Pt} (h : HoldsP M ins) (ho : ∀ k, okV (M k)) {k m : Int} (hkm : k ≤ m) : atMark (fun s => dmp (M s) k (bey ins k)) ⟨#[]⟩ ⟨#[]⟩ m = atMark M ⟨#[]⟩ ⟨#[]⟩ m := by
  funext s
  unfold atMark
  rw [same_at h ho hkm s]
/-- It is among the parts. -/
def Mt (ins : List Pt) (key : ByteArray) (x : Vn) (j : Nat) : Prop := (ins.getD j Pt.zero).key = key ∧ (ins.getD j Pt.zero).v = x
theorem mt_ex {M : ByteArray → List Vn} {ins : List Pt} (h : HoldsP M ins) {key : ByteArray} {x : Vn} (hx : x ∈ M key) : ∃ j, j < ins.length ∧ Mt ins key x j := by
  obtain ⟨p, hp, e1, e2⟩ := (h key x).1 hx
  obtain ⟨j, hj, e⟩ := List.mem_iff_getElem.1 hp
  have e3 : ins.getD j Pt.zero = p := by rw [← e]; simp [List.getD, hj]
  exact ⟨j, hj, by rw [e3]; exact e1, by rw [e3]; exact e2.symm⟩
theorem mt_iff (ins : List Pt) (key : ByteArray) (x : Vn) (j : Nat) : Mt ins key x j ↔ ((ins.getD j Pt.zero).num == x.num) = true ∧ ((ins.getD j Pt.zero).key.toList == key.toList) = true ∧ ((ins.getD j Pt.zero).val.toList == x.val.toList) = true ∧ ((ins.getD j Pt.zero).drop == x.drop) = true := by
  unfold Mt Pt.v
  obtain ⟨n, v, d⟩ := x
  simp only [Vn.mk.injEq, beq_iff_eq, tl_inj]
  constructor
  · rintro ⟨h1, h2, h3, h4⟩; exact ⟨h2, h1, h3, h4⟩
  · rintro ⟨h1, h2, h3, h4⟩; exact ⟨h2, h1, h3, h4⟩
set_option maxHeartbeats 32000000 in
set_option maxRecDepth 100000 in
theorem walk (ao : Option Addr) (L cap : Nat) (ps : List Pt) (k : Nat) (hk : k < 256) (a : Nat) (ha : a < 256) (w : World) (hP : PRs w ao ps) (hL : L = ps.length) :
    Calls Try.prog 5 #[.slice ao L cap, .int .u8 (k : Int), .int .u8 (a : Int)] w fun e w' => e = .returned (.bool true) ∧ Fr [] w w' := by
  have HL : Hid (L = ps.length) := hL
  have HP : Hid (∀ W, Fr [] w W → PRs W ao ps) := fun W hf => hP.keep hf
  have hLL : L ≤ 4398046511104 := by have := hP.few; omega
  clear hP hL
  go_enter Try.func5, Try.ntmps5
  go_wp2_with fail
  refine (alive9_any _).mono ?_
  rintro e w1 ⟨rfl, hF1⟩
  have HZ : Hid (Calls _ _ _ _ _) := size9_any ao L cap ps w1 (HP.out _ hF1) HL.out
  have HF1 : Hid (Fr [] w w1) := hF1
  clear hF1
  go_wp2_with fail
  refine Calls.mono HZ.out ?_
  rintro e w2 ⟨N0, rfl, hN0, hF2⟩
  have HF2 : Hid (Fr [] w w2) := HF1.out.then hF2
  clear HZ hF2 HF1
  go_wp2_with fail
  refine (beyond_any w2.heap.size N0 _ (by omega) (by simp)).mono ?_
  rintro e w3 ⟨rfl, rfl⟩
  obtain ⟨w3, HW3⟩ : ∃ w3, Hid (w2.alloc (.cells #[.int .i64 (N0 : Int)] 3) = w3) := ⟨_, rfl⟩
  rw [HW3.out]
  have HF3 : Hid (Fr [] w w3) := by rw [← HW3.out]; exact HF2.out.then (Fr.alloc [] _ _)
  clear HW3 HF2
  obtain ⟨Bq, hBq⟩ : ∃ Bq, Bq = decide (1048576 < N0) := ⟨_, rfl⟩
  rw [← hBq]
  clear hBq
  cases Bq with
  | true =>
    go_wp2_with fail
    refine (alive9_any _).mono ?_
    rintro e w4 ⟨rfl, hF4⟩
    go_wp2
    go_ret
    exact ⟨rfl, HF3.out.then hF4⟩
  | false =>
    have HFi : Hid (Calls _ _ _ _ _) := filled_any ao L cap ps w3 (HP.out _ HF3.out) HL.out
    go_wp2_with fail
    refine Calls.mono HFi.out ?_
    rintro e w4 ⟨sb, b, M, ri, Ni, rci, ins, rfl, hFil⟩
    have HS : Hid (∀ W, Fr [] w4 W → Sh w3 W sb b 200 M) := fun W hf => hFil.sh.keep hf
    have HF4 : Hid (Fr [] w w4) := HF3.out.then hFil.fr
    have hNi : Ni ≤ 200 := by
      have h1 := hFil.goes.len
      have h2 := hFil.row.len
      simp only [List.length_take] at h1
      omega
    have HIn : Hid (Ni = ins.length ∧ HoldsP M ins ∧ (∀ p ∈ ins, okP p) ∧ ∀ k, okV (M k)) := ⟨hFil.row.len, hFil.holds, hFil.goes.ok, hFil.sh.ok⟩
    have HR : Hid (∀ W, Fr [] w4 W → PRs W ri ins) := fun W hf => (hFil.row.keep hf).rs (by have := hFil.row.len; omega) (fun x hx => okP_each (hFil.goes.ok x hx))
    clear hFil HFi HF3 HP
    have HO0 : Hid (IOut w4 w4 none 0 0 (bey (ins.take 0) (k : Int))) := ⟨rfl, ⟨rfl, .inl ⟨rfl, rfl⟩⟩⟩
    go_wp2_with fail
    go_loopw [9, 10] (fun ll ii wr => ∃ (bo : Option Addr) (bn bc i : Nat), ll = .slice bo bn bc ∧ ii = .int .i64 i ∧ i ≤ Ni ∧ bn ≤ i ∧ Hid (IOut w4 wr bo bn bc (bey (ins.take i) (k : Int))) ∧ Hid (Fr [] w4 wr)) (fun _ ii _ => Ni - (RowKit.intOf ii).toNat)
    case atStart => exact ⟨none, 0, 0, 0, rfl, rfl, Nat.zero_le _, Nat.le_refl _, HO0, Fr.refl _ _⟩
    case round =>
      obtain ⟨bo, bn, bc, i, rfl, rfl, hiN, hbi, HO, HF⟩ := hrel
      by_cases hi : i < Ni
      · have hi' : i < ins.length := by rw [← HIn.out.1]; exact hi
        obtain ⟨pb, off, rfl, _, hat⟩ := (HR.out _ HF.out).lies (by omega)
        obtain ⟨c0, _, _, _⟩ := hat i hi'
        have HSn : Hid (bey (ins.take (i + 1)) (k : Int) = bey (ins.take i) (k : Int) ++ if (k : Int) < (ins.getD i Pt.zero).num then [(ins.getD i Pt.zero).num] else []) := by rw [ptake_snoc ins i hi']; exact bey_snoc _ _ _
        obtain ⟨num, hnum⟩ : ∃ num, num = (ins.getD i Pt.zero).num := ⟨_, rfl⟩
        rw [← hnum] at c0 HSn
        have hsz : w4.heap.size ≤ wr.heap.size := HF.out.size
        clear hat hnum
        by_cases hg : (k : Int) < num
        · have HSn2 : Hid (bey (ins.take (i + 1)) (k : Int) = bey (ins.take i) (k : Int) ++ [num]) := by
            have := HSn.out
            rw [if_pos hg] at this
            exact this
          clear HSn
          go_wp2_with (first
            | (at_builtin; refine wpList_appI w4 wr rfl _ _ rfl bo bn bc _ rfl HO.out (by omega) hsz num rfl ?_
               intro bo' bc' w5 hO5 hF5
               have HO5 : Hid (IOut w4 w5 bo' (bn + 1) bc' (bey (ins.take (i + 1)) (k : Int))) := by rw [HSn2.out]; exact hO5
               have HF5 : Hid (Fr [] w4 w5) := HF.out.on hF5 (fun x hx => (owns_cells HO.out.row (Option.mem_toList.1 hx)).1)
               clear hO5 hF5
               go_frame)
            | fail)
          go_roundw
          case rel => exact ⟨bo', bn + 1, bc', i + 1, rfl, by simp, by omega, by omega, HO5, HF5⟩
          case measure => simp [RowKit.intOf]; omega
        · have HO5 : Hid (IOut w4 wr bo bn bc (bey (ins.take (i + 1)) (k : Int))) := by
            have := HSn.out
            rw [if_neg hg, List.append_nil] at this
            rw [this]
            exact HO
          clear HSn
          go_wp2_with fail
          go_roundw
          case rel => exact ⟨bo, bn, bc, i + 1, rfl, by simp, by omega, by omega, HO5, HF⟩
          case measure => simp [RowKit.intOf]; omega
      · have hiN2 : i = ins.length := by have := HIn.out.1; omega
        have HO2 : Hid (IOut w4 wr bo bn bc (bey ins (k : Int))) := by
          have := HO.out
          rw [hiN2, List.take_length] at this
          exact this
        clear HO hiN2
        have HDu : Hid (Calls _ _ _ _ _) := hdump_any (k : Int) bo bn bc (bey ins (k : Int)) wr (HS.out _ HF.out) (by omega) (IRs.of_own HO2.out.row HO2.out.len (by have := HO2.out.len; omega)) HO2.out.len
        have HF5 : Hid (Fr [] w4 wr) := HF
        clear HO2 HF
        go_wp2_with fail
        refine Calls.mono HDu.out ?_
        rintro e w6 ⟨rd, Nd, cd, hs, rfl, hO6, hNd, hPk, hF6⟩
        have hLo : LoOk hs := hPk.ok (fun s hs => (HS.out wr HF5.out).keyok hs) (fun s => okV_sub (HIn.out.2.2.2 s) (dmp_sub (HIn.out.2.2.2 s) _ _))
        have HLd : Hid (Calls _ _ _ _ _) := hload_any rd Nd cd hs w6 (hO6.rs hLo (by omega)) hO6.len
        have HPk : Hid (PkT M (fun s => dmp (M s) (k : Int) (bey ins (k : Int))) hs ∧ LoOk hs ∧ Nd = hs.length ∧ mOf hs = fun s => dmp (M s) (k : Int) (bey ins (k : Int))) := ⟨hPk, hLo, hO6.len, hPk.mOf hLo (fun s hs => by simp only [hs]; exact dmp_nil _ _)⟩
        have HHr : Hid (∀ W, Fr [] w6 W → HRs W rd hs) := fun W hf => (hO6.rs hLo (by omega)).keep hf
        have HF6 : Hid (Fr [] w4 w6) := HF5.out.then hF6
        clear HDu hO6 hPk hLo hF6 HF5
        go_wp2_with fail
        refine Calls.mono HLd.out ?_
        rintro e w7 h7
        obtain ⟨sb2, b2, rfl, hS2, hF7⟩ : ∃ sb2 b2, e = .returned (.tuple #[.pointer (some ⟨sb2, 0, none⟩), .int .i64 0]) ∧ Sh w6 w7 sb2 b2 Nd (mOf hs) ∧ Fr [] w6 w7 := by
          rcases h7 with ⟨_, h⟩ | ⟨h, _⟩
          · exact h
          · exact absurd HPk.out.2.1 h
        rw [HPk.out.2.2.2] at hS2
        have HF7 : Hid (Fr [] w6 w7) := hF7
        have HS2 : Hid (∀ W, Fr [] w7 W → Sh w6 W sb2 b2 200 (fun s => dmp (M s) (k : Int) (bey ins (k : Int))) ∧ Sh w3 W sb b 200 M) := fun W hf => ⟨(hS2.keep hf).mono hNd, HS.out W ((HF6.out.then HF7.out).then hf)⟩
        clear h7 hS2 hF7 HLd
        have HZ1 : Hid (Calls _ _ _ _ _) := hsize_any w7 (HS2.out w7 (Fr.refl _ _)).1 (by omega)
        go_wp2_with fail
        refine Calls.mono HZ1.out ?_
        rintro e w8 ⟨S2, rfl, hS2, hF8⟩
        have HZ2 : Hid (Calls _ _ _ _ _) := hsize_any w8 (HS2.out w8 hF8).2 (by omega)
        have HSz : Hid (SzT (fun s => dmp (M s) (k : Int) (bey ins (k : Int))) S2) := hS2
        have HF8 : Hid (Fr [] w7 w8) := hF8
        clear HZ1 hS2 hF8
        go_wp2_with fail
        refine Calls.mono HZ2.out ?_
        rintro e w9 ⟨S1, rfl, hS1, hF9⟩
        have hle : S2 ≤ S1 := hS1.le HSz.out (fun s => dmp_sub (HIn.out.2.2.2 s) _ _)
        have hd1 : decide ((S1 : Int) < (S2 : Int)) = false := by simp; omega
        have hd2 : decide (S1 < S2) = false := by simp; omega
        have HF9 : Hid (Fr [] w7 w9) := HF8.out.then hF9
        obtain ⟨mm, hmx, hkm⟩ : ∃ mm : Nat, max (k : Int) (a : Int) = (mm : Int) ∧ k ≤ mm := ⟨max k a, by omega, by omega⟩
        have hmm : mm < 256 := by omega
        have HSa : Hid (∀ s, valAt (dmp (M s) (k : Int) (bey ins (k : Int))) (mm : Int) = valAt (M s) (mm : Int)) := fun s => same_at HIn.out.2.1 HIn.out.2.2.2 (by omega) s
        have HSm : Hid (atMark (fun s => dmp (M s) (k : Int) (bey ins (k : Int))) ⟨#[]⟩ ⟨#[]⟩ (mm : Int) = atMark M ⟨#[]⟩ ⟨#[]⟩ (mm : Int)) := same_mark HIn.out.2.1 HIn.out.2.2.2 (by omega)
        clear HZ2 hS1 hF9 HSz HF8 hle
        go_wp2_with fail
        go_loopw [15] (fun ii wr => ∃ (i : Nat), ii = .int .i64 i ∧ i ≤ Ni ∧ Hid (Fr [] w7 wr)) (fun ii _ => Ni - (RowKit.intOf ii).toNat)
        case atStart => exact ⟨0, rfl, Nat.zero_le _, HF9⟩
        case round =>
          obtain ⟨i, rfl, hiN, HF⟩ := hrel
          by_cases hi : i < Ni
          · have hi' : i < ins.length := by rw [← HIn.out.1]; exact hi
            have HC1 : Hid (∀ W, Fr [] w7 W → ∃ pb off, ri = some ⟨pb, off, none⟩ ∧ W.cell? ⟨pb, off + i * 4 + 1, none⟩ = some (.string (ins.getD i Pt.zero).key)) := fun W hf => by
              obtain ⟨pb, off, e, _, hat⟩ := (HR.out W ((HF6.out.then HF7.out).then hf)).lies (by omega)
              exact ⟨pb, off, e, (hat i hi').c1⟩
            have hkz : (ins.getD i Pt.zero).key.size ≤ 64 := (HIn.out.2.2.1 _ (pgetD_mem ins i hi')).1.2
            obtain ⟨key, hkey⟩ : ∃ key, key = (ins.getD i Pt.zero).key := ⟨_, rfl⟩
            rw [← hkey] at hkz HC1
            clear hkey
            obtain ⟨pb, off, rfl, c1⟩ := HC1.out _ HF.out
            have HG1 : Hid (Calls _ _ _ _ _) := hget_any key (mm : Int) wr (HS2.out _ HF.out).2 (by omega)
            go_wp2_with fail
            refine Calls.mono HG1.out ?_
            rintro e w10 ⟨rfl, hF10⟩
            obtain ⟨pb', off', e, c1'⟩ := HC1.out _ (HF.out.then hF10)
            cases e
            have HG2 : Hid (Calls Try.prog 16 #[.pointer (some ⟨sb2, 0, none⟩), .string key, .int .i64 (mm : Int)] w10 fun e w' => e = .returned (.tuple #[.string ((valAt (M key) (mm : Int)).getD noS), .bool (valAt (M key) (mm : Int)).isSome]) ∧ Fr [] w10 w') := by
              have := hget_any key (mm : Int) w10 (HS2.out _ (HF.out.then hF10)).1 (by omega)
              rw [HSa.out key] at this
              exact this
            have HF10 : Hid (Fr [] w7 w10) := HF.out.then hF10
            clear HG1 hF10 HF
            obtain ⟨gv, hgv⟩ : ∃ gv, gv = (valAt (M key) (mm : Int)).getD noS := ⟨_, rfl⟩
            obtain ⟨gb, hgb⟩ : ∃ gb, gb = (valAt (M key) (mm : Int)).isSome := ⟨_, rfl⟩
            rw [← hgv, ← hgb] at HG2 ⊢
            clear hgv hgb
            go_wp2_with fail
            refine Calls.mono HG2.out ?_
            rintro e w11 ⟨rfl, hF11⟩
            have HF11 : Hid (Fr [] w7 w11) := HF10.out.then hF11
            clear HG2 hF11 HF10
            go_wp2_with fail
            go_roundw
            case rel => exact ⟨i + 1, by simp, by omega, HF11⟩
            case measure => simp [RowKit.intOf]; omega
          · have HFz : Hid (Fr [] w7 wr) := HF
            clear HF
            go_wp2_with fail
            go_loopw [20] (fun ii wr => ∃ (i : Nat), ii = .int .i64 i ∧ i ≤ Nd ∧ Hid (Fr [] w7 wr)) (fun ii _ => Nd - (RowKit.intOf ii).toNat)
            case atStart => exact ⟨0, rfl, Nat.zero_le _, HFz⟩
            case round =>
              clear HFz
              obtain ⟨i, rfl, hiN, HFz⟩ := hrel
              by_cases hi : i < Nd
              · have hi' : i < hs.length := by rw [← HPk.out.2.2.1]; exact hi
                obtain ⟨g, goff, rfl, _, _⟩ := (HHr.out wr (HF7.out.then HFz.out)).lies (by omega)
                have HD : Hid (∀ W, Fr [] w7 W → W.cell? ⟨g, goff + i * 2, none⟩ = some (.string (hs.getD i Hd.zero).key) ∧ W.cell? ⟨g, goff + i * 2 + 1, none⟩ = some (.slice (hs.getD i Hd.zero).vo (hs.getD i Hd.zero).L (hs.getD i Hd.zero).cap)) := fun W hf => by
                  obtain ⟨g', goff', e, _, hat⟩ := (HHr.out W (HF7.out.then hf)).lies (by omega)
                  cases e
                  exact hat i hi'
                have HEa : Hid (∀ W, Fr [] w7 W → HEach W (hs.getD i Hd.zero)) := fun W hf => (HHr.out W (HF7.out.then hf)).each _ (hgetD_mem hs i hi')
                have hvs := (HPk.out.1.is _ (hgetD_mem hs i hi')).1
                have HSub : Hid (∀ x ∈ (hs.getD i Hd.zero).vs, x ∈ M (hs.getD i Hd.zero).key) := fun x hx => by
                  rw [hvs] at hx
                  exact (dmp_sub (HIn.out.2.2.2 _) _ _).subset hx
                obtain ⟨hx, hhx⟩ : ∃ hx, hx = hs.getD i Hd.zero := ⟨_, rfl⟩
                rw [← hhx] at HD HEa HSub
                clear hvs hhx
                obtain ⟨hkey, vo, Lv, cv, vs⟩ := hx
                simp only at HD HSub
                have hLv : Lv ≤ 4398046511104 := by have h1 := (HEa.out _ HFz.out).len; have h2 := (HEa.out _ HFz.out).rs.few; simp only at h1 h2; omega
                go_wp2_with fail
                go_loopw [21] (fun kk wr => ∃ (q : Nat), kk = .int .i64 q ∧ q ≤ Lv ∧ Hid (Fr [] w7 wr)) (fun kk _ => Lv - (RowKit.intOf kk).toNat)
                case atStart => exact ⟨0, rfl, Nat.zero_le _, HFz⟩
                case round =>
                  clear HFz
                  obtain ⟨q, rfl, hqN, HFz⟩ := hrel
                  obtain ⟨d0, d1⟩ := HD.out _ HFz.out
                  by_cases hq : q < Lv
                  · have hq' : q < vs.length := by have := (HEa.out _ HFz.out).len; simp only at this; omega
                    obtain ⟨vb, voff, hvo, _, _⟩ := (HEa.out _ HFz.out).rs.lies (by simp only; omega)
                    simp only at hvo
                    subst hvo
                    have HV3 : Hid (∀ W, Fr [] w7 W → VAt W vb (voff + q * 3) (vs.getD q Vn.zero)) := fun W hf => by
                      obtain ⟨vb', voff', e, _, hat⟩ := (HEa.out W hf).rs.lies (by simp only; omega)
                      cases e
                      exact hat q hq'
                    have HMx : Hid (∃ j, j < ins.length ∧ Mt ins hkey (vs.getD q Vn.zero) j) := mt_ex HIn.out.2.1 (HSub.out _ (vgetD_mem vs q hq'))
                    obtain ⟨x, hxx⟩ : ∃ x, x = vs.getD q Vn.zero := ⟨_, rfl⟩
                    rw [← hxx] at HMx HV3
                    clear hxx
                    obtain ⟨xn, xv, xd⟩ := x
                    go_wp2_with fail
                    go_loopw [22, 23] (fun ff jj wr => ∃ (fb : Bool) (j : Nat), ff = .bool fb ∧ jj = .int .i64 j ∧ j ≤ Ni ∧ Hid ((∃ l, l < j ∧ Mt ins hkey ⟨xn, xv, xd⟩ l) → fb = true) ∧ Hid (Fr [] w7 wr)) (fun _ jj _ => Ni - (RowKit.intOf jj).toNat)
                    case atStart => exact ⟨false, 0, rfl, rfl, Nat.zero_le _, (fun ⟨l, hl, _⟩ => by omega), HFz⟩
                    case round =>
                      clear HFz d0 d1
                      obtain ⟨fb, j, rfl, rfl, hjN, HM, HFz⟩ := hrel
                      by_cases hj : j < Ni
                      · have hj' : j < ins.length := by rw [← HIn.out.1]; exact hj
                        obtain ⟨pb, poff, rfl, _, hpat⟩ := (HR.out wr ((HF6.out.then HF7.out).then HFz.out)).lies (by omega)
                        obtain ⟨f0, f1, f2, f3⟩ := hpat j hj'
                        obtain ⟨d0, d1⟩ := HD.out _ HFz.out
                        obtain ⟨e0, e1, e2⟩ := HV3.out _ HFz.out
                        simp only at e0 e1 e2
                        have HMi : Hid (Mt ins hkey ⟨xn, xv, xd⟩ j ↔ ((ins.getD j Pt.zero).num == xn) = true ∧ ((ins.getD j Pt.zero).key.toList == hkey.toList) = true ∧ ((ins.getD j Pt.zero).val.toList == xv.toList) = true ∧ ((ins.getD j Pt.zero).drop == xd) = true) := mt_iff ins hkey ⟨xn, xv, xd⟩ j
                        obtain ⟨p, hp⟩ : ∃ p, p = ins.getD j Pt.zero := ⟨_, rfl⟩
                        rw [← hp] at f0 f1 f2 f3 HMi
                        clear hp hpat
                        obtain ⟨pn, pk, pv, pd⟩ := p
                        simp only at f0 f1 f2 f3 HMi
                        obtain ⟨t1, ht1⟩ : ∃ t, (pn == xn) = t := ⟨_, rfl⟩
                        obtain ⟨t2, ht2⟩ : ∃ t, (pk.toList == hkey.toList) = t := ⟨_, rfl⟩
                        obtain ⟨t3, ht3⟩ : ∃ t, (pv.toList == xv.toList) = t := ⟨_, rfl⟩
                        obtain ⟨t4, ht4⟩ : ∃ t, (pd == xd) = t := ⟨_, rfl⟩
                        have HMs : Hid ((∃ l, l < j + 1 ∧ Mt ins hkey ⟨xn, xv, xd⟩ l) → (fb || (t1 && (t2 && (t3 && t4)))) = true) := by
                          rintro ⟨l, hl, hm⟩
                          by_cases hlj : l < j
                          · rw [HM.out ⟨l, hlj, hm⟩]; rfl
                          · obtain rfl : l = j := by omega
                            have h5 := HMi.out.1 hm
                            rw [ht1, ht2, ht3, ht4] at h5
                            obtain ⟨rfl, rfl, rfl, rfl⟩ := h5
                            simp
                        clear HM HMi
                        have hway : fb = true ∨ (fb = false ∧ t1 = false) ∨ (fb = false ∧ t1 = true ∧ t2 = false) ∨ (fb = false ∧ t1 = true ∧ t2 = true ∧ t3 = false) ∨ (fb = false ∧ t1 = true ∧ t2 = true ∧ t3 = true ∧ t4 = false) ∨ (fb = false ∧ t1 = true ∧ t2 = true ∧ t3 = true ∧ t4 = true) := by
                          cases fb <;> cases t1 <;> cases t2 <;> cases t3 <;> cases t4 <;> simp
                        rcases hway with rfl | ⟨rfl, rfl⟩ | ⟨rfl, rfl, rfl⟩ | ⟨rfl, rfl, rfl, rfl⟩ | ⟨rfl, rfl, rfl, rfl, rfl⟩ | ⟨rfl, rfl, rfl, rfl, rfl⟩
                        · go_wp2_with fail
                          go_quiet (fail)
                          go_wp2_with fail
                          go_roundw
                          case rel => exact ⟨true, j + 1, rfl, by simp, by omega, HMs, HFz.out.then (Fr.drewN _ _ _)⟩
                          case measure => simp [RowKit.intOf]; omega
                        · go_wp2_with fail
                          go_quiet (fail)
                          go_wp2_with fail
                          go_roundw
                          case rel => exact ⟨false, j + 1, rfl, by simp, by omega, HMs, HFz.out.then (Fr.drewN _ _ _)⟩
                          case measure => simp [RowKit.intOf]; omega
                        · go_wp2_with fail
                          go_quiet (fail)
                          go_wp2_with fail
                          go_roundw
                          case rel => exact ⟨false, j + 1, rfl, by simp, by omega, HMs, HFz.out.then (Fr.drewN _ _ _)⟩
                          case measure => simp [RowKit.intOf]; omega
                        · go_wp2_with fail
                          go_quiet (fail)
                          go_wp2_with fail
                          go_roundw
                          case rel => exact ⟨false, j + 1, rfl, by simp, by omega, HMs, HFz.out.then (Fr.drewN _ _ _)⟩
                          case measure => simp [RowKit.intOf]; omega
                        · go_wp2_with fail
                          go_quiet (fail)
                          go_wp2_with fail
                          go_roundw
                          case rel => exact ⟨false, j + 1, rfl, by simp, by omega, HMs, HFz.out.then (Fr.drewN _ _ _)⟩
                          case measure => simp [RowKit.intOf]; omega
                        · go_wp2_with fail
                          go_quiet (fail)
                          go_wp2_with fail
                          go_roundw
                          case rel => exact ⟨true, j + 1, rfl, by simp, by omega, HMs, HFz.out.then (Fr.drewN _ _ _)⟩
                          case measure => simp [RowKit.intOf]; omega
                      · have hfb : fb = true := by
                          obtain ⟨l, hl, hm⟩ := HMx.out
                          exact HM.out ⟨l, by have := HIn.out.1; omega, hm⟩
                        subst hfb
                        go_wp2_with fail
                        go_roundw
                        case rel => exact ⟨q + 1, by simp, by omega, HFz⟩
                        case measure => simp [RowKit.intOf]; omega
                  · go_wp2_with fail
                    go_roundw
                    case rel => exact ⟨i + 1, by simp, by omega, HFz⟩
                    case measure => simp [RowKit.intOf]; omega
              · have HC1 : Hid (Calls _ _ _ _ _) := hScan_any ⟨#[]⟩ ⟨#[]⟩ (mm : Int) wr (HS2.out _ HFz.out).2 (by omega)
                go_wp2_with fail
                refine Calls.mono HC1.out ?_
                rintro e w12 ⟨r1, N1, rc1, q1, rfl, hE1, hN1, hI1, hF12⟩
                have HC2 : Hid (Calls _ _ _ _ _) := hScan_any ⟨#[]⟩ ⟨#[]⟩ (mm : Int) w12 (HS2.out _ (HFz.out.then hF12)).1 (by omega)
                have HE1 : Hid (∀ W, Fr [] w12 W → ERs W r1 q1) := fun W hf => (ers_of hE1.row hE1.len (by have := hE1.len; omega)).keep hf
                have HI1 : Hid (Is (atMark M ⟨#[]⟩ ⟨#[]⟩ (mm : Int)) q1 ∧ N1 = q1.length) := ⟨hI1, hE1.len⟩
                have HF12 : Hid (Fr [] w7 w12) := HFz.out.then hF12
                clear HC1 hE1 hI1 hF12
                go_wp2_with fail
                refine Calls.mono HC2.out ?_
                rintro e w13 ⟨r2, N2, rc2, q2, rfl, hE2, hN2, hI2, hF13⟩
                rw [HSm.out] at hI2
                have hqq : q1 = q2 := HI1.out.1.unique hI2
                subst hqq
                obtain rfl : N2 = N1 := by rw [hE2.len, HI1.out.2]
                have HSe : Hid (Calls _ _ _ _ _) := sameEntries_any r1 r2 N2 rc1 rc2 q1 w13 (HE1.out _ hF13) (ers_of hE2.row hE2.len (by have := hE2.len; omega)) hE2.len
                have HF13 : Hid (Fr [] w7 w13) := HF12.out.then hF13
                clear HC2 hE2 hI2 hF13
                go_wp2_with fail
                refine Calls.mono HSe.out ?_
                rintro e w14 ⟨rfl, hF14⟩
                go_wp2
                go_ret
                exact ⟨rfl, HF4.out.then (HF6.out.then (HF7.out.then (HF13.out.then hF14)))⟩

theorem own : ownKnob Try.prog.godebug = none := by kernel_rfl
theorem laidOut : laidOutB Try.prog = true := by kernel_rfl
set_option maxHeartbeats 4000000 in
set_option maxRecDepth 100000 in
theorem lifted (os : Os) (started : os.Started) (H : Type) (enc : TypeId × Value → H) :
    ReturnsInHanded {} Try.checked os 5 .any (Rows.shardDumpsSpec.pre6 enc Try.prog Try.f5 Rows.shardDumpsRow.domain false) (Rows.shardDumpsSpec.post enc Try.prog Try.f5 false true false false) := by
  refine returnsInHanded_of_change_sized (C := Try.checked) own started (by kernel_rfl) Try.func5
    (ChangeSpec.witness6 (enc := enc) (C := Try.checked) false ⟨#[], #[.slice none 0 0, .int .u8 0, .int .u8 0], []⟩ 8 (by kernel_rfl) (by kernel_rfl) (by kernel_rfl) (by kernel_rfl)) ?_
  intro W base args ds gs before hval0 hW hcnd hsz0 _
  have hval : ∀ (j : Nat) t v, Try.f5.params[j]? = some t → args[j]? = some v → Value.okWide Try.prog W .any base t v := hval0
  have hsz : (DataW.weightsEach Try.prog (Try.f5.params.toList ++ Rows.shardDumpsSpec.plain.varTypes Try.prog) (ds ++ gs)).all (· ≤ reachBytes) = true := hsz0
  have hW' := hW
  obtain ⟨p, q, hA0, hV, rfl, hfz, hnd⟩ := hW
  have hA : DataW.TrodAll enc Try.prog W 0 (fun _ => true) true Try.f5.params.toList args.toList ds p := hA0
  rw [Try.params5] at hA hval hsz
  obtain ⟨v0, vs0, d0, ds0, p0, q0, hargs, rfl, rfl, h0, r0⟩ := trodAll_cons hA
  obtain ⟨v1, vs1, d1, ds1, p1, q1, rfl, rfl, rfl, h1, r1⟩ := trodAll_cons r0
  obtain ⟨v2, vs2, d2, ds2, p2, q2, rfl, rfl, rfl, h2, r2⟩ := trodAll_cons r1
  obtain ⟨rfl, rfl, rfl⟩ := trodAll_nil r2
  obtain rfl : args = #[v0, v1, v2] := by cases args; simp_all
  obtain ⟨rfl, rfl⟩ := trodVars_none hV
  have k0 := h0
  have lt0 : ∀ x ∈ p0, x.block < W.heap.size := by obtain ⟨m, hm⟩ := k0; exact DataW.trod_lt m _ _ _ hm
  obtain ⟨a0, len0, cap0, xs0, rfl, hB0, hL0, hC0⟩ : ∃ ao L cap xs, v0 = .slice ao L cap ∧ PRs W ao xs ∧ L = xs.length ∧ L ≤ cap := by
    obtain ⟨fuel, hf⟩ := h0
    obtain ⟨ao, L, cap, rfl⟩ := okWide_slice Try.undParts' (hval 0 22 v0 rfl rfl)
    exact ps_open hf (fun n hn => of_decide_eq_true (List.all_eq_true.1 hsz n (DataW.weights_mem_each (j := 0) (t := 22) rfl rfl n hn)))
  obtain ⟨n1, rfl, rfl, rfl, w1⟩ := open_int Try.underlying5 (hval 1 5 v1 rfl rfl) h1
  have b1 := bounds_u8 w1
  obtain ⟨m1, rfl⟩ : ∃ m : Nat, n1 = (m : Int) := ⟨n1.toNat, by omega⟩
  obtain ⟨n2, rfl, rfl, rfl, w2⟩ := open_int Try.underlying5 (hval 2 5 v2 rfl rfl) h2
  have b2 := bounds_u8 w2
  obtain ⟨m2, rfl⟩ : ∃ m : Nat, n2 = (m : Int) := ⟨n2.toNat, by omega⟩
  clear hA0 hval0
  refine (walk a0 len0 cap0 xs0 m1 (by omega) m2 (by omega) W hB0 hL0).mono fun e W' ⟨he, hf⟩ => ?_
  subst he
  have bel : Below W.heap.size W W' := hf.below (Nat.le_refl _) (by simp)
  exact ⟨_, rfl, _, _, _, [], _, [], hW', trodAll_mk1 (shut_bool Try.underlying4 _), (trodAll_cons_mk (Below.trod laidOut (by kernel_rfl) (of_decide_eq_true (by kernel_rfl)) k0 bel lt0) (trodAll_cons_mk (shut_int Try.underlying5 w1) (trodAll_cons_mk (shut_int Try.underlying5 w2) trodAll_mk0))), rfl, bel.frame _, fun h => by cases h⟩

theorem over : Rows.shardDumpsRow.holds Try.pinned (OpenSpec.ofChange Rows.shardDumpsSpec) :=
  OpenClaim.holds_of_wide 5 Try.f5 rfl rfl rfl rfl rfl rfl rfl ⟨rfl, rfl, rfl, rfl, rfl⟩ rfl rfl rfl rfl rfl (by kernel_rfl) Try.func5 (by kernel_rfl)
    (of_decide_eq_true (by kernel_rfl)) (by unfold Func.isWrapper; first | (rw [if_pos (by decide +kernel)]; kernel_rfl) | (rw [if_neg (by decide +kernel)]; exact ⟨rfl, rfl⟩))
    (fun os started H enc _ => lifted os started H enc)
end Go.Proofs.Ytkplammapbiebaa.shardDumps
namespace Go.Proofs.Ytkplammapbiebaa
theorem sharddumps_holds : Rows.ShardDumpsSaid := shardDumps.over
#print axioms sharddumps_holds
end Go.Proofs.Ytkplammapbiebaa
