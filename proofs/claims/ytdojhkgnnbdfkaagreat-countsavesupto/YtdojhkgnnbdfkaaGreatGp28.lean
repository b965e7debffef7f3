/- Texts of this claim laid together, one behind the other: contracts and plain lemmas; conditions as each names them. -/
import Derived.Test.YtdojhkgnnbdfkaaGreatGp27
import Derived.Test.YtdojhkgnnbdfkaaGreatGp16
/- A checkpoint as bytes: contract of Encode. Conditions as each names them. -/
namespace Go.Proofs.YtdojhkgnnbdfkaaGreat
open Go.ChangeShapes Go.WideShapes Go.ChangeAt Go.RowKit Go.Lib Go.Maps
set_option linter.unusedVariables false
set_option linter.unusedSimpArgs false

set_option maxHeartbeats 4000000 in
set_option maxRecDepth 100000 in
theorem dencode_no (m : Int) (bo ho : Option Addr) (Lb cb Lh ch : Nat) (bs : List Int) (hs : List Hd) (w : World) (hI : IRs w bo bs) (hLb : Lb = bs.length) (hH : HRs w ho hs) (hLh : Lh = hs.length) (hno : ¬ OkS m bs (hs.map Hd.kv)) :
    Calls Tryz.prog 50 #[.agg #[.int .i64 m, .slice bo Lb cb, .slice ho Lh ch]] w fun e w' => e = .returned (.tuple #[.slice none 0 0, .int .i64 1]) ∧ Fr [] w w' := by
  have hF0 : Fr [] w (w.alloc (.cells #[.int .i64 m, .slice bo Lb cb, .slice ho Lh ch] 27)) := Fr.alloc _ _ _
  have HC : Hid (Calls _ _ _ _ _) := dcheck_any m bo ho Lb cb Lh ch 1 bs hs _ (hI.keep hF0) hLb (hH.keep hF0) hLh (Or.inr ⟨rfl, hno⟩)
  have HF0 : Hid (Fr [] w (w.alloc (.cells #[.int .i64 m, .slice bo Lb cb, .slice ho Lh ch] 27))) := hF0
  clear hI hH hLb hLh hno hF0
  go_enter Tryz.func50, Tryz.ntmps50
  go_wp2_with fail
  refine Calls.mono HC.out ?_
  rintro e w1 ⟨rfl, hF1⟩
  have HF : Hid (Fr [] w w1) := HF0.out.then hF1
  clear hF1 HC
  go_wp2
  go_ret2
  exact ⟨rfl, HF.out⟩
theorem kv_take (hs : List Hd) (i : Nat) (h : i < hs.length) : (hs.take (i + 1)).map Hd.kv = (hs.take i).map Hd.kv ++ [(hs.getD i Hd.zero).kv] := by rw [htake_snoc hs i h]; simp
set_option maxHeartbeats 8000000 in
set_option maxRecDepth 100000 in
theorem dencode_ok (m : Int) (bo ho : Option Addr) (Lb cb Lh ch N : Nat) (bs : List Int) (hs : List Hd) (ys : List Nat) (w : World) (hI : IRs w bo bs) (hLb : Lb = bs.length) (hH : HRs w ho hs) (hLh : Lh = hs.length) (hok : OkS m bs (hs.map Hd.kv)) (hys : ys = encD m bs (hs.map Hd.kv)) (hN : N = ys.length) (hlen : ys.length < 2^37) :
    Calls Tryz.prog 50 #[.agg #[.int .i64 m, .slice bo Lb cb, .slice ho Lh ch]] w fun e w' => ∃ k, e = .returned (.tuple #[.slice (some ⟨k, 0, none⟩) N N, .int .i64 0]) ∧ w.heap.size ≤ k ∧ w'.heap[k]? = some (.cells (bts ys).toArray 5 (0, 0)) ∧ Fr [] w w' := by
  have hm0 := hok.m0
  have hm1 := hok.m1
  have HLb : Hid (Lb = bs.length) := hLb
  have HLh : Hid (Lh = hs.length) := hLh
  have HOk : Hid (OkS m bs (hs.map Hd.kv)) := hok
  have HY : Hid (ys = encD m bs (hs.map Hd.kv)) := hys
  have HN : Hid (N = ys.length) := hN
  have hLb1 : Lb ≤ 17592186044416 := by have := hI.few; omega
  have hLh1 : Lh ≤ 3518437208882 := by have := hH.few; omega
  have hbi : (encIs bs).length = (encIs bs).length := rfl
  have hyl := congrArg List.length hys
  simp only [encD, encI, List.length_append] at hyl
  have hnb : ∀ b ∈ bs, 1 ≤ (encI b).length := fun b _ => (enc_length _).1
  have hlb2 : bs.length ≤ (encIs bs).length := by
    clear hI hLb hok hys hlen hyl HLb HOk HY hbi
    induction bs with
    | nil => simp
    | cons b r ih =>
      have h1 := hnb b (by simp)
      have h2 := ih (fun x hx => hnb x (by simp [hx]))
      simp only [encIs, List.flatMap_cons, List.length_append, List.length_cons] at h2 ⊢
      omega
  have hlh2 : hs.length ≤ (encKs (hs.map Hd.kv)).length := by
    clear hH hLh hok hys hlen hyl HLh HOk HY hI
    induction hs with
    | nil => simp
    | cons b r ih =>
      have h1 := (encK_length b.kv).1
      simp only [encKs, List.map_cons, List.flatMap_cons, List.length_append, List.length_cons] at ih ⊢
      omega
  have hLb2 : Lb < 2^37 := by omega
  have hLh2 : Lh < 2^37 := by omega
  obtain ⟨w0, HW0⟩ : ∃ w0, Hid (w.alloc (.cells #[.int .i64 m, .slice bo Lb cb, .slice ho Lh ch] 27) = w0) := ⟨_, rfl⟩
  have hF0 : Fr [] w w0 := by rw [← HW0.out]; exact Fr.alloc [] w _
  have hb0 : w0.heap[w.heap.size]? = some (.cells #[.int .i64 m, .slice bo Lb cb, .slice ho Lh ch] 27 (0, 0)) := by rw [← HW0.out]; exact heap_alloc_new w _
  have HBx : Hid (∀ W, Fr [] w0 W → W.cell? ⟨w.heap.size, 0, none⟩ = some (.int .i64 m) ∧ W.cell? ⟨w.heap.size, 1, none⟩ = some (.slice bo Lb cb) ∧ W.cell? ⟨w.heap.size, 2, none⟩ = some (.slice ho Lh ch)) := fun W hf => by
    have hr := hf.keep hb0 (by simp)
    exact ⟨by rw [cell_of_row _ _ _ _ _ _ hr]; rfl, by rw [cell_of_row _ _ _ _ _ _ hr]; rfl, by rw [cell_of_row _ _ _ _ _ _ hr]; rfl⟩
  have HI : Hid (∀ W, Fr [] w0 W → IRs W bo bs) := fun W hf => hI.keep (hF0.then hf)
  have HH : Hid (∀ W, Fr [] w0 W → HRs W ho hs) := fun W hf => hH.keep (hF0.then hf)
  have HF0 : Hid (Fr [] w w0) := hF0
  have HC : Hid (Calls _ _ _ _ _) := dcheck_any m bo ho Lb cb Lh ch 0 bs hs w0 (hI.keep hF0) hLb (hH.keep hF0) hLh (Or.inl ⟨rfl, hok⟩)
  have HLen : Hid (ys.length < 2^37) := hlen
  obtain ⟨k0, k1, k2⟩ := HBx.out _ (Fr.refl _ _)
  have hyl2 : (enc m.toNat).length + ((enc Lb).length + ((encIs bs).length + ((enc Lh).length + (encKs (hs.map Hd.kv)).length))) < 2^37 := by rw [hLb, hLh]; simp only [List.length_map] at hyl; omega
  have HYl : Hid ((enc m.toNat).length + ((enc Lb).length + ((encIs bs).length + ((enc Lh).length + (encKs (hs.map Hd.kv)).length))) < 2^37) := hyl2
  have HBd : Hid (∀ b ∈ bs, 0 ≤ b ∧ b ≤ 65536) := fun b hb => ⟨by have := hok.bey.low b hb; omega, hok.bey.high b hb⟩
  have e1 : (enc m.toNat).length ≤ 10 := (enc_length _).2
  have e2 : (enc Lb).length ≤ 10 := (enc_length _).2
  have e3 : (enc Lh).length ≤ 10 := (enc_length _).2
  clear hI hH hLb hLh hok hys hN hlen hyl hnb hlb2 hlh2 hbi hb0 hF0 hyl2
  go_enter Tryz.func50, Tryz.ntmps50
  go_upto_region 1 with fail
  rw [HW0.out]
  go_wp2_with fail
  refine Calls.mono HC.out ?_
  rintro e w1 ⟨rfl, hF1⟩
  have HNw : Hid (Calls _ _ _ _ _) := newWriter_wr w0 w1 hF1
  clear HC hF1
  go_wp2_with fail
  refine Calls.mono HNw.out ?_
  rintro e w2 ⟨g, rfl, hg, hB2, hF2⟩
  obtain ⟨k0, k1, k2⟩ := HBx.out _ hB2.fr
  have HC3 : Hid (Calls _ _ _ _ _) := putN_any w0 g _ [] m w2 hB2 (by simp) hm0 (by omega)
  clear HNw hB2 hF2 hg
  go_wp2_with fail
  refine Calls.mono HC3.out ?_
  rintro e w3 ⟨rfl, v3, hB3, _⟩
  rw [List.nil_append] at hB3
  obtain ⟨k0, k1, k2⟩ := HBx.out _ hB3.fr
  have HC4 : Hid (Calls _ _ _ _ _) := putN_any w0 g v3 (enc m.toNat) (Lb : Int) w3 hB3 (by omega) (by omega) (by omega)
  clear HC3 hB3
  go_wp2_with fail
  refine Calls.mono HC4.out ?_
  rintro e w4 ⟨rfl, v4, hB4, _⟩
  rw [Int.toNat_natCast] at hB4
  obtain ⟨k0, k1, k2⟩ := HBx.out _ hB4.fr
  have HB4 : Hid (WB w0 w4 g v4 (enc m.toNat ++ enc Lb)) := hB4
  clear HC4 hB4
  go_wp2_with fail
  go_loopw [28] (fun ii wr => ∃ (i : Nat) (vv : Value) (us : List Nat), ii = .int .i64 i ∧ i ≤ Lb ∧ Hid (us = enc m.toNat ++ enc Lb ++ encIs (bs.take i)) ∧ Hid (WB w0 wr g vv us)) (fun ii _ => Lb - (RowKit.intOf ii).toNat)
  case atStart => exact ⟨0, v4, _, rfl, Nat.zero_le _, by simp [Hid, encIs], HB4⟩
  case round =>
    obtain ⟨i, vv, us, rfl, hiL, HU, HB⟩ := hrel
    by_cases hi : i < Lb
    · have hi' : i < bs.length := by rw [← HLb.out]; exact hi
      have hlt : (i : Int) < Lb := by omega
      obtain ⟨pb, off, rfl, hpb, hat⟩ := (HI.out _ HB.out.fr).lies (by omega)
      have c0 := hat i hi'
      have hsn := itake_snoc bs i hi'
      have hbd := HBd.out (bs.getD i 0) (by simp [List.getD, hi'])
      obtain ⟨x, hx⟩ : ∃ x, x = bs.getD i 0 := ⟨_, rfl⟩
      rw [← hx] at c0 hsn hbd
      obtain ⟨hx0, hx1⟩ := hbd
      have HU2 : Hid (us ++ enc x.toNat = enc m.toNat ++ enc Lb ++ encIs (bs.take (i + 1))) := by
        show _ = _
        rw [hsn, HU.out]
        simp [encIs, encI]
      have hul : us.length < 2^37 := by
        have a := fm_len encI bs i
        have cc := HYl.out
        rw [HU.out]
        simp only [encIs, List.length_append] at a cc ⊢
        omega
      have HC5 : Hid (Calls _ _ _ _ _) := putN_any w0 g vv us x wr HB.out (by omega) hx0 (by omega)
      clear hx hat hpb hsn HU HB
      go_wp2_with fail
      refine Calls.mono HC5.out ?_
      rintro e w5 ⟨rfl, v5, hB5, _⟩
      have HB5 : Hid (WB w0 w5 g v5 (us ++ enc x.toNat)) := hB5
      clear HC5 hB5
      go_wp2_with fail
      go_roundw
      case rel => exact ⟨i + 1, v5, _, by simp, by omega, HU2, HB5⟩
      case measure => simp [RowKit.intOf]; omega
    · have hi2 : bs.length ≤ i := by have := HLb.out; omega
      have hB6 : WB w0 wr g vv (enc m.toNat ++ enc Lb ++ encIs bs) := by
        have h1 := HB.out
        rw [HU.out, List.take_of_length_le hi2] at h1
        exact h1
      have hlt : ¬ (i : Int) < Lb := by omega
      obtain ⟨k0, k1, k2⟩ := HBx.out _ hB6.fr
      have hul : (enc m.toNat ++ enc Lb ++ encIs bs).length < 2^37 := by
        have cc := HYl.out
        simp only [List.length_append] at cc ⊢
        omega
      have HC7 : Hid (Calls _ _ _ _ _) := putN_any w0 g vv _ (Lh : Int) wr hB6 (by omega) (by omega) (by omega)
      clear hi2 HU HB hB6
      go_wp2_with fail
      refine Calls.mono HC7.out ?_
      rintro e w7 ⟨rfl, v7, hB7, _⟩
      rw [Int.toNat_natCast] at hB7
      obtain ⟨k0, k1, k2⟩ := HBx.out _ hB7.fr
      have HB7 : Hid (WB w0 w7 g v7 (enc m.toNat ++ enc Lb ++ encIs bs ++ enc Lh)) := hB7
      clear HC7 hB7
      obtain ⟨wo, HWO⟩ : ∃ wo, Hid (wo = wr) := ⟨_, rfl⟩
      go_wp2_with fail
      go_loopw [44] (fun jj wr => ∃ (j : Nat) (vv : Value) (us : List Nat), jj = .int .i64 j ∧ j ≤ Lh ∧ Hid (us = enc m.toNat ++ enc Lb ++ encIs bs ++ enc Lh ++ encKs ((hs.take j).map Hd.kv)) ∧ Hid (WB w0 wr g vv us)) (fun jj _ => Lh - (RowKit.intOf jj).toNat)
      case atStart => exact ⟨0, v7, _, rfl, Nat.zero_le _, by simp [Hid, encKs], HB7⟩
      case round =>
        obtain ⟨j, vj, us, rfl, hjL, HU, HB⟩ := hrel
        by_cases hj : j < Lh
        · have hj' : j < hs.length := by rw [← HLh.out]; exact hj
          have hlt2 : (j : Int) < Lh := by omega
          obtain ⟨pb, off, rfl, hpb, hat⟩ := (HH.out _ HB.out.fr).lies (by omega)
          obtain ⟨c0, c1⟩ := hat j hj'
          have hsn := kv_take hs j hj'
          have hmem := hgetD_mem hs j hj'
          obtain ⟨x, hx⟩ : ∃ x, x = hs.getD j Hd.zero := ⟨_, rfl⟩
          rw [← hx] at c0 c1 hsn hmem
          have HU2 : Hid (us ++ encK x.kv = enc m.toNat ++ enc Lb ++ encIs bs ++ enc Lh ++ encKs ((hs.take (j + 1)).map Hd.kv)) := by
            show _ = _
            rw [hsn, HU.out]
            simp [encKs]
          have hul : us.length + (encK x.kv).length < 2^38 := by
            have a := fm_len encK (hs.map Hd.kv) (j + 1)
            have b := congrArg List.length HU2.out
            have cc := HYl.out
            rw [← List.map_take] at a
            simp only [encKs, List.length_append] at a b cc ⊢
            omega
          have hlo := HOk.out.lo.2 x.kv (List.mem_map.2 ⟨x, hmem, rfl⟩)
          have HEa : Hid (∀ W, Fr [] w0 W → HEach W x) := fun W hf => (HH.out W hf).each x hmem
          obtain ⟨key, vo, Lv, cv, vs⟩ := x
          simp only at c0 c1
          obtain ⟨w8, HW8⟩ : ∃ w8, Hid (wr.alloc (.cells #[.string key, .slice vo Lv cv] 58) = w8) := ⟨_, rfl⟩
          have hF8 : Fr [] wr w8 := by rw [← HW8.out]; exact Fr.alloc [] wr _
          have hb8 : w8.heap[wr.heap.size]? = some (.cells #[.string key, .slice vo Lv cv] 58 (0, 0)) := by rw [← HW8.out]; exact heap_alloc_new wr _
          have x0 : w8.cell? ⟨wr.heap.size, 0, none⟩ = some (.string key) := by rw [cell_of_row _ _ _ _ _ _ hb8]; rfl
          have x1 : w8.cell? ⟨wr.heap.size, 1, none⟩ = some (.slice vo Lv cv) := by rw [cell_of_row _ _ _ _ _ _ hb8]; rfl
          have HC8 : Hid (Calls _ _ _ _ _) := putH_any w0 g vj us key vo Lv cv vs w8 (HB.out.quiet hF8) (fun W hf => (HEa.out W hf).rs) (HEa.out w0 (Fr.refl _ _)).len hlo.1.2 hlo.2.2 hul
          clear hx hat hpb hsn hmem hb8 hF8 hlo HU HB hul
          go_upto_region 16 with fail
          rw [HW8.out]
          go_wp2_with fail
          refine Calls.mono HC8.out ?_
          rintro e w9 ⟨rfl, v9, hB9, _⟩
          have HB9 : Hid (WB w0 w9 g v9 (us ++ encK (key, vs))) := hB9
          clear HC8 hB9
          go_wp2_with fail
          go_roundw
          case rel => exact ⟨j + 1, v9, _, by simp, by omega, HU2, HB9⟩
          case measure => simp [RowKit.intOf]; omega
        · have hj2 : hs.length ≤ j := by have := HLh.out; omega
          have hB10 : WB w0 wr g vj ys := by
            have h1 := HB.out
            rw [HU.out, List.take_of_length_le hj2] at h1
            rw [HY.out]
            have e : encD m bs (hs.map Hd.kv) = enc m.toNat ++ enc Lb ++ encIs bs ++ enc Lh ++ encKs (hs.map Hd.kv) := by
              rw [HLb.out, HLh.out]
              simp [encD, encI]
            rw [e]
            exact h1
          have hlt2 : ¬ (j : Int) < Lh := by omega
          have hyp : 0 < ys.length := by rw [HY.out]; have := (encD_length m bs (hs.map Hd.kv)).1; omega
          have HDn : Hid (Calls _ _ _ _ _) := done_some g vj ys wr hB10.wr hyp (by have := HLen.out; omega)
          have HFr : Hid (Fr [] w0 wr) := hB10.fr
          clear hj2 HU HB hB10 hyp
          go_wp2_with fail
          refine Calls.mono HDn.out ?_
          rintro e w10 ⟨rfl, hrow, hF10⟩
          rw [← HN.out]
          have HR : Hid (w.heap.size ≤ wr.heap.size ∧ w10.heap[wr.heap.size]? = some (.cells (bts ys).toArray 5 (0, 0)) ∧ Fr [] w w10) := ⟨Nat.le_trans HF0.out.size HFr.out.size, hrow, HF0.out.then (HFr.out.then hF10)⟩
          clear hrow hF10 HDn
          go_wp2
          go_ret2
          exact ⟨_, rfl, HR.out⟩
end Go.Proofs.YtdojhkgnnbdfkaaGreat
