/- Texts of this claim laid together, one behind the other: contracts and plain lemmas; conditions as each names them. -/
import Derived.Test.YtdojhkgnnbdfkaaGreatGp27
import Derived.Test.YtdojhkgnnbdfkaaGreatGp18
import Derived.Test.YtdojhkgnnbdfkaaGreatGp28
import Derived.Test.YtdojhkgnnbdfkaaGreatGp12
import Derived.Deep.RegionHeld3
/- The document's bytes of a checkpoint: contract of its Encode. Conditions as each names them. -/
namespace Go.Proofs.YtdojhkgnnbdfkaaGreat
open BigFrame Go.ChangeShapes Go.WideShapes Go.ChangeAt Go.RowKit Go.Lib Go.Maps
set_option linter.unusedVariables false
set_option linter.unusedSimpArgs false

/-- Bytes being written since a world, out of nothing. -/
structure WT (w0 w : World) (v : Value) (us : List Nat) : Prop where
  it : WnTo w0 (.slice none 0 0) w v us
  fr : Fr [] w0 w
theorem WT.of {w0 w : World} {v : Value} {us : List Nat} (h : WnTo w0 (.slice none 0 0) w v us) : WT w0 w v us := ⟨h, h.fr⟩
theorem WT.nil (w0 w : World) (hf : Fr [] w0 w) : WT w0 w (.slice none 0 0) [] := ⟨⟨⟨by simp [bts], Or.inl ⟨rfl, rfl⟩⟩, hf, Moved.refl _ _⟩, hf⟩
theorem WT.then {w0 w w1 : World} {v v1 : Value} {us ys : List Nat} (h : WT w0 w v us) (k : WnTo w v w1 v1 ys) : WT w0 w1 v1 ys := WT.of (h.it.then k)
theorem wrefVar (w0 w : World) (v : Value) (xs : List Nat) (m : Int) (h : WT w0 w v xs) (h0 : 0 ≤ m) (h1 : m ≤ 1099511627776) (hl : xs.length < 2^40) :
    Calls Tryz.prog 58 #[v, .int .u64 m] w fun e w' => ∃ ao n cap, e = .returned (.slice ao n cap) ∧ WT w0 w' (.slice ao n cap) (xs ++ enc m.toNat) := by
  obtain ⟨N, rfl⟩ := Int.eq_ofNat_of_zero_le h0
  refine (refVar_any v xs N w h.it.wn (by omega) hl).mono ?_
  rintro e w' ⟨ao, n, cap, rfl, hW⟩
  exact ⟨ao, n, cap, rfl, h.then hW⟩
theorem wrefText (w0 w : World) (v : Value) (xs : List Nat) (s : ByteArray) (h : WT w0 w v xs) (hl : xs.length < 2^39) (hs : s.size < 2^39) :
    Calls Tryz.prog 59 #[v, .string s] w fun e w' => ∃ ao n cap, e = .returned (.slice ao n cap) ∧ WT w0 w' (.slice ao n cap) (xs ++ encS s) := by
  refine (refText_any v xs s w h.it.wn hl hs).mono ?_
  rintro e w' ⟨ao, n, cap, rfl, hW⟩
  exact ⟨ao, n, cap, rfl, h.then hW⟩
theorem WT.len {w0 w : World} {ao : Option Addr} {n cap : Nat} {us : List Nat} (h : WT w0 w (.slice ao n cap) us) : n = us.length := by
  obtain ⟨a, c, e⟩ := h.it.wn.slice
  cases e
  rfl
set_option maxHeartbeats 4000000 in
set_option maxRecDepth 100000 in
theorem ywencode_no (m : Int) (bo ho : Option Addr) (Lb cb Lh ch : Nat) (bs : List Int) (hs : List Hd) (w : World) (hI : IRs w bo bs) (hLb : Lb = bs.length) (hH : HRs w ho hs) (hLh : Lh = hs.length) (hno : ¬ OkS m bs (hs.map Hd.kv)) :
    Calls Tryz.prog 35 #[.agg #[.int .i64 m, .slice bo Lb cb, .slice ho Lh ch]] w fun e w' => e = .returned (.tuple #[.slice none 0 0, .int .i64 1]) ∧ Fr [] w w' := by
  have hF0 : Fr [] w (w.alloc (.cells #[.int .i64 m, .slice bo Lb cb, .slice ho Lh ch] 27)) := Fr.alloc _ _ _
  have HC : Hid (Calls _ _ _ _ _) := ywcheck_any m bo ho Lb cb Lh ch 1 bs hs _ (hI.keep hF0) hLb (hH.keep hF0) hLh (Or.inr ⟨rfl, hno⟩)
  have HF0 : Hid (Fr [] w (w.alloc (.cells #[.int .i64 m, .slice bo Lb cb, .slice ho Lh ch] 27))) := hF0
  clear hI hH hLb hLh hno hF0
  go_enter Tryz.func35, Tryz.ntmps35
  go_wp2_with fail
  refine Calls.mono HC.out ?_
  rintro e w1 ⟨rfl, hF1⟩
  have HF : Hid (Fr [] w w1) := HF0.out.then hF1
  clear hF1 HC
  go_wp2
  go_ret2
  exact ⟨rfl, HF.out⟩
set_option maxHeartbeats 16000000 in
set_option maxRecDepth 100000 in
theorem ywencode_ok (m : Int) (bo ho : Option Addr) (Lb cb Lh ch N : Nat) (bs : List Int) (hs : List Hd) (ys : List Nat) (w : World) (hI : IRs w bo bs) (hLb : Lb = bs.length) (hH : HRs w ho hs) (hLh : Lh = hs.length) (hok : OkS m bs (hs.map Hd.kv)) (hys : ys = encD m bs (hs.map Hd.kv)) (hN : N = ys.length) (hlen : ys.length < 2^37) (hLb2 : Lb < 2^37) (hLh2 : Lh < 2^37) :
    Calls Tryz.prog 35 #[.agg #[.int .i64 m, .slice bo Lb cb, .slice ho Lh ch]] w fun e w' => ∃ ao cap, e = .returned (.tuple #[.slice ao N cap, .int .i64 0]) ∧ WT w w' (.slice ao N cap) ys := by
  obtain ⟨i0, hiB, hz0, hz1, hz2⟩ := info_parts Tryz.infoB
  have hm0 := hok.m0
  have hm1 := hok.m1
  have HLb : Hid (Lb = bs.length) := hLb
  have HLh : Hid (Lh = hs.length) := hLh
  have HOk : Hid (OkS m bs (hs.map Hd.kv)) := hok
  have HY : Hid (ys = encD m bs (hs.map Hd.kv)) := hys
  have HN : Hid (N = ys.length) := hN
  have hyl := congrArg List.length hys
  simp only [encD, encI, List.length_append] at hyl
  obtain ⟨w0, HW0⟩ : ∃ w0, Hid (w.alloc (.cells #[.int .i64 m, .slice bo Lb cb, .slice ho Lh ch] 27) = w0) := ⟨_, rfl⟩
  have hF0 : Fr [] w w0 := by rw [← HW0.out]; exact Fr.alloc [] w _
  have hb0 : w0.heap[w.heap.size]? = some (.cells #[.int .i64 m, .slice bo Lb cb, .slice ho Lh ch] 27 (0, 0)) := by rw [← HW0.out]; exact heap_alloc_new w _
  have HBx : Hid (∀ W, Fr [] w0 W → W.cell? ⟨w.heap.size, 0, none⟩ = some (.int .i64 m) ∧ W.cell? ⟨w.heap.size, 1, none⟩ = some (.slice bo Lb cb) ∧ W.cell? ⟨w.heap.size, 2, none⟩ = some (.slice ho Lh ch)) := fun W hf => by
    have hr := hf.keep hb0 (by simp)
    exact ⟨by rw [cell_of_row _ _ _ _ _ _ hr]; rfl, by rw [cell_of_row _ _ _ _ _ _ hr]; rfl, by rw [cell_of_row _ _ _ _ _ _ hr]; rfl⟩
  have HI : Hid (∀ W, Fr [] w0 W → IRs W bo bs) := fun W hf => hI.keep (hF0.then hf)
  have HH : Hid (∀ W, Fr [] w0 W → HRs W ho hs) := fun W hf => hH.keep (hF0.then hf)
  have HF0 : Hid (Fr [] w w0) := hF0
  have HC : Hid (Calls _ _ _ _ _) := ywcheck_any m bo ho Lb cb Lh ch 0 bs hs w0 (hI.keep hF0) hLb (hH.keep hF0) hLh (Or.inl ⟨rfl, hok⟩)
  have HLen : Hid (ys.length < 2^37) := hlen
  obtain ⟨k0, k1, k2⟩ := HBx.out _ (Fr.refl _ _)
  have hyl2 : (enc m.toNat).length + ((enc Lb).length + ((encIs bs).length + ((enc Lh).length + (encKs (hs.map Hd.kv)).length))) < 2^37 := by rw [hLb, hLh]; simp only [List.length_map] at hyl; omega
  have HYl : Hid ((enc m.toNat).length + ((enc Lb).length + ((encIs bs).length + ((enc Lh).length + (encKs (hs.map Hd.kv)).length))) < 2^37) := hyl2
  have HBd : Hid (∀ b ∈ bs, 0 ≤ b ∧ b ≤ 65536) := fun b hb => ⟨by have := hok.bey.low b hb; omega, hok.bey.high b hb⟩
  have e1 : (enc m.toNat).length ≤ 10 := (enc_length _).2
  have e2 : (enc Lb).length ≤ 10 := (enc_length _).2
  have e3 : (enc Lh).length ≤ 10 := (enc_length _).2
  have u1 : IntKind.u64.wrap m = m := by rw [wr_u64]; omega
  have u2 : IntKind.u64.wrap (Lb : Int) = (Lb : Int) := by rw [wr_u64]; omega
  have u3 : IntKind.u64.wrap (Lh : Int) = (Lh : Int) := by rw [wr_u64]; omega
  clear hI hH hLb hLh hok hys hN hlen hyl hb0 hF0 hyl2
  go_enter Tryz.func35, Tryz.ntmps35
  go_upto_region 1 with fail
  rw [HW0.out]
  go_wp2_with fail
  refine Calls.mono HC.out ?_
  rintro e w1 ⟨rfl, hF1⟩
  obtain ⟨k0, k1, k2⟩ := HBx.out _ hF1
  have HC3 : Hid (Calls _ _ _ _ _) := wrefVar w0 w1 (.slice none 0 0) [] m (WT.nil w0 w1 hF1) hm0 (by omega) (by simp)
  clear HC hF1
  go_wp2_with fail
  refine Calls.mono HC3.out ?_
  rintro e w3 ⟨a3, n3, p3, rfl, hB3⟩
  rw [List.nil_append] at hB3
  obtain ⟨k0, k1, k2⟩ := HBx.out _ hB3.fr
  have HC4 : Hid (Calls _ _ _ _ _) := wrefVar w0 w3 _ (enc m.toNat) (Lb : Int) hB3 (by omega) (by omega) (by omega)
  clear HC3 hB3
  go_wp2_with fail
  refine Calls.mono HC4.out ?_
  rintro e w4 ⟨a4, n4, p4, rfl, hB4⟩
  rw [Int.toNat_natCast] at hB4
  obtain ⟨k0, k1, k2⟩ := HBx.out _ hB4.fr
  have HB4 : Hid (WT w0 w4 (.slice a4 n4 p4) (enc m.toNat ++ enc Lb)) := hB4
  clear HC4 hB4
  go_wp2_with fail
  go_loopw [4, 5] (fun bb ii wr => ∃ (i : Nat) (ao : Option Addr) (n cap : Nat) (us : List Nat), bb = .slice ao n cap ∧ ii = .int .i64 i ∧ i ≤ Lb ∧ Hid (us = enc m.toNat ++ enc Lb ++ encIs (bs.take i)) ∧ Hid (WT w0 wr (.slice ao n cap) us)) (fun _ ii _ => Lb - (RowKit.intOf ii).toNat)
  case atStart => exact ⟨0, a4, n4, p4, _, rfl, rfl, Nat.zero_le _, by simp [Hid, encIs], HB4⟩
  case round =>
    obtain ⟨i, ao, n, cap, us, rfl, rfl, hiL, HU, HB⟩ := hrel
    obtain ⟨k0, k1, k2⟩ := HBx.out _ HB.out.fr
    by_cases hi : i < Lb
    · have hi' : i < bs.length := by rw [← HLb.out]; exact hi
      have hlt : (i : Int) < Lb := by omega
      obtain ⟨pb, off, rfl, hpb, hat⟩ := (HI.out _ HB.out.fr).lies (by omega)
      have c0 := hat i hi'
      have hsn := itake_snoc bs i hi'
      have hbd := HBd.out (bs.getD i 0) (by simp [List.getD, hi'])
      obtain ⟨x, hx⟩ : ∃ x, x = bs.getD i 0 := ⟨_, rfl⟩
      rw [← hx] at c0 hsn hbd
      obtain ⟨hx0, hx1⟩ := hbd
      have u4 : IntKind.u64.wrap x = x := by rw [wr_u64]; omega
      have HU2 : Hid (us ++ enc x.toNat = enc m.toNat ++ enc Lb ++ encIs (bs.take (i + 1))) := by
        show _ = _
        rw [hsn, HU.out]
        simp [encIs, encI]
      have hul : us.length < 2^37 := by
        have a := fm_len encI bs i
        have cc := HYl.out
        rw [HU.out]
        simp only [encIs, List.length_append] at a cc ⊢
        omega
      have HC5 : Hid (Calls _ _ _ _ _) := wrefVar w0 wr _ us x HB.out hx0 (by omega) (by omega)
      clear hx hat hpb hsn HU HB
      go_wp2_with fail
      refine Calls.mono HC5.out ?_
      rintro e w5 ⟨a5, n5, p5, rfl, hB5⟩
      have HB5 : Hid (WT w0 w5 (.slice a5 n5 p5) (us ++ enc x.toNat)) := hB5
      clear HC5 hB5
      go_wp2_with fail
      go_roundw
      case rel => exact ⟨i + 1, a5, n5, p5, _, rfl, by simp, by omega, HU2, HB5⟩
      case measure => simp [RowKit.intOf]; omega
    · have hi2 : bs.length ≤ i := by have := HLb.out; omega
      have hB6 : WT w0 wr (.slice ao n cap) (enc m.toNat ++ enc Lb ++ encIs bs) := by
        have h1 := HB.out
        rw [HU.out, List.take_of_length_le hi2] at h1
        exact h1
      have hlt : ¬ (i : Int) < Lb := by omega
      have hul : (enc m.toNat ++ enc Lb ++ encIs bs).length < 2^37 := by
        have cc := HYl.out
        simp only [List.length_append] at cc ⊢
        omega
      have HC7 : Hid (Calls _ _ _ _ _) := wrefVar w0 wr _ _ (Lh : Int) hB6 (by omega) (by omega) (by omega)
      clear hi2 HU HB hB6
      go_wp2_with fail
      refine Calls.mono HC7.out ?_
      rintro e w7 ⟨a7, n7, p7, rfl, hB7⟩
      rw [Int.toNat_natCast] at hB7
      obtain ⟨k0, k1, k2⟩ := HBx.out _ hB7.fr
      have HB7 : Hid (WT w0 w7 (.slice a7 n7 p7) (enc m.toNat ++ enc Lb ++ encIs bs ++ enc Lh)) := hB7
      clear HC7 hB7
      rename World => wo
      go_wp2_with fail
      go_loopw [4, 6] (fun bb jj wr => ∃ (j : Nat) (ao : Option Addr) (n cap : Nat) (us : List Nat), bb = .slice ao n cap ∧ jj = .int .i64 j ∧ j ≤ Lh ∧ Hid (us = enc m.toNat ++ enc Lb ++ encIs bs ++ enc Lh ++ encKs ((hs.take j).map Hd.kv)) ∧ Hid (WT w0 wr (.slice ao n cap) us)) (fun _ jj _ => Lh - (RowKit.intOf jj).toNat)
      case atStart => exact ⟨0, a7, n7, p7, _, rfl, rfl, Nat.zero_le _, by simp [Hid, encKs], HB7⟩
      case round =>
        obtain ⟨j, ao, n, cap, us, rfl, rfl, hjL, HU, HB⟩ := hrel
        obtain ⟨k0, k1, k2⟩ := HBx.out _ HB.out.fr
        by_cases hj : j < Lh
        · have hj' : j < hs.length := by rw [← HLh.out]; exact hj
          have hlt2 : (j : Int) < Lh := by omega
          obtain ⟨pb, off, rfl, hpb, hat⟩ := (HH.out _ HB.out.fr).lies (by omega)
          obtain ⟨c0, c1⟩ := hat j hj'
          have hsn := kv_take hs j hj'
          have hmem := hgetD_mem hs j hj'
          obtain ⟨x, hx⟩ : ∃ x, x = hs.getD j Hd.zero := ⟨_, rfl⟩
          have HX : Hid (x = hs.getD j Hd.zero) := hx
          rw [← hx] at c0 c1 hsn hmem
          have HAt : Hid (∀ W, Fr [] wr W → W.cell? ⟨pb, off + j * 2, none⟩ = some (.string x.key) ∧ W.cell? ⟨pb, off + j * 2 + 1, none⟩ = some (.slice x.vo x.L x.cap)) := fun W hf => ⟨(World.cell?_of_block (hf.block pb hpb (by simp))).trans c0, (World.cell?_of_block (hf.block pb hpb (by simp))).trans c1⟩
          have HU2 : Hid (us ++ encK x.kv = enc m.toNat ++ enc Lb ++ encIs bs ++ enc Lh ++ encKs ((hs.take (j + 1)).map Hd.kv)) := by
            show _ = _
            rw [hsn, HU.out]
            simp [encKs]
          have hul : us.length + (encK x.kv).length < 2^38 := by
            have a := fm_len encK (hs.map Hd.kv) (j + 1)
            have b := congrArg List.length HU2.out
            have cc := HYl.out
            rw [← List.map_take] at a
            simp only [encKs, List.length_append] at a b cc ⊢
            omega
          have hlo := HOk.out.lo.2 x.kv (List.mem_map.2 ⟨x, hmem, rfl⟩)
          have HEa : Hid (∀ W, Fr [] w0 W → HEach W x) := fun W hf => (HH.out W hf).each x hmem
          obtain ⟨key, vo, Lv, cv, vs⟩ := x
          simp only at c0 c1 HAt
          obtain ⟨hk, hne, hokv⟩ := hlo
          have hk64 : key.size ≤ 64 := hk.2
          have HLv : Hid (Lv = vs.length) := (HEa.out w0 (Fr.refl _ _)).len
          have hLv1 : Lv ≤ 65536 := by rw [HLv.out]; exact okV_few hokv
          have HO : Hid (okV vs) := hokv
          have HV : Hid (∀ W, Fr [] w0 W → VRs W vo vs) := fun W hf => (HEa.out W hf).rs
          have he : (encK (key, vs)).length = (encS key).length + ((enc vs.length).length + (encXs vs).length) := by simp [encK]
          have hkv : Hd.kv ⟨key, vo, Lv, cv, vs⟩ = (key, vs) := rfl
          rw [hkv] at hul HU2
          have hxs : us.length < 2^38 := by omega
          have hlk : (us ++ encS key).length < 2^38 := by rw [List.length_append]; omega
          have hLvE := HLv.out
          have HLenV : Hid ((us ++ encS key ++ enc Lv).length + (encXs vs).length < 2^38) := by show _ < _; rw [List.length_append, List.length_append, hLvE]; omega
          have HE : Hid (us ++ encK (key, vs) = us ++ encS key ++ enc Lv ++ encXs vs) := by show _ = _; rw [hLvE]; simp [encK]
          have u5 : IntKind.u64.wrap (Lv : Int) = (Lv : Int) := by rw [wr_u64]; omega
          have HC8 : Hid (Calls _ _ _ _ _) := wrefText w0 wr _ us key HB.out (by omega) (by omega)
          have HS8 : Hid (w0.heap.size ≤ wr.heap.size) := HB.out.fr.size
          have HP8 : Hid (pb < wr.heap.size) := hpb
          have HFw : Hid (Fr [] w0 wr) := HB.out.fr
          clear hx hat hpb hsn hmem HU HB hul he hokv hk hne HEa hLvE
          rename World => wi
          go_wp2_with fail
          refine Calls.mono HC8.out ?_
          rintro e w9 ⟨a9, n9, p9, rfl, hB9⟩
          have HF9 : Hid (Fr [] w0 w9) := hB9.fr
          have HB9 : Hid (WT w0 w9 (.slice a9 n9 p9) (us ++ encS key)) := hB9
          obtain ⟨k0, k1, k2⟩ := HBx.out _ hB9.fr
          obtain ⟨c0, c1⟩ : w9.cell? ⟨pb, off + j * 2, none⟩ = some (.string key) ∧ w9.cell? ⟨pb, off + j * 2 + 1, none⟩ = some (.slice vo Lv cv) := by
            obtain ⟨qb, qo, e, hq, hat⟩ := (HH.out _ hB9.fr).lies (by omega)
            cases e
            have := hat j hj'
            rw [← HX.out] at this
            exact this
          have HC9 : Hid (Calls _ _ _ _ _) := wrefVar w0 w9 _ (us ++ encS key) (Lv : Int) HB9.out (by omega) (by omega) (by omega)
          clear HC8 hB9
          go_wp2_with fail
          refine Calls.mono HC9.out ?_
          rintro e w10 ⟨a10, n10, p10, rfl, hB10⟩
          rw [Int.toNat_natCast] at hB10
          have HB10 : Hid (WT w0 w10 (.slice a10 n10 p10) (us ++ encS key ++ enc Lv)) := hB10
          clear HC9 hB10 HB9 HF9
          go_wp2_with fail
          go_loopw [4, 8] (fun bb kk wr => ∃ (k : Nat) (ao : Option Addr) (n cap : Nat) (us2 : List Nat), bb = .slice ao n cap ∧ kk = .int .i64 k ∧ k ≤ Lv ∧ Hid (us2 = us ++ encS key ++ enc Lv ++ encXs (vs.take k)) ∧ Hid (WT w0 wr (.slice ao n cap) us2)) (fun _ kk _ => Lv - (RowKit.intOf kk).toNat)
          case atStart => exact ⟨0, a10, n10, p10, _, rfl, rfl, Nat.zero_le _, by simp [Hid, encXs], HB10⟩
          case round =>
            obtain ⟨k, ak, nk, pk, us2, rfl, rfl, hkL, HU3, HB⟩ := hrel
            by_cases hkk : k < Lv
            · have hk' : k < vs.length := by rw [← HLv.out]; exact hkk
              have hltk : (k : Int) < Lv := by omega
              obtain ⟨vb, vf, rfl, hvb, hvt⟩ := (HV.out _ HB.out.fr).lies (by omega)
              have hokx := HO.out.1 _ (vgetD_mem vs k hk')
              have hsn := vtake_snoc vs k hk'
              have HAv : Hid (∀ W, Fr [] w0 W → VAt W vb (vf + k * 3) (vs.getD k Vn.zero)) := fun W hf => by
                obtain ⟨qb, qo, e, hq, hat⟩ := (HV.out _ hf).lies (by omega)
                cases e
                exact hat k hk'
              obtain ⟨y, hy⟩ : ∃ y, y = vs.getD k Vn.zero := ⟨_, rfl⟩
              rw [← hy] at HAv hokx hsn
              have HU4 : Hid (us2 ++ encX y = us ++ encS key ++ enc Lv ++ encXs (vs.take (k + 1))) := by
                show _ = _
                rw [hsn, HU3.out]
                simp [encXs]
              have hul : us2.length + (encX y).length < 2^38 := by
                have a := fm_len encX vs (k + 1)
                have b := congrArg List.length HU4.out
                have cc := HLenV.out
                simp only [encXs, List.length_append] at a b cc ⊢
                omega
              obtain ⟨num, val, drop⟩ := y
              obtain ⟨q1, q2, q3, q4⟩ := hokx
              simp only at q1 q2 q3 q4
              have hex : (encX ⟨num, val, drop⟩).length = (enc num.toNat).length + (encV ⟨num, val, drop⟩).length := by simp [encX]
              have hev := encS_length val
              have u6 : IntKind.u64.wrap num = num := by rw [wr_u64]; omega
              have HC11 : Hid (Calls _ _ _ _ _) := wrefVar w0 wr _ us2 num HB.out (by omega) (by omega) (by omega)
              obtain ⟨d0, d1, d2⟩ := HAv.out _ HB.out.fr
              simp only at d0 d1 d2
              clear hy hvt hsn hvb HU3 HB hex
              go_wp2_with fail
              refine Calls.mono HC11.out ?_
              rintro e w11 ⟨a11, n11, p11, rfl, hB11⟩
              obtain ⟨d0, d1, d2⟩ := HAv.out _ hB11.fr
              simp only at d0 d1 d2
              have hn11 := hB11.len
              have hl11 : n11 < 2^38 + 20 := by rw [hn11, List.length_append]; have := enc_length num.toNat; omega
              have HN11 : Hid (n11 = (us2 ++ enc num.toNat).length) := hn11
              have HB11 : Hid (WT w0 w11 (.slice a11 n11 p11) (us2 ++ enc num.toNat)) := hB11
              have HOw : Hid (w11.ownsRow 0 5 1 (.slice a11 n11 p11) n11 (bts (us2 ++ enc num.toNat))) := by
                have := hB11.it.wn
                unfold Wn at this
                rw [← hn11] at this
                exact this
              clear HC11 hB11 hn11
              cases drop with
              | true =>
                have HE6 : Hid (us2 ++ enc num.toNat ++ [1] = us2 ++ encX ⟨num, val, true⟩) := by show _ = _; simp [encX, encV]
                go_wp2_with (at_builtin; refine wpList_app1 _ rfl (.tmp 88) (.tmp 89) 76 rfl 5 i0 (.int .u8 0) 1 1 Tryz.undBs hiB hz0 hz1 hz2 rfl (by decide) _ n11 _ rfl (HOw.out.alloc _) ⟨w11.heap.size, 0, none⟩ 1 [.int .u8 1] rfl rfl ?c1 ?c2 ?c3 ?c4 ?_)
                case c1 => intro j u hj; match j, hj with | 0, hj => simp at hj; subst hj; simp [Addr.add]
                case c2 => intro u hu; simp at hu; subst hu; rfl
                case c3 => omega
                case c4 => unfold maxLen; omega
                intro g' cap' w12 hown hgrow hmov
                have HR : Hid (WT w0 w12 (.slice (some ⟨g', 0, none⟩) (n11 + 1) cap') (us2 ++ encX ⟨num, val, true⟩)) := by
                  rw [← HE6.out]
                  exact WT.of (HB11.out.it.step (z := 1) hown (by rw [List.length_append, ← HN11.out]; rfl) (by rw [bts_append (us2 ++ enc num.toNat)]; rfl) hgrow hmov (by omega))
                clear hown hgrow hmov HE6 HOw HB11
                go_wp2
                go_roundw
                case rel => exact ⟨k + 1, _, _, _, _, rfl, by simp, by omega, HU4, HR⟩
                case measure => simp [RowKit.intOf]; omega
              | false =>
                have HE6 : Hid (us2 ++ enc num.toNat ++ [0] ++ encS val = us2 ++ encX ⟨num, val, false⟩) := by show _ = _; simp [encX, encV]
                go_wp2_with (at_builtin; refine wpList_app1 _ rfl (.tmp 91) (.tmp 92) 76 rfl 5 i0 (.int .u8 0) 1 1 Tryz.undBs hiB hz0 hz1 hz2 rfl (by decide) _ n11 _ rfl (HOw.out.alloc _) ⟨w11.heap.size, 0, none⟩ 1 [.int .u8 0] rfl rfl ?c1 ?c2 ?c3 ?c4 ?_)
                case c1 => intro j u hj; match j, hj with | 0, hj => simp at hj; subst hj; simp [Addr.add]
                case c2 => intro u hu; simp at hu; subst hu; rfl
                case c3 => omega
                case c4 => unfold maxLen; omega
                intro g' cap' w12 hown hgrow hmov
                have hB12 : WT w0 w12 (.slice (some ⟨g', 0, none⟩) (n11 + 1) cap') (us2 ++ enc num.toNat ++ [0]) :=
                  WT.of (HB11.out.it.step (z := 0) hown (by rw [List.length_append, ← HN11.out]; rfl) (by rw [bts_append (us2 ++ enc num.toNat)]; rfl) hgrow hmov (by omega))
                obtain ⟨d0, d1, d2⟩ := HAv.out _ hB12.fr
                simp only at d0 d1 d2
                have HC13 : Hid (Calls _ _ _ _ _) := wrefText w0 w12 _ (us2 ++ enc num.toNat ++ [0]) val hB12 (by rw [List.length_append, ← HN11.out]; simp only [List.length_cons, List.length_nil]; omega) (by omega)
                clear hown hgrow hmov HOw HB11 hB12
                go_wp2_with fail
                refine Calls.mono HC13.out ?_
                rintro e w13 ⟨a13, n13, p13, rfl, hB13⟩
                rw [HE6.out] at hB13
                have HR : Hid (WT w0 w13 (.slice a13 n13 p13) (us2 ++ encX ⟨num, val, false⟩)) := hB13
                clear hB13 HC13 HE6
                go_wp2_with fail
                go_roundw
                case rel => exact ⟨k + 1, _, _, _, _, rfl, by simp, by omega, HU4, HR⟩
                case measure => simp [RowKit.intOf]; omega
            · have hltk : ¬ (k : Int) < Lv := by omega
              have hk2 : vs.length ≤ k := by have := HLv.out; omega
              have HR : Hid (WT w0 wr (.slice ak nk pk) (us ++ encK (key, vs))) := by
                have h1 := HB.out
                rw [HU3.out, List.take_of_length_le hk2, ← HE.out] at h1
                exact h1
              clear hk2 HU3 HB
              go_wp2_with fail
              go_roundw
              case rel => exact ⟨j + 1, _, _, _, _, rfl, by simp, by omega, HU2, HR⟩
              case measure => simp [RowKit.intOf]; omega
        · have hj2 : hs.length ≤ j := by have := HLh.out; omega
          have hB10 : WT w0 wr (.slice ao n cap) ys := by
            have h1 := HB.out
            rw [HU.out, List.take_of_length_le hj2] at h1
            rw [HY.out]
            have e : encD m bs (hs.map Hd.kv) = enc m.toNat ++ enc Lb ++ encIs bs ++ enc Lh ++ encKs (hs.map Hd.kv) := by
              rw [HLb.out, HLh.out]
              simp [encD, encI]
            rw [e]
            exact h1
          have hlt2 : ¬ (j : Int) < Lh := by omega
          obtain rfl : n = N := by rw [HN.out]; exact hB10.len
          have HR : Hid (WT w wr (.slice ao n cap) ys) := ⟨⟨hB10.it.wn, HF0.out.then hB10.fr, by
            rcases hB10.it.mv with h | ⟨k, h1, h2⟩
            · exact Or.inl h
            · exact Or.inr ⟨k, h1, Nat.le_trans HF0.out.size h2⟩⟩, HF0.out.then hB10.fr⟩
          clear hj2 HU HB hB10
          go_wp2
          go_ret2
          exact ⟨_, _, rfl, HR.out⟩
end Go.Proofs.YtdojhkgnnbdfkaaGreat
/- How great versions, keys, what a checkpoint says are together, by the statements' own measure: exact up to their bound. Conditions as each names them. -/
namespace Go.Proofs.YtdojhkgnnbdfkaaGreat
open Go.ChangeShapes Go.WideShapes Go.ChangeAt Go.RowKit Go.Lib Go.Maps
set_option linter.unusedVariables false
set_option linter.unusedSimpArgs false

theorem szXs_alt (vs : List Vn) : szXs vs = vs.length + (vs.map (fun v => v.val.size)).sum := by
  induction vs with
  | nil => rfl
  | cons v r ih =>
    simp only [szXs, List.map_cons, List.sum_cons, List.length_cons] at ih ⊢
    rw [ih]
    unfold szX
    omega
theorem szKs_alt (ps : List Kv) : szKs ps = ps.length + (ps.map (fun p => p.1.size + szXs p.2)).sum := by
  induction ps with
  | nil => rfl
  | cons v r ih =>
    simp only [szKs, List.map_cons, List.sum_cons, List.length_cons] at ih ⊢
    rw [ih]
    unfold szK
    omega
end Go.Proofs.YtdojhkgnnbdfkaaGreat
