/- Contracts and plain lemmas of this claim. -/
import Derived.Test.YtembflnhhfliaaaGreatDoorGp49
import Derived.Test.YtembflnhhfliaaaGreatDoorGp18
import Derived.Test.YtembflnhhfliaaaGreatDoorGp51
set_option linter.unusedSimpArgs false
set_option linter.unusedVariables false
set_option maxHeartbeats 16000000
set_option maxRecDepth 100000
namespace Go.Proofs.YtembflnhhfliaaaGreatDoor
open BigFrame Go.ChangeShapes Go.WideShapes Go.ChangeAt Go.RowKit Go.Lib Go.Maps
def F19 (w0 : World) (pb gd gr N : Nat) (W : World) : Prop := ∃ SD SR t vs vt SS, Ts w0 W pb gd gr SD SR t vs vt SS /\ t.n <= N
theorem zyz {w w1 w2 : World} {gd gr C : Nat} {SD SR : List Nat} (hD : LD w w1 gd SD (Sk.new C)) (hR : LR w w2 gr SR (Sk.new C)) (hF : Fr [] w1 w2) (hS : ∀ k ∈ SR, w1.heap.size <= k) : F19 w w2.heap.size gd gr 0 (w2.alloc (.cells #[.pointer (some ⟨gd, 0, none⟩), .pointer none, .pointer (some ⟨gr, 0, none⟩), .pointer none] 35)) := by
  have hFa : Fr [] w2 (w2.alloc (.cells #[.pointer (some ⟨gd, 0, none⟩), .pointer none, .pointer (some ⟨gr, 0, none⟩), .pointer none] 35)) := Fr.alloc [] _ _
  refine ⟨SD, SR, Sk.new C, _, _, [], ⟨⟨(hD.quiet hF).quiet hFa, hR.quiet hFa, fun k hk hm => ?_⟩, heap_alloc_new w2 _, ⟨hR.fr.size, fun hm => ?_, fun hm => ?_⟩, Or.inl ⟨rfl, rfl, rfl⟩⟩, by simp [Sk.new]⟩
  · have h1 := hD.lt k hk; have h2 := hS k hm; omega
  · have h1 := (hD.quiet hF).lt _ hm; omega
  · have h1 := hR.lt _ hm; omega
structure Y19 (w0 : World) (pb zb N : Nat) (O : List Nat) (w : World) : Prop where
  pr : Pr19 w0 pb N O w
  zc : w.heap[zb]? = some (.cells #[.bool false, .slice none 0 0] 38 (0, 0))
  zo : zb ∉ O
  zn : w0.heap.size <= zb
structure Z19 (w0 : World) (pb zb bk n N : Nat) (O B : List Nat) (w : World) : Prop where
  y : Y19 w0 pb zb N O w
  kn : Kn w0 bk n w B
  ap : ∀ q ∈ B, q ∉ O /\ w0.heap.size <= q
  zb : zb ∉ B
section
variable {w0 w w' : World} {pb zb bk n N : Nat} {O O' B B' : List Nat}
theorem Z19.does (h : Z19 w0 pb zb bk n N O B w) (h1 : Pr19 w0 pb (N + 1) O' w') (h2 : To O O' w w') : Z19 w0 pb zb bk n (N + 1) O' B w' := by
  have hB := h.kn.lt
  have hz := lt_of_block h.y.zc
  refine ⟨⟨h1, h2.fr.keep h.y.zc h.y.zo, fun hm => ?_, h.y.zn⟩, h.kn.keep h2.fr (fun q hq => (h.ap q hq).1), fun q hq => ⟨fun hm => ?_, (h.ap q hq).2⟩, h.zb⟩
  · rcases h2.grew _ hm with p | p
    · exact h.y.zo p
    · omega
  · rcases h2.grew q hm with p | p
    · exact (h.ap q hq).1 p
    · have := hB q hq; omega
theorem Z19.looked (h : Z19 w0 pb zb bk n N O B w) (h1 : Kn w0 bk (n + 1) w' B') (h2 : Fr B w w') (h3 : ∀ q ∈ B', q ∈ B \/ w.heap.size <= q) : Z19 w0 pb zb bk (n + 1) N O B' w' := by
  have hO := h.y.pr.lt
  have hz := lt_of_block h.y.zc
  have hs := h.y.pr.fr.size
  refine ⟨⟨h.y.pr.keepS h2 (fun q hq => (h.ap q hq).1) (fun q hq => (h.ap q hq).2), h2.keep h.y.zc h.zb, h.y.zo, h.y.zn⟩, h1, fun q hq => ?_, fun hm => ?_⟩
  · rcases h3 q hq with p | p
    · exact h.ap q p
    · exact ⟨fun hm => by have := hO q hm; omega, by omega⟩
  · rcases h3 _ hm with p | p
    · exact h.zb p
    · omega
theorem Z19.shut (h : Z19 w0 pb zb bk n N O B w) (h2 : Fr B w w') : Y19 w0 pb zb N O w' := ⟨h.y.pr.keepS h2 (fun q hq => (h.ap q hq).1) (fun q hq => (h.ap q hq).2), h2.keep h.y.zc h.zb, h.y.zo, h.y.zn⟩
theorem Y19.quiet (h : Y19 w0 pb zb N O w) (hf : Fr [] w w') : Y19 w0 pb zb N O w' := ⟨h.pr.keepS hf (by simp) (by simp), hf.keep h.zc (by simp), h.zo, h.zn⟩
theorem Y19.book (h : Y19 w0 pb zb N O w) : Z19 w0 pb zb w.heap.size 0 N O [w.heap.size] (w.alloc (.cells Bq.newBk 52)) := by
  have hO := h.pr.lt
  have hz := lt_of_block h.zc
  have hs := h.pr.fr.size
  refine ⟨h.quiet (Fr.alloc _ _ _), Kn.new (heap_alloc_new w _) hs, fun q hq => ?_, fun hm => ?_⟩
  · simp at hq
    subst hq
    exact ⟨fun hm => by have := hO _ hm; omega, hs⟩
  · simp at hm; omega
theorem Z19.apart (h : Z19 w0 pb zb bk n N O B w) (ht : Bq.Tab w0) : Calls Tryz.prog 10 #[.pointer (some ⟨bk, 0, none⟩)] w fun e w' => e = .returned (.bool true) /\ Y19 w0 pb zb N O w' := by
  have hl := ht.lt
  refine (h.kn.apart (ht.keep h.y.pr.fr (by simp)) (fun hm => by have := (h.ap _ hm).2; omega)).mono ?_
  rintro e w' ⟨rfl, hF⟩
  exact ⟨rfl, h.shut hF⟩
theorem zqz (h : Pr19 w0 pb N O w) : Y19 w0 pb w.heap.size N O (w.alloc (.cells #[.bool false, .slice none 0 0] 38)) :=
  ⟨h.keepS (Fr.alloc [] _ _) (by simp) (by simp), heap_alloc_new w _, fun hm => by have := h.lt _ hm; omega, h.fr.size⟩
end
theorem zabc (n : Int) (w : World) (h : n < 0 \/ 16777216 < n) : Calls Tryz.prog 7 #[.int .i64 n] w fun e w' => e = .returned (.tuple #[.pointer none, .int .i64 1]) /\ w = w' := by
  rcases h with h | h
  · go_enter Tryz.func7, Tryz.ntmps7
    go_wp2
    go_ret2
    exact ⟨rfl, rfl⟩
  · have h0 : 0 <= n := by omega
    go_enter Tryz.func7, Tryz.ntmps7
    go_wp2
    go_ret2
    exact ⟨rfl, rfl⟩
theorem zaci (C : Int) (ao : Option Addr) (L cap : Nat) (os : List Oq19) (w : World) (hC : -9223372036854775808 <= C /\ C <= 9223372036854775807) (hO : ORs19 w ao os) (hL : L = os.length) (htab : Bq.Tab w) :
    Calls Tryz.prog 3 #[.int .i64 C, .slice ao L cap] w fun e w' => e = .returned (.bool true) /\ Fr [] w w' := by
  have HTab : Hid (Bq.Tab w) := htab
  have HO : Hid (∀ W, Fr [] w W -> ORs19 W ao os) := fun W hf => hO.keep hf
  have HL : Hid (L = os.length) := hL
  have HBe : Hid (Calls _ _ _ _ _) := zoy ao L cap os w hO hL
  clear htab hO hL
  go_enter Tryz.func3, Tryz.ntmps3
  go_wp2_with fail
  refine Calls.mono HBe.out ?_
  rintro e w1 ⟨b, rfl, hF1, hb⟩
  have HF1 : Hid (Fr [] w w1) := hF1
  clear HBe
  cases b with
  | true =>
    clear hb hF1
    go_wp2
    go_ret
    exact ⟨rfl, HF1.out⟩
  | false =>
    obtain ⟨hL1, hsm⟩ := hb rfl
    have HSm : Hid (∀ o ∈ os, zcm o) := hsm
    clear hb hsm
    by_cases hCb : 0 <= C /\ C <= 16777216
    · obtain ⟨c, rfl⟩ := Int.eq_ofNat_of_zero_le hCb.1
      have hD := zaby c w w1 hF1 (by omega)
      have HD : Hid (Calls Tryz.prog 6 #[.int .i64 (c : Int)] w1 fun e w' => ∃ g S, e = .returned (.tuple #[.pointer (some ⟨g, 0, none⟩), .int .i64 0]) /\ LD w w' g S (Sk.new c) /\ (∀ k ∈ S, w1.heap.size <= k) /\ Fr [] w1 w') := hD
      have hcb : c <= 16777216 := by omega
      clear hD hF1 hCb hC
      go_wp2_with fail
      refine Calls.mono HD.out ?_
      rintro e w2 ⟨gd, SD, rfl, hLD, hSD, hF2⟩
      have HLD : Hid (LD w w2 gd SD (Sk.new c)) := hLD
      have hR := zace c w w2 (HF1.out.then hF2) (by omega)
      have HR : Hid (Calls Tryz.prog 7 #[.int .i64 (c : Int)] w2 fun e w' => ∃ g S, e = .returned (.tuple #[.pointer (some ⟨g, 0, none⟩), .int .i64 0]) /\ LR w w' g S (Sk.new c) /\ (∀ k ∈ S, w2.heap.size <= k) /\ Fr [] w2 w') := hR
      clear HD hLD hSD hF2 hR
      go_wp2_with fail
      refine Calls.mono HR.out ?_
      rintro e w3 ⟨gr, SR, rfl, hLR, hSR, hF3⟩
      have hPn := zyz HLD.out hLR hF3 hSR
      obtain ⟨w4, HW4⟩ : ∃ w4, Hid (w3.alloc (.cells #[.pointer (some ⟨gd, 0, none⟩), .pointer none, .pointer (some ⟨gr, 0, none⟩), .pointer none] 35) = w4) := ⟨_, rfl⟩
      rw [HW4.out] at hPn
      obtain ⟨pb, hpb⟩ : ∃ pb, pb = w3.heap.size := ⟨_, rfl⟩
      rw [<- hpb] at hPn
      have HP : Hid (∃ O, Pr19 w pb 0 O w4) := by
        obtain ⟨SD', SR', t', vs', vt', SS', q1, q2⟩ := hPn
        exact ⟨_, Or.inr ⟨gd, gr, SD', SR', t', vs', vt', SS', q1, q2, rfl⟩⟩
      clear HR hLR hSR hF3 hPn HLD
      go_upto_region 8 with fail
      rw [HW4.out, <- hpb]
      clear HW4 hpb
      obtain ⟨O0, hP0⟩ := HP.out
      have hY := zqz hP0
      obtain ⟨w5, HW5⟩ : ∃ w5, Hid (w4.alloc (.cells #[.bool false, .slice none 0 0] 38) = w5) := ⟨_, rfl⟩
      rw [HW5.out] at hY
      obtain ⟨zb, hzb⟩ : ∃ zb, zb = w4.heap.size := ⟨_, rfl⟩
      rw [<- hzb] at hY
      have hZ := hY.book
      obtain ⟨w6, HW6⟩ : ∃ w6, Hid (w5.alloc (.cells Bq.newBk 52) = w6) := ⟨_, rfl⟩
      rw [HW6.out] at hZ
      obtain ⟨bk0, hbk0⟩ : ∃ bk0, bk0 = w5.heap.size := ⟨_, rfl⟩
      rw [<- hbk0] at hZ
      have HZ0 : Hid (∃ O B, Z19 w pb zb bk0 (0 % 16) 0 O B w6) := ⟨_, _, hZ⟩
      clear hP0 hY hZ HP
      go_upto_region 9 with fail
      rw [HW5.out, <- hzb]
      clear HW5 hzb
      go_upto_region 10 with fail
      rw [show w5.alloc (.cells #[.int .i64 0, .slice none 0 0, .slice none 0 0, .slice none 0 0, .slice none 0 0, .slice none 0 0, .slice none 0 0, .slice none 0 0, .slice none 0 0, .slice none 0 0, .slice none 0 0, .slice none 0 0] 52) = w6 from HW6.out, <- hbk0]
      clear HW6 hbk0
      go_wp2_with fail
      go_loopw [11, 12] (fun kk ii wr => ∃ (bk i : Nat), kk = .pointer (some ⟨bk, 0, none⟩) /\ ii = .int .i64 (i : Int) /\ i <= L /\ Hid (∃ O B, Z19 w pb zb bk (i % 16) i O B wr)) (fun _ ii _ => L - (RowKit.intOf ii).toNat)
      case atStart => exact ⟨bk0, 0, rfl, rfl, by omega, HZ0⟩
      case round =>
        clear HZ0
        obtain ⟨bk, i, rfl, rfl, hiL, HZ⟩ := hrel
        obtain ⟨O, B, hZ⟩ := HZ.out
        by_cases hi : i < L
        · have hlt : (i : Int) < L := by omega
          obtain ⟨b, off, hao, hbl, hcell⟩ := (HO.out _ hZ.y.pr.fr).lies (by have := HL.out; omega)
          obtain ⟨o, hoe⟩ : ∃ o, o = os.getD i Oq19.zero := ⟨_, rfl⟩
          have hom : o ∈ os := by
            have hl : i < os.length := by have := HL.out; omega
            rw [hoe]; simp [List.getD, hl]
          have hc := hcell i (by have := HL.out; omega)
          rw [<- hoe] at hc
          have c0 : wr.cell? ⟨b, off + i * 8, none⟩ = some (.int .u8 o.kd) := hc 0 (by omega)
          have c1 : wr.cell? ⟨b, off + i * 8 + 1, none⟩ = some (.int .i64 o.m) := hc 1 (by omega)
          have c2 : wr.cell? ⟨b, off + i * 8 + 2, none⟩ = some (.slice o.bo o.Lb o.cb) := hc 2 (by omega)
          have c3 : wr.cell? ⟨b, off + i * 8 + 3, none⟩ = some (.slice o.ho o.Lh o.ch) := hc 3 (by omega)
          have c4 : wr.cell? ⟨b, off + i * 8 + 4, none⟩ = some (.int .i64 o.slot) := hc 4 (by omega)
          have c5 : wr.cell? ⟨b, off + i * 8 + 5, none⟩ = some (.int .i64 o.at_) := hc 5 (by omega)
          have c6 : wr.cell? ⟨b, off + i * 8 + 6, none⟩ = some (.slice o.yo o.M o.yc) := hc 6 (by omega)
          have c7 : wr.cell? ⟨b, off + i * 8 + 7, none⟩ = some (.int .i64 o.n) := hc 7 (by omega)
          have HDo : Hid (Calls _ _ _ _ _) := hZ.y.pr.does (by omega) o ((HO.out _ (Fr.refl _ _)).each o hom) (HSm.out o hom) HTab.out
          have HZr : Hid (Z19 w pb zb bk (i % 16) i O B wr) := hZ
          subst hao
          clear hoe hom hc hcell hbl hZ HZ
          go_wp2_with fail
          refine Calls.mono HDo.out ?_
          rintro e x1 ⟨rfl, O1, hP1, hT1⟩
          have hZ1 := HZr.out.does hP1 hT1
          have HZ1 : Hid (Z19 w pb zb bk (i % 16) (i + 1) O1 B x1) := hZ1
          have HLo : Hid (Calls _ _ _ _ _) := hZ1.y.pr.looks hZ1.kn (by omega) hZ1.ap
          clear HDo hP1 hT1 hZ1 HZr c0 c1 c2 c3 c4 c5 c6 c7
          go_wp2_with fail
          refine Calls.mono HLo.out ?_
          rintro e x2 ⟨rfl, B2, hK2, hF2, hg2⟩
          have HZ2 : Hid (Z19 w pb zb bk (i % 16 + 1) (i + 1) O1 B2 x2) := HZ1.out.looked hK2 hF2 hg2
          clear HLo hK2 hF2 hg2 HZ1
          by_cases h15 : i % 16 = 15
          · have hr1 : Int.tmod (i : Int) 16 = 15 := by rw [Int.tmod_eq_emod_of_nonneg (by omega)]; omega
            have HAp : Hid (Calls _ _ _ _ _) := HZ2.out.apart HTab.out
            have h16 : (i + 1) % 16 = 0 := by omega
            clear h15
            go_wp2_with fail
            refine Calls.mono HAp.out ?_
            rintro e x3 ⟨rfl, hY3⟩
            have hZ3 := hY3.book
            obtain ⟨x4, HX4⟩ : ∃ x4, Hid (x3.alloc (.cells Bq.newBk 52) = x4) := ⟨_, rfl⟩
            rw [HX4.out] at hZ3
            obtain ⟨bk3, hbk3⟩ : ∃ bk3, bk3 = x3.heap.size := ⟨_, rfl⟩
            rw [<- hbk3] at hZ3
            have HZ3 : Hid (∃ O B, Z19 w pb zb bk3 ((i + 1) % 16) (i + 1) O B x4) := by rw [h16]; exact ⟨_, _, hZ3⟩
            clear HAp hY3 hZ3 h16 hr1 HZ2
            go_upto_region 12 with fail
            rw [show x3.alloc (.cells #[.int .i64 0, .slice none 0 0, .slice none 0 0, .slice none 0 0, .slice none 0 0, .slice none 0 0, .slice none 0 0, .slice none 0 0, .slice none 0 0, .slice none 0 0, .slice none 0 0, .slice none 0 0] 52) = x4 from HX4.out, <- hbk3]
            clear HX4 hbk3
            go_wp2_with fail
            go_roundw
            case rel => exact ⟨bk3, i + 1, rfl, by simp, by omega, HZ3⟩
            case measure => simp [RowKit.intOf]; omega
          · obtain ⟨r, hr⟩ : ∃ r, r = i % 16 := ⟨_, rfl⟩
            have hr1 : Int.tmod (i : Int) 16 = (r : Int) := by rw [Int.tmod_eq_emod_of_nonneg (by omega)]; omega
            have hr2 : ((r : Int) == 15) = false := by simp; omega
            have hr3 : r < 16 := by omega
            have HZ3 : Hid (∃ O B, Z19 w pb zb bk ((i + 1) % 16) (i + 1) O B x2) := by
              rw [show (i + 1) % 16 = i % 16 + 1 by omega]
              exact ⟨_, _, HZ2.out⟩
            clear HZ2 h15 hr
            go_wp2_with fail
            go_roundw
            case rel => exact ⟨bk, i + 1, rfl, by simp, by omega, HZ3⟩
            case measure => simp [RowKit.intOf]; omega
        · have hlt : ¬ (i : Int) < L := by omega
          have HLo : Hid (Calls _ _ _ _ _) := hZ.y.pr.looks hZ.kn (by omega) hZ.ap
          have HZr : Hid (Z19 w pb zb bk (i % 16) i O B wr) := hZ
          clear hZ HZ
          go_wp2_with fail
          refine Calls.mono HLo.out ?_
          rintro e x2 ⟨rfl, B2, hK2, hF2, hg2⟩
          have hZ2 := HZr.out.looked hK2 hF2 hg2
          have HAp : Hid (Calls _ _ _ _ _) := hZ2.apart HTab.out
          clear HLo hK2 hF2 hg2 HZr hZ2
          go_wp2_with fail
          refine Calls.mono HAp.out ?_
          rintro e x3 ⟨rfl, hY3⟩
          have hz0 : x3.cell? ⟨zb, 0, none⟩ = some (.bool false) := by rw [cell_of_row _ _ _ _ _ _ hY3.zc]; rfl
          have HS1 : Hid (Calls _ _ _ _ _) := zjl hz0
          have HS2 : Hid (Calls _ _ _ _ _) := zjk hz0
          have HFe : Hid (Fr [] w x3) := hY3.pr.fr
          clear HAp hY3 hz0
          go_wp2_with fail
          refine Calls.mono HS1.out ?_
          rintro e x4 ⟨rfl, rfl⟩
          clear HS1
          go_wp2_with fail
          refine Calls.mono HS2.out ?_
          rintro e x5 ⟨rfl, rfl⟩
          clear HS2
          go_wp2
          go_ret
          exact ⟨rfl, HFe.out⟩
    · have hCn : C < 0 \/ 16777216 < C := by omega
      have HD : Hid (Calls _ _ _ _ _) := zabw C w1 hCn
      have HR : Hid (Calls _ _ _ _ _) := zabc C w1 hCn
      clear hF1 hCb hCn
      go_wp2_with fail
      refine Calls.mono HD.out ?_
      rintro e w2 ⟨rfl, rfl⟩
      clear HD
      go_wp2_with fail
      refine Calls.mono HR.out ?_
      rintro e w3 ⟨rfl, rfl⟩
      clear HR
      obtain ⟨w4, HW4⟩ : ∃ w4, Hid (w1.alloc (.cells #[.pointer none, .pointer none, .pointer none, .pointer none] 35) = w4) := ⟨_, rfl⟩
      obtain ⟨pb, hpb⟩ : ∃ pb, pb = w1.heap.size := ⟨_, rfl⟩
      have HP : Hid (∃ O, Pr19 w pb 0 O w4) := by
        refine ⟨[pb], Or.inl ⟨?_, ?_, ?_, rfl⟩⟩
        · rw [<- HW4.out, hpb]; exact heap_alloc_new w1 _
        · rw [<- HW4.out]; exact HF1.out.then (Fr.alloc [] _ _)
        · rw [hpb]; exact HF1.out.size
      go_upto_region 8 with fail
      rw [HW4.out, <- hpb]
      clear HW4 hpb
      obtain ⟨O0, hP0⟩ := HP.out
      have hY := zqz hP0
      obtain ⟨w5, HW5⟩ : ∃ w5, Hid (w4.alloc (.cells #[.bool false, .slice none 0 0] 38) = w5) := ⟨_, rfl⟩
      rw [HW5.out] at hY
      obtain ⟨zb, hzb⟩ : ∃ zb, zb = w4.heap.size := ⟨_, rfl⟩
      rw [<- hzb] at hY
      have hZ := hY.book
      obtain ⟨w6, HW6⟩ : ∃ w6, Hid (w5.alloc (.cells Bq.newBk 52) = w6) := ⟨_, rfl⟩
      rw [HW6.out] at hZ
      obtain ⟨bk0, hbk0⟩ : ∃ bk0, bk0 = w5.heap.size := ⟨_, rfl⟩
      rw [<- hbk0] at hZ
      have HZ0 : Hid (∃ O B, Z19 w pb zb bk0 (0 % 16) 0 O B w6) := ⟨_, _, hZ⟩
      clear hP0 hY hZ HP
      go_upto_region 9 with fail
      rw [HW5.out, <- hzb]
      clear HW5 hzb
      go_upto_region 10 with fail
      rw [show w5.alloc (.cells #[.int .i64 0, .slice none 0 0, .slice none 0 0, .slice none 0 0, .slice none 0 0, .slice none 0 0, .slice none 0 0, .slice none 0 0, .slice none 0 0, .slice none 0 0, .slice none 0 0, .slice none 0 0] 52) = w6 from HW6.out, <- hbk0]
      clear HW6 hbk0
      go_wp2_with fail
      go_loopw [11, 12] (fun kk ii wr => ∃ (bk i : Nat), kk = .pointer (some ⟨bk, 0, none⟩) /\ ii = .int .i64 (i : Int) /\ i <= L /\ Hid (∃ O B, Z19 w pb zb bk (i % 16) i O B wr)) (fun _ ii _ => L - (RowKit.intOf ii).toNat)
      case atStart => exact ⟨bk0, 0, rfl, rfl, by omega, HZ0⟩
      case round =>
        clear HZ0
        obtain ⟨bk, i, rfl, rfl, hiL, HZ⟩ := hrel
        obtain ⟨O, B, hZ⟩ := HZ.out
        by_cases hi : i < L
        · have hlt : (i : Int) < L := by omega
          obtain ⟨b, off, hao, hbl, hcell⟩ := (HO.out _ hZ.y.pr.fr).lies (by have := HL.out; omega)
          obtain ⟨o, hoe⟩ : ∃ o, o = os.getD i Oq19.zero := ⟨_, rfl⟩
          have hom : o ∈ os := by
            have hl : i < os.length := by have := HL.out; omega
            rw [hoe]; simp [List.getD, hl]
          have hc := hcell i (by have := HL.out; omega)
          rw [<- hoe] at hc
          have c0 : wr.cell? ⟨b, off + i * 8, none⟩ = some (.int .u8 o.kd) := hc 0 (by omega)
          have c1 : wr.cell? ⟨b, off + i * 8 + 1, none⟩ = some (.int .i64 o.m) := hc 1 (by omega)
          have c2 : wr.cell? ⟨b, off + i * 8 + 2, none⟩ = some (.slice o.bo o.Lb o.cb) := hc 2 (by omega)
          have c3 : wr.cell? ⟨b, off + i * 8 + 3, none⟩ = some (.slice o.ho o.Lh o.ch) := hc 3 (by omega)
          have c4 : wr.cell? ⟨b, off + i * 8 + 4, none⟩ = some (.int .i64 o.slot) := hc 4 (by omega)
          have c5 : wr.cell? ⟨b, off + i * 8 + 5, none⟩ = some (.int .i64 o.at_) := hc 5 (by omega)
          have c6 : wr.cell? ⟨b, off + i * 8 + 6, none⟩ = some (.slice o.yo o.M o.yc) := hc 6 (by omega)
          have c7 : wr.cell? ⟨b, off + i * 8 + 7, none⟩ = some (.int .i64 o.n) := hc 7 (by omega)
          have HDo : Hid (Calls _ _ _ _ _) := hZ.y.pr.does (by omega) o ((HO.out _ (Fr.refl _ _)).each o hom) (HSm.out o hom) HTab.out
          have HZr : Hid (Z19 w pb zb bk (i % 16) i O B wr) := hZ
          subst hao
          clear hoe hom hc hcell hbl hZ HZ
          go_wp2_with fail
          refine Calls.mono HDo.out ?_
          rintro e x1 ⟨rfl, O1, hP1, hT1⟩
          have hZ1 := HZr.out.does hP1 hT1
          have HZ1 : Hid (Z19 w pb zb bk (i % 16) (i + 1) O1 B x1) := hZ1
          have HLo : Hid (Calls _ _ _ _ _) := hZ1.y.pr.looks hZ1.kn (by omega) hZ1.ap
          clear HDo hP1 hT1 hZ1 HZr c0 c1 c2 c3 c4 c5 c6 c7
          go_wp2_with fail
          refine Calls.mono HLo.out ?_
          rintro e x2 ⟨rfl, B2, hK2, hF2, hg2⟩
          have HZ2 : Hid (Z19 w pb zb bk (i % 16 + 1) (i + 1) O1 B2 x2) := HZ1.out.looked hK2 hF2 hg2
          clear HLo hK2 hF2 hg2 HZ1
          by_cases h15 : i % 16 = 15
          · have hr1 : Int.tmod (i : Int) 16 = 15 := by rw [Int.tmod_eq_emod_of_nonneg (by omega)]; omega
            have HAp : Hid (Calls _ _ _ _ _) := HZ2.out.apart HTab.out
            have h16 : (i + 1) % 16 = 0 := by omega
            clear h15
            go_wp2_with fail
            refine Calls.mono HAp.out ?_
            rintro e x3 ⟨rfl, hY3⟩
            have hZ3 := hY3.book
            obtain ⟨x4, HX4⟩ : ∃ x4, Hid (x3.alloc (.cells Bq.newBk 52) = x4) := ⟨_, rfl⟩
            rw [HX4.out] at hZ3
            obtain ⟨bk3, hbk3⟩ : ∃ bk3, bk3 = x3.heap.size := ⟨_, rfl⟩
            rw [<- hbk3] at hZ3
            have HZ3 : Hid (∃ O B, Z19 w pb zb bk3 ((i + 1) % 16) (i + 1) O B x4) := by rw [h16]; exact ⟨_, _, hZ3⟩
            clear HAp hY3 hZ3 h16 hr1 HZ2
            go_upto_region 12 with fail
            rw [show x3.alloc (.cells #[.int .i64 0, .slice none 0 0, .slice none 0 0, .slice none 0 0, .slice none 0 0, .slice none 0 0, .slice none 0 0, .slice none 0 0, .slice none 0 0, .slice none 0 0, .slice none 0 0, .slice none 0 0] 52) = x4 from HX4.out, <- hbk3]
            clear HX4 hbk3
            go_wp2_with fail
            go_roundw
            case rel => exact ⟨bk3, i + 1, rfl, by simp, by omega, HZ3⟩
            case measure => simp [RowKit.intOf]; omega
          · obtain ⟨r, hr⟩ : ∃ r, r = i % 16 := ⟨_, rfl⟩
            have hr1 : Int.tmod (i : Int) 16 = (r : Int) := by rw [Int.tmod_eq_emod_of_nonneg (by omega)]; omega
            have hr2 : ((r : Int) == 15) = false := by simp; omega
            have hr3 : r < 16 := by omega
            have HZ3 : Hid (∃ O B, Z19 w pb zb bk ((i + 1) % 16) (i + 1) O B x2) := by
              rw [show (i + 1) % 16 = i % 16 + 1 by omega]
              exact ⟨_, _, HZ2.out⟩
            clear HZ2 h15 hr
            go_wp2_with fail
            go_roundw
            case rel => exact ⟨bk, i + 1, rfl, by simp, by omega, HZ3⟩
            case measure => simp [RowKit.intOf]; omega
        · have hlt : ¬ (i : Int) < L := by omega
          have HLo : Hid (Calls _ _ _ _ _) := hZ.y.pr.looks hZ.kn (by omega) hZ.ap
          have HZr : Hid (Z19 w pb zb bk (i % 16) i O B wr) := hZ
          clear hZ HZ
          go_wp2_with fail
          refine Calls.mono HLo.out ?_
          rintro e x2 ⟨rfl, B2, hK2, hF2, hg2⟩
          have hZ2 := HZr.out.looked hK2 hF2 hg2
          have HAp : Hid (Calls _ _ _ _ _) := hZ2.apart HTab.out
          clear HLo hK2 hF2 hg2 HZr hZ2
          go_wp2_with fail
          refine Calls.mono HAp.out ?_
          rintro e x3 ⟨rfl, hY3⟩
          have hz0 : x3.cell? ⟨zb, 0, none⟩ = some (.bool false) := by rw [cell_of_row _ _ _ _ _ _ hY3.zc]; rfl
          have HS1 : Hid (Calls _ _ _ _ _) := zjl hz0
          have HS2 : Hid (Calls _ _ _ _ _) := zjk hz0
          have HFe : Hid (Fr [] w x3) := hY3.pr.fr
          clear HAp hY3 hz0
          go_wp2_with fail
          refine Calls.mono HS1.out ?_
          rintro e x4 ⟨rfl, rfl⟩
          clear HS1
          go_wp2_with fail
          refine Calls.mono HS2.out ?_
          rintro e x5 ⟨rfl, rfl⟩
          clear HS2
          go_wp2
          go_ret
          exact ⟨rfl, HFe.out⟩
end Go.Proofs.YtembflnhhfliaaaGreatDoor
