/- Contracts and plain lemmas of this claim. -/
import Derived.Test.YtembflnhhfliaaaGreatDoorGp46
set_option linter.unusedSimpArgs false
set_option linter.unusedVariables false
set_option maxHeartbeats 16000000
set_option maxRecDepth 100000
namespace Go.Proofs.YtembflnhhfliaaaGreatDoor
open BigFrame Go.ChangeShapes Go.WideShapes Go.ChangeAt Go.RowKit Go.Lib Go.Maps
theorem zpm {w0 w : World} {pb gd gr : Nat} {SD SR SS : List Nat} {t : Sk} {vs vt : Value} (h : Ts w0 w pb gd gr SD SR t vs vt SS) (m slot at_ n : Int) (bo ho yo : Option Addr) (Lb cb Lh ch M yc : Nat) (bs : List Int) (hs : List Hd) (c : Nat) (ys : List Nat) {ok : Bool} {g i : Nat} {mN : Int} {bN : List Int} {pN : List Kv} (hN : Nw t.s0 t.s1 ok g i mN bN pN) (hI : IRs w0 bo bs) (hLb : Lb = bs.length) (hH : HRs w0 ho hs) (hLh : Lh = hs.length) (hz : bs.length + szKs (hs.map Hd.kv) <= 1048576) (hT : ToldD m bs (hs.map Hd.kv) c ys) (htab : Bq.Tab w0) (hE : newE t.C g c ys.length ≠ 0) :
    Calls Tryz.prog 8 #[.pointer (some ⟨pb, 0, none⟩), .agg #[.int .u8 1, .int .i64 m, .slice bo Lb cb, .slice ho Lh ch, .int .i64 slot, .int .i64 at_, .slice yo M yc, .int .i64 n]] w fun e w' => DoP w0 pb gd gr SD SR SS t w e w' := by
  have hF0 : Fr [] w0 w := h.pr.d.fr
  have HLh : Hid (Lh = hs.length) := hLh
  have HLb : Hid (Lb = bs.length) := hLb
  obtain ⟨hf1, hf2⟩ := zgv (hs := hs) (by omega)
  have hLh1 : Lh < 2^21 := by omega
  have hLb1 : Lb < 2^21 := by omega
  have HFew : Hid (Few hs) := fun t ht => by
    have h1 := hf2 t ht
    have h2 := (hH.each t ht).len
    omega
  obtain ⟨E, HEe⟩ : ∃ E : Int, Hid (E = newE t.C g c ys.length) := ⟨_, rfl⟩
  have hEE : (E == E) = true := by simp
  obtain ⟨w1, HW1⟩ : ∃ w1, Hid (w.alloc (.cells #[.int .u8 1, .int .i64 m, .slice bo Lb cb, .slice ho Lh ch, .int .i64 slot, .int .i64 at_, .slice yo M yc, .int .i64 n] 60) = w1) := ⟨_, rfl⟩
  have hF1 : Fr [] w w1 := by rw [<- HW1.out]; exact Fr.alloc [] w _
  obtain ⟨ob, hob⟩ : ∃ ob, ob = w.heap.size := ⟨_, rfl⟩
  have hb1 : w1.heap[ob]? = some (.cells #[.int .u8 1, .int .i64 m, .slice bo Lb cb, .slice ho Lh ch, .int .i64 slot, .int .i64 at_, .slice yo M yc, .int .i64 n] 60 (0, 0)) := by rw [<- HW1.out, hob]; exact heap_alloc_new w _
  have HOb : Hid (∀ W, Fr [] w1 W -> W.cell? ⟨ob, 0, none⟩ = some (.int .u8 1) /\ W.cell? ⟨ob, 1, none⟩ = some (.int .i64 m) /\ W.cell? ⟨ob, 2, none⟩ = some (.slice bo Lb cb) /\ W.cell? ⟨ob, 3, none⟩ = some (.slice ho Lh ch)) := fun W hf => by
    have hb := hf.keep hb1 (by simp)
    refine ⟨?_, ?_, ?_, ?_⟩ <;> rw [cell_of_row _ _ _ _ _ _ hb] <;> rfl
  have HTs : Hid (∀ W, Fr [] w1 W -> Ts w0 W pb gd gr SD SR t vs vt SS) := fun W hf => h.quiet (hF1.then hf)
  have HPb : Hid (∀ W, Fr [] w1 W -> W.cell? ⟨pb, 0, none⟩ = some (.pointer (some ⟨gd, 0, none⟩)) /\ W.cell? ⟨pb, 1, none⟩ = some vs /\ W.cell? ⟨pb, 2, none⟩ = some (.pointer (some ⟨gr, 0, none⟩)) /\ W.cell? ⟨pb, 3, none⟩ = some vt /\ W.frozen? ⟨pb, 1, none⟩ = false /\ W.frozen? ⟨pb, 3, none⟩ = false) := fun W hf => by
    have hb := (HTs.out W hf).box
    refine ⟨?_, ?_, ?_, ?_, ?_, ?_⟩
    · rw [cell_of_row _ _ _ _ _ _ hb]; rfl
    · rw [cell_of_row _ _ _ _ _ _ hb]; rfl
    · rw [cell_of_row _ _ _ _ _ _ hb]; rfl
    · rw [cell_of_row _ _ _ _ _ _ hb]; rfl
    · simp [World.frozen?, hb]
    · simp [World.frozen?, hb]
  have HH : Hid (∀ W, Fr [] w1 W -> HRs W ho hs /\ IRs W bo bs) := fun W hf => ⟨hH.keep (hF0.then (hF1.then hf)), hI.keep (hF0.then (hF1.then hf))⟩
  have HF1 : Hid (Fr [] w w1 /\ Bq.Tab w1 /\ pb < w.heap.size /\ pb ≠ Bq.gTab) := ⟨hF1, htab.keep (hF0.then hF1) (by simp), lt_of_block h.box, fun e => by have h1 := htab.lt; have h2 := h.pbn.1; omega⟩
  have HNT : Hid (Nw t.s0 t.s1 ok g i mN bN pN /\ ToldD m bs (hs.map Hd.kv) c ys /\ bs.length + szKs (hs.map Hd.kv) <= 1048576 /\ newE t.C g c ys.length ≠ 0) := ⟨hN, hT, hz, hE⟩
  have HTw : Hid (Calls _ _ _ _ _) := zkf (w := w1) m bo ho Lb cb Lh ch bs hs (HH.out _ (Fr.refl _ _)).2 HLb.out (HH.out _ (Fr.refl _ _)).1 HLh.out hLh1 HFew.out
  obtain ⟨k0, k1, k2, k3⟩ := HOb.out _ (Fr.refl _ _)
  clear h hN hI hLb hH hLh hz hT htab hE hF0 hf1 hf2 hF1 hb1
  go_enter Tryz.func8, Tryz.ntmps8
  go_upto_region 1 with fail
  rw [HW1.out, <- hob]
  clear HW1 hob
  go_wp2_with fail
  refine Calls.mono HTw.out ?_
  rintro e w2 ⟨bb, bh, ks, rfl, hTw, hF2⟩
  obtain ⟨w3, HW3⟩ : ∃ w3, Hid (w2.alloc (.cells #[.int .i64 m, .slice (some ⟨bb, 0, none⟩) Lb (Lb + 1), .slice (some ⟨bh, 0, none⟩) Lh (Lh + 1)] 57) = w3) := ⟨_, rfl⟩
  have hF3 : Fr [] w2 w3 := by rw [<- HW3.out]; exact Fr.alloc [] w2 _
  obtain ⟨B, hB⟩ : ∃ B, B = w2.heap.size := ⟨_, rfl⟩
  have hb3 : w3.heap[B]? = some (.cells #[.int .i64 m, .slice (some ⟨bb, 0, none⟩) Lb (Lb + 1), .slice (some ⟨bh, 0, none⟩) Lh (Lh + 1)] 57 (0, 0)) := by rw [<- HW3.out, hB]; exact heap_alloc_new w2 _
  have HBx : Hid (∀ W, Fr [] w3 W -> W.cell? ⟨B, 0, none⟩ = some (.int .i64 m) /\ W.cell? ⟨B, 1, none⟩ = some (.slice (some ⟨bb, 0, none⟩) Lb (Lb + 1)) /\ W.cell? ⟨B, 2, none⟩ = some (.slice (some ⟨bh, 0, none⟩) Lh (Lh + 1))) := fun W hf => zai (hf.keep hb3 (by simp))
  have HT3 : Hid (∀ W, Fr [] w3 W -> TwS w1 W bs hs bb bh ks /\ IRs W (some ⟨bb, 0, none⟩) bs /\ HRs W (some ⟨bh, 0, none⟩) (twTs hs ks)) := fun W hf => by
    have h := hTw.keep (hF3.then hf)
    exact ⟨h, h.irs (HH.out _ (Fr.refl _ _)).2, h.hrs (HH.out _ (Fr.refl _ _)).1⟩
  have HLk : Hid (Lh = (twTs hs ks).length /\ (twTs hs ks).map Hd.kv = hs.map Hd.kv) := ⟨by rw [zbd hs ks hTw.tw.len]; exact HLh.out, hTw.kv⟩
  have HF3 : Hid (Fr [] w1 w3 /\ Fr [] w1 w2 /\ Fr [] w2 w3 /\ TwS w1 w2 bs hs bb bh ks) := ⟨hF2.then hF3, hF2, hF3, hTw⟩
  clear hTw hF2 hF3 hb3 HTw k0 k1 k2 k3
  have hFd : Fr [] w3 w3.drew := Fr.drew [] w3
  have HSn : Hid (Calls Tryz.prog 15 #[.pointer (some ⟨gd, 0, none⟩), .agg #[.int .i64 m, .slice (some ⟨bb, 0, none⟩) Lb (Lb + 1), .slice (some ⟨bh, 0, none⟩) Lh (Lh + 1)]] w3.drew fun e w4 => e = .returned (.tuple #[.pointer none, .int .i64 E]) /\ Fr [] w3 w4 /\ w4.cell? ⟨pb, 0, none⟩ = some (.pointer (some ⟨gd, 0, none⟩)) /\ w4.cell? ⟨B, 0, none⟩ = some (.int .i64 m) /\ w4.cell? ⟨B, 1, none⟩ = some (.slice (some ⟨bb, 0, none⟩) Lb (Lb + 1)) /\ w4.cell? ⟨B, 2, none⟩ = some (.slice (some ⟨bh, 0, none⟩) Lh (Lh + 1))) := by
    refine Calls.mono (zoj (HTs.out _ (HF3.out.1.then hFd)).pr.d HNT.out.1 m (some ⟨bb, 0, none⟩) (some ⟨bh, 0, none⟩) Lb (Lb + 1) Lh (Lh + 1) c bs (twTs hs ks) (hs.map Hd.kv) ys (HT3.out _ hFd).2.1 HLb.out (HT3.out _ hFd).2.2 HLk.out.1 HLk.out.2 HNT.out.2.1 HNT.out.2.2.1) ?_
    intro e w4 hP
    rcases hP with ⟨_, e1, e6⟩ | ⟨q, _⟩
    · have hF4 := hFd.then e6
      obtain ⟨j0, _, _, _, _, _⟩ := HPb.out _ (HF3.out.1.then hF4)
      obtain ⟨j1, j2, j3⟩ := HBx.out _ hF4
      exact ⟨by rw [HEe.out]; exact e1, hF4, j0, j1, j2, j3⟩
    · exact absurd q HNT.out.2.2.2
  obtain ⟨l0, _, _, _, _, _⟩ := HPb.out _ (HF3.out.1.then hFd)
  obtain ⟨b0, b1, b2⟩ := HBx.out _ hFd
  clear hFd
  go_upto_region 4 with fail
  rw [HW3.out, <- hB]
  clear HW3 hB
  go_loud (go_region_held3 (fun W => W.cell? ⟨pb, 0, none⟩ = some (.pointer (some ⟨gd, 0, none⟩)) /\ W.cell? ⟨B, 0, none⟩ = some (.int .i64 m) /\ W.cell? ⟨B, 1, none⟩ = some (.slice (some ⟨bb, 0, none⟩) Lb (Lb + 1)) /\ W.cell? ⟨B, 2, none⟩ = some (.slice (some ⟨bh, 0, none⟩) Lh (Lh + 1))) (go_keep)
    (first
    | (go_at_call 15; with_reducible refine HSn.out.mono ?_; rintro e4 w4 ⟨rfl, hF4, j0, j1, j2, j3⟩)))
  have HF4 : Hid (Fr [] w3 w4) := hF4
  have hFe : Fr [] w4 w4.drew := Fr.drew [] w4
  have HZn : Hid (Calls Tryz.prog 16 #[.pointer (some ⟨gr, 0, none⟩), .agg #[.int .i64 m, .slice bo Lb cb, .slice ho Lh ch]] w4.drew fun e w5 => e = .returned (.tuple #[.pointer none, .int .i64 E]) /\ Fr [] w4 w5 /\ w5.cell? ⟨pb, 2, none⟩ = some (.pointer (some ⟨gr, 0, none⟩)) /\ w5.cell? ⟨ob, 1, none⟩ = some (.int .i64 m) /\ w5.cell? ⟨ob, 2, none⟩ = some (.slice bo Lb cb) /\ w5.cell? ⟨ob, 3, none⟩ = some (.slice ho Lh ch)) := by
    have hFx := HF3.out.1.then (HF4.out.then hFe)
    refine Calls.mono (zoo (HTs.out _ hFx).pr.r HNT.out.1 m bo ho Lb cb Lh ch c bs hs (hs.map Hd.kv) ys (HH.out _ hFx).2 HLb.out (HH.out _ hFx).1 HLh.out rfl HNT.out.2.1 HNT.out.2.2.1) ?_
    intro e w5 hP
    rcases hP with ⟨_, e1, e5⟩ | ⟨q, _⟩
    · have hF5 := hFe.then e5
      obtain ⟨_, _, i0, _, _, _⟩ := HPb.out _ (HF3.out.1.then (HF4.out.then hF5))
      obtain ⟨_, i1, i2, i3⟩ := HOb.out _ (HF3.out.1.then (HF4.out.then hF5))
      exact ⟨by rw [HEe.out]; exact e1, hF5, i0, i1, i2, i3⟩
    · exact absurd q HNT.out.2.2.2
  obtain ⟨_, _, l2, _, _, _⟩ := HPb.out _ (HF3.out.1.then (HF4.out.then hFe))
  obtain ⟨_, o1, o2, o3⟩ := HOb.out _ (HF3.out.1.then (HF4.out.then hFe))
  clear hFe hF4 HSn l0 b0 b1 b2
  try clear j0 j1 j2 j3
  go_upto_region 5 with fail
  go_loud (go_region_held3 (fun W => W.cell? ⟨pb, 2, none⟩ = some (.pointer (some ⟨gr, 0, none⟩)) /\ W.cell? ⟨ob, 1, none⟩ = some (.int .i64 m) /\ W.cell? ⟨ob, 2, none⟩ = some (.slice bo Lb cb) /\ W.cell? ⟨ob, 3, none⟩ = some (.slice ho Lh ch)) (go_keep)
    (first
    | (go_at_call 16; with_reducible refine HZn.out.mono ?_; rintro e5 w5 ⟨rfl, hF5, i0, i1, i2, i3⟩)))
  have HF5 : Hid (Fr [] w4 w5 /\ Fr [] w3 w5) := ⟨hF5, HF4.out.then hF5⟩
  clear HZn hF5 l2 o1 o2 o3
  try clear i0 i1 i2 i3
  obtain ⟨_, o1, o2, o3⟩ := HOb.out _ (HF3.out.1.then HF5.out.2)
  obtain ⟨b0, b1, b2⟩ := HBx.out _ HF5.out.2
  have HLf : Hid (Calls _ _ _ _ _) := zke (w0 := w1) m bo ho Lb cb Lh ch bs hs bb bh ks (HH.out _ (HF3.out.1.then HF5.out.2)).2 HLb.out (HH.out _ (HF3.out.1.then HF5.out.2)).1 HLh.out hLh1 HFew.out (HT3.out _ HF5.out.2).1
  go_wp2_with fail
  refine Calls.mono HLf.out ?_
  rintro e w6 ⟨rfl, hF6⟩
  have HF6 : Hid (Fr [] w3 w6 /\ Fr [] w5 w6) := ⟨HF5.out.2.then hF6, hF6⟩
  obtain ⟨w7, HW7⟩ : ∃ w7, Hid (w6.alloc (.cells Bq.newBk 52) = w7) := ⟨_, rfl⟩
  have hF7 : Fr [] w6 w7 := by rw [<- HW7.out]; exact Fr.alloc _ _ _
  obtain ⟨b0, b1, b2⟩ := HBx.out _ (HF6.out.1.then hF7)
  have hBk := zqj (m := m) (wS := w1) (wT := w2) (w := w6) (Lb := Lb) (Lh := Lh) (ho := ho) (wx := w1) HF3.out.2.2.2 HF3.out.2.1 (HF3.out.2.2.1.then HF6.out.1) HLb.out HLh.out hLb1 hLh1 HFew.out (HH.out _ (Fr.refl _ _)).1 HF1.out.2.1
  rw [HW7.out] at hBk
  have HBk : Hid (Calls _ _ _ _ _) := hBk
  obtain ⟨K, hK⟩ : ∃ K, K = w6.heap.size := ⟨_, rfl⟩
  rw [<- hK] at HBk
  clear hBk hF6 HLf o1 o2 o3
  go_upto_region 8 with fail
  rw [show w6.alloc (.cells #[.int .i64 0, .slice none 0 0, .slice none 0 0, .slice none 0 0, .slice none 0 0, .slice none 0 0, .slice none 0 0, .slice none 0 0, .slice none 0 0, .slice none 0 0, .slice none 0 0, .slice none 0 0] 52) = w7 from HW7.out, <- hK]
  have HK9 : Hid (K = w6.heap.size) := hK
  clear HW7 hF7 hK
  go_wp2_with fail
  refine Calls.mono HBk.out ?_
  rintro e w8 ⟨rfl, hF8, HAp⟩
  have HF8 : Hid (Fr [] w6 w8 /\ Fr [] w1 w8) := ⟨hF8, HF3.out.1.then (HF6.out.1.then hF8)⟩
  obtain ⟨_, q1, _, q3, z1, z3⟩ := HPb.out _ HF8.out.2
  have hFs : Fr [pb] w8 ((w8.setCell ⟨pb, 1, none⟩ (.pointer none)).setCell ⟨pb, 3, none⟩ (.pointer none)) := (Fr.set (S := [pb]) _ _ _ (by simp)).then (Fr.set (S := [pb]) _ _ _ (by simp))
  have HFs : Hid (Fr [pb] w8 ((w8.setCell ⟨pb, 1, none⟩ (.pointer none)).setCell ⟨pb, 3, none⟩ (.pointer none))) := hFs
  have HBo : Hid (((w8.setCell ⟨pb, 1, none⟩ (.pointer none)).setCell ⟨pb, 3, none⟩ (.pointer none)).heap[pb]? = some (.cells #[.pointer (some ⟨gd, 0, none⟩), .pointer none, .pointer (some ⟨gr, 0, none⟩), .pointer none] 35 (0, 0))) := by
    show _ = _
    rw [zae _ (zae _ (HTs.out _ HF8.out.2).box)]
    rfl
  have HA9 : Hid (Calls _ _ _ _ _) := HAp.out _ [pb] hFs (fun q hq => by
    simp at hq
    subst hq
    exact ⟨Nat.lt_of_lt_of_le HF1.out.2.2.1 HF1.out.1.size, HF1.out.2.2.2⟩)
  clear HBk hF8 HAp hFs b0 b1 b2
  generalize hw9 : (w8.setCell ⟨pb, 1, none⟩ (.pointer none)).setCell ⟨pb, 3, none⟩ (.pointer none) = w9 at HFs HBo HA9
  go_wp2_with fail
  try rw [hw9]
  clear hw9
  refine Calls.mono HA9.out ?_
  rintro e wx ⟨rfl, T, hFT, hT⟩
  have HR : Hid (DoP w0 pb gd gr SD SR SS t w (.returned (.bool true)) wx) := by
    have hK9 := HK9.out
    have hs0 := HF1.out.1.size
    have hs1 := HF3.out.2.1.size
    have hs2 := HF3.out.2.2.1.size
    have hs4 := HF4.out.size
    have hs5 := HF5.out.1.size
    have hs6 := HF6.out.2.size
    have hs8 := HF8.out.1.size
    have hpl := HF1.out.2.2.1
    have hTlow : ∀ q ∈ T, w.heap.size <= q := fun q hq => by rcases hT q hq with p | p <;> omega
    have hTs8 := HTs.out _ HF8.out.2
    have hold := (HTs.out _ (Fr.refl _ _)).pr
    have hDl : ∀ q ∈ SD, q < w1.heap.size := hold.d.lt
    have hRl : ∀ q ∈ SR, q < w1.heap.size := hold.r.lt
    have hw0 : w0.heap.size <= w.heap.size := by have := hTs8.pbn.1; omega
    have hpr9 : PR w0 w9 gd gr SD SR t t := hTs8.pr.keepS HFs.out (fun q hq => by simp at hq; subst hq; exact hTs8.pbn.2) (fun q hq => by simp at hq; subst hq; exact hTs8.pbn.1)
    have hprx : PR w0 wx gd gr SD SR t t := hpr9.keepS hFT (fun q hq => ⟨fun hm => by have h1 := hDl q hm; rcases hT q hq with p | p <;> omega, fun hm => by have h1 := hRl q hm; rcases hT q hq with p | p <;> omega⟩) (fun q hq => by have := hTlow q hq; omega)
    have hbx : wx.heap[pb]? = some (.cells #[.pointer (some ⟨gd, 0, none⟩), .pointer none, .pointer (some ⟨gr, 0, none⟩), .pointer none] 35 (0, 0)) := hFT.keep HBo.out (fun hm => by have := hTlow pb hm; omega)
    have hFall : Fr (Ow pb SD SR SS) w wx := ((HF1.out.1.then HF8.out.2).trans HFs.out (U := Ow pb SD SR SS) (by simp) (fun x hx _ => by simp at hx; subst hx; exact mem_Ow.2 (Or.inl rfl))).trans hFT (fun x hx _ => hx) (fun x hx hl => by have := hTlow x hx; omega)
    refine ⟨rfl, SD, SR, t, _, _, [], ⟨hprx, hbx, hTs8.pbn, Or.inl ⟨rfl, rfl, rfl⟩⟩, by omega, hFall, fun q hq => ?_⟩
    rcases mem_Ow.1 hq with p | p | p | p
    · exact Or.inl (mem_Ow.2 (Or.inl p))
    · exact Or.inl (mem_Ow.2 (Or.inr (Or.inl p)))
    · exact Or.inl (mem_Ow.2 (Or.inr (Or.inr (Or.inl p))))
    · simp at p
  clear HA9 hFT hT
  go_wp2
  go_ret
  exact HR.out
theorem zpn {w0 w : World} {pb gd gr : Nat} {SD SR SS : List Nat} {t : Sk} {vs vt : Value} (h : Ts w0 w pb gd gr SD SR t vs vt SS) (m slot at_ n : Int) (bo ho yo : Option Addr) (Lb cb Lh ch M yc : Nat) (bs : List Int) (hs : List Hd) (c : Nat) (ys : List Nat) {ok : Bool} {g i : Nat} {mN : Int} {bN : List Int} {pN : List Kv} (hN : Nw t.s0 t.s1 ok g i mN bN pN) (hI : IRs w0 bo bs) (hLb : Lb = bs.length) (hH : HRs w0 ho hs) (hLh : Lh = hs.length) (hz : bs.length + szKs (hs.map Hd.kv) <= 1048576) (hT : ToldD m bs (hs.map Hd.kv) c ys) (htab : Bq.Tab w0) (hE : newE t.C g c ys.length = 0) :
    Calls Tryz.prog 8 #[.pointer (some ⟨pb, 0, none⟩), .agg #[.int .u8 1, .int .i64 m, .slice bo Lb cb, .slice ho Lh ch, .int .i64 slot, .int .i64 at_, .slice yo M yc, .int .i64 n]] w fun e w' => DoP w0 pb gd gr SD SR SS t w e w' := by
  have hF0 : Fr [] w0 w := h.pr.d.fr
  have HLh : Hid (Lh = hs.length) := hLh
  have HLb : Hid (Lb = bs.length) := hLb
  obtain ⟨hf1, hf2⟩ := zgv (hs := hs) (by omega)
  have hLh1 : Lh < 2^21 := by omega
  have hLb1 : Lb < 2^21 := by omega
  have HFew : Hid (Few hs) := fun t ht => by
    have h1 := hf2 t ht
    have h2 := (hH.each t ht).len
    omega
  obtain ⟨w1, HW1⟩ : ∃ w1, Hid (w.alloc (.cells #[.int .u8 1, .int .i64 m, .slice bo Lb cb, .slice ho Lh ch, .int .i64 slot, .int .i64 at_, .slice yo M yc, .int .i64 n] 60) = w1) := ⟨_, rfl⟩
  have hF1 : Fr [] w w1 := by rw [<- HW1.out]; exact Fr.alloc [] w _
  obtain ⟨ob, hob⟩ : ∃ ob, ob = w.heap.size := ⟨_, rfl⟩
  have hb1 : w1.heap[ob]? = some (.cells #[.int .u8 1, .int .i64 m, .slice bo Lb cb, .slice ho Lh ch, .int .i64 slot, .int .i64 at_, .slice yo M yc, .int .i64 n] 60 (0, 0)) := by rw [<- HW1.out, hob]; exact heap_alloc_new w _
  have HOb : Hid (∀ W, Fr [] w1 W -> W.cell? ⟨ob, 0, none⟩ = some (.int .u8 1) /\ W.cell? ⟨ob, 1, none⟩ = some (.int .i64 m) /\ W.cell? ⟨ob, 2, none⟩ = some (.slice bo Lb cb) /\ W.cell? ⟨ob, 3, none⟩ = some (.slice ho Lh ch)) := fun W hf => by
    have hb := hf.keep hb1 (by simp)
    refine ⟨?_, ?_, ?_, ?_⟩ <;> rw [cell_of_row _ _ _ _ _ _ hb] <;> rfl
  have HTs : Hid (∀ W, Fr [] w1 W -> Ts w0 W pb gd gr SD SR t vs vt SS) := fun W hf => h.quiet (hF1.then hf)
  have HPb : Hid (∀ W, Fr [] w1 W -> W.cell? ⟨pb, 0, none⟩ = some (.pointer (some ⟨gd, 0, none⟩)) /\ W.cell? ⟨pb, 1, none⟩ = some vs /\ W.cell? ⟨pb, 2, none⟩ = some (.pointer (some ⟨gr, 0, none⟩)) /\ W.cell? ⟨pb, 3, none⟩ = some vt /\ W.frozen? ⟨pb, 1, none⟩ = false /\ W.frozen? ⟨pb, 3, none⟩ = false) := fun W hf => by
    have hb := (HTs.out W hf).box
    refine ⟨?_, ?_, ?_, ?_, ?_, ?_⟩
    · rw [cell_of_row _ _ _ _ _ _ hb]; rfl
    · rw [cell_of_row _ _ _ _ _ _ hb]; rfl
    · rw [cell_of_row _ _ _ _ _ _ hb]; rfl
    · rw [cell_of_row _ _ _ _ _ _ hb]; rfl
    · simp [World.frozen?, hb]
    · simp [World.frozen?, hb]
  have HH : Hid (∀ W, Fr [] w1 W -> HRs W ho hs /\ IRs W bo bs) := fun W hf => ⟨hH.keep (hF0.then (hF1.then hf)), hI.keep (hF0.then (hF1.then hf))⟩
  have HF1 : Hid (Fr [] w w1 /\ Bq.Tab w1 /\ pb < w.heap.size /\ pb ≠ Bq.gTab) := ⟨hF1, htab.keep (hF0.then hF1) (by simp), lt_of_block h.box, fun e => by have h1 := htab.lt; have h2 := h.pbn.1; omega⟩
  have HNT : Hid (Nw t.s0 t.s1 ok g i mN bN pN /\ ToldD m bs (hs.map Hd.kv) c ys /\ bs.length + szKs (hs.map Hd.kv) <= 1048576 /\ newE t.C g c ys.length = 0) := ⟨hN, hT, hz, hE⟩
  have HTw : Hid (Calls _ _ _ _ _) := zkf (w := w1) m bo ho Lb cb Lh ch bs hs (HH.out _ (Fr.refl _ _)).2 HLb.out (HH.out _ (Fr.refl _ _)).1 HLh.out hLh1 HFew.out
  obtain ⟨k0, k1, k2, k3⟩ := HOb.out _ (Fr.refl _ _)
  clear h hN hI hLb hH hLh hz hT htab hE hF0 hf1 hf2 hF1 hb1
  go_enter Tryz.func8, Tryz.ntmps8
  go_upto_region 1 with fail
  rw [HW1.out, <- hob]
  clear HW1 hob
  go_wp2_with fail
  refine Calls.mono HTw.out ?_
  rintro e w2 ⟨bb, bh, ks, rfl, hTw, hF2⟩
  obtain ⟨w3, HW3⟩ : ∃ w3, Hid (w2.alloc (.cells #[.int .i64 m, .slice (some ⟨bb, 0, none⟩) Lb (Lb + 1), .slice (some ⟨bh, 0, none⟩) Lh (Lh + 1)] 57) = w3) := ⟨_, rfl⟩
  have hF3 : Fr [] w2 w3 := by rw [<- HW3.out]; exact Fr.alloc [] w2 _
  obtain ⟨B, hB⟩ : ∃ B, B = w2.heap.size := ⟨_, rfl⟩
  have hb3 : w3.heap[B]? = some (.cells #[.int .i64 m, .slice (some ⟨bb, 0, none⟩) Lb (Lb + 1), .slice (some ⟨bh, 0, none⟩) Lh (Lh + 1)] 57 (0, 0)) := by rw [<- HW3.out, hB]; exact heap_alloc_new w2 _
  have HBx : Hid (∀ W, Fr [] w3 W -> W.cell? ⟨B, 0, none⟩ = some (.int .i64 m) /\ W.cell? ⟨B, 1, none⟩ = some (.slice (some ⟨bb, 0, none⟩) Lb (Lb + 1)) /\ W.cell? ⟨B, 2, none⟩ = some (.slice (some ⟨bh, 0, none⟩) Lh (Lh + 1))) := fun W hf => zai (hf.keep hb3 (by simp))
  have HT3 : Hid (∀ W, Fr [] w3 W -> TwS w1 W bs hs bb bh ks /\ IRs W (some ⟨bb, 0, none⟩) bs /\ HRs W (some ⟨bh, 0, none⟩) (twTs hs ks)) := fun W hf => by
    have h := hTw.keep (hF3.then hf)
    exact ⟨h, h.irs (HH.out _ (Fr.refl _ _)).2, h.hrs (HH.out _ (Fr.refl _ _)).1⟩
  have HLk : Hid (Lh = (twTs hs ks).length /\ (twTs hs ks).map Hd.kv = hs.map Hd.kv) := ⟨by rw [zbd hs ks hTw.tw.len]; exact HLh.out, hTw.kv⟩
  have HF3 : Hid (Fr [] w1 w3 /\ Fr [] w1 w2 /\ Fr [] w2 w3 /\ TwS w1 w2 bs hs bb bh ks) := ⟨hF2.then hF3, hF2, hF3, hTw⟩
  clear hTw hF2 hF3 hb3 HTw k0 k1 k2 k3
  have hFd : Fr [] w3 w3.drew := Fr.drew [] w3
  have HSn : Hid (Calls Tryz.prog 15 #[.pointer (some ⟨gd, 0, none⟩), .agg #[.int .i64 m, .slice (some ⟨bb, 0, none⟩) Lb (Lb + 1), .slice (some ⟨bh, 0, none⟩) Lh (Lh + 1)]] w3.drew fun e w4 => ∃ sb, e = .returned (.tuple #[.pointer (some ⟨sb, 0, none⟩), .int .i64 0]) /\ Hid (∃ fb ab fc ac, SaM w4 sb gd fb ab (some ⟨fb, 0, none⟩) fc ac (besN i ok) (ckB g ys) 0 /\ w3.heap.size <= sb /\ w3.heap.size <= fb /\ w3.heap.size <= ab) /\ Fr [] w3 w4 /\ w4.cell? ⟨pb, 0, none⟩ = some (.pointer (some ⟨gd, 0, none⟩)) /\ w4.cell? ⟨B, 0, none⟩ = some (.int .i64 m) /\ w4.cell? ⟨B, 1, none⟩ = some (.slice (some ⟨bb, 0, none⟩) Lb (Lb + 1)) /\ w4.cell? ⟨B, 2, none⟩ = some (.slice (some ⟨bh, 0, none⟩) Lh (Lh + 1))) := by
    refine Calls.mono (zoj (HTs.out _ (HF3.out.1.then hFd)).pr.d HNT.out.1 m (some ⟨bb, 0, none⟩) (some ⟨bh, 0, none⟩) Lb (Lb + 1) Lh (Lh + 1) c bs (twTs hs ks) (hs.map Hd.kv) ys (HT3.out _ hFd).2.1 HLb.out (HT3.out _ hFd).2.2 HLk.out.1 HLk.out.2 HNT.out.2.1 HNT.out.2.2.1) ?_
    intro e w4 hP
    rcases hP with ⟨q, _⟩ | ⟨_, sb, fb, ab, fc, ac, e1, e2, e3, e4, e5, e6⟩
    · exact absurd HNT.out.2.2.2 q
    · have hF4 := hFd.then e6
      obtain ⟨j0, _, _, _, _, _⟩ := HPb.out _ (HF3.out.1.then hF4)
      obtain ⟨j1, j2, j3⟩ := HBx.out _ hF4
      exact ⟨sb, e1, ⟨fb, ab, fc, ac, e2, e3, e4, e5⟩, hF4, j0, j1, j2, j3⟩
  obtain ⟨l0, _, _, _, _, _⟩ := HPb.out _ (HF3.out.1.then hFd)
  obtain ⟨b0, b1, b2⟩ := HBx.out _ hFd
  clear hFd
  go_upto_region 4 with fail
  rw [HW3.out, <- hB]
  clear HW3 hB
  go_loud (go_region_held3 (fun W => W.cell? ⟨pb, 0, none⟩ = some (.pointer (some ⟨gd, 0, none⟩)) /\ W.cell? ⟨B, 0, none⟩ = some (.int .i64 m) /\ W.cell? ⟨B, 1, none⟩ = some (.slice (some ⟨bb, 0, none⟩) Lb (Lb + 1)) /\ W.cell? ⟨B, 2, none⟩ = some (.slice (some ⟨bh, 0, none⟩) Lh (Lh + 1))) (go_keep)
    (first
    | (go_at_call 15; with_reducible refine HSn.out.mono ?_; rintro e4 w4 ⟨sb, rfl, HSa, hF4, j0, j1, j2, j3⟩)))
  have HF4 : Hid (Fr [] w3 w4) := hF4
  have hFe : Fr [] w4 w4.drew := Fr.drew [] w4
  have HZn : Hid (Calls Tryz.prog 16 #[.pointer (some ⟨gr, 0, none⟩), .agg #[.int .i64 m, .slice bo Lb cb, .slice ho Lh ch]] w4.drew fun e w5 => ∃ tb, e = .returned (.tuple #[.pointer (some ⟨tb, 0, none⟩), .int .i64 0]) /\ Hid (∃ ab ac, ZaM w5 tb gr ab ac (besN i ok) (ckB g ys) 0 /\ w4.heap.size <= tb /\ w4.heap.size <= ab) /\ Fr [] w4 w5 /\ w5.cell? ⟨pb, 2, none⟩ = some (.pointer (some ⟨gr, 0, none⟩)) /\ w5.cell? ⟨ob, 1, none⟩ = some (.int .i64 m) /\ w5.cell? ⟨ob, 2, none⟩ = some (.slice bo Lb cb) /\ w5.cell? ⟨ob, 3, none⟩ = some (.slice ho Lh ch)) := by
    have hFx := HF3.out.1.then (HF4.out.then hFe)
    refine Calls.mono (zoo (HTs.out _ hFx).pr.r HNT.out.1 m bo ho Lb cb Lh ch c bs hs (hs.map Hd.kv) ys (HH.out _ hFx).2 HLb.out (HH.out _ hFx).1 HLh.out rfl HNT.out.2.1 HNT.out.2.2.1) ?_
    intro e w5 hP
    rcases hP with ⟨q, _⟩ | ⟨_, tb, ab, ac, e1, e2, e3, e4, e5⟩
    · exact absurd HNT.out.2.2.2 q
    · have hF5 := hFe.then e5
      obtain ⟨_, _, i0, _, _, _⟩ := HPb.out _ (HF3.out.1.then (HF4.out.then hF5))
      obtain ⟨_, i1, i2, i3⟩ := HOb.out _ (HF3.out.1.then (HF4.out.then hF5))
      exact ⟨tb, e1, ⟨ab, ac, e2, e3, e4⟩, hF5, i0, i1, i2, i3⟩
  obtain ⟨_, _, l2, _, _, _⟩ := HPb.out _ (HF3.out.1.then (HF4.out.then hFe))
  obtain ⟨_, o1, o2, o3⟩ := HOb.out _ (HF3.out.1.then (HF4.out.then hFe))
  clear hFe hF4 HSn l0 b0 b1 b2
  try clear j0 j1 j2 j3
  go_upto_region 5 with fail
  go_loud (go_region_held3 (fun W => W.cell? ⟨pb, 2, none⟩ = some (.pointer (some ⟨gr, 0, none⟩)) /\ W.cell? ⟨ob, 1, none⟩ = some (.int .i64 m) /\ W.cell? ⟨ob, 2, none⟩ = some (.slice bo Lb cb) /\ W.cell? ⟨ob, 3, none⟩ = some (.slice ho Lh ch)) (go_keep)
    (first
    | (go_at_call 16; with_reducible refine HZn.out.mono ?_; rintro e5 w5 ⟨tb, rfl, HZa, hF5, i0, i1, i2, i3⟩)))
  have HF5 : Hid (Fr [] w4 w5 /\ Fr [] w3 w5) := ⟨hF5, HF4.out.then hF5⟩
  clear HZn hF5 l2 o1 o2 o3
  try clear i0 i1 i2 i3
  obtain ⟨_, o1, o2, o3⟩ := HOb.out _ (HF3.out.1.then HF5.out.2)
  obtain ⟨b0, b1, b2⟩ := HBx.out _ HF5.out.2
  have HLf : Hid (Calls _ _ _ _ _) := zke (w0 := w1) m bo ho Lb cb Lh ch bs hs bb bh ks (HH.out _ (HF3.out.1.then HF5.out.2)).2 HLb.out (HH.out _ (HF3.out.1.then HF5.out.2)).1 HLh.out hLh1 HFew.out (HT3.out _ HF5.out.2).1
  go_wp2_with fail
  refine Calls.mono HLf.out ?_
  rintro e w6 ⟨rfl, hF6⟩
  have HF6 : Hid (Fr [] w3 w6 /\ Fr [] w5 w6) := ⟨HF5.out.2.then hF6, hF6⟩
  obtain ⟨w7, HW7⟩ : ∃ w7, Hid (w6.alloc (.cells Bq.newBk 52) = w7) := ⟨_, rfl⟩
  have hF7 : Fr [] w6 w7 := by rw [<- HW7.out]; exact Fr.alloc _ _ _
  obtain ⟨b0, b1, b2⟩ := HBx.out _ (HF6.out.1.then hF7)
  have hBk := zqj (m := m) (wS := w1) (wT := w2) (w := w6) (Lb := Lb) (Lh := Lh) (ho := ho) (wx := w1) HF3.out.2.2.2 HF3.out.2.1 (HF3.out.2.2.1.then HF6.out.1) HLb.out HLh.out hLb1 hLh1 HFew.out (HH.out _ (Fr.refl _ _)).1 HF1.out.2.1
  rw [HW7.out] at hBk
  have HBk : Hid (Calls _ _ _ _ _) := hBk
  obtain ⟨K, hK⟩ : ∃ K, K = w6.heap.size := ⟨_, rfl⟩
  rw [<- hK] at HBk
  clear hBk hF6 HLf o1 o2 o3
  go_upto_region 8 with fail
  rw [show w6.alloc (.cells #[.int .i64 0, .slice none 0 0, .slice none 0 0, .slice none 0 0, .slice none 0 0, .slice none 0 0, .slice none 0 0, .slice none 0 0, .slice none 0 0, .slice none 0 0, .slice none 0 0, .slice none 0 0] 52) = w7 from HW7.out, <- hK]
  have HK9 : Hid (K = w6.heap.size) := hK
  clear HW7 hF7 hK
  go_wp2_with fail
  refine Calls.mono HBk.out ?_
  rintro e w8 ⟨rfl, hF8, HAp⟩
  have HF8 : Hid (Fr [] w6 w8 /\ Fr [] w1 w8) := ⟨hF8, HF3.out.1.then (HF6.out.1.then hF8)⟩
  obtain ⟨_, q1, _, q3, z1, z3⟩ := HPb.out _ HF8.out.2
  have hFs : Fr [pb] w8 ((w8.setCell ⟨pb, 1, none⟩ (.pointer (some ⟨sb, 0, none⟩))).setCell ⟨pb, 3, none⟩ (.pointer (some ⟨tb, 0, none⟩))) := (Fr.set (S := [pb]) _ _ _ (by simp)).then (Fr.set (S := [pb]) _ _ _ (by simp))
  have HFs : Hid (Fr [pb] w8 ((w8.setCell ⟨pb, 1, none⟩ (.pointer (some ⟨sb, 0, none⟩))).setCell ⟨pb, 3, none⟩ (.pointer (some ⟨tb, 0, none⟩)))) := hFs
  have HBo : Hid (((w8.setCell ⟨pb, 1, none⟩ (.pointer (some ⟨sb, 0, none⟩))).setCell ⟨pb, 3, none⟩ (.pointer (some ⟨tb, 0, none⟩))).heap[pb]? = some (.cells #[.pointer (some ⟨gd, 0, none⟩), .pointer (some ⟨sb, 0, none⟩), .pointer (some ⟨gr, 0, none⟩), .pointer (some ⟨tb, 0, none⟩)] 35 (0, 0))) := by
    show _ = _
    rw [zae _ (zae _ (HTs.out _ HF8.out.2).box)]
    rfl
  have HA9 : Hid (Calls _ _ _ _ _) := HAp.out _ [pb] hFs (fun q hq => by
    simp at hq
    subst hq
    exact ⟨Nat.lt_of_lt_of_le HF1.out.2.2.1 HF1.out.1.size, HF1.out.2.2.2⟩)
  clear HBk hF8 HAp hFs b0 b1 b2
  generalize hw9 : (w8.setCell ⟨pb, 1, none⟩ (.pointer (some ⟨sb, 0, none⟩))).setCell ⟨pb, 3, none⟩ (.pointer (some ⟨tb, 0, none⟩)) = w9 at HFs HBo HA9
  go_wp2_with fail
  try rw [hw9]
  clear hw9
  refine Calls.mono HA9.out ?_
  rintro e wx ⟨rfl, T, hFT, hT⟩
  have HR : Hid (DoP w0 pb gd gr SD SR SS t w (.returned (.bool true)) wx) := by
    have hK9 := HK9.out
    have hs0 := HF1.out.1.size
    have hs1 := HF3.out.2.1.size
    have hs2 := HF3.out.2.2.1.size
    have hs4 := HF4.out.size
    have hs5 := HF5.out.1.size
    have hs6 := HF6.out.2.size
    have hs8 := HF8.out.1.size
    have hpl := HF1.out.2.2.1
    have hTlow : ∀ q ∈ T, w.heap.size <= q := fun q hq => by rcases hT q hq with p | p <;> omega
    have hTs8 := HTs.out _ HF8.out.2
    have hold := (HTs.out _ (Fr.refl _ _)).pr
    have hDl : ∀ q ∈ SD, q < w1.heap.size := hold.d.lt
    have hRl : ∀ q ∈ SR, q < w1.heap.size := hold.r.lt
    have hw0 : w0.heap.size <= w.heap.size := by have := hTs8.pbn.1; omega
    have hpr9 : PR w0 w9 gd gr SD SR t t := hTs8.pr.keepS HFs.out (fun q hq => by simp at hq; subst hq; exact hTs8.pbn.2) (fun q hq => by simp at hq; subst hq; exact hTs8.pbn.1)
    have hprx : PR w0 wx gd gr SD SR t t := hpr9.keepS hFT (fun q hq => ⟨fun hm => by have h1 := hDl q hm; rcases hT q hq with p | p <;> omega, fun hm => by have h1 := hRl q hm; rcases hT q hq with p | p <;> omega⟩) (fun q hq => by have := hTlow q hq; omega)
    have hbx : wx.heap[pb]? = some (.cells #[.pointer (some ⟨gd, 0, none⟩), .pointer (some ⟨sb, 0, none⟩), .pointer (some ⟨gr, 0, none⟩), .pointer (some ⟨tb, 0, none⟩)] 35 (0, 0)) := hFT.keep HBo.out (fun hm => by have := hTlow pb hm; omega)
    have hFall : Fr (Ow pb SD SR SS) w wx := ((HF1.out.1.then HF8.out.2).trans HFs.out (U := Ow pb SD SR SS) (by simp) (fun x hx _ => by simp at hx; subst hx; exact mem_Ow.2 (Or.inl rfl))).trans hFT (fun x hx _ => hx) (fun x hx hl => by have := hTlow x hx; omega)
    obtain ⟨fb, ab, fc, ac, a1, a2, a3, a4⟩ := HSa.out
    obtain ⟨ab2, ac2, a5, a6, a7⟩ := HZa.out
    have bl1 := a1.blocks
    have bl2 := a5.blocks
    have hnp : ∀ q, w3.heap.size <= q -> q < w6.heap.size -> q ∉ [pb] /\ q ∉ T := fun q h1 h2 => ⟨fun hm => by simp at hm; omega, fun hm => by rcases hT q hm with p | p <;> omega⟩
    have f48 : Fr [] w4 w8 := HF5.out.1.then (HF6.out.2.then HF8.out.1)
    have f58 : Fr [] w5 w8 := HF6.out.2.then HF8.out.1
    have g1 := hnp sb a2 (by omega)
    have g2 := hnp fb a3 (by omega)
    have g3 := hnp ab a4 (by omega)
    have g4 := hnp tb (by omega) (by omega)
    have g5 := hnp ab2 (by omega) (by omega)
    have hsa := ((a1.keep f48 (by simp) (by simp) (by simp)).keep HFs.out g1.1 g2.1 g3.1).keep hFT g1.2 g2.2 g3.2
    have hza := ((a5.keep f58 (by simp) (by simp)).keep HFs.out g4.1 g5.1).keep hFT g4.2 g5.2
    refine ⟨rfl, SD, SR, t, _, _, [sb, fb, ab, tb, ab2], ⟨hprx, hbx, hTs8.pbn, Or.inr ⟨sb, fb, ab, tb, ab2, _, _, 0, rfl, rfl, rfl, ⟨_, _, _, hsa⟩, ⟨_, hza⟩, fun q hq hm => ?_, fun q hq hm => ?_, fun q hq => ?_⟩⟩, by omega, hFall, fun q hq => ?_⟩
    · have := hDl q hm; simp at hq; rcases hq with rfl | rfl | rfl | rfl | rfl <;> omega
    · have := hRl q hm; simp at hq; rcases hq with rfl | rfl | rfl | rfl | rfl <;> omega
    · simp at hq; rcases hq with rfl | rfl | rfl | rfl | rfl <;> omega
    · rcases mem_Ow.1 hq with p | p | p | p
      · exact Or.inl (mem_Ow.2 (Or.inl p))
      · exact Or.inl (mem_Ow.2 (Or.inr (Or.inl p)))
      · exact Or.inl (mem_Ow.2 (Or.inr (Or.inr (Or.inl p))))
      · refine Or.inr ?_
        simp at p
        rcases p with rfl | rfl | rfl | rfl | rfl <;> omega
  clear HA9 hFT hT
  go_wp2
  go_ret
  exact HR.out
end Go.Proofs.YtembflnhhfliaaaGreatDoor
