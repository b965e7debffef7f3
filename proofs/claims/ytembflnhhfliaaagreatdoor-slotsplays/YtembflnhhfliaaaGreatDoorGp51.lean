/- Contracts and plain lemmas of this claim. -/
import Derived.Test.YtembflnhhfliaaaGreatDoorGp50
import Derived.Test.YtembflnhhfliaaaGreatDoorGp18
import Derived.Deep.Slices
set_option linter.unusedSimpArgs false
set_option linter.unusedVariables false
set_option maxHeartbeats 16000000
set_option maxRecDepth 100000
namespace Go.Proofs.YtembflnhhfliaaaGreatDoor
open BigFrame Go.ChangeShapes Go.WideShapes Go.ChangeAt Go.RowKit Go.Lib Go.Maps
theorem zacg {w0 w : World} {pb : Nat} (h : Pn pb w) (hF0 : Fr [] w0 w) (hp0 : w0.heap.size <= pb) (m slot at_ n : Int) (bo ho yo : Option Addr) (Lb cb Lh ch M yc : Nat) (bs : List Int) (hs : List Hd) (hI : IRs w0 bo bs) (hLb : Lb = bs.length) (hH : HRs w0 ho hs) (hLh : Lh = hs.length) (hz : bs.length + szKs (hs.map Hd.kv) <= 1048576) (htab : Bq.Tab w0) :
    Calls Tryz.prog 8 #[.pointer (some ⟨pb, 0, none⟩), .agg #[.int .u8 1, .int .i64 m, .slice bo Lb cb, .slice ho Lh ch, .int .i64 slot, .int .i64 at_, .slice yo M yc, .int .i64 n]] w fun e w' => DnP pb w e w' := by
  have HLh : Hid (Lh = hs.length) := hLh
  have HLb : Hid (Lb = bs.length) := hLb
  obtain ⟨hf1, hf2⟩ := zef (hs := hs) (by omega)
  have hLh1 : Lh < 2^21 := by omega
  have hLb1 : Lb < 2^21 := by omega
  have HFew : Hid (Few hs) := fun t ht => by
    have h1 := hf2 t ht
    have h2 := (hH.each t ht).len
    omega
  obtain ⟨w1, HW1⟩ : ∃ w1, Hid (w.alloc (.cells #[.int .u8 1, .int .i64 m, .slice bo Lb cb, .slice ho Lh ch, .int .i64 slot, .int .i64 at_, .slice yo M yc, .int .i64 n] 60) = w1) := ⟨_, rfl⟩
  have hF1 : Fr [] w w1 := by rw [<- HW1.out]; exact Fr.alloc [] w _
  obtain ⟨ob, hob⟩ : ∃ ob, ob = w.heap.size := ⟨_, rfl⟩
  have hb1 : w1.heap[ob]? = some (.cells #[.int .u8 1, .int .i64 m, .slice bo Lb cb, .slice ho Lh ch, .int .i64 slot, .int .i64 at_, .slice yo M yc, .int .i64 n] 60 (0, 0)) := by rw [<- HW1.out, hob]; exact heap_alloc_new w _
  have HOb : Hid (∀ W, Fr [] w1 W -> W.cell? ⟨ob, 0, none⟩ = some (.int .u8 1) /\ W.cell? ⟨ob, 1, none⟩ = some (.int .i64 m) /\ W.cell? ⟨ob, 2, none⟩ = some (.slice bo Lb cb) /\ W.cell? ⟨ob, 3, none⟩ = some (.slice ho Lh ch)) := fun W hf => by
    have hb := hf.keep hb1 (by simp)
    refine ⟨?_, ?_, ?_, ?_⟩ <;> rw [cell_of_row _ _ _ _ _ _ hb] <;> rfl
  have HTs : Hid (∀ W, Fr [] w1 W -> Pn pb W) := fun W hf => (hF1.then hf).keep h (by simp)
  have HPb : Hid (∀ W, Fr [] w1 W -> W.cell? ⟨pb, 0, none⟩ = some (.pointer none) /\ W.cell? ⟨pb, 1, none⟩ = some (.pointer none) /\ W.cell? ⟨pb, 2, none⟩ = some (.pointer none) /\ W.cell? ⟨pb, 3, none⟩ = some (.pointer none) /\ W.frozen? ⟨pb, 1, none⟩ = false /\ W.frozen? ⟨pb, 3, none⟩ = false) := fun W hf => by
    have hb : W.heap[pb]? = _ := HTs.out W hf
    refine ⟨?_, ?_, ?_, ?_, ?_, ?_⟩
    · rw [cell_of_row _ _ _ _ _ _ hb]; rfl
    · rw [cell_of_row _ _ _ _ _ _ hb]; rfl
    · rw [cell_of_row _ _ _ _ _ _ hb]; rfl
    · rw [cell_of_row _ _ _ _ _ _ hb]; rfl
    · simp [World.frozen?, hb]
    · simp [World.frozen?, hb]
  have HH : Hid (∀ W, Fr [] w1 W -> HRs W ho hs /\ IRs W bo bs) := fun W hf => ⟨hH.keep (hF0.then (hF1.then hf)), hI.keep (hF0.then (hF1.then hf))⟩
  have HF1 : Hid (Fr [] w w1 /\ Bq.Tab w1 /\ pb < w.heap.size /\ pb ≠ Bq.gTab) := ⟨hF1, htab.keep (hF0.then hF1) (by simp), lt_of_block h, fun e => by have h1 := htab.lt; omega⟩
  have HTw : Hid (Calls _ _ _ _ _) := zft (w := w1) m bo ho Lb cb Lh ch bs hs (HH.out _ (Fr.refl _ _)).2 HLb.out (HH.out _ (Fr.refl _ _)).1 HLh.out hLh1 HFew.out
  obtain ⟨k0, k1, k2, k3⟩ := HOb.out _ (Fr.refl _ _)
  clear h hI hLb hH hLh hz htab hF0 hp0 hf1 hf2 hF1 hb1
  go_enter Tryz.func8, Tryz.ntmps8
  go_upto_region 1 with fail
  rw [HW1.out, <- hob]
  clear HW1 hob
  go_wp2_with fail
  refine Calls.mono HTw.out ?_
  rintro e w2 ⟨bb, bh, ks, rfl, hTw, hF2⟩
  obtain ⟨w3, HW3⟩ : ∃ w3, Hid (w2.alloc (.cells #[.int .i64 m, .slice (some ⟨bb, 0, none⟩) Lb (Lb + 1), .slice (some ⟨bh, 0, none⟩) Lh (Lh + 1)] 57) = w3) := ⟨_, rfl⟩
  have hF3 : Fr [] w2 w3 := by rw [<- HW3.out]; exact Fr.alloc [] w2 _
  obtain ⟨B, hB⟩ : ∃ B, B = w2.heap.size := ⟨_, rfl⟩
  have hb3 : w3.heap[B]? = some (.cells #[.int .i64 m, .slice (some ⟨bb, 0, none⟩) Lb (Lb + 1), .slice (some ⟨bh, 0, none⟩) Lh (Lh + 1)] 57 (0, 0)) := by rw [<- HW3.out, hB]; exact heap_alloc_new w2 _
  have HBx : Hid (∀ W, Fr [] w3 W -> W.cell? ⟨B, 0, none⟩ = some (.int .i64 m) /\ W.cell? ⟨B, 1, none⟩ = some (.slice (some ⟨bb, 0, none⟩) Lb (Lb + 1)) /\ W.cell? ⟨B, 2, none⟩ = some (.slice (some ⟨bh, 0, none⟩) Lh (Lh + 1))) := fun W hf => zaj (hf.keep hb3 (by simp))
  have HT3 : Hid (∀ W, Fr [] w3 W -> TwS w1 W bs hs bb bh ks /\ IRs W (some ⟨bb, 0, none⟩) bs /\ HRs W (some ⟨bh, 0, none⟩) (twTs hs ks)) := fun W hf => by
    have h := hTw.keep (hF3.then hf)
    exact ⟨h, h.irs (HH.out _ (Fr.refl _ _)).2, h.hrs (HH.out _ (Fr.refl _ _)).1⟩
  have HLk : Hid (Lh = (twTs hs ks).length /\ (twTs hs ks).map Hd.kv = hs.map Hd.kv) := ⟨by rw [zax hs ks hTw.tw.len]; exact HLh.out, hTw.kv⟩
  have HF3 : Hid (Fr [] w1 w3 /\ Fr [] w1 w2 /\ Fr [] w2 w3 /\ TwS w1 w2 bs hs bb bh ks) := ⟨hF2.then hF3, hF2, hF3, hTw⟩
  clear hTw hF2 hF3 hb3 HTw k0 k1 k2 k3
  have hFd : Fr [] w3 w3.drew := Fr.drew [] w3
  have HSn : Hid (Calls Tryz.prog 15 #[.pointer none, .agg #[.int .i64 m, .slice (some ⟨bb, 0, none⟩) Lb (Lb + 1), .slice (some ⟨bh, 0, none⟩) Lh (Lh + 1)]] w3.drew fun e w4 => e = .returned (.tuple #[.pointer none, .int .i64 2]) /\ Fr [] w3 w4 /\ w4.cell? ⟨pb, 0, none⟩ = some (.pointer none) /\ w4.cell? ⟨B, 0, none⟩ = some (.int .i64 m) /\ w4.cell? ⟨B, 1, none⟩ = some (.slice (some ⟨bb, 0, none⟩) Lb (Lb + 1)) /\ w4.cell? ⟨B, 2, none⟩ = some (.slice (some ⟨bh, 0, none⟩) Lh (Lh + 1))) := by
    refine Calls.mono (zyv m (some ⟨bb, 0, none⟩) (some ⟨bh, 0, none⟩) Lb (Lb + 1) Lh (Lh + 1) w3.drew) ?_
    rintro e w4 ⟨e1, e6⟩
    have hF4 := hFd.then e6
    obtain ⟨j0, _, _, _, _, _⟩ := HPb.out _ (HF3.out.1.then hF4)
    obtain ⟨j1, j2, j3⟩ := HBx.out _ hF4
    exact ⟨e1, hF4, j0, j1, j2, j3⟩
  obtain ⟨l0, _, _, _, _, _⟩ := HPb.out _ (HF3.out.1.then hFd)
  obtain ⟨b0, b1, b2⟩ := HBx.out _ hFd
  clear hFd
  go_upto_region 4 with fail
  rw [HW3.out, <- hB]
  clear HW3 hB
  go_loud (go_region_held3 (fun W => W.cell? ⟨pb, 0, none⟩ = some (.pointer none) /\ W.cell? ⟨B, 0, none⟩ = some (.int .i64 m) /\ W.cell? ⟨B, 1, none⟩ = some (.slice (some ⟨bb, 0, none⟩) Lb (Lb + 1)) /\ W.cell? ⟨B, 2, none⟩ = some (.slice (some ⟨bh, 0, none⟩) Lh (Lh + 1))) (go_keep)
    (first
    | (go_at_call 15; with_reducible refine HSn.out.mono ?_; rintro e4 w4 ⟨rfl, hF4, j0, j1, j2, j3⟩)))
  have HF4 : Hid (Fr [] w3 w4) := hF4
  have hFe : Fr [] w4 w4.drew := Fr.drew [] w4
  have HZn : Hid (Calls Tryz.prog 16 #[.pointer none, .agg #[.int .i64 m, .slice bo Lb cb, .slice ho Lh ch]] w4.drew fun e w5 => e = .returned (.tuple #[.pointer none, .int .i64 2]) /\ Fr [] w4 w5 /\ w5.cell? ⟨pb, 2, none⟩ = some (.pointer none) /\ w5.cell? ⟨ob, 1, none⟩ = some (.int .i64 m) /\ w5.cell? ⟨ob, 2, none⟩ = some (.slice bo Lb cb) /\ w5.cell? ⟨ob, 3, none⟩ = some (.slice ho Lh ch)) := by
    refine Calls.mono (zyr m bo ho Lb cb Lh ch w4.drew) ?_
    rintro e w5 ⟨e1, e5⟩
    have hF5 := hFe.then e5
    obtain ⟨_, _, i0, _, _, _⟩ := HPb.out _ (HF3.out.1.then (HF4.out.then hF5))
    obtain ⟨_, i1, i2, i3⟩ := HOb.out _ (HF3.out.1.then (HF4.out.then hF5))
    exact ⟨e1, hF5, i0, i1, i2, i3⟩
  obtain ⟨_, _, l2, _, _, _⟩ := HPb.out _ (HF3.out.1.then (HF4.out.then hFe))
  obtain ⟨_, o1, o2, o3⟩ := HOb.out _ (HF3.out.1.then (HF4.out.then hFe))
  clear hFe hF4 HSn l0 b0 b1 b2
  try clear j0 j1 j2 j3
  go_upto_region 5 with fail
  go_loud (go_region_held3 (fun W => W.cell? ⟨pb, 2, none⟩ = some (.pointer none) /\ W.cell? ⟨ob, 1, none⟩ = some (.int .i64 m) /\ W.cell? ⟨ob, 2, none⟩ = some (.slice bo Lb cb) /\ W.cell? ⟨ob, 3, none⟩ = some (.slice ho Lh ch)) (go_keep)
    (first
    | (go_at_call 16; with_reducible refine HZn.out.mono ?_; rintro e5 w5 ⟨rfl, hF5, i0, i1, i2, i3⟩)))
  have HF5 : Hid (Fr [] w4 w5 /\ Fr [] w3 w5) := ⟨hF5, HF4.out.then hF5⟩
  clear HZn hF5 l2 o1 o2 o3
  try clear i0 i1 i2 i3
  obtain ⟨_, o1, o2, o3⟩ := HOb.out _ (HF3.out.1.then HF5.out.2)
  obtain ⟨b0, b1, b2⟩ := HBx.out _ HF5.out.2
  have HLf : Hid (Calls _ _ _ _ _) := zfs (w0 := w1) m bo ho Lb cb Lh ch bs hs bb bh ks (HH.out _ (HF3.out.1.then HF5.out.2)).2 HLb.out (HH.out _ (HF3.out.1.then HF5.out.2)).1 HLh.out hLh1 HFew.out (HT3.out _ HF5.out.2).1
  go_wp2_with fail
  refine Calls.mono HLf.out ?_
  rintro e w6 ⟨rfl, hF6⟩
  have HF6 : Hid (Fr [] w3 w6 /\ Fr [] w5 w6) := ⟨HF5.out.2.then hF6, hF6⟩
  obtain ⟨w7, HW7⟩ : ∃ w7, Hid (w6.alloc (.cells Bq.newBk 52) = w7) := ⟨_, rfl⟩
  have hF7 : Fr [] w6 w7 := by rw [<- HW7.out]; exact Fr.alloc _ _ _
  obtain ⟨b0, b1, b2⟩ := HBx.out _ (HF6.out.1.then hF7)
  have hBk := zkl (m := m) (wS := w1) (wT := w2) (w := w6) (Lb := Lb) (Lh := Lh) (ho := ho) (wx := w1) HF3.out.2.2.2 HF3.out.2.1 (HF3.out.2.2.1.then HF6.out.1) HLb.out HLh.out hLb1 hLh1 HFew.out (HH.out _ (Fr.refl _ _)).1 HF1.out.2.1
  rw [HW7.out] at hBk
  have HBk : Hid (Calls _ _ _ _ _) := hBk
  obtain ⟨K, hK⟩ : ∃ K, K = w6.heap.size := ⟨_, rfl⟩
  rw [<- hK] at HBk
  clear hBk hF6 HLf o1 o2 o3
  go_upto_region 8 with fail
  rw [show w6.alloc (.cells #[.int .i64 0, .slice none 0 0, .slice none 0 0, .slice none 0 0, .slice none 0 0, .slice none 0 0, .slice none 0 0, .slice none 0 0, .slice none 0 0, .slice none 0 0, .slice none 0 0, .slice none 0 0] 52) = w7 from HW7.out, <- hK]
  have HK9 : Hid (K = w6.heap.size) := hK
  clear HW7 hF7 hK
  go_wp2_with fail
  refine Calls.mono HBk.out ?_
  rintro e w8 ⟨rfl, hF8, HAp⟩
  have HF8 : Hid (Fr [] w6 w8 /\ Fr [] w1 w8) := ⟨hF8, HF3.out.1.then (HF6.out.1.then hF8)⟩
  obtain ⟨_, q1, _, q3, z1, z3⟩ := HPb.out _ HF8.out.2
  have hFs : Fr [pb] w8 ((w8.setCell ⟨pb, 1, none⟩ (.pointer none)).setCell ⟨pb, 3, none⟩ (.pointer none)) := (Fr.set (S := [pb]) _ _ _ (by simp)).then (Fr.set (S := [pb]) _ _ _ (by simp))
  have HFs : Hid (Fr [pb] w8 ((w8.setCell ⟨pb, 1, none⟩ (.pointer none)).setCell ⟨pb, 3, none⟩ (.pointer none))) := hFs
  have HBo : Hid (((w8.setCell ⟨pb, 1, none⟩ (.pointer none)).setCell ⟨pb, 3, none⟩ (.pointer none)).heap[pb]? = some (.cells #[.pointer none, .pointer none, .pointer none, .pointer none] 35 (0, 0))) := by
    show _ = _
    rw [zae _ (zae _ (HTs.out _ HF8.out.2))]
    rfl
  have HA9 : Hid (Calls _ _ _ _ _) := HAp.out _ [pb] hFs (fun q hq => by
    simp at hq
    subst hq
    exact ⟨Nat.lt_of_lt_of_le HF1.out.2.2.1 HF1.out.1.size, HF1.out.2.2.2⟩)
  clear HBk hF8 HAp hFs b0 b1 b2
  generalize hw9 : (w8.setCell ⟨pb, 1, none⟩ (.pointer none)).setCell ⟨pb, 3, none⟩ (.pointer none) = w9 at HFs HBo HA9
  go_wp2_with fail
  try rw [hw9]
  clear hw9
  refine Calls.mono HA9.out ?_
  rintro e wx ⟨rfl, T, hFT, hT⟩
  have HR : Hid (DnP pb w (.returned (.bool true)) wx) := by
    have hK9 := HK9.out
    have hs0 := HF1.out.1.size
    have hs1 := HF3.out.2.1.size
    have hs2 := HF3.out.2.2.1.size
    have hs6 := HF6.out.1.size
    have hpl := HF1.out.2.2.1
    have hTlow : ∀ q ∈ T, w.heap.size <= q := fun q hq => by rcases hT q hq with p | p <;> omega
    refine ⟨rfl, hFT.keep HBo.out (fun hm => by have := hTlow pb hm; omega), ?_⟩
    exact ((HF1.out.1.then HF8.out.2).trans HFs.out (U := [pb]) (by simp) (fun x hx _ => hx)).trans hFT (fun x hx _ => hx) (fun x hx hl => by have := hTlow x hx; omega)
  clear HA9 hFT hT
  go_wp2
  go_ret
  exact HR.out
structure Oq19 where
  kd : Int
  m : Int
  bo : Option Addr
  Lb : Nat
  cb : Nat
  bs : List Int
  ho : Option Addr
  Lh : Nat
  ch : Nat
  hs : List Hd
  slot : Int
  at_ : Int
  yo : Option Addr
  M : Nat
  yc : Nat
  ys : List Nat
  n : Int
def Oq19.zero : Oq19 := ⟨0, 0, none, 0, 0, [], none, 0, 0, [], 0, 0, none, 0, 0, [], 0⟩
def Oq19.c (o : Oq19) : List Value := [.int .u8 o.kd, .int .i64 o.m, .slice o.bo o.Lb o.cb, .slice o.ho o.Lh o.ch, .int .i64 o.slot, .int .i64 o.at_, .slice o.yo o.M o.yc, .int .i64 o.n]
structure Oq19.at (w : World) (o : Oq19) : Prop where
  is : IRs w o.bo o.bs
  Lb : o.Lb = o.bs.length
  hs : HRs w o.ho o.hs
  Lh : o.Lh = o.hs.length
  at1 : o.at_ <= 9223372036854775807
  n1 : o.n <= 9223372036854775807
  ys : BArg w o.yo o.M o.yc o.ys
  M1 : o.M <= 140737488355328
structure ORs19 (w : World) (ao : Option Addr) (os : List Oq19) : Prop where
  lies : 0 < os.length -> ∃ b off, ao = some ⟨b, off, none⟩ /\ b < w.heap.size /\ ∀ i, i < os.length -> ∀ j, j < 8 -> w.cell? ⟨b, off + i * 8 + j, none⟩ = (os.getD i Oq19.zero).c[j]?
  few : os.length <= 140737488355328
  each : ∀ o ∈ os, o.at w
section
variable {H : Type} {enc : TypeId × Value -> H}
theorem Tryz.undOps19 : Tryz.prog.underlying 22 = some (.slice 60) := by kernel_rfl
theorem Tryz.cellsOp19 : Tryz.prog.cellsOf 60 = 8 := by kernel_rfl
theorem Tryz.undB19o : Tryz.prog.underlying 5 = some (.int .u8) := by kernel_rfl
theorem Tryz.cB19 : Tryz.prog.cellsOf 5 = 1 := by kernel_rfl
theorem Tryz.cSv19 : Tryz.prog.cellsOf 57 = 3 := by kernel_rfl
theorem Tryz.cBs19 : Tryz.prog.cellsOf 58 = 1 := by kernel_rfl
theorem Tryz.op19Fields : (match Tryz.prog.underlying 60 with | some (.struct fs) => fs.toList.map (fun f => (f.type, f.offset)) | _ => []) = [(5, 0), (57, 1), (3, 4), (3, 5), (58, 6), (3, 7)] := by kernel_rfl
theorem zwo {w : World} {fuel : Nat} {v : Value} {x : DataW H × List MemPlace} (h : DataW.trod enc Tryz.prog w 0 (fun _ => true) true fuel 58 [v] = some x) (hsz : ∀ n ∈ x.1.weights Tryz.prog 58, n <= reachBytes) : ∃ ao L cap xs, v = .slice ao L cap /\ BArg w ao L cap xs /\ L <= 140737488355328 := by
  rcases open_ints Tryz.undBs Tryz.undB19o Tryz.cB19 h with ⟨hcs, _⟩ | ⟨a, l, c, zs, hcs, _, hl, hm, hz, hx, hcell, hwz⟩
  · simp only [List.cons.injEq, and_true] at hcs
    obtain ⟨xs, hB⟩ := BArg.of_row (w := w) (a := none) (len := 0) (cap := 0) (zs := []) (.inl ⟨rfl, rfl, rfl, rfl⟩)
    exact ⟨none, 0, 0, xs, hcs, hB, by omega⟩
  · simp only [List.cons.injEq, and_true] at hcs
    obtain ⟨xs, hB⟩ := BArg.of_row (w := w) (a := some a) (len := l) (cap := c) (zs := zs) (.inr ⟨_, rfl, hl, hm, by simpa using hz, hcell, hwz⟩)
    simp only [if_true] at hz
    have hw : zs.length * Tryz.prog.bytesOf 5 <= reachBytes := by
      apply hsz
      rw [hx]
      simp only [DataW.weights, Tryz.undBs, lits, List.length_map]
      rw [show (zs.take l).length + (zs.drop l).length = zs.length by rw [<- List.length_append, List.take_append_drop]]
      exact List.mem_cons_self
    rw [show Tryz.prog.bytesOf 5 = 1 from by kernel_rfl] at hw
    have hr := reachBytes_lt
    exact ⟨some a, l, c, xs, hcs, hB, by omega⟩
theorem zwp {w : World} {fuel : Nat} {cs : List Value} {x : DataW H × List MemPlace} (h : DataW.trod enc Tryz.prog w 0 (fun _ => true) true fuel 60 cs = some x) (hsz : ∀ n ∈ x.1.weights Tryz.prog 60, n <= reachBytes) :
    ∃ o : Oq19, cs = o.c /\ o.at w := by
  have hF := Tryz.op19Fields
  cases hu : Tryz.prog.underlying 60 with
  | none => rw [hu] at hF; simp at hF
  | some u =>
    rw [hu] at hF
    cases u with
    | struct fs =>
      simp only at hF
      obtain ⟨ys, n, _, hx, hlen, hys, hf⟩ := DataW.trod_struct hu h
      rw [Tryz.cellsOp19] at hlen
      match cs, hlen with
      | [v0, v1, v2, v3, v4, v5, v6, v7], _ =>
        have hl2 : fs.toList.length = 6 := by have := congrArg List.length hF; simpa using this
        obtain ⟨l, hl⟩ : ∃ l, l = fs.toList := ⟨_, rfl⟩
        rw [<- hl] at hF hl2
        match l, hl2 with
        | [f0, f1, f2, f3, f4, f5], _ =>
          simp only [List.map_cons, List.map_nil, List.cons.injEq, Prod.mk.injEq, and_true] at hF
          obtain ⟨⟨t0, o0⟩, ⟨t1, o1⟩, ⟨t2, o2⟩, ⟨t3, o3⟩, ⟨t4, o4⟩, ⟨t5, o5⟩⟩ := hF
          have g : ∀ (i : Nat) (f : Field), [f0, f1, f2, f3, f4, f5][i]? = some f -> fs[i]? = some f := by
            intro i f hi
            rw [hl] at hi
            simpa using hi
          have r0 := hf 0 f0 (g 0 f0 rfl)
          have r1 := hf 1 f1 (g 1 f1 rfl)
          have r2 := hf 2 f2 (g 2 f2 rfl)
          have r3 := hf 3 f3 (g 3 f3 rfl)
          have r4 := hf 4 f4 (g 4 f4 rfl)
          have r5 := hf 5 f5 (g 5 f5 rfl)
          rw [t0, o0, Tryz.cB19] at r0
          rw [t1, o1, Tryz.cSv19] at r1
          rw [t2, o2, Tryz.cI9] at r2
          rw [t3, o3, Tryz.cI9] at r3
          rw [t4, o4, Tryz.cBs19] at r4
          rw [t5, o5, Tryz.cI9] at r5
          simp only [List.drop_zero, List.drop_succ_cons, List.take_succ_cons, List.take_zero] at r0 r1 r2 r3 r4 r5
          have hy2 : ys.length = 6 := by rw [hys]; have := congrArg List.length hl; simpa using this.symm
          match ys, hy2 with
          | [y0, y1, y2, y3, y4, y5], _ =>
            simp only [List.getElem?_cons_zero, List.getElem?_cons_succ] at r0 r1 r2 r3 r4 r5
            have hty : fs.toList.map (·.type) = [5, 57, 3, 3, 58, 3] := by rw [<- hl]; simp [t0, t1, t2, t3, t4, t5]
            have hw : ∀ (j : Nat) (t : TypeId) (d : DataW H), [5, 57, 3, 3, 58, 3][j]? = some t -> [y0.1, y1.1, y2.1, y3.1, y4.1, y5.1][j]? = some d -> ∀ q ∈ d.weights Tryz.prog t, q <= reachBytes := fun j t d h1 h2 q hq => by
              apply hsz
              rw [hx]
              simp only [DataW.weights, hu]
              rw [hty]
              exact DataW.weights_mem_each (j := j) (t := t) (d := d) h1 h2 _ hq
            obtain ⟨k0, e0, _, w0⟩ := DataW.trod_int Tryz.undB19o r0
            obtain ⟨m, bo, Lb, cb, bs, ho, Lh, ch, hs, e1, hm, hI, hLb, hH, hLh⟩ := zaad r1 (hw 1 57 y1.1 rfl rfl)
            obtain ⟨k2, e2, _, w2⟩ := DataW.trod_int Tryz.undI9 r2
            obtain ⟨k3, e3, _, w3⟩ := DataW.trod_int Tryz.undI9 r3
            obtain ⟨yo, M, yc, xs, e4, hB, hM1⟩ := zwo r4 (hw 4 58 y4.1 rfl rfl)
            obtain ⟨k5, e5, _, w5⟩ := DataW.trod_int Tryz.undI9 r5
            have b3 := bounds_i64 w3
            have b5 := bounds_i64 w5
            simp only [List.cons.injEq, and_true] at e0 e1 e2 e3 e5
            refine ⟨⟨k0, m, bo, Lb, cb, bs, ho, Lh, ch, hs, k2, k3, yo, M, yc, xs, k5⟩, ?_, ⟨hI, hLb, hH, hLh, by simp only; omega, by simp only; omega, hB, hM1⟩⟩
            simp only [Oq19.c]
            rw [e0, e1.1, e1.2.1, e1.2.2, e2, e3, e4, e5]
    | _ => simp at hF
theorem ztl {w : World} {fuel : Nat} {v : Value} {d : DataW H} {ps : List MemPlace} (h : DataW.trod enc Tryz.prog w 0 (fun _ => true) true fuel 22 [v] = some (d, ps)) (hsz : ∀ n ∈ d.weights Tryz.prog 22, n <= reachBytes) :
    ∃ ao L cap os, v = .slice ao L cap /\ ORs19 w ao os /\ L = os.length /\ L <= cap := by
  rcases Go.Deep.open_slice Tryz.undOps19 h with ⟨hcs, _⟩ | ⟨a, len, cap, m, n, D, Pl, hcs, hb, hl, hm, hmm, hx, hE⟩
  · simp only [List.cons.injEq, and_true] at hcs
    exact ⟨none, 0, 0, [], hcs, ⟨fun h => by simp at h, by simp, by simp⟩, rfl, Nat.le_refl _⟩
  · simp only [List.cons.injEq, and_true] at hcs
    simp only [if_true] at hmm
    subst hmm
    rw [Tryz.cellsOp19] at hE hx
    have hd : d = .slice ((List.range len).map D) ((List.range (m - len)).map fun j => D (len + j)) := by have := congrArg Prod.fst hx; simpa using this
    have hr := reachBytes_lt
    have hW : ∀ i, i < len -> ∀ q ∈ (D i).weights Tryz.prog 60, q <= reachBytes := by
      intro i hi q hq
      apply hsz
      rw [hd]
      simp only [DataW.weights, Tryz.undOps19]
      refine List.mem_cons_of_mem _ (List.mem_append_left _ ?_)
      exact zdi (List.mem_map.2 ⟨i, by simpa using hi, rfl⟩) _ hq
    have hO : ∀ i, i < len -> ∃ o : Oq19, (w.cells? 0 (a.add (i * 8)) 8 = some o.c) /\ o.at w := by
      intro i hi
      obtain ⟨cs', h1, h2⟩ := hE i (by omega)
      obtain ⟨o, rfl, hT⟩ := zwp h2 (hW i hi)
      exact ⟨o, h1, hT⟩
    haveI : Inhabited Oq19 := ⟨Oq19.zero⟩
    obtain ⟨F, hF⟩ := Go.Deep.choose_lt hO
    have hlen : len <= 140737488355328 := by
      have hw : len * Tryz.prog.bytesOf 60 <= reachBytes := by
        refine Nat.le_trans (Nat.mul_le_mul_right _ hl) (hsz _ ?_)
        rw [hd]
        simp only [DataW.weights, Tryz.undOps19, List.length_map, List.length_range]
        rw [show len + (m - len) = m by omega]
        exact List.mem_cons_self
      have hb40 : 1 <= Tryz.prog.bytesOf 60 := by
        have e : decide (1 <= Tryz.prog.bytesOf 60) = true := by kernel_rfl
        simpa using e
      have := Nat.le_mul_of_pos_right len hb40
      omega
    refine ⟨some a, len, m, (List.range len).map F, hcs, ⟨fun h0 => ?_, by simpa using hlen, ?_⟩, by simp, hl⟩
    · simp only [List.length_map, List.length_range] at h0 ⊢
      have hc0 := (World.cells?_some (hF 0 (by omega)).1).2.2
      obtain ⟨b, off, spot⟩ := a
      have hspot : spot = none := by
        have := hc0 0 (by omega)
        simp [Oq19.c] at this
        simpa [Addr.add] using World.cell?_spot this
      subst hspot
      have hcell : ∀ i, i < len -> ∀ j, j < 8 -> w.cell? ⟨b, off + i * 8 + j, none⟩ = (F i).c[j]? := by
        intro i hi j hj
        have := (World.cells?_some (hF i (by omega)).1).2.2 j hj
        rw [show ((⟨b, off, none⟩ : Addr).add (i * 8)).add j = ⟨b, off + i * 8 + j, none⟩ from by rw [Addr.add_lit, Addr.add_lit]] at this
        exact this
      refine ⟨b, off, rfl, World.block_lt_of_cell? w ⟨b, off + 0 * 8 + 0, none⟩ (by rw [hcell 0 (by omega) 0 (by omega)]; rfl), fun i hi j hj => ?_⟩
      have e : ((List.range len).map F).getD i Oq19.zero = F i := by simp [List.getD, hi]
      rw [e]
      exact hcell i hi j hj
    · intro t ht
      obtain ⟨i, hi, rfl⟩ := List.mem_map.1 ht
      exact (hF i (by simpa using hi)).2
end
theorem ORs19.keep {w w' : World} {ao : Option Addr} {os : List Oq19} (h : ORs19 w ao os) (hf : Fr [] w w') : ORs19 w' ao os := by
  refine ⟨fun h0 => ?_, h.few, fun o ho => ?_⟩
  · obtain ⟨b, off, e, hb, hc⟩ := h.lies h0
    exact ⟨b, off, e, Nat.lt_of_lt_of_le hb hf.size, fun i hi j hj => (World.cell?_of_block (hf.block b hb (by simp))).trans (hc i hi j hj)⟩
  · have := h.each o ho
    exact ⟨this.is.keep hf, this.Lb, this.hs.keep hf, this.Lh, this.at1, this.n1, this.ys.keep hf, this.M1⟩
def zcm (o : Oq19) : Prop := o.bs.length + szKs (o.hs.map Hd.kv) <= 1048576
def BeP (L : Nat) (os : List Oq19) (w : World) (e : Ending) (w' : World) : Prop := ∃ b : Bool, e = .returned (.bool b) /\ Fr [] w w' /\ (b = false -> L <= 1048576 /\ ∀ o ∈ os, zcm o)
theorem zoy (ao : Option Addr) (L cap : Nat) (os : List Oq19) (w : World) (h : ORs19 w ao os) (hL : L = os.length) :
    Calls Tryz.prog 5 #[.slice ao L cap] w fun e w' => BeP L os w e w' := by
  have HO : Hid (∀ W, Fr [] w W -> ORs19 W ao os) := fun W hf => h.keep hf
  have HL : Hid (L = os.length) := hL
  have hfew : L <= 140737488355328 := by rw [hL]; exact h.few
  clear h hL
  go_enter Tryz.func5, Tryz.ntmps5
  go_wp2_with fail
  go_loopw [3, 4] (fun nn ii wr => ∃ (n i : Nat), nn = .int .i64 (n : Int) /\ ii = .int .i64 (i : Int) /\ i <= L /\ n <= 1048576 /\ i <= n /\ Hid (Fr [] w wr /\ ∀ o ∈ os.take i, zcm o)) (fun _ ii _ => L - (RowKit.intOf ii).toNat)
  case atStart => exact ⟨0, 0, rfl, rfl, by omega, by omega, by omega, ⟨Fr.refl _ _, by simp⟩⟩
  case round =>
    obtain ⟨n, i, rfl, rfl, hiL, hn1, hin, HF⟩ := hrel
    by_cases hi : i < L
    · have hlt : (i : Int) < L := by omega
      obtain ⟨b, off, hao, hbl, hcell⟩ := (HO.out _ HF.out.1).lies (by have := HL.out; omega)
      obtain ⟨o, hoe⟩ : ∃ o, o = os.getD i Oq19.zero := ⟨_, rfl⟩
      have hom : os[i]? = some o := by
        have hl : i < os.length := by have := HL.out; omega
        rw [hoe]; simp [List.getD, hl]
      have HOm : Hid (os[i]? = some o) := hom
      have hoat := (HO.out _ HF.out.1).each o (List.mem_of_getElem? hom)
      have hc := hcell i (by have := HL.out; omega)
      rw [<- hoe] at hc
      obtain ⟨kd, m, bo, Lb, cb, bs, ho, Lh, ch, hs, slot, at_, yo, M, yc, ys, nn⟩ := o
      have hM : M <= 140737488355328 := hoat.M1
      have hfd : Fr [] w wr.drew := HF.out.1.then (Fr.drew [] wr)
      have HSz : Hid (Calls Tryz.prog 13 #[.agg #[.int .i64 m, .slice bo Lb cb, .slice ho Lh ch]] wr.drew fun e w2 => ∃ S : Nat, e = .returned (.int .i64 (S : Int)) /\ Hid (S <= 1048576 -> S = bs.length + szKs (hs.map Hd.kv)) /\ S <= 36028797018963968 /\ Hid (Fr [] w w2) /\ w2.cell? ⟨b, off + i * 8 + 1, none⟩ = some (.int .i64 m) /\ w2.cell? ⟨b, off + i * 8 + 2, none⟩ = some (.slice bo Lb cb) /\ w2.cell? ⟨b, off + i * 8 + 3, none⟩ = some (.slice ho Lh ch) /\ w2.cell? ⟨b, off + i * 8 + 6, none⟩ = some (.slice yo M yc)) := by
        have ha := (HO.out _ hfd).each _ (List.mem_of_getElem? hom)
        refine Calls.mono (zlv m bo ho Lb cb Lh ch bs hs wr.drew ha.is ha.Lb ha.hs ha.Lh) ?_
        rintro e w2 ⟨S, rfl, hS, hSx, hF2⟩
        have hc2 : ∀ j, j < 8 -> w2.cell? ⟨b, off + i * 8 + j, none⟩ = _ := fun j hj => (World.cell?_of_block (((Fr.drew [] wr).then hF2).block b hbl (by simp))).trans (hc j hj)
        exact ⟨S, rfl, hSx, by omega, hfd.then hF2, hc2 1 (by omega), hc2 2 (by omega), hc2 3 (by omega), hc2 6 (by omega)⟩
      have hcd : ∀ j, j < 8 -> wr.drew.cell? ⟨b, off + i * 8 + j, none⟩ = _ := fun j hj => (World.cell?_of_block ((Fr.drew [] wr).block b hbl (by simp))).trans (hc j hj)
      have d1 : wr.drew.cell? ⟨b, off + i * 8 + 1, none⟩ = some (.int .i64 m) := hcd 1 (by omega)
      have d2 : wr.drew.cell? ⟨b, off + i * 8 + 2, none⟩ = some (.slice bo Lb cb) := hcd 2 (by omega)
      have d3 : wr.drew.cell? ⟨b, off + i * 8 + 3, none⟩ = some (.slice ho Lh ch) := hcd 3 (by omega)
      have d6 : wr.drew.cell? ⟨b, off + i * 8 + 6, none⟩ = some (.slice yo M yc) := hcd 6 (by omega)
      subst hao
      clear hoe hom hoat hc hcd hcell hfd hbl
      go_upto_region 5 with fail
      go_loud (go_region_held3 (fun W => W.cell? ⟨b, off + i * 8 + 1, none⟩ = some (.int .i64 m) /\ W.cell? ⟨b, off + i * 8 + 2, none⟩ = some (.slice bo Lb cb) /\ W.cell? ⟨b, off + i * 8 + 3, none⟩ = some (.slice ho Lh ch) /\ W.cell? ⟨b, off + i * 8 + 6, none⟩ = some (.slice yo M yc)) (go_keep)
        (first
        | (go_at_call 13; with_reducible refine HSz.out.mono ?_; rintro e2 w2 ⟨S, rfl, HSx, hSb, HF2, l1, l2, l3, l6⟩)))
      clear HSz d1 d2 d3 d6 l1 l2 l3 l6
      by_cases hbig : 1048576 < n + 1 + M + S
      · have hbig' : (1048576 : Int) < (n : Int) + 1 + (M : Int) + (S : Int) := by omega
        go_wp2
        go_ret
        exact ⟨true, rfl, HF2.out, fun e => by cases e⟩
      · have hbig' : ¬ (1048576 : Int) < (n : Int) + 1 + (M : Int) + (S : Int) := by omega
        have hwr : IntKind.i64.wrap (IntKind.i64.wrap (IntKind.i64.wrap ((n : Int) + 1) + (M : Int)) + (S : Int)) = ((n + 1 + M + S : Nat) : Int) := by rw [IntKind.wrap_i64, IntKind.wrap_i64, IntKind.wrap_i64]; omega
        have HWr : Hid (IntKind.i64.wrap (IntKind.i64.wrap (IntKind.i64.wrap ((n : Int) + 1) + (M : Int)) + (S : Int)) = ((n + 1 + M + S : Nat) : Int)) := hwr
        clear hwr
        have HN : Hid (Fr [] w w2 /\ ∀ o ∈ os.take (i + 1), zcm o) := by
          refine ⟨HF2.out, fun o ho2 => ?_⟩
          rw [List.take_add_one, HOm.out] at ho2
          rcases List.mem_append.1 ho2 with p | p
          · exact HF.out.2 o p
          · simp at p
            subst p
            have := HSx.out (by omega)
            unfold zcm
            simp only
            omega
        go_wp2_with fail
        go_roundw
        case rel => exact ⟨n + 1 + M + S, i + 1, (by first | exact congrArg (Value.int .i64) HWr.out | simp), by simp, by omega, by omega, by omega, HN⟩
        case measure => simp [RowKit.intOf]; omega
    · have hlt : ¬ (i : Int) < L := by omega
      have HR : Hid (Fr [] w wr /\ L <= 1048576 /\ ∀ o ∈ os, zcm o) := ⟨HF.out.1, by omega, fun o ho2 => HF.out.2 o (by rw [List.take_of_length_le (by have := HL.out; omega)]; exact ho2)⟩
      go_wp2
      go_ret
      exact ⟨false, rfl, HR.out.1, fun _ => HR.out.2⟩
theorem zyy {w0 w : World} {pb gd gr : Nat} {SD SR SS : List Nat} {t : Sk} {vs vt : Value} (h : Ts w0 w pb gd gr SD SR t vs vt SS) (hn : t.n < 2^40) (o : Oq19) (ha : o.at w0) (hz : zcm o) (htab : Bq.Tab w0) :
    Calls Tryz.prog 8 #[.pointer (some ⟨pb, 0, none⟩), .agg #[.int .u8 o.kd, .int .i64 o.m, .slice o.bo o.Lb o.cb, .slice o.ho o.Lh o.ch, .int .i64 o.slot, .int .i64 o.at_, .slice o.yo o.M o.yc, .int .i64 o.n]] w fun e w' => DoP w0 pb gd gr SD SR SS t w e w' := by
  by_cases k1 : o.kd = 1
  · rw [k1]; exact zox h o.m o.slot o.at_ o.n o.bo o.ho o.yo o.Lb o.cb o.Lh o.ch o.M o.yc o.bs o.hs ha.is ha.Lb ha.hs ha.Lh hz htab
  by_cases k3 : o.kd = 3
  · rw [k3]; exact zth h hn o.m o.slot o.at_ o.n o.bo o.ho o.yo o.Lb o.cb o.Lh o.ch o.M o.yc o.ys ha.at1 ha.ys
  by_cases k4 : o.kd = 4
  · rw [k4]; exact zti h hn o.m o.slot o.at_ o.n o.bo o.ho o.yo o.Lb o.cb o.Lh o.ch o.M o.yc
  by_cases k5 : o.kd = 5
  · rw [k5]; exact zys h hn o.m o.slot o.at_ o.n o.bo o.ho o.yo o.Lb o.cb o.Lh o.ch o.M o.yc ha.n1
  by_cases k6 : o.kd = 6
  · rw [k6]; exact zwi h hn o.m o.slot o.at_ o.n o.bo o.ho o.yo o.Lb o.cb o.Lh o.ch o.M o.yc
  exact zwj h hn o.kd o.m o.slot o.at_ o.n o.bo o.ho o.yo o.Lb o.cb o.Lh o.ch o.M o.yc ⟨k1, k3, k4, k5, k6⟩
theorem zach {w0 w : World} {pb : Nat} (h : Pn pb w) (hF0 : Fr [] w0 w) (hp0 : w0.heap.size <= pb) (o : Oq19) (ha : o.at w0) (hz : zcm o) (htab : Bq.Tab w0) :
    Calls Tryz.prog 8 #[.pointer (some ⟨pb, 0, none⟩), .agg #[.int .u8 o.kd, .int .i64 o.m, .slice o.bo o.Lb o.cb, .slice o.ho o.Lh o.ch, .int .i64 o.slot, .int .i64 o.at_, .slice o.yo o.M o.yc, .int .i64 o.n]] w fun e w' => DnP pb w e w' := by
  by_cases k1 : o.kd = 1
  · rw [k1]; exact zacg h hF0 hp0 o.m o.slot o.at_ o.n o.bo o.ho o.yo o.Lb o.cb o.Lh o.ch o.M o.yc o.bs o.hs ha.is ha.Lb ha.hs ha.Lh hz htab
  by_cases k3 : o.kd = 3
  · rw [k3]; exact zyw h o.m o.slot o.at_ o.n o.bo o.ho o.yo o.Lb o.cb o.Lh o.ch o.M o.yc
  by_cases k4 : o.kd = 4
  · rw [k4]; exact zyx h o.m o.slot o.at_ o.n o.bo o.ho o.yo o.Lb o.cb o.Lh o.ch o.M o.yc
  by_cases k5 : o.kd = 5
  · rw [k5]; exact zacf h o.m o.slot o.at_ o.n o.bo o.ho o.yo o.Lb o.cb o.Lh o.ch o.M o.yc
  by_cases k6 : o.kd = 6
  · rw [k6]; exact zaba h o.m o.slot o.at_ o.n o.bo o.ho o.yo o.Lb o.cb o.Lh o.ch o.M o.yc
  exact zabb h o.kd o.m o.slot o.at_ o.n o.bo o.ho o.yo o.Lb o.cb o.Lh o.ch o.M o.yc ⟨k1, k3, k4, k5, k6⟩
def Pr19 (w0 : World) (pb : Nat) (N : Nat) (O : List Nat) (w : World) : Prop :=
  (Pn pb w /\ Fr [] w0 w /\ w0.heap.size <= pb /\ O = [pb]) \/ ∃ gd gr SD SR t vs vt SS, Ts w0 w pb gd gr SD SR t vs vt SS /\ t.n <= N /\ O = Ow pb SD SR SS
theorem Pr19.fr {w0 w : World} {pb N : Nat} {O : List Nat} (h : Pr19 w0 pb N O w) : Fr [] w0 w := by
  rcases h with ⟨_, h, _⟩ | ⟨gd, gr, SD, SR, t, vs, vt, SS, h, _⟩
  · exact h
  · exact h.pr.d.fr
theorem Pr19.lt {w0 w : World} {pb N : Nat} {O : List Nat} (h : Pr19 w0 pb N O w) : ∀ q ∈ O, q < w.heap.size := by
  rcases h with ⟨h, _, _, rfl⟩ | ⟨gd, gr, SD, SR, t, vs, vt, SS, h, _, rfl⟩
  · intro q hq; simp at hq; subst hq; exact lt_of_block h
  · exact h.lt
theorem Pr19.keepS {w0 w w' : World} {pb N : Nat} {O S : List Nat} (h : Pr19 w0 pb N O w) (hf : Fr S w w') (hS : ∀ q ∈ S, q ∉ O) (hN : ∀ q ∈ S, w0.heap.size <= q) : Pr19 w0 pb N O w' := by
  rcases h with ⟨h, h2, h3, rfl⟩ | ⟨gd, gr, SD, SR, t, vs, vt, SS, h, h2, rfl⟩
  · exact Or.inl ⟨hf.keep h (fun hm => hS pb hm (by simp)), h2.on hf hN, h3, rfl⟩
  · exact Or.inr ⟨gd, gr, SD, SR, t, vs, vt, SS, h.keepS hf hS hN, h2, rfl⟩
theorem Pr19.does {w0 w : World} {pb N : Nat} {O : List Nat} (h : Pr19 w0 pb N O w) (hn : N < 2^40) (o : Oq19) (ha : o.at w0) (hz : zcm o) (htab : Bq.Tab w0) :
    Calls Tryz.prog 8 #[.pointer (some ⟨pb, 0, none⟩), .agg #[.int .u8 o.kd, .int .i64 o.m, .slice o.bo o.Lb o.cb, .slice o.ho o.Lh o.ch, .int .i64 o.slot, .int .i64 o.at_, .slice o.yo o.M o.yc, .int .i64 o.n]] w fun e w' => e = .returned (.bool true) /\ ∃ O', Pr19 w0 pb (N + 1) O' w' /\ To O O' w w' := by
  rcases h with ⟨h, h2, h3, rfl⟩ | ⟨gd, gr, SD, SR, t, vs, vt, SS, h, h2, rfl⟩
  · refine (zach h h2 h3 o ha hz htab).mono ?_
    rintro e w' ⟨rfl, q1, q2⟩
    exact ⟨rfl, [pb], Or.inl ⟨q1, h2.on q2 (fun j hj => by simp at hj; omega), h3, rfl⟩, ⟨q2, fun q hq => Or.inl hq⟩⟩
  · refine (zyy h (by omega) o ha hz htab).mono ?_
    rintro e w' ⟨rfl, SD', SR', t', vs', vt', SS', q1, q2, q3⟩
    exact ⟨rfl, _, Or.inr ⟨gd, gr, SD', SR', t', vs', vt', SS', q1, by omega, rfl⟩, q3⟩
theorem Pr19.looks {w0 w : World} {pb N bk n : Nat} {O B : List Nat} (h : Pr19 w0 pb N O w) (hk : Kn w0 bk n w B) (hn : n <= 100) (hB : ∀ q ∈ B, q ∉ O /\ w0.heap.size <= q) :
    Calls Tryz.prog 9 #[.pointer (some ⟨pb, 0, none⟩), .pointer (some ⟨bk, 0, none⟩)] w fun e w' => e = .returned (.bool true) /\ ∃ B', Kn w0 bk (n + 1) w' B' /\ Fr B w w' /\ (∀ q ∈ B', q ∈ B \/ w.heap.size <= q) := by
  have hkeep : ∀ W W' B', Kn w0 bk (n + 1) W B' -> Fr [] W W' -> Kn w0 bk (n + 1) W' B' := fun W W' B' h hf => h.keep hf (by simp)
  have htell := fun (W : World) (m : Int) (bo : Option Addr) (Lb cb : Nat) (ho : Option Addr) (Lh ch : Nat) (bs : List Int) (hs : List Hd) (hf : Fr [] w W) (hsv : SvO w W bo Lb cb ho Lh ch bs hs) => hk.tell hn m bo Lb cb ho Lh ch bs hs hf hsv
  rcases h with ⟨h, h2, h3, rfl⟩ | ⟨gd, gr, SD, SR, t, vs, vt, SS, h, h2, rfl⟩
  · exact zwn (K := Kn w0 bk (n + 1)) h (fun hm => (hB pb hm).1 (by simp)) hkeep htell
  · exact zwk (K := Kn w0 bk (n + 1)) h hB hkeep htell
end Go.Proofs.YtembflnhhfliaaaGreatDoor
