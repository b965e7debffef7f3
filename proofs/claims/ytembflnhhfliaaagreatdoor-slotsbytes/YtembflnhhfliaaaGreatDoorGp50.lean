/- Contracts and plain lemmas of this claim. -/
import Derived.Test.YtembflnhhfliaaaGreatDoorGp49
import Derived.Test.YtembflnhhfliaaaGreatDoorGp18
set_option linter.unusedSimpArgs false
set_option linter.unusedVariables false
namespace Go.Proofs.YtembflnhhfliaaaGreatDoor
open BigFrame Go.ChangeShapes Go.WideShapes Go.ChangeAt Go.RowKit Go.Lib Go.Maps
def Q19 (w0 : World) (pb gd gr bk N : Nat) (B : List Nat) (W : World) : Prop := ∃ SD SR t vs vt SS, Ts w0 W pb gd gr SD SR t vs vt SS /\ t.n <= N /\ K2 w0 bk W B /\ ∀ q ∈ B, q ∉ Ow pb SD SR SS /\ w0.heap.size <= q
theorem Q19.done {w0 W W' : World} {pb gd gr bk N : Nat} {B SD SR SS : List Nat} {t : Sk} {e : Ending} (hn : t.n <= N) (hk : K2 w0 bk W B) (hB : ∀ q ∈ B, q ∉ Ow pb SD SR SS /\ w0.heap.size <= q) (hd : DoP w0 pb gd gr SD SR SS t W e W') : e = .returned (.bool true) /\ Q19 w0 pb gd gr bk (N + 1) B W' := by
  obtain ⟨he, SD', SR', t', vs', vt', SS', h1, h2, h3⟩ := hd
  have hlt := hk.lt
  refine ⟨he, SD', SR', t', vs', vt', SS', h1, by omega, hk.keep h3.fr (fun q hq => (hB q hq).1), fun q hq => ⟨fun hm => ?_, (hB q hq).2⟩⟩
  rcases h3.grew q hm with p | p
  · exact (hB q hq).1 p
  · have := hlt q hq; omega
def F19 (w0 : World) (pb gd gr N : Nat) (W : World) : Prop := ∃ SD SR t vs vt SS, Ts w0 W pb gd gr SD SR t vs vt SS /\ t.n <= N
theorem F19.wrote {w0 W : World} {pb gd gr N : Nat} (h : F19 w0 pb gd gr N W) (hN : N < 2^39) (m slot at_ n : Int) (b1 h1 bo : Option Addr) (L1 c1 L2 c2 M cb : Nat) (ys : List Nat) (hat : at_ <= 9223372036854775807) (hB : BArg w0 bo M cb ys) :
    Calls Tryz.prog 8 #[.pointer (some ⟨pb, 0, none⟩), .agg #[.int .u8 3, .int .i64 m, .slice b1 L1 c1, .slice h1 L2 c2, .int .i64 slot, .int .i64 at_, .slice bo M cb, .int .i64 n]] W fun e w' => e = .returned (.bool true) /\ F19 w0 pb gd gr (N + 1) w' := by
  obtain ⟨SD, SR, t, vs, vt, SS, hT, hn⟩ := h
  refine (zsr hT (by omega) m slot at_ n b1 h1 bo L1 c1 L2 c2 M cb ys hat hB).mono ?_
  rintro e w' ⟨he, SD', SR', t', vs', vt', SS', h1, h2, h3⟩
  exact ⟨he, SD', SR', t', vs', vt', SS', h1, by omega⟩
theorem zxi {w w1 w2 : World} {gd gr C : Nat} {SD SR : List Nat} (hD : LD w w1 gd SD (Sk.new C)) (hR : LR w w2 gr SR (Sk.new C)) (hF : Fr [] w1 w2) (hS : ∀ k ∈ SR, w1.heap.size <= k) : F19 w w2.heap.size gd gr 0 (w2.alloc (.cells #[.pointer (some ⟨gd, 0, none⟩), .pointer none, .pointer (some ⟨gr, 0, none⟩), .pointer none] 35)) := by
  have hFa : Fr [] w2 (w2.alloc (.cells #[.pointer (some ⟨gd, 0, none⟩), .pointer none, .pointer (some ⟨gr, 0, none⟩), .pointer none] 35)) := Fr.alloc [] _ _
  refine ⟨SD, SR, Sk.new C, _, _, [], ⟨⟨(hD.quiet hF).quiet hFa, hR.quiet hFa, fun k hk hm => ?_⟩, heap_alloc_new w2 _, ⟨hR.fr.size, fun hm => ?_, fun hm => ?_⟩, Or.inl ⟨rfl, rfl, rfl⟩⟩, by simp [Sk.new]⟩
  · have h1 := hD.lt k hk; have h2 := hS k hm; omega
  · have h1 := (hD.quiet hF).lt _ hm; omega
  · have h1 := hR.lt _ hm; omega
set_option maxHeartbeats 16000000 in
set_option maxRecDepth 100000 in
theorem zzw (ao : Option Addr) (La ca : Nat) (xa : List Nat) (bo : Option Addr) (Lb cb : Nat) (xb : List Nat) (w : World) (hA : BArg w ao La ca xa) (hB : BArg w bo Lb cb xb) (htab : Bq.Tab w) :
    Calls Tryz.prog 4 #[.slice ao La ca, .slice bo Lb cb] w fun e w' => e = .returned (.bool true) /\ Fr [] w w' := by
  have hma := hA.most
  have hmb := hB.most
  have hfa := hA.fits
  have hfb := hB.fits
  by_cases h1 : 65536 < La
  · have h1' : (65536 : Int) < La := by omega
    clear h1
    go_enter Tryz.func4, Tryz.ntmps4
    go_wp2
    go_ret
    exact ⟨rfl, Fr.refl _ _⟩
  have h1' : ¬ (65536 : Int) < La := by omega
  by_cases h2 : 65536 < Lb
  · have h2' : (65536 : Int) < Lb := by omega
    clear h2
    go_enter Tryz.func4, Tryz.ntmps4
    go_wp2
    go_ret
    exact ⟨rfl, Fr.refl _ _⟩
  have h2' : ¬ (65536 : Int) < Lb := by omega
  have HTab : Hid (Bq.Tab w) := htab
  have HA : Hid (BArg w ao La ca xa) := hA
  have HB : Hid (BArg w bo Lb cb xb) := hB
  have hD := zzr 131072 w w (Fr.refl _ _) (by omega)
  rw [show ((131072 : Nat) : Int) = 131072 from rfl] at hD
  have HD : Hid (Calls Tryz.prog 6 #[.int .i64 131072] w fun e w' => ∃ g S, e = .returned (.tuple #[.pointer (some ⟨g, 0, none⟩), .int .i64 0]) /\ LD w w' g S (Sk.new 131072) /\ (∀ k ∈ S, w.heap.size <= k) /\ Fr [] w w') := hD
  clear hA hB htab hD
  go_enter Tryz.func4, Tryz.ntmps4
  go_wp2_with fail
  refine Calls.mono HD.out ?_
  rintro e w1 ⟨gd, SD, rfl, hLD, hSD, hF1⟩
  have HLD : Hid (LD w w1 gd SD (Sk.new 131072)) := hLD
  have hR := zzv 131072 w w1 hF1 (by omega)
  rw [show ((131072 : Nat) : Int) = 131072 from rfl] at hR
  have HR : Hid (Calls Tryz.prog 7 #[.int .i64 131072] w1 fun e w' => ∃ g S, e = .returned (.tuple #[.pointer (some ⟨g, 0, none⟩), .int .i64 0]) /\ LR w w' g S (Sk.new 131072) /\ (∀ k ∈ S, w1.heap.size <= k) /\ Fr [] w1 w') := hR
  clear HD hLD hSD hF1 hR
  go_wp2_with fail
  refine Calls.mono HR.out ?_
  rintro e w2 ⟨gr, SR, rfl, hLR, hSR, hF2⟩
  have hPn := zxi HLD.out hLR hF2 hSR
  obtain ⟨w3, HW3⟩ : ∃ w3, Hid (w2.alloc (.cells #[.pointer (some ⟨gd, 0, none⟩), .pointer none, .pointer (some ⟨gr, 0, none⟩), .pointer none] 35) = w3) := ⟨_, rfl⟩
  rw [HW3.out] at hPn
  obtain ⟨pb, hpb⟩ : ∃ pb, pb = w2.heap.size := ⟨_, rfl⟩
  rw [<- hpb] at hPn
  have HP : Hid (F19 w pb gd gr 0 w3) := hPn
  clear HR hLR hSR hF2 hPn HLD
  go_upto_region 8 with fail
  rw [HW3.out, <- hpb]
  clear HW3 hpb
  go_wp2_with fail
  go_loopw [10] (fun nn wr => ∃ n : Nat, nn = .int .i64 (n : Int) /\ n <= 2 /\ Hid (F19 w pb gd gr (70000 * n) wr)) (fun nn _ => 2 - (RowKit.intOf nn).toNat)
  case atStart => exact ⟨0, rfl, by omega, HP⟩
  case round =>
    clear HP
    obtain ⟨n, rfl, hn2, HF⟩ := hrel
    by_cases hn : n < 2
    · have hlt : (n : Int) < 2 := by omega
      rename World => wo
      by_cases hn1 : n = 1
      · have hne : ((n : Int) == 1) = true := by simp; omega
        clear hn1
        go_wp2_with fail
        go_loopw [12] (fun aa wr => ∃ a : Nat, aa = .int .i64 (a : Int) /\ a <= Lb + 63 /\ Hid (F19 w pb gd gr (70000 * n + a) wr)) (fun aa _ => Lb + 64 - (RowKit.intOf aa).toNat)
        case atStart => exact ⟨0, rfl, by omega, HF⟩
        case round =>
          clear HF
          obtain ⟨a, rfl, ha3, HF⟩ := hrel
          by_cases ha : a < Lb
          · have hal : (a : Int) < Lb := by omega
            obtain ⟨en, HEn⟩ : ∃ en, Hid (en = min (a + 64) Lb) := ⟨_, rfl⟩
            have hen : a < en /\ en <= a + 64 /\ en <= Lb := by have := HEn.out; omega
            obtain ⟨he1, he2, he3⟩ := hen
            have hmin : min ((a : Int) + 64) (Lb : Int) = (en : Int) := by have := HEn.out; omega
            obtain ⟨yo, HYo⟩ : ∃ yo, Hid (yo = zav bo cb a) := ⟨_, rfl⟩
            have hsl : ∀ W : World, (Instr.sliceAt 58 (.slice bo Lb cb) (some (.int .i64 (a : Int))) (some (.int .i64 (en : Int))) none).run Tryz.prog W = .ok (.slice yo (en - a) (cb - a)) W := fun W => by
              rw [zgi bo Lb cb a en (by omega) (by omega) W, HYo.out]
            have HW : Hid (Calls _ _ _ _ _) := HF.out.wrote (by omega) 0 (n : Int) (a : Int) 0 none none yo 0 0 0 0 (en - a) (cb - a) _ (by omega) (by rw [HYo.out]; exact HB.out.cut a en (by omega) (by omega))
            clear HF
            go_wp2_with fail
            refine Calls.mono HW.out ?_
            rintro e x1 ⟨rfl, hF⟩
            have HF2 : Hid (F19 w pb gd gr (70000 * n + (a + 64)) x1) := by
              obtain ⟨SD', SR', t', vs', vt', SS', q1, q2⟩ := hF
              exact ⟨SD', SR', t', vs', vt', SS', q1, by omega⟩
            clear HW hF hmin hsl
            go_wp2_with fail
            go_roundw
            case rel => exact ⟨a + 64, by simp, by omega, HF2⟩
            case measure => simp [RowKit.intOf]; omega
          · have hal : ¬ (a : Int) < Lb := by omega
            have HF2 : Hid (F19 w pb gd gr (70000 * (n + 1)) wr) := by
              obtain ⟨SD', SR', t', vs', vt', SS', q1, q2⟩ := HF.out
              exact ⟨SD', SR', t', vs', vt', SS', q1, by omega⟩
            clear HF
            go_wp2_with fail
            go_roundw
            case rel => exact ⟨n + 1, by simp, by omega, HF2⟩
            case measure => simp [RowKit.intOf]; omega
      · have hne : ((n : Int) == 1) = false := by simp; omega
        clear hn1
        go_wp2_with fail
        go_loopw [12] (fun aa wr => ∃ a : Nat, aa = .int .i64 (a : Int) /\ a <= La + 63 /\ Hid (F19 w pb gd gr (70000 * n + a) wr)) (fun aa _ => La + 64 - (RowKit.intOf aa).toNat)
        case atStart => exact ⟨0, rfl, by omega, HF⟩
        case round =>
          clear HF
          obtain ⟨a, rfl, ha3, HF⟩ := hrel
          by_cases ha : a < La
          · have hal : (a : Int) < La := by omega
            obtain ⟨en, HEn⟩ : ∃ en, Hid (en = min (a + 64) La) := ⟨_, rfl⟩
            have hen : a < en /\ en <= a + 64 /\ en <= La := by have := HEn.out; omega
            obtain ⟨he1, he2, he3⟩ := hen
            have hmin : min ((a : Int) + 64) (La : Int) = (en : Int) := by have := HEn.out; omega
            obtain ⟨yo, HYo⟩ : ∃ yo, Hid (yo = zav ao ca a) := ⟨_, rfl⟩
            have hsl : ∀ W : World, (Instr.sliceAt 58 (.slice ao La ca) (some (.int .i64 (a : Int))) (some (.int .i64 (en : Int))) none).run Tryz.prog W = .ok (.slice yo (en - a) (ca - a)) W := fun W => by
              rw [zgi ao La ca a en (by omega) (by omega) W, HYo.out]
            have HW : Hid (Calls _ _ _ _ _) := HF.out.wrote (by omega) 0 (n : Int) (a : Int) 0 none none yo 0 0 0 0 (en - a) (ca - a) _ (by omega) (by rw [HYo.out]; exact HA.out.cut a en (by omega) (by omega))
            clear HF
            go_wp2_with fail
            refine Calls.mono HW.out ?_
            rintro e x1 ⟨rfl, hF⟩
            have HF2 : Hid (F19 w pb gd gr (70000 * n + (a + 64)) x1) := by
              obtain ⟨SD', SR', t', vs', vt', SS', q1, q2⟩ := hF
              exact ⟨SD', SR', t', vs', vt', SS', q1, by omega⟩
            clear HW hF hmin hsl
            go_wp2_with fail
            go_roundw
            case rel => exact ⟨a + 64, by simp, by omega, HF2⟩
            case measure => simp [RowKit.intOf]; omega
          · have hal : ¬ (a : Int) < La := by omega
            have HF2 : Hid (F19 w pb gd gr (70000 * (n + 1)) wr) := by
              obtain ⟨SD', SR', t', vs', vt', SS', q1, q2⟩ := HF.out
              exact ⟨SD', SR', t', vs', vt', SS', q1, by omega⟩
            clear HF
            go_wp2_with fail
            go_roundw
            case rel => exact ⟨n + 1, by simp, by omega, HF2⟩
            case measure => simp [RowKit.intOf]; omega
    · have hlt : ¬ (n : Int) < 2 := by omega
      obtain ⟨SD, SR, t, vs, vt, SS, hTs, htn⟩ := HF.out
      obtain ⟨wb, HWb⟩ : ∃ wb, Hid (wr.alloc (.cells Bq.newBk 52) = wb) := ⟨_, rfl⟩
      have hFb : Fr [] wr wb := by rw [<- HWb.out]; exact Fr.alloc _ _ _
      obtain ⟨bk, hbk⟩ : ∃ bk, bk = wr.heap.size := ⟨_, rfl⟩
      have hbb : wb.heap[bk]? = some (.cells Bq.newBk 52 (0, 0)) := by rw [<- HWb.out, hbk]; exact heap_alloc_new wr _
      have hTb := hTs.quiet hFb
      have hOl : ∀ q ∈ Ow pb SD SR SS, q < bk := fun q hq => by rw [hbk]; exact hTs.lt q hq
      have hw0 : w.heap.size <= bk := by rw [hbk]; exact hTs.pr.d.fr.size
      have hbl : bk < wb.heap.size := lt_of_block hbb
      have HTb : Hid (Ts w wb pb gd gr SD SR t vs vt SS /\ t.n <= 140000 /\ (∀ q ∈ Ow pb SD SR SS, q < bk) /\ w.heap.size <= bk /\ bk < wb.heap.size) := ⟨hTb, by omega, hOl, hw0, hbl⟩
      have HLo : Hid (Calls _ _ _ _ _) := zmc (bk := bk) (B := [bk]) (K := K1 w bk) hTb (fun q hq => by simp at hq; subst hq; exact ⟨fun hm => by have := hOl q hm; omega, hw0⟩) (fun W W' B' h hf => h.keep hf) (fun W m bo Lb cb ho Lh ch bs hs hf hs2 => zaal hbb hw0 m bo Lb cb ho Lh ch bs hs hf hs2)
      clear hTs htn hFb hbb hTb hOl hw0 hbl HF
      go_upto_region 20 with fail
      rw [show wr.alloc (.cells #[.int .i64 0, .slice none 0 0, .slice none 0 0, .slice none 0 0, .slice none 0 0, .slice none 0 0, .slice none 0 0, .slice none 0 0, .slice none 0 0, .slice none 0 0, .slice none 0 0, .slice none 0 0] 52) = wb from HWb.out, <- hbk]
      clear HWb hbk
      go_wp2_with fail
      refine Calls.mono HLo.out ?_
      rintro e x1 ⟨rfl, B, hK1, hFx, hBn⟩
      have hT1 : Ts w x1 pb gd gr SD SR t vs vt SS := HTb.out.1.keepS hFx (fun q hq hm => by simp at hq; subst hq; have := HTb.out.2.2.1 q hm; omega) (fun q hq => by simp at hq; subst hq; exact HTb.out.2.2.2.1)
      have hBb : ∀ q ∈ B, q ∉ Ow pb SD SR SS /\ w.heap.size <= q := fun q hq => by
        have h5 := HTb.out.2.2.2
        rcases hBn q hq with p | p
        · simp at p
          subst p
          exact ⟨fun hm => by have := HTb.out.2.2.1 q hm; omega, by omega⟩
        · exact ⟨fun hm => by have := HTb.out.2.2.1 q hm; omega, by omega⟩
      have hgl := HTab.out.lt
      have HAp : Hid (Calls _ _ _ _ _) := hK1.apart (HTab.out.keep hT1.pr.d.fr (by simp)) (fun hm => by have := (hBb _ hm).2; omega)
      have HT1 : Hid (Ts w x1 pb gd gr SD SR t vs vt SS /\ ∀ q ∈ B, q ∉ Ow pb SD SR SS /\ w.heap.size <= q) := ⟨hT1, hBb⟩
      clear HLo hK1 hFx hBn hT1 hBb hgl
      go_wp2_with fail
      refine Calls.mono HAp.out ?_
      rintro e x2 ⟨rfl, hFx, B2, hK2, hB2⟩
      have hT2 : Ts w x2 pb gd gr SD SR t vs vt SS := HT1.out.1.keepS hFx (fun q hq => (HT1.out.2 q hq).1) (fun q hq => (HT1.out.2 q hq).2)
      have HQ2 : Hid (t.n <= 140000 /\ K2 w bk x2 B2 /\ ∀ q ∈ B2, q ∉ Ow pb SD SR SS /\ w.heap.size <= q) := ⟨HTb.out.2.1, hK2, fun q hq => HT1.out.2 q (hB2 q hq)⟩
      have HNw : Hid (Calls _ _ _ _ _) := zop hT2 1 0 0 0 none none none 0 0 0 0 0 0 [] [] (zvg w) rfl (zvh w) rfl (by simp [szKs]) HTab.out
      clear HAp hFx hK2 hB2 hT2 HT1 HTb
      go_wp2_with fail
      refine Calls.mono HNw.out ?_
      intro e x3 hd
      obtain ⟨he, hq⟩ := Q19.done (bk := bk) HQ2.out.1 HQ2.out.2.1 HQ2.out.2.2 hd
      subst he
      obtain ⟨SD3, SR3, t3, vs3, vt3, SS3, hT3, hn3, hK3, hB3⟩ := hq
      have HQ3 : Hid (t3.n <= 140001 /\ K2 w bk x3 B2 /\ ∀ q ∈ B2, q ∉ Ow pb SD3 SR3 SS3 /\ w.heap.size <= q) := ⟨hn3, hK3, hB3⟩
      have HS3 : Hid (Calls _ _ _ _ _) := zmb hT3 (by omega) 0 0 0 0 0 none none none 0 0 0 0 0 0 (by decide)
      clear HNw hd hT3 hn3 hK3 hB3 HQ2
      go_wp2_with fail
      refine Calls.mono HS3.out ?_
      intro e x4 hd
      obtain ⟨he, hq⟩ := Q19.done (bk := bk) HQ3.out.1 HQ3.out.2.1 HQ3.out.2.2 hd
      subst he
      obtain ⟨SD4, SR4, t4, vs4, vt4, SS4, hT4, hn4, hK4, hB4⟩ := hq
      have HQ4 : Hid (t4.n <= 140002 /\ K2 w bk x4 B2 /\ ∀ q ∈ B2, q ∉ Ow pb SD4 SR4 SS4 /\ w.heap.size <= q) := ⟨hn4, hK4, hB4⟩
      have HS4 : Hid (Calls _ _ _ _ _) := zmb hT4 (by omega) 0 0 0 0 0 none none none 0 0 0 0 0 0 (by decide)
      clear HS3 hd hT4 hn4 hK4 hB4 HQ3
      go_wp2_with fail
      refine Calls.mono HS4.out ?_
      intro e x5 hd
      obtain ⟨he, hq⟩ := Q19.done (bk := bk) HQ4.out.1 HQ4.out.2.1 HQ4.out.2.2 hd
      subst he
      obtain ⟨SD5, SR5, t5, vs5, vt5, SS5, hT5, hn5, hK5, hB5⟩ := hq
      have HL5 : Hid (Calls _ _ _ _ _) := zmc (bk := bk) (B := B2) (K := fun _ _ => True) hT5 hB5 (fun _ _ _ _ _ => trivial) (fun W m bo Lb cb ho Lh ch bs hs hf hs2 => zaam hK5 m bo Lb cb ho Lh ch bs hs hf hs2)
      have HF5 : Hid (Fr [] w x5 /\ ∀ q ∈ B2, w.heap.size <= q) := ⟨hT5.pr.d.fr, fun q hq => (hB5 q hq).2⟩
      clear HS4 hd hT5 hn5 hK5 hB5 HQ4
      go_wp2_with fail
      refine Calls.mono HL5.out ?_
      rintro e x6 ⟨rfl, B6, -, hF6, -⟩
      have HF6 : Hid (Fr [] w x6) := HF5.out.1.on hF6 HF5.out.2
      clear HL5 hF6 HF5
      go_wp2
      go_ret
      exact ⟨rfl, HF6.out⟩
end Go.Proofs.YtembflnhhfliaaaGreatDoor
