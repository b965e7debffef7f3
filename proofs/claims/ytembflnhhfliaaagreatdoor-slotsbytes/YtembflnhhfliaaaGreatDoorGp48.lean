/- Contracts and plain lemmas of this claim. -/
import Derived.Test.YtembflnhhfliaaaGreatDoorGp47
set_option linter.unusedSimpArgs false
set_option linter.unusedVariables false
set_option maxHeartbeats 16000000
set_option maxRecDepth 100000
namespace Go.Proofs.YtembflnhhfliaaaGreatDoor
open BigFrame Go.ChangeShapes Go.WideShapes Go.ChangeAt Go.RowKit Go.Lib Go.Maps
theorem zaak {w0 w : World} {pb gd gr : Nat} {SD SR SS : List Nat} {t : Sk} {vs vt : Value} (h : Ts w0 w pb gd gr SD SR t vs vt SS) : ∃ n : Nat, (∀ W, Fr [] w W -> Calls Tryz.prog 12 #[vs] W fun e w' => e = .returned (.int .i64 (n : Int)) /\ Fr [] W w') /\ (∀ W, Fr [] w W -> Calls Tryz.prog 31 #[vt] W fun e w' => e = .returned (.int .i64 (n : Int)) /\ Fr [] W w') := by
  rcases h.sv with ⟨rfl, rfl, rfl⟩ | ⟨sb, fb, ab, tb, ab2, slot, zs, k, rfl, rfl, e3, hs⟩
  · refine ⟨0, fun W _ => (zxa W).mono ?_, fun W _ => (zxf W).mono ?_⟩
    · rintro e w' ⟨rfl, rfl⟩; exact ⟨rfl, Fr.refl _ _⟩
    · rintro e w' ⟨rfl, rfl⟩; exact ⟨rfl, Fr.refl _ _⟩
  · obtain ⟨fo, fc, ac, hsa⟩ := hs.s
    obtain ⟨ac2, hza⟩ := hs.t
    refine ⟨nB zs.length + 1 - k, fun W hf => (zva (hsa.keep hf (by simp) (by simp) (by simp)) rfl).mono ?_, fun W hf => zdf (hza.keep hf (by simp) (by simp)) rfl⟩
    rintro e w' ⟨rfl, rfl⟩; exact ⟨rfl, Fr.refl _ _⟩
theorem zmc {w0 w : World} {pb gd gr bk : Nat} {SD SR SS B : List Nat} {t : Sk} {vs vt : Value} {K : World -> List Nat -> Prop} (h : Ts w0 w pb gd gr SD SR t vs vt SS) (hB : ∀ q ∈ B, q ∉ Ow pb SD SR SS /\ w0.heap.size <= q)
    (hkeep : ∀ W W' B', K W B' -> Fr [] W W' -> K W' B')
    (htell : ∀ (W : World) (m : Int) (bo : Option Addr) (Lb cb : Nat) (ho : Option Addr) (Lh ch : Nat) (bs : List Int) (hs : List Hd), Fr [] w W -> SvO w W bo Lb cb ho Lh ch bs hs -> Calls Tryz.prog 18 #[.pointer (some ⟨bk, 0, none⟩), .agg #[.int .i64 m, .slice bo Lb cb, .slice ho Lh ch]] W fun e w' => e = .returned (.tuple #[]) /\ ∃ B', K w' B' /\ Fr B W w' /\ ∀ q ∈ B', q ∈ B \/ w.heap.size <= q) :
    Calls Tryz.prog 9 #[.pointer (some ⟨pb, 0, none⟩), .pointer (some ⟨bk, 0, none⟩)] w fun e w' => e = .returned (.bool true) /\ ∃ B', K w' B' /\ Fr B w w' /\ ∀ q ∈ B', q ∈ B \/ w.heap.size <= q := by
  have HTs : Hid (∀ W, Fr [] w W -> Ts w0 W pb gd gr SD SR t vs vt SS) := fun W hf => h.quiet hf
  have HPb : Hid (∀ W, Fr [] w W -> W.cell? ⟨pb, 0, none⟩ = some (.pointer (some ⟨gd, 0, none⟩)) /\ W.cell? ⟨pb, 1, none⟩ = some vs /\ W.cell? ⟨pb, 2, none⟩ = some (.pointer (some ⟨gr, 0, none⟩)) /\ W.cell? ⟨pb, 3, none⟩ = some vt) := fun W hf => by
    have hb := (HTs.out W hf).box
    refine ⟨?_, ?_, ?_, ?_⟩ <;> rw [cell_of_row _ _ _ _ _ _ hb] <;> rfl
  obtain ⟨nl, hl1, hl2⟩ := zaak h
  have HL1 : Hid (∀ W, Fr [] w W -> Calls Tryz.prog 12 #[vs] W fun e w' => e = .returned (.int .i64 (nl : Int)) /\ Fr [] W w') := hl1
  have HL2 : Hid (∀ W, Fr [] w W -> Calls Tryz.prog 31 #[vt] W fun e w' => e = .returned (.int .i64 (nl : Int)) /\ Fr [] W w') := hl2
  obtain ⟨dd, hdd⟩ : ∃ dd, t.dd = dd := ⟨_, rfl⟩
  obtain ⟨nw, hnw⟩ : ∃ nw, t.n = nw := ⟨_, rfl⟩
  have HDd : Hid (t.dd = dd /\ t.n = nw) := ⟨hdd, hnw⟩
  have HTell : Hid (∀ (W : World) (m : Int) (bo : Option Addr) (Lb cb : Nat) (ho : Option Addr) (Lh ch : Nat) (bs : List Int) (hs : List Hd), Fr [] w W -> SvO w W bo Lb cb ho Lh ch bs hs -> Calls Tryz.prog 18 #[.pointer (some ⟨bk, 0, none⟩), .agg #[.int .i64 m, .slice bo Lb cb, .slice ho Lh ch]] W fun e w' => e = .returned (.tuple #[]) /\ ∃ B', K w' B' /\ Fr B W w' /\ ∀ q ∈ B', q ∈ B \/ w.heap.size <= q) := htell
  have HKp : Hid ((∀ W W' B', K W B' -> Fr [] W W' -> K W' B') /\ (∀ q ∈ B, q ∉ Ow pb SD SR SS /\ w0.heap.size <= q)) := ⟨hkeep, hB⟩
  have HNe : Hid (Calls Tryz.prog 28 #[.pointer (some ⟨gd, 0, none⟩)] w fun e w' => NwP t.s0 t.s1 w e w') := zkj h.pr.d
  obtain ⟨p0, p1, p2, p3⟩ := HPb.out _ (Fr.refl _ _)
  clear h hB hkeep htell hl1 hl2 hdd hnw
  go_enter Tryz.func9, Tryz.ntmps9
  go_wp2_with fail
  refine Calls.mono HNe.out ?_
  rintro e w1 ⟨ok, g, i, m, bo, Lb, cb, ho, Lh, ch, bs, hs, rfl, hN, hSv, hF1⟩
  obtain ⟨w2, HW2⟩ : ∃ w2, Hid (w1.alloc (.cells #[.int .i64 m, .slice bo Lb cb, .slice ho Lh ch] 57) = w2) := ⟨_, rfl⟩
  have hF2 : Fr [] w1 w2 := by rw [<- HW2.out]; exact Fr.alloc [] w1 _
  obtain ⟨A, hA⟩ : ∃ A, A = w1.heap.size := ⟨_, rfl⟩
  have hb2 : w2.heap[A]? = some (.cells #[.int .i64 m, .slice bo Lb cb, .slice ho Lh ch] 57 (0, 0)) := by rw [<- HW2.out, hA]; exact heap_alloc_new w1 _
  have HA : Hid (∀ W, Fr [] w2 W -> W.cell? ⟨A, 0, none⟩ = some (.int .i64 m) /\ W.cell? ⟨A, 1, none⟩ = some (.slice bo Lb cb) /\ W.cell? ⟨A, 2, none⟩ = some (.slice ho Lh ch)) := fun W hf => zai (hf.keep hb2 (by simp))
  have HSv : Hid (∀ W, Fr [] w2 W -> SvO w W bo Lb cb ho Lh ch bs hs) := fun W hf => (hSv.keep hF2).keep hf
  have HN : Hid (Nw t.s0 t.s1 ok g i m bs (hs.map Hd.kv)) := hN
  have HF2 : Hid (Fr [] w w2) := hF1.then hF2
  have HZe : Hid (Calls _ _ _ _ _) := zfo (HTs.out _ HF2.out).pr.r
  clear hN hSv hF1 hF2 hb2 HNe p0 p1 p2 p3
  obtain ⟨p0, p1, p2, p3⟩ := HPb.out _ HF2.out
  go_upto_region 2 with fail
  rw [HW2.out, <- hA]
  clear HW2 hA
  go_wp2_with fail
  refine Calls.mono HZe.out ?_
  rintro e w3 ⟨ok', g', i', m', bo', Lb', cb', ho', Lh', ch', bs', hs', rfl, hN', hSv', hF3⟩
  obtain ⟨e1, e2, e3, e4, e5, hkv⟩ := hN'.uniq HN.out
  subst e1
  subst e2
  subst e3
  subst e4
  subst e5
  have hll : Lb' = Lb := by have h1 := hSv'.io.len; have h2 := (HSv.out _ (Fr.refl _ _)).io.len; omega
  subst hll
  have hlh : Lh' = Lh := by
    have h1 := hSv'.ho.len
    have h2 := (HSv.out _ (Fr.refl _ _)).ho.len
    have h3 := congrArg List.length hkv
    simp only [List.length_map] at h3
    omega
  subst hlh
  have HKv : Hid (hs.map Hd.kv = hs'.map Hd.kv) := hkv.symm
  obtain ⟨w4, HW4⟩ : ∃ w4, Hid (w3.alloc (.cells #[.int .i64 m', .slice bo' Lb' cb', .slice ho' Lh' ch'] 57) = w4) := ⟨_, rfl⟩
  have hF4 : Fr [] w3 w4 := by rw [<- HW4.out]; exact Fr.alloc [] w3 _
  obtain ⟨A2, hA2⟩ : ∃ A2, A2 = w3.heap.size := ⟨_, rfl⟩
  have hb4 : w4.heap[A2]? = some (.cells #[.int .i64 m', .slice bo' Lb' cb', .slice ho' Lh' ch'] 57 (0, 0)) := by rw [<- HW4.out, hA2]; exact heap_alloc_new w3 _
  have HF4 : Hid (Fr [] w2 w4 /\ Fr [] w w4) := ⟨hF3.then hF4, HF2.out.then (hF3.then hF4)⟩
  have HSv' : Hid (∀ W, Fr [] w4 W -> SvO w2 W bo' Lb' cb' ho' Lh' ch' bs' hs') := fun W hf => (hSv'.keep hF4).keep hf
  have hC1 : ∀ y : Wd13 w4, Calls Tryz.prog 30 #[.agg #[.int .i64 m', .slice bo Lb' cb, .slice ho Lh' ch], .agg #[.int .i64 m', .slice bo' Lb' cb', .slice ho' Lh' ch']] y.W fun e w' => e = .returned (.bool true) /\ Fr [] y.W w' := fun y => by
    have s1 := HSv.out _ (HF4.out.1.then y.h)
    have s2 := HSv'.out _ y.h
    exact zsf y.W m' bo ho bo' ho' Lb' cb Lh' ch cb' ch' bs' hs hs' (s1.io.irs s1.lb) (s2.io.irs s2.lb) s1.io.len (s1.ho.rsL s1.lim s1.lh) (s2.ho.rsL s2.lim s2.lh) s1.ho.len HKv.out (by have := s1.lb; omega)
  have hC2 : ∀ y : Wd13 w4, Calls Tryz.prog 12 #[vs] y.W fun e w' => e = .returned (.int .i64 (nl : Int)) /\ Fr [] y.W w' := fun y => HL1.out _ (HF4.out.2.then y.h)
  have hC3 : ∀ y : Wd13 w4, Calls Tryz.prog 31 #[vt] y.W fun e w' => e = .returned (.int .i64 (nl : Int)) /\ Fr [] y.W w' := fun y => HL2.out _ (HF4.out.2.then y.h)
  have hC4 : ∀ y : Wd13 w4, Calls Tryz.prog 32 #[.pointer (some ⟨gd, 0, none⟩)] y.W fun e w' => e = .returned (.bool dd) /\ Fr [] y.W w' := fun y => Calls.mono (zys (HTs.out _ (HF4.out.2.then y.h)).pr.d HDd.out.1) (fun e w' h => ⟨h.1, by rw [<- h.2]; exact Fr.refl _ _⟩)
  have hC5 : ∀ y : Wd13 w4, Calls Tryz.prog 33 #[.pointer (some ⟨gr, 0, none⟩)] y.W fun e w' => e = .returned (.bool dd) /\ Fr [] y.W w' := fun y => Calls.mono (zyu (HTs.out _ (HF4.out.2.then y.h)).pr.r HDd.out.1) (fun e w' h => ⟨h.1, by rw [<- h.2]; exact Fr.refl _ _⟩)
  have hC6 : ∀ y : Wd13 w4, Calls Tryz.prog 34 #[.pointer (some ⟨gd, 0, none⟩)] y.W fun e w' => e = .returned (.int .i64 (nw : Int)) /\ Fr [] y.W w' := fun y => Calls.mono (zuw (HTs.out _ (HF4.out.2.then y.h)).pr.d HDd.out.2) (fun e w' h => ⟨h.1, by rw [<- h.2]; exact Fr.refl _ _⟩)
  have hC7 : ∀ y : Wd13 w4, Calls Tryz.prog 35 #[.pointer (some ⟨gr, 0, none⟩)] y.W fun e w' => e = .returned (.int .i64 (nw : Int)) /\ Fr [] y.W w' := fun y => Calls.mono (zuz (HTs.out _ (HF4.out.2.then y.h)).pr.r HDd.out.2) (fun e w' h => ⟨h.1, by rw [<- h.2]; exact Fr.refl _ _⟩)
  have HB4 : Hid (∀ W, Fr [] w4 W -> W.cell? ⟨A2, 0, none⟩ = some (.int .i64 m') /\ W.cell? ⟨A2, 1, none⟩ = some (.slice bo' Lb' cb') /\ W.cell? ⟨A2, 2, none⟩ = some (.slice ho' Lh' ch')) := fun W hf => zai (hf.keep hb4 (by simp))
  have hb0 : ∀ y : Wd13 w4, y.W.cell? ⟨A, 0, none⟩ = some (.int .i64 m') := fun y => (HA.out _ (HF4.out.1.then y.h)).1
  have hb1 : ∀ y : Wd13 w4, y.W.cell? ⟨A, 1, none⟩ = some (.slice bo Lb' cb) := fun y => (HA.out _ (HF4.out.1.then y.h)).2.1
  have hb2 : ∀ y : Wd13 w4, y.W.cell? ⟨A, 2, none⟩ = some (.slice ho Lh' ch) := fun y => (HA.out _ (HF4.out.1.then y.h)).2.2
  have hb3 : ∀ y : Wd13 w4, y.W.cell? ⟨A2, 0, none⟩ = some (.int .i64 m') := fun y => (HB4.out _ y.h).1
  have hb5 : ∀ y : Wd13 w4, y.W.cell? ⟨A2, 1, none⟩ = some (.slice bo' Lb' cb') := fun y => (HB4.out _ y.h).2.1
  have hb6 : ∀ y : Wd13 w4, y.W.cell? ⟨A2, 2, none⟩ = some (.slice ho' Lh' ch') := fun y => (HB4.out _ y.h).2.2
  have hq0 : ∀ y : Wd13 w4, y.W.cell? ⟨pb, 0, none⟩ = some (.pointer (some ⟨gd, 0, none⟩)) := fun y => (HPb.out _ (HF4.out.2.then y.h)).1
  have hq1 : ∀ y : Wd13 w4, y.W.cell? ⟨pb, 1, none⟩ = some vs := fun y => (HPb.out _ (HF4.out.2.then y.h)).2.1
  have hq2 : ∀ y : Wd13 w4, y.W.cell? ⟨pb, 2, none⟩ = some (.pointer (some ⟨gr, 0, none⟩)) := fun y => (HPb.out _ (HF4.out.2.then y.h)).2.2.1
  have hq3 : ∀ y : Wd13 w4, y.W.cell? ⟨pb, 3, none⟩ = some vt := fun y => (HPb.out _ (HF4.out.2.then y.h)).2.2.2
  clear hN' hSv' hF3 hF4 hb4 HZe p0 p1 p2 p3 hkv
  go_upto_region 3 with fail
  rw [HW4.out, <- hA2]
  clear HW4 hA2
  refine zdn (w1 := w4) (by kernel_rfl) (by kernel_rfl) (Fr.refl _ _) ?_
  repeat (go_big_quiet_step (first
    | (go_at_call 30; with_reducible refine (hC1 _).mono ?_; exact fun e w3 hh => ⟨hh.1, ⟨_, Fr.then (Wd13.h _) hh.2⟩, rfl⟩)
    | (go_at_call 12; with_reducible refine (hC2 _).mono ?_; exact fun e w3 hh => ⟨hh.1, ⟨_, Fr.then (Wd13.h _) hh.2⟩, rfl⟩)
    | (go_at_call 31; with_reducible refine (hC3 _).mono ?_; exact fun e w3 hh => ⟨hh.1, ⟨_, Fr.then (Wd13.h _) hh.2⟩, rfl⟩)
    | (go_at_call 32; with_reducible refine (hC4 _).mono ?_; exact fun e w3 hh => ⟨hh.1, ⟨_, Fr.then (Wd13.h _) hh.2⟩, rfl⟩)
    | (go_at_call 33; with_reducible refine (hC5 _).mono ?_; exact fun e w3 hh => ⟨hh.1, ⟨_, Fr.then (Wd13.h _) hh.2⟩, rfl⟩)
    | (go_at_call 34; with_reducible refine (hC6 _).mono ?_; exact fun e w3 hh => ⟨hh.1, ⟨_, Fr.then (Wd13.h _) hh.2⟩, rfl⟩)
    | (go_at_call 35; with_reducible refine (hC7 _).mono ?_; exact fun e w3 hh => ⟨hh.1, ⟨_, Fr.then (Wd13.h _) hh.2⟩, rfl⟩)))
  refine wpQuiet_nil ?_
  rintro _ ⟨y, rfl⟩
  clear hb0 hb1 hb2 hb3 hb5 hb6 hq0 hq1 hq2 hq3 hC1 hC2 hC3 hC4 hC5 hC6 hC7
  obtain ⟨w5, hF5⟩ := y
  simp only
  have HF5 : Hid (Fr [] w w5) := HF4.out.2.then hF5
  obtain ⟨a0, a1, a2⟩ := HA.out _ (HF4.out.1.then hF5)
  have HTe : Hid (Calls _ _ _ _ _) := HTell.out w5 m' bo Lb' cb ho Lh' ch bs' hs HF5.out (HSv.out _ (HF4.out.1.then hF5))
  clear hF5
  go_wp2_with fail
  refine Calls.mono HTe.out ?_
  rintro e w6 ⟨rfl, B', hK, hF6, hgr⟩
  have HK : Hid (K w6 B' /\ Fr B w w6 /\ ∀ q ∈ B', q ∈ B \/ w.heap.size <= q) := ⟨hK, (HF5.out.mono (by simp)).then hF6, hgr⟩
  have HTs6 : Hid (∀ W, Fr [] w6 W -> Ts w0 W pb gd gr SD SR t vs vt SS) := fun W hf => ((HTs.out _ HF5.out).keepS hF6 (fun q hq => (HKp.out.2 q hq).1) (fun q hq => (HKp.out.2 q hq).2)).quiet hf
  have HPb6 : Hid (∀ W, Fr [] w6 W -> W.cell? ⟨pb, 0, none⟩ = some (.pointer (some ⟨gd, 0, none⟩)) /\ W.cell? ⟨pb, 2, none⟩ = some (.pointer (some ⟨gr, 0, none⟩))) := fun W hf => by
    have hb := (HTs6.out W hf).box
    refine ⟨?_, ?_⟩ <;> rw [cell_of_row _ _ _ _ _ _ hb] <;> rfl
  clear HTe hK hF6 hgr a0 a1 a2 HTell HL1 HL2 HPb HTs HSv HSv' HA HB4 HN HKv
  go_wp2_with fail
  go_loopw [15] (fun ii wr => ∃ j : Nat, ii = .int .i64 (j : Int) /\ j <= 2 /\ Hid (Fr [] w6 wr)) (fun ii _ => 2 - (RowKit.intOf ii).toNat)
  case atStart => exact ⟨0, rfl, by omega, Fr.refl _ _⟩
  case round =>
    obtain ⟨j, rfl, hj2, HFr⟩ := hrel
    by_cases hj : j < 2
    · have hlt : (j : Int) < 2 := by omega
      obtain ⟨xs, hto⟩ : ∃ xs, Told t (j : Int) 0 xs := by
        by_cases h0 : j = 0
        · exact ⟨t.s0, .slot0 (by omega)⟩
        · exact ⟨t.s1, .slot1 (by omega)⟩
      have HTo : Hid (Told t (j : Int) 0 xs) := hto
      have HRd : Hid (Calls Tryz.prog 36 #[.pointer (some ⟨gd, 0, none⟩), .int .i64 (j : Int)] wr fun e w' => ∃ ao n cap, e = .returned (.tuple #[.slice ao n cap, .int .i64 0]) /\ Fre wr w' ao n cap xs /\ LD w0 w' gd SD t) := zqh (HTs6.out _ HFr.out).pr.d hto
      obtain ⟨p0, p2⟩ := HPb6.out _ HFr.out
      clear hto
      go_wp2_with fail
      refine Calls.mono HRd.out ?_
      rintro e x1 ⟨ao, n1, c1, rfl, hfre, hLD⟩
      have HF7 : Hid (Fr [] w6 x1) := HFr.out.then hfre.fr
      have HLen : Hid (n1 = xs.length /\ xs.length <= 16777216) := ⟨hfre.len, HTo.out.few (HTs6.out _ HFr.out).pr.d.ok⟩
      have HRa : Hid (Rs x1 ao xs) := zkx hfre.own (by have := HLen.out; omega)
      have HRr : Hid (Calls Tryz.prog 37 #[.pointer (some ⟨gr, 0, none⟩), .int .i64 (j : Int)] x1 fun e w' => ∃ ao n cap, e = .returned (.tuple #[.slice ao n cap, .int .i64 0]) /\ Rs x1 ao xs /\ n = xs.length /\ x1 = w') := zyt (HTs6.out _ HF7.out).pr.r HTo.out
      clear p0 p2 hfre hLD HRd
      obtain ⟨p0, p2⟩ := HPb6.out _ HF7.out
      go_wp2_with fail
      refine Calls.mono HRr.out ?_
      rintro e x2 ⟨ao2, n2, c2, rfl, hR2, hn2, rfl⟩
      have hnn : n2 = n1 := by rw [hn2, HLen.out.1]
      subst hnn
      have HSa : Hid (Calls _ _ _ _ _) := zvm ao ao2 n2 n2 c1 c2 xs xs x1 HRa.out hR2 HLen.out.1 HLen.out.1 rfl
      clear hR2 hn2 HRr p0 p2
      go_wp2_with fail
      refine Calls.mono HSa.out ?_
      rintro e x3 ⟨rfl, nq, rfl⟩
      have HF8 : Hid (Fr [] w6 (x1.drewN nq)) := HF7.out.then (Fr.drewN _ _ _)
      clear HSa
      go_wp2_with fail
      go_roundw
      case rel => exact ⟨j + 1, by simp, by omega, HF8⟩
      case measure => simp [RowKit.intOf]; omega
    · have hlt : ¬ (j : Int) < 2 := by omega
      have HR : Hid (∃ B', K wr B' /\ Fr B w wr /\ ∀ q ∈ B', q ∈ B \/ w.heap.size <= q) := ⟨B', HKp.out.1 _ _ _ HK.out.1 HFr.out, HK.out.2.1.then (HFr.out.mono (by simp)), HK.out.2.2⟩
      go_wp2
      go_ret
      exact ⟨rfl, HR.out⟩
end Go.Proofs.YtembflnhhfliaaaGreatDoor
namespace Go.Proofs.YtembflnhhfliaaaGreatDoor.Bq.Wk
open BigFrame Go.ChangeShapes Go.WideShapes Go.ChangeAt Go.RowKit Go.Lib
structure S0 (K : Kd) (w : World) (bk : Nat) (rv : Value) (hs : List HB) : Prop where
  bl : Bl K w bk rv hs
section
variable {K J : Kd} {S : List Nat} {w w' : World} {bk : Nat} {rv rv' : Value} {hs : List HB} {cs' : Array Value}
theorem S0.beside (h : S0 J w bk rv hs) (hb : w'.heap[bk]? = some (.cells cs' 52 (0, 0))) (hc : cs'[J.col]? = some rv) (hf : Fr (bk :: S) w w') (ho : Off J S w) : S0 J w' bk rv hs := by
  obtain ⟨cs, h1, _⟩ := h.bl.box
  have hE : ∀ k cs, w.heap[k]? = some (.cells cs J.tE (0, 0)) -> k ∉ bk :: S := by
    intro k cs hk hm
    rcases List.mem_cons.1 hm with rfl | hm
    · rw [h1] at hk
      simp only [Option.some.injEq, Obj.cells.injEq] at hk
      exact J.eB hk.2.1.symm
    · exact ho.notE hk hm
  have hH : ∀ k cs, w.heap[k]? = some (.cells cs J.tH (0, 0)) -> k ∉ bk :: S := by
    intro k cs hk hm
    rcases List.mem_cons.1 hm with rfl | hm
    · rw [h1] at hk
      simp only [Option.some.injEq, Obj.cells.injEq] at hk
      exact J.hB hk.2.1.symm
    · exact ho.notH hk hm
  refine ⟨⟨⟨cs', hb, hc⟩, zab h.bl.row hf (fun k hk => by obtain ⟨c, hc⟩ := zaf h.bl.row k hk; exact hH k c hc), h.bl.few, h.bl.num⟩⟩
theorem S0.told (h : S0 K w bk rv hs) (l : Value) (n : Nat) (hb : w'.heap[bk]? = some (.cells cs' 52 (0, 0))) (hc : cs'[K.col]? = some rv') (hrow : w'.ownsRow 0 K.tH 3 rv' (hs.length + 1) (zam (hs ++ [⟨l, .slice none 0 0, n⟩]))) (hf : Fr (bk :: rv.ownBlock.toList) w w')
    (hp : P0 K w ⟨l, .slice none 0 0, n⟩) (hn : n < 134217728) (hfew : hs.length + 1 < 67108864) : S0 K w' bk rv' (hs ++ [⟨l, .slice none 0 0, n⟩]) := by
  obtain ⟨cs, h1, _⟩ := h.bl.box
  have hE : ∀ k cs, w.heap[k]? = some (.cells cs K.tE (0, 0)) -> k ∉ bk :: rv.ownBlock.toList := by
    intro k cs hk hm
    obtain ⟨q1, q2⟩ := h.bl.apart hk
    rcases List.mem_cons.1 hm with e | hm
    · exact q1 e
    · exact q2 (by simpa using hm)
  have hget : ∀ (j : Nat) (b : HB), (hs ++ [⟨l, .slice none 0 0, n⟩])[j]? = some b -> hs[j]? = some b \/ (j = hs.length /\ b = ⟨l, .slice none 0 0, n⟩) := by
    intro j b hb
    by_cases hj : j < hs.length
    · rw [List.getElem?_append_left hj] at hb
      exact Or.inl hb
    · rw [List.getElem?_append_right (by omega)] at hb
      by_cases hj2 : j = hs.length
      · subst hj2
        simp at hb
        exact Or.inr ⟨rfl, hb.symm⟩
      · rw [List.getElem?_eq_none (by simp; omega)] at hb
        cases hb
  refine ⟨⟨⟨cs', hb, hc⟩, by simpa using hrow, by simpa using hfew, ?_⟩⟩
  intro j b hb
  rcases hget j b hb with hb | ⟨_, rfl⟩
  · exact h.bl.num j b hb
  · exact hn
end
structure B4 (w0 w : World) (bk T : Nat) (rB rI rW rT : Value) (hB hI hW hT : List HB) : Prop where
  box : ∃ cs, Bx w bk cs /\ cs[0]? = some (.int .i64 (T : Int))
  sB : S0 kByte w bk rB hB
  sI : S0 kInt w bk rI hI
  sW : S0 kHeld w bk rW hW
  sT : S0 kVersion w bk rT hT
  bn : w0.heap.size <= bk
  rBn : ∀ k, rB.ownBlock = some k -> w0.heap.size <= k
  rIn : ∀ k, rI.ownBlock = some k -> w0.heap.size <= k
  rWn : ∀ k, rW.ownBlock = some k -> w0.heap.size <= k
  rTn : ∀ k, rT.ownBlock = some k -> w0.heap.size <= k
  lB : hB.length <= T
  lI : hI.length <= T
  lW : hW.length <= T
  lT : hT.length <= T
theorem zfl {w0 w : World} {bk T : Nat} {rB rI rW rT : Value} {hB hI hW hT : List HB} (h : B4 w0 w bk T rB rI rW rT hB hI hW hT) (ao : Option Addr) (L cap : Nat) (hp : P0 kInt w ⟨.slice ao L cap, .slice none 0 0, T + 1⟩) (hT2 : T < 67108862) :
    Calls Tryz.prog 139 #[.pointer (some ⟨bk, 0, none⟩), .slice ao L cap] w fun e w' => e = .returned (.tuple #[]) /\ ∃ rv', B4 w0 w' bk (T + 1) rB rv' rW rT hB (hI ++ [⟨.slice ao L cap, .slice none 0 0, T + 1⟩]) hW hT /\ Fr (bk :: rI.ownBlock.toList) w w' /\ Moved w.heap.size rI rv' := by
  obtain ⟨cs, hX, hc0⟩ := h.box
  have hbl := h.sI.bl
  obtain ⟨cs1, b1, hc1⟩ := hbl.box
  have e1 := hX.box
  rw [b1] at e1
  simp only [Option.some.injEq, Obj.cells.injEq, and_true] at e1
  subst e1
  have hlen := h.lI
  refine (zim bk cs1 rI hI T ao L cap w b1 hX.size hc0 hc1 hbl.row (by omega) (by omega)).mono ?_
  rintro e w' ⟨rfl, rv', hb', hrow', hF', hM'⟩
  obtain ⟨hX', k0, k1, koth⟩ := hX.told _ 2 rv' (by omega) hb'
  have hbn := h.bn
  refine ⟨rfl, rv', ⟨⟨_, hX', by rw [k0]; simp⟩, ?_, ?_, ?_, ?_, h.bn, ?_, ?_, ?_, ?_, ?_, ?_, ?_, ?_⟩, hF', hM'⟩
  · obtain ⟨cs2, b2, hc2⟩ := h.sB.bl.box
    rw [b1] at b2
    simp only [Option.some.injEq, Obj.cells.injEq, and_true] at b2
    subst b2
    exact h.sB.beside hb' (by rw [koth _ (by decide) (by decide)]; exact hc2) hF' (zau zct hbl)
  · exact h.sI.told (.slice ao L cap) (T + 1) hb' k1 hrow' hF' hp (by omega) (by omega)
  · obtain ⟨cs2, b2, hc2⟩ := h.sW.bl.box
    rw [b1] at b2
    simp only [Option.some.injEq, Obj.cells.injEq, and_true] at b2
    subst b2
    exact h.sW.beside hb' (by rw [koth _ (by decide) (by decide)]; exact hc2) hF' (zau zdw hbl)
  · obtain ⟨cs2, b2, hc2⟩ := h.sT.bl.box
    rw [b1] at b2
    simp only [Option.some.injEq, Obj.cells.injEq, and_true] at b2
    subst b2
    exact h.sT.beside hb' (by rw [koth _ (by decide) (by decide)]; exact hc2) hF' (zau zdx hbl)
  · exact h.rBn
  · exact hM'.lt (by have := hX.box; have := lt_of_block this; omega) h.rIn
  · exact h.rWn
  · exact h.rTn
  · have := h.lB; omega
  · rw [zci]; omega
  · have := h.lW; omega
  · have := h.lT; omega
theorem zeq {w0 w : World} {bk T : Nat} {rB rI rW rT : Value} {hB hI hW hT : List HB} (h : B4 w0 w bk T rB rI rW rT hB hI hW hT) (ao : Option Addr) (L cap : Nat) (hp : P0 kHeld w ⟨.slice ao L cap, .slice none 0 0, T + 1⟩) (hT2 : T < 67108862) :
    Calls Tryz.prog 141 #[.pointer (some ⟨bk, 0, none⟩), .slice ao L cap] w fun e w' => e = .returned (.tuple #[]) /\ ∃ rv', B4 w0 w' bk (T + 1) rB rI rv' rT hB hI (hW ++ [⟨.slice ao L cap, .slice none 0 0, T + 1⟩]) hT /\ Fr (bk :: rW.ownBlock.toList) w w' /\ Moved w.heap.size rW rv' := by
  obtain ⟨cs, hX, hc0⟩ := h.box
  have hbl := h.sW.bl
  obtain ⟨cs1, b1, hc1⟩ := hbl.box
  have e1 := hX.box
  rw [b1] at e1
  simp only [Option.some.injEq, Obj.cells.injEq, and_true] at e1
  subst e1
  have hlen := h.lW
  refine (zhj bk cs1 rW hW T ao L cap w b1 hX.size hc0 hc1 hbl.row (by omega) (by omega)).mono ?_
  rintro e w' ⟨rfl, rv', hb', hrow', hF', hM'⟩
  obtain ⟨hX', k0, k1, koth⟩ := hX.told _ 8 rv' (by omega) hb'
  have hbn := h.bn
  refine ⟨rfl, rv', ⟨⟨_, hX', by rw [k0]; simp⟩, ?_, ?_, ?_, ?_, h.bn, ?_, ?_, ?_, ?_, ?_, ?_, ?_, ?_⟩, hF', hM'⟩
  · obtain ⟨cs2, b2, hc2⟩ := h.sB.bl.box
    rw [b1] at b2
    simp only [Option.some.injEq, Obj.cells.injEq, and_true] at b2
    subst b2
    exact h.sB.beside hb' (by rw [koth _ (by decide) (by decide)]; exact hc2) hF' (zau zcu hbl)
  · obtain ⟨cs2, b2, hc2⟩ := h.sI.bl.box
    rw [b1] at b2
    simp only [Option.some.injEq, Obj.cells.injEq, and_true] at b2
    subst b2
    exact h.sI.beside hb' (by rw [koth _ (by decide) (by decide)]; exact hc2) hF' (zau zfu hbl)
  · exact h.sW.told (.slice ao L cap) (T + 1) hb' k1 hrow' hF' hp (by omega) (by omega)
  · obtain ⟨cs2, b2, hc2⟩ := h.sT.bl.box
    rw [b1] at b2
    simp only [Option.some.injEq, Obj.cells.injEq, and_true] at b2
    subst b2
    exact h.sT.beside hb' (by rw [koth _ (by decide) (by decide)]; exact hc2) hF' (zau zfx hbl)
  · exact h.rBn
  · exact h.rIn
  · exact hM'.lt (by have := hX.box; have := lt_of_block this; omega) h.rWn
  · exact h.rTn
  · have := h.lB; omega
  · have := h.lI; omega
  · rw [zci]; omega
  · have := h.lT; omega
theorem zdj {w0 w : World} {bk T : Nat} {rB rI rW rT : Value} {hB hI hW hT : List HB} (h : B4 w0 w bk T rB rI rW rT hB hI hW hT) (ao : Option Addr) (L cap : Nat) (hp : P0 kVersion w ⟨.slice ao L cap, .slice none 0 0, T + 1⟩) (hT2 : T < 67108862) :
    Calls Tryz.prog 163 #[.pointer (some ⟨bk, 0, none⟩), .slice ao L cap] w fun e w' => e = .returned (.tuple #[]) /\ ∃ rv', B4 w0 w' bk (T + 1) rB rI rW rv' hB hI hW (hT ++ [⟨.slice ao L cap, .slice none 0 0, T + 1⟩]) /\ Fr (bk :: rT.ownBlock.toList) w w' /\ Moved w.heap.size rT rv' := by
  obtain ⟨cs, hX, hc0⟩ := h.box
  have hbl := h.sT.bl
  obtain ⟨cs1, b1, hc1⟩ := hbl.box
  have e1 := hX.box
  rw [b1] at e1
  simp only [Option.some.injEq, Obj.cells.injEq, and_true] at e1
  subst e1
  have hlen := h.lT
  refine (zev bk cs1 rT hT T ao L cap w b1 hX.size hc0 hc1 hbl.row (by omega) (by omega)).mono ?_
  rintro e w' ⟨rfl, rv', hb', hrow', hF', hM'⟩
  obtain ⟨hX', k0, k1, koth⟩ := hX.told _ 6 rv' (by omega) hb'
  have hbn := h.bn
  refine ⟨rfl, rv', ⟨⟨_, hX', by rw [k0]; simp⟩, ?_, ?_, ?_, ?_, h.bn, ?_, ?_, ?_, ?_, ?_, ?_, ?_, ?_⟩, hF', hM'⟩
  · obtain ⟨cs2, b2, hc2⟩ := h.sB.bl.box
    rw [b1] at b2
    simp only [Option.some.injEq, Obj.cells.injEq, and_true] at b2
    subst b2
    exact h.sB.beside hb' (by rw [koth _ (by decide) (by decide)]; exact hc2) hF' (zau zcv hbl)
  · obtain ⟨cs2, b2, hc2⟩ := h.sI.bl.box
    rw [b1] at b2
    simp only [Option.some.injEq, Obj.cells.injEq, and_true] at b2
    subst b2
    exact h.sI.beside hb' (by rw [koth _ (by decide) (by decide)]; exact hc2) hF' (zau zfv hbl)
  · obtain ⟨cs2, b2, hc2⟩ := h.sW.bl.box
    rw [b1] at b2
    simp only [Option.some.injEq, Obj.cells.injEq, and_true] at b2
    subst b2
    exact h.sW.beside hb' (by rw [koth _ (by decide) (by decide)]; exact hc2) hF' (zau zfw hbl)
  · exact h.sT.told (.slice ao L cap) (T + 1) hb' k1 hrow' hF' hp (by omega) (by omega)
  · exact h.rBn
  · exact h.rIn
  · exact h.rWn
  · exact hM'.lt (by have := hX.box; have := lt_of_block this; omega) h.rTn
  · have := h.lB; omega
  · have := h.lI; omega
  · have := h.lW; omega
  · rw [zci]; omega
theorem S0.keepN {K : Kd} {S : List Nat} {w w' : World} {bk : Nat} {rv : Value} {hs : List HB} (h : S0 K w bk rv hs) (hf : Fr S w w') (hb : bk ∉ S) (hr : ∀ k, rv.ownBlock = some k -> k ∉ S) : S0 K w' bk rv hs := by
  obtain ⟨cs, h1, h2⟩ := h.bl.box
  exact ⟨⟨⟨cs, hf.keep h1 hb, h2⟩, zab h.bl.row hf hr, h.bl.few, h.bl.num⟩⟩
section
variable {S : List Nat} {w0 w w' : World} {bk T : Nat} {rB rI rW rT : Value} {hB hI hW hT : List HB}
theorem B4.keepN (h : B4 w0 w bk T rB rI rW rT hB hI hW hT) (hf : Fr S w w') (hS : ∀ j ∈ kbs bk rB rI rW rT [] [] [] [], j ∉ S) : B4 w0 w' bk T rB rI rW rT hB hI hW hT := by
  obtain ⟨cs, hX, hc⟩ := h.box
  have hb : bk ∉ S := hS bk (mem_kbs.2 (Or.inl rfl))
  exact ⟨⟨cs, hX.keep hf hb, hc⟩, h.sB.keepN hf hb (fun k hk => hS k (mem_kbs.2 (Or.inr (Or.inl (Or.inl hk))))),
    h.sI.keepN hf hb (fun k hk => hS k (mem_kbs.2 (Or.inr (Or.inr (Or.inl (Or.inl hk)))))),
    h.sW.keepN hf hb (fun k hk => hS k (mem_kbs.2 (Or.inr (Or.inr (Or.inr (Or.inl (Or.inl hk))))))),
    h.sT.keepN hf hb (fun k hk => hS k (mem_kbs.2 (Or.inr (Or.inr (Or.inr (Or.inr (Or.inl hk))))))), h.bn, h.rBn, h.rIn, h.rWn, h.rTn, h.lB, h.lI, h.lW, h.lT⟩
theorem B4.keep (h : B4 w0 w bk T rB rI rW rT hB hI hW hT) (hf : Fr [] w w') : B4 w0 w' bk T rB rI rW rT hB hI hW hT := h.keepN hf (by simp)
theorem B4.lt (h : B4 w0 w bk T rB rI rW rT hB hI hW hT) : ∀ k ∈ kbs bk rB rI rW rT [] [] [] [], k < w.heap.size := by
  intro k hk
  obtain ⟨cs, hX, hc⟩ := h.box
  rcases mem_kbs.1 hk with rfl | (e | e) | (e | e) | (e | e) | (e | e)
  · exact lt_of_block hX.box
  · exact (h.sB.bl.row.lt k e).2
  · simp [lbs] at e
  · exact (h.sI.bl.row.lt k e).2
  · simp [lbs] at e
  · exact (h.sW.bl.row.lt k e).2
  · simp [lbs] at e
  · exact (h.sT.bl.row.lt k e).2
  · simp [lbs] at e
theorem ziz (h : B4 w0 w bk T rB rI rW rT hB hI hW hT) (ao : Option Addr) (L cap : Nat) (hp : P0 kInt w ⟨.slice ao L cap, .slice none 0 0, T + 1⟩) (hT2 : T < 67108862) :
    Calls Tryz.prog 86 #[.pointer (some ⟨bk, 0, none⟩), .slice ao L cap] w fun e w' => e = .returned (.tuple #[]) /\ ∃ rv', B4 w0 w' bk (T + 1) rB rv' rW rT hB (hI ++ [⟨.slice ao L cap, .slice none 0 0, T + 1⟩]) hW hT /\ Fr (bk :: rI.ownBlock.toList) w w' /\ Moved w.heap.size rI rv' := by
  have HC : Hid _ := zfl h ao L cap hp hT2
  clear h hp
  go_enter Tryz.func86, Tryz.ntmps86
  go_wp2_with fail
  refine Calls.mono HC.out ?_
  rintro e w' ⟨rfl, R⟩
  have HR : Hid _ := R
  clear R HC
  go_wp2_with fail
  go_end0
  exact ⟨rfl, HR.out⟩
theorem zer (h : B4 w0 w bk T rB rI rW rT hB hI hW hT) (ao : Option Addr) (L cap : Nat) (hp : P0 kVersion w ⟨.slice ao L cap, .slice none 0 0, T + 1⟩) (hT2 : T < 67108862) :
    Calls Tryz.prog 140 #[.pointer (some ⟨bk, 0, none⟩), .slice ao L cap] w fun e w' => e = .returned (.tuple #[]) /\ ∃ rv', B4 w0 w' bk (T + 1) rB rI rW rv' hB hI hW (hT ++ [⟨.slice ao L cap, .slice none 0 0, T + 1⟩]) /\ Fr (bk :: rT.ownBlock.toList) w w' /\ Moved w.heap.size rT rv' := by
  have HC : Hid _ := zdj h ao L cap hp hT2
  clear h hp
  go_enter Tryz.func140, Tryz.ntmps140
  go_wp2_with fail
  refine Calls.mono HC.out ?_
  rintro e w' ⟨rfl, R⟩
  have HR : Hid _ := R
  clear R HC
  go_wp2_with fail
  go_end0
  exact ⟨rfl, HR.out⟩
end
theorem zht {w0 w : World} {bk T : Nat} {rB rI rW rT : Value} {hB hI hW hT : List HB} (h : B4 w0 w bk T rB rI rW rT hB hI hW hT) (ao : Option Addr) (L cap : Nat) (ds : List Dt) (hd : Dts w ao L cap ds) (hTL : T + L < 67108000) :
    Calls Tryz.prog 87 #[.pointer (some ⟨bk, 0, none⟩), .slice ao L cap] w fun e w' => e = .returned (.tuple #[]) /\ ∃ rT' rW', B4 w0 w' bk (T + L + 1) rB rI rW' rT' hB hI (hW ++ [⟨.slice ao L cap, .slice none 0 0, T + L + 1⟩]) (hT ++ held T ds) /\ Fr (bk :: (rT.ownBlock.toList ++ rW.ownBlock.toList)) w w' /\ Moved w.heap.size rT rT' /\ Moved w.heap.size rW rW' := by
  have HD : Hid (Dts w ao L cap ds) := hd
  have hL := hd.few
  have HL : Hid (L = ds.length) := hd.len
  have HB0 : Hid (B4 w0 w bk T rB rI rW rT hB hI hW hT) := h
  have hrow := hd.row
  clear h hd
  go_enter Tryz.func87, Tryz.ntmps87
  go_wp2_with fail
  go_loopw [4] (fun ii wr => ∃ (i : Nat) (v : Value), ii = .int .i64 i /\ i <= L /\ Hid (B4 w0 wr bk (T + i) rB rI rW v hB hI hW (hT ++ held T (ds.take i))) /\ Hid (Fr (bk :: rT.ownBlock.toList) w wr /\ Moved w.heap.size rT v) /\ Hid (Dts wr ao L cap ds)) (fun ii _ => L - (RowKit.intOf ii).toNat)
  case atStart => exact ⟨0, rT, rfl, Nat.zero_le _, by simpa [held] using HB0, ⟨Fr.refl _ _, Moved.refl _ _⟩, HD⟩
  case round =>
    obtain ⟨i, v, rfl, hiL, HB, HF, HDr⟩ := hrel
    by_cases hi : i < L
    · obtain ⟨d, hdi⟩ : ∃ d, ds[i]? = some d := ⟨_, List.getElem?_eq_getElem (by rw [<- HL.out]; exact hi)⟩
      have HDI : Hid (ds[i]? = some d) := hdi
      obtain ⟨n, vs, q1, q2⟩ := HDr.out.each i d hdi
      obtain ⟨so, sc, sf, hsv, hnc, hcf, q3⟩ := id q1
      obtain ⟨g, gc, hg, hgc⟩ := zba HDr.out.row (by omega)
      cases hg
      obtain ⟨e1, e2⟩ := zqb ds i d hdi
      have c1 : wr.cell? ⟨g, i * 2 + 1, none⟩ = some d.2 := by rw [HDr.out.row.cellAt (i * 2 + 1) (by omega), e2]
      obtain ⟨dn, dv⟩ := d
      simp only at c1 hsv q1
      subst hsv
      have HC : Hid _ := zer HB.out so n sc ⟨n, vs, q1, q2⟩ (by omega)
      have HTK := zkd ds i _ hdi
      have HHS : Hid (hT ++ held T (ds.take (i + 1)) = (hT ++ held T (ds.take i)) ++ [⟨.slice so n sc, .slice none 0 0, T + i + 1⟩]) := by
        show _ = _
        rw [HTK, zlu, List.length_take, show min i ds.length = i by have := HL.out; omega, List.append_assoc]
      have HNB : Hid (∀ k cs t, wr.heap[k]? = some (.cells cs t (0, 0)) -> t ≠ 52 -> t ≠ 134 -> k ∉ bk :: v.ownBlock.toList) := by
        intro k cs t hk h1 h2 hm
        rcases List.mem_cons.1 hm with rfl | hm
        · obtain ⟨cs', hX, _⟩ := HB.out.box
          rw [hX.box] at hk
          simp only [Option.some.injEq, Obj.cells.injEq] at hk
          exact h1 hk.2.1.symm
        · obtain ⟨cs', hc⟩ := zaf HB.out.sT.bl.row k (by simpa using hm)
          rw [hc] at hk
          simp only [Option.some.injEq, Obj.cells.injEq] at hk
          exact h2 hk.2.1.symm
      clear hdi e1 e2 HTK q1 q3 hnc hcf
      go_wp2_with fail
      refine Calls.mono HC.out ?_
      rintro e w2 ⟨rfl, v2, R1, R2, R3⟩
      have HB2 : Hid (B4 w0 w2 bk (T + (i + 1)) rB rI rW v2 hB hI hW (hT ++ held T (ds.take (i + 1)))) := by rw [HHS.out]; exact R1
      have HF2 : Hid (Fr (bk :: rT.ownBlock.toList) w w2 /\ Moved w.heap.size rT v2) := by
        obtain ⟨f1, f2⟩ := HF.out
        refine ⟨f1.trans R2 (fun x hx _ => hx) ?_, f2.trans R3 f1.size⟩
        intro x hx hl
        rcases List.mem_cons.1 hx with rfl | hx
        · simp
        · rcases f2 with f2 | ⟨y, y1, y2⟩
          · rw [f2] at hx; exact List.mem_cons_of_mem _ hx
          · rw [y1] at hx; simp at hx; omega
      have HD2 : Hid (Dts w2 (some ⟨g, 0, none⟩) L cap ds) := HDr.out.keep R2 (fun k hk => by obtain ⟨cs, hc⟩ := zaf HDr.out.row k hk; exact HNB.out k cs _ hc (by decide) (by decide)) (fun j b hb k hk => by obtain ⟨m, us, u1, _⟩ := HDr.out.each j b hb; obtain ⟨cs, hc⟩ := u1.type k hk; exact HNB.out k cs _ hc (by decide) (by decide))
      clear R1 R2 R3 HC HB HF HDr HNB HHS
      go_wp2_with fail
      go_roundw
      case rel => exact ⟨i + 1, v2, by simp, by omega, HB2, HF2, HD2⟩
      case measure => simp [RowKit.intOf]; omega
    · have hiL' : i = L := by omega
      subst hiL'
      have HB1 : Hid (B4 w0 wr bk (T + i) rB rI rW v hB hI hW (hT ++ held T ds)) := by
        have := HB.out
        rw [List.take_of_length_le (by have := HL.out; omega)] at this
        exact this
      have HC : Hid _ := zeq HB1.out ao i cap ⟨i, dtC ds, Cut.of HDr.out.row, by omega⟩ (by omega)
      clear HB HDr hrow
      go_wp2_with fail
      refine Calls.mono HC.out ?_
      rintro e w2 ⟨rfl, v2, R1, R2, R3⟩
      have HE : Hid (_ /\ _ /\ _ /\ _) := ⟨R1, (by
        obtain ⟨f1, f2⟩ := HF.out
        refine f1.trans R2 ?_ ?_
        · intro x hx _
          rcases List.mem_cons.1 hx with rfl | hx
          · simp
          · exact List.mem_cons_of_mem _ (List.mem_append_left _ hx)
        · intro x hx _
          rcases List.mem_cons.1 hx with rfl | hx
          · simp
          · exact List.mem_cons_of_mem _ (List.mem_append_right _ hx) : Fr (bk :: (rT.ownBlock.toList ++ rW.ownBlock.toList)) w w2), HF.out.2, (Moved.refl w.heap.size rW).trans R3 HF.out.1.size⟩
      clear R1 R2 R3 HC HF
      go_wp2_with fail
      go_end0
      exact ⟨rfl, v, v2, HE.out⟩
theorem saved_tell {w0 w : World} {bk T : Nat} {rB rI rW rT : Value} {hB hI hW hT : List HB} (h : B4 w0 w bk T rB rI rW rT hB hI hW hT) (m : Int) (io ho : Option Addr) (Lb cb Lh ch : Nat) (ds : List Dt) (hp : P0 kInt w ⟨.slice io Lb cb, .slice none 0 0, T + 1⟩) (hd : Dts w ho Lh ch ds) (hTL : T + 1 + Lh < 67108000) :
    Calls Tryz.prog 18 #[.pointer (some ⟨bk, 0, none⟩), .agg #[.int .i64 m, .slice io Lb cb, .slice ho Lh ch]] w fun e w' => e = .returned (.tuple #[]) /\ ∃ rI' rT' rW', B4 w0 w' bk (T + 1 + Lh + 1) rB rI' rW' rT' hB (hI ++ [⟨.slice io Lb cb, .slice none 0 0, T + 1⟩]) (hW ++ [⟨.slice ho Lh ch, .slice none 0 0, T + 1 + Lh + 1⟩]) (hT ++ held (T + 1) ds) /\ Fr (bk :: (rI.ownBlock.toList ++ (rT.ownBlock.toList ++ rW.ownBlock.toList))) w w' /\ Moved w.heap.size rI rI' /\ Moved w.heap.size rT rT' /\ Moved w.heap.size rW rW' := by
  obtain ⟨wa, HWa⟩ : ∃ wa, Hid (w.alloc (.cells #[.int .i64 m, .slice io Lb cb, .slice ho Lh ch] 57) = wa) := ⟨_, rfl⟩
  have hFa : Fr [] w wa := by rw [<- HWa.out]; exact Fr.alloc [] w _
  have hba : wa.heap[w.heap.size]? = some (.cells #[.int .i64 m, .slice io Lb cb, .slice ho Lh ch] 57 (0, 0)) := by rw [<- HWa.out]; exact heap_alloc_new w _
  have hlt := h.lt
  have ha := h.keep hFa
  have hda := hd.keep hFa (by simp) (by simp)
  obtain ⟨k0, k1, k2⟩ := zai hba
  have HI : Hid (Calls _ _ _ _ _) := ziz ha io Lb cb (hp.keep hFa (by simp)) (by omega)
  have HNx : Hid (∀ rv' w1, B4 w0 w1 bk (T + 1) rB rv' rW rT hB (hI ++ [⟨.slice io Lb cb, .slice none 0 0, T + 1⟩]) hW hT -> Fr (bk :: rI.ownBlock.toList) wa w1 -> Moved wa.heap.size rI rv' ->
      w1.cell? ⟨w.heap.size, 2, none⟩ = some (.slice ho Lh ch) /\ Calls Tryz.prog 87 #[.pointer (some ⟨bk, 0, none⟩), .slice ho Lh ch] w1 fun e w' => e = .returned (.tuple #[]) /\ ∃ rI' rT' rW', B4 w0 w' bk (T + 1 + Lh + 1) rB rI' rW' rT' hB (hI ++ [⟨.slice io Lb cb, .slice none 0 0, T + 1⟩]) (hW ++ [⟨.slice ho Lh ch, .slice none 0 0, T + 1 + Lh + 1⟩]) (hT ++ held (T + 1) ds) /\ Fr (bk :: (rI.ownBlock.toList ++ (rT.ownBlock.toList ++ rW.ownBlock.toList))) w w' /\ Moved w.heap.size rI rI' /\ Moved w.heap.size rT rT' /\ Moved w.heap.size rW rW') := fun rv' w1 h1 hF1 hM1 => by
    obtain ⟨cs, hX, _⟩ := ha.box
    have hnb : ∀ k cs' t, wa.heap[k]? = some (.cells cs' t (0, 0)) -> t ≠ 52 -> k ≠ bk := fun k cs' t hk hne e => by
      subst e
      rw [hX.box] at hk
      cases hk
      exact hne rfl
    have hnE : ∀ k cs', wa.heap[k]? = some (.cells cs' 147 (0, 0)) -> k ∉ bk :: rI.ownBlock.toList := fun k cs' hk hm => by
      rcases List.mem_cons.1 hm with e | e
      · exact hnb k cs' _ hk (by decide) e
      · exact (zau zdw ha.sI.bl).notE hk e
    have hnV : ∀ k cs', wa.heap[k]? = some (.cells cs' 136 (0, 0)) -> k ∉ bk :: rI.ownBlock.toList := fun k cs' hk hm => by
      rcases List.mem_cons.1 hm with e | e
      · exact hnb k cs' _ hk (by decide) e
      · exact (zau zdx ha.sI.bl).notE hk e
    have hd1 := hda.keep hF1 (fun k hk => by obtain ⟨c, hc⟩ := zaf hda.row k hk; exact hnE k c hc) (fun i d hdi k hk => by
      obtain ⟨n, vs, q1, q2⟩ := hda.each i d hdi
      obtain ⟨c, hc⟩ := q1.type k hk
      exact hnV k c hc)
    refine ⟨?_, (zht h1 ho Lh ch ds hd1 (by omega)).mono ?_⟩
    · have hbk : w.heap.size ∉ bk :: rI.ownBlock.toList := fun hm => by
        rcases List.mem_cons.1 hm with e | e
        · have := hlt bk (mem_kbs.2 (Or.inl rfl)); omega
        · have := hlt w.heap.size (mem_kbs.2 (Or.inr (Or.inr (Or.inl (Or.inl (by simpa using e)))))); omega
      exact (zai (hF1.keep hba hbk)).2.2
    · rintro e w2 ⟨rfl, rT', rW', h2, hF2, hM2, hM3⟩
      have hs1 := hFa.size
      have hs2 := hF1.size
      refine ⟨rfl, rv', rT', rW', h2, ((hFa.mono (T := bk :: rI.ownBlock.toList) (by simp)).then hF1).trans hF2 (fun x hx _ => ?_) (fun x hx _ => ?_), zco hM1 hs1, zco hM2 (by omega), zco hM3 (by omega)⟩
      · rcases List.mem_cons.1 hx with rfl | hx
        · exact List.mem_cons_self
        · exact List.mem_cons_of_mem _ (List.mem_append_left _ hx)
      · rcases List.mem_cons.1 hx with rfl | hx
        · exact List.mem_cons_self
        · exact List.mem_cons_of_mem _ (List.mem_append_right _ hx)
  clear h hp hd ha hda hlt hba hFa
  go_enter Tryz.func18, Tryz.ntmps18
  go_upto_region 1 with fail
  rw [HWa.out]
  go_wp2_with fail
  refine Calls.mono HI.out ?_
  rintro e w1 ⟨rfl, rv', h1, hF1, hM1⟩
  obtain ⟨k3, hC⟩ := HNx.out rv' w1 h1 hF1 hM1
  have HC : Hid (Calls _ _ _ _ _) := hC
  clear hC h1 hF1 hM1 HNx HI k0 k1 k2
  go_wp2_with fail
  refine Calls.mono HC.out ?_
  rintro e w2 ⟨rfl, R⟩
  have HR : Hid _ := R
  clear R HC
  go_wp2_with fail
  go_end0
  exact ⟨rfl, HR.out⟩
end Go.Proofs.YtembflnhhfliaaaGreatDoor.Bq.Wk
