/- Contracts and plain lemmas of this claim. -/
import Derived.Test.YtembflnhhfliaaaGreatDoorGp47
set_option linter.unusedSimpArgs false
set_option linter.unusedVariables false
namespace Go.Proofs.YtembflnhhfliaaaGreatDoor
open BigFrame Go.ChangeShapes Go.WideShapes Go.ChangeAt Go.RowKit Go.Lib Go.Maps
theorem zacw {w0 w : World} {pb gd gr : Nat} {SD SR SS : List Nat} {t : Sk} {vs vt : Value} (h : Ts w0 w pb gd gr SD SR t vs vt SS) : ∃ n : Nat, (∀ W, Fr [] w W -> Calls Tryz.prog 12 #[vs] W fun e w' => e = .returned (.int .i64 (n : Int)) /\ Fr [] W w') /\ (∀ W, Fr [] w W -> Calls Tryz.prog 31 #[vt] W fun e w' => e = .returned (.int .i64 (n : Int)) /\ Fr [] W w') := by
  rcases h.sv with ⟨rfl, rfl, rfl⟩ | ⟨sb, fb, ab, tb, ab2, slot, zs, k, rfl, rfl, e3, hs⟩
  · refine ⟨0, fun W _ => (zoj W).mono ?_, fun W _ => (zoq W).mono ?_⟩
    · rintro e w' ⟨rfl, rfl⟩; exact ⟨rfl, Fr.refl _ _⟩
    · rintro e w' ⟨rfl, rfl⟩; exact ⟨rfl, Fr.refl _ _⟩
  · obtain ⟨fo, fc, ac, hsa⟩ := hs.s
    obtain ⟨ac2, hza⟩ := hs.t
    refine ⟨nB zs.length + 1 - k, fun W hf => (zwc (hsa.keep hf (by simp) (by simp) (by simp)) rfl).mono ?_, fun W hf => zdd (hza.keep hf (by simp) (by simp)) rfl⟩
    rintro e w' ⟨rfl, rfl⟩; exact ⟨rfl, Fr.refl _ _⟩
set_option maxHeartbeats 16000000 in
set_option maxRecDepth 100000 in
theorem zwk {w0 w : World} {pb gd gr bk : Nat} {SD SR SS B : List Nat} {t : Sk} {vs vt : Value} {K : World -> List Nat -> Prop} (h : Ts w0 w pb gd gr SD SR t vs vt SS) (hB : ∀ q ∈ B, q ∉ Ow pb SD SR SS /\ w0.heap.size <= q)
    (hkeep : ∀ W W' B', K W B' -> Fr [] W W' -> K W' B')
    (htell : ∀ (W : World) (m : Int) (bo : Option Addr) (Lb cb : Nat) (ho : Option Addr) (Lh ch : Nat) (bs : List Int) (hs : List Hd), Fr [] w W -> SvO w W bo Lb cb ho Lh ch bs hs -> Calls Tryz.prog 18 #[.pointer (some ⟨bk, 0, none⟩), .agg #[.int .i64 m, .slice bo Lb cb, .slice ho Lh ch]] W fun e w' => e = .returned (.tuple #[]) /\ ∃ B', K w' B' /\ Fr B W w' /\ ∀ q ∈ B', q ∈ B \/ w.heap.size <= q) :
    Calls Tryz.prog 9 #[.pointer (some ⟨pb, 0, none⟩), .pointer (some ⟨bk, 0, none⟩)] w fun e w' => e = .returned (.bool true) /\ ∃ B', K w' B' /\ Fr B w w' /\ ∀ q ∈ B', q ∈ B \/ w.heap.size <= q := by
  have HTs : Hid (∀ W, Fr [] w W -> Ts w0 W pb gd gr SD SR t vs vt SS) := fun W hf => h.quiet hf
  have HPb : Hid (∀ W, Fr [] w W -> W.cell? ⟨pb, 0, none⟩ = some (.pointer (some ⟨gd, 0, none⟩)) /\ W.cell? ⟨pb, 1, none⟩ = some vs /\ W.cell? ⟨pb, 2, none⟩ = some (.pointer (some ⟨gr, 0, none⟩)) /\ W.cell? ⟨pb, 3, none⟩ = some vt) := fun W hf => by
    have hb := (HTs.out W hf).box
    refine ⟨?_, ?_, ?_, ?_⟩ <;> rw [cell_of_row _ _ _ _ _ _ hb] <;> rfl
  obtain ⟨nl, hl1, hl2⟩ := zacw h
  have HL1 : Hid (∀ W, Fr [] w W -> Calls Tryz.prog 12 #[vs] W fun e w' => e = .returned (.int .i64 (nl : Int)) /\ Fr [] W w') := hl1
  have HL2 : Hid (∀ W, Fr [] w W -> Calls Tryz.prog 31 #[vt] W fun e w' => e = .returned (.int .i64 (nl : Int)) /\ Fr [] W w') := hl2
  obtain ⟨dd, hdd⟩ : ∃ dd, t.dd = dd := ⟨_, rfl⟩
  obtain ⟨nw, hnw⟩ : ∃ nw, t.n = nw := ⟨_, rfl⟩
  have HDd : Hid (t.dd = dd /\ t.n = nw) := ⟨hdd, hnw⟩
  have HTell : Hid (∀ (W : World) (m : Int) (bo : Option Addr) (Lb cb : Nat) (ho : Option Addr) (Lh ch : Nat) (bs : List Int) (hs : List Hd), Fr [] w W -> SvO w W bo Lb cb ho Lh ch bs hs -> Calls Tryz.prog 18 #[.pointer (some ⟨bk, 0, none⟩), .agg #[.int .i64 m, .slice bo Lb cb, .slice ho Lh ch]] W fun e w' => e = .returned (.tuple #[]) /\ ∃ B', K w' B' /\ Fr B W w' /\ ∀ q ∈ B', q ∈ B \/ w.heap.size <= q) := htell
  have HKp : Hid ((∀ W W' B', K W B' -> Fr [] W W' -> K W' B') /\ (∀ q ∈ B, q ∉ Ow pb SD SR SS /\ w0.heap.size <= q)) := ⟨hkeep, hB⟩
  have HNe : Hid (Calls Tryz.prog 28 #[.pointer (some ⟨gd, 0, none⟩)] w fun e w' => NwP t.s0 t.s1 w e w') := zjh h.pr.d
  obtain ⟨p0, p1, p2, p3⟩ := HPb.out _ (Fr.refl _ _)
  clear h hB hkeep htell hl1 hl2 hdd hnw
  go_enter Tryz.func9, Tryz.ntmps9
  go_wp2_with fail
  refine Calls.mono HNe.out ?_
  rintro e w1 ⟨ok, g, i, m, bo, Lb, cb, ho, Lh, ch, bs, hs, rfl, hN, hSv, hF1⟩
  obtain ⟨w2, HW2⟩ : ∃ w2, Hid (w1.alloc (.cells #[.int .i64 m, .slice bo Lb cb, .slice ho Lh ch] 57) = w2) := ⟨_, rfl⟩
  have hF2 : Fr [] w1 w2 := by rw [<- HW2.out]; exact Fr.alloc [] w1 _
  obtain ⟨A, hA⟩ : ∃ A, A = w1.heap.size := ⟨_, rfl⟩
  have hb2 : w2.heap[A]? = some (.cells #[.int .i64 m, .slice bo Lb cb, .slice ho Lh ch] 57 (0, 0)) := by rw [<- HW2.out, hA]; exact heap_alloc_new w1 _
  have HA : Hid (∀ W, Fr [] w2 W -> W.cell? ⟨A, 0, none⟩ = some (.int .i64 m) /\ W.cell? ⟨A, 1, none⟩ = some (.slice bo Lb cb) /\ W.cell? ⟨A, 2, none⟩ = some (.slice ho Lh ch)) := fun W hf => zaj (hf.keep hb2 (by simp))
  have HSv : Hid (∀ W, Fr [] w2 W -> SvO w W bo Lb cb ho Lh ch bs hs) := fun W hf => (hSv.keep hF2).keep hf
  have HN : Hid (Nw t.s0 t.s1 ok g i m bs (hs.map Hd.kv)) := hN
  have HF2 : Hid (Fr [] w w2) := hF1.then hF2
  have HZe : Hid (Calls _ _ _ _ _) := zex (HTs.out _ HF2.out).pr.r
  clear hN hSv hF1 hF2 hb2 HNe p0 p1 p2 p3
  obtain ⟨p0, p1, p2, p3⟩ := HPb.out _ HF2.out
  go_upto_region 2 with fail
  rw [HW2.out, <- hA]
  clear HW2 hA
  go_wp2_with fail
  refine Calls.mono HZe.out ?_
  rintro e w3 ⟨ok', g', i', m', bo', Lb', cb', ho', Lh', ch', bs', hs', rfl, hN', hSv', hF3⟩
  obtain ⟨e1, e2, e3, e4, e5, hkv⟩ := hN'.uniq HN.out
  subst e1
  subst e2
  subst e3
  subst e4
  subst e5
  have hll : Lb' = Lb := by have h1 := hSv'.io.len; have h2 := (HSv.out _ (Fr.refl _ _)).io.len; omega
  subst hll
  have hlh : Lh' = Lh := by
    have h1 := hSv'.ho.len
    have h2 := (HSv.out _ (Fr.refl _ _)).ho.len
    have h3 := congrArg List.length hkv
    simp only [List.length_map] at h3
    omega
  subst hlh
  have HKv : Hid (hs.map Hd.kv = hs'.map Hd.kv) := hkv.symm
  obtain ⟨w4, HW4⟩ : ∃ w4, Hid (w3.alloc (.cells #[.int .i64 m', .slice bo' Lb' cb', .slice ho' Lh' ch'] 57) = w4) := ⟨_, rfl⟩
  have hF4 : Fr [] w3 w4 := by rw [<- HW4.out]; exact Fr.alloc [] w3 _
  obtain ⟨A2, hA2⟩ : ∃ A2, A2 = w3.heap.size := ⟨_, rfl⟩
  have hb4 : w4.heap[A2]? = some (.cells #[.int .i64 m', .slice bo' Lb' cb', .slice ho' Lh' ch'] 57 (0, 0)) := by rw [<- HW4.out, hA2]; exact heap_alloc_new w3 _
  have HF4 : Hid (Fr [] w2 w4 /\ Fr [] w w4) := ⟨hF3.then hF4, HF2.out.then (hF3.then hF4)⟩
  have HSv' : Hid (∀ W, Fr [] w4 W -> SvO w2 W bo' Lb' cb' ho' Lh' ch' bs' hs') := fun W hf => (hSv'.keep hF4).keep hf
  have hC1 : ∀ y : Wd13 w4, Calls Tryz.prog 30 #[.agg #[.int .i64 m', .slice bo Lb' cb, .slice ho Lh' ch], .agg #[.int .i64 m', .slice bo' Lb' cb', .slice ho' Lh' ch']] y.W fun e w' => e = .returned (.bool true) /\ Fr [] y.W w' := fun y => by
    have s1 := HSv.out _ (HF4.out.1.then y.h)
    have s2 := HSv'.out _ y.h
    exact zjc y.W m' bo ho bo' ho' Lb' cb Lh' ch cb' ch' bs' hs hs' (s1.io.irs s1.lb) (s2.io.irs s2.lb) s1.io.len (s1.ho.rsL s1.lim s1.lh) (s2.ho.rsL s2.lim s2.lh) s1.ho.len HKv.out (by have := s1.lb; omega)
  have hC2 : ∀ y : Wd13 w4, Calls Tryz.prog 12 #[vs] y.W fun e w' => e = .returned (.int .i64 (nl : Int)) /\ Fr [] y.W w' := fun y => HL1.out _ (HF4.out.2.then y.h)
  have hC3 : ∀ y : Wd13 w4, Calls Tryz.prog 31 #[vt] y.W fun e w' => e = .returned (.int .i64 (nl : Int)) /\ Fr [] y.W w' := fun y => HL2.out _ (HF4.out.2.then y.h)
  have hC4 : ∀ y : Wd13 w4, Calls Tryz.prog 32 #[.pointer (some ⟨gd, 0, none⟩)] y.W fun e w' => e = .returned (.bool dd) /\ Fr [] y.W w' := fun y => Calls.mono (zaat (HTs.out _ (HF4.out.2.then y.h)).pr.d HDd.out.1) (fun e w' h => ⟨h.1, by rw [<- h.2]; exact Fr.refl _ _⟩)
  have hC5 : ∀ y : Wd13 w4, Calls Tryz.prog 33 #[.pointer (some ⟨gr, 0, none⟩)] y.W fun e w' => e = .returned (.bool dd) /\ Fr [] y.W w' := fun y => Calls.mono (zaax (HTs.out _ (HF4.out.2.then y.h)).pr.r HDd.out.1) (fun e w' h => ⟨h.1, by rw [<- h.2]; exact Fr.refl _ _⟩)
  have hC6 : ∀ y : Wd13 w4, Calls Tryz.prog 34 #[.pointer (some ⟨gd, 0, none⟩)] y.W fun e w' => e = .returned (.int .i64 (nw : Int)) /\ Fr [] y.W w' := fun y => Calls.mono (zvt (HTs.out _ (HF4.out.2.then y.h)).pr.d HDd.out.2) (fun e w' h => ⟨h.1, by rw [<- h.2]; exact Fr.refl _ _⟩)
  have hC7 : ∀ y : Wd13 w4, Calls Tryz.prog 35 #[.pointer (some ⟨gr, 0, none⟩)] y.W fun e w' => e = .returned (.int .i64 (nw : Int)) /\ Fr [] y.W w' := fun y => Calls.mono (zwa (HTs.out _ (HF4.out.2.then y.h)).pr.r HDd.out.2) (fun e w' h => ⟨h.1, by rw [<- h.2]; exact Fr.refl _ _⟩)
  have HB4 : Hid (∀ W, Fr [] w4 W -> W.cell? ⟨A2, 0, none⟩ = some (.int .i64 m') /\ W.cell? ⟨A2, 1, none⟩ = some (.slice bo' Lb' cb') /\ W.cell? ⟨A2, 2, none⟩ = some (.slice ho' Lh' ch')) := fun W hf => zaj (hf.keep hb4 (by simp))
  have hb0 : ∀ y : Wd13 w4, y.W.cell? ⟨A, 0, none⟩ = some (.int .i64 m') := fun y => (HA.out _ (HF4.out.1.then y.h)).1
  have hb1 : ∀ y : Wd13 w4, y.W.cell? ⟨A, 1, none⟩ = some (.slice bo Lb' cb) := fun y => (HA.out _ (HF4.out.1.then y.h)).2.1
  have hb2 : ∀ y : Wd13 w4, y.W.cell? ⟨A, 2, none⟩ = some (.slice ho Lh' ch) := fun y => (HA.out _ (HF4.out.1.then y.h)).2.2
  have hb3 : ∀ y : Wd13 w4, y.W.cell? ⟨A2, 0, none⟩ = some (.int .i64 m') := fun y => (HB4.out _ y.h).1
  have hb5 : ∀ y : Wd13 w4, y.W.cell? ⟨A2, 1, none⟩ = some (.slice bo' Lb' cb') := fun y => (HB4.out _ y.h).2.1
  have hb6 : ∀ y : Wd13 w4, y.W.cell? ⟨A2, 2, none⟩ = some (.slice ho' Lh' ch') := fun y => (HB4.out _ y.h).2.2
  have hq0 : ∀ y : Wd13 w4, y.W.cell? ⟨pb, 0, none⟩ = some (.pointer (some ⟨gd, 0, none⟩)) := fun y => (HPb.out _ (HF4.out.2.then y.h)).1
  have hq1 : ∀ y : Wd13 w4, y.W.cell? ⟨pb, 1, none⟩ = some vs := fun y => (HPb.out _ (HF4.out.2.then y.h)).2.1
  have hq2 : ∀ y : Wd13 w4, y.W.cell? ⟨pb, 2, none⟩ = some (.pointer (some ⟨gr, 0, none⟩)) := fun y => (HPb.out _ (HF4.out.2.then y.h)).2.2.1
  have hq3 : ∀ y : Wd13 w4, y.W.cell? ⟨pb, 3, none⟩ = some vt := fun y => (HPb.out _ (HF4.out.2.then y.h)).2.2.2
  clear hN' hSv' hF3 hF4 hb4 HZe p0 p1 p2 p3 hkv
  go_upto_region 3 with fail
  rw [HW4.out, <- hA2]
  clear HW4 hA2
  refine zck (w1 := w4) (by kernel_rfl) (by kernel_rfl) (Fr.refl _ _) ?_
  repeat (go_big_quiet_step (first
    | (go_at_call 30; with_reducible refine (hC1 _).mono ?_; exact fun e w3 hh => ⟨hh.1, ⟨_, Fr.then (Wd13.h _) hh.2⟩, rfl⟩)
    | (go_at_call 12; with_reducible refine (hC2 _).mono ?_; exact fun e w3 hh => ⟨hh.1, ⟨_, Fr.then (Wd13.h _) hh.2⟩, rfl⟩)
    | (go_at_call 31; with_reducible refine (hC3 _).mono ?_; exact fun e w3 hh => ⟨hh.1, ⟨_, Fr.then (Wd13.h _) hh.2⟩, rfl⟩)
    | (go_at_call 32; with_reducible refine (hC4 _).mono ?_; exact fun e w3 hh => ⟨hh.1, ⟨_, Fr.then (Wd13.h _) hh.2⟩, rfl⟩)
    | (go_at_call 33; with_reducible refine (hC5 _).mono ?_; exact fun e w3 hh => ⟨hh.1, ⟨_, Fr.then (Wd13.h _) hh.2⟩, rfl⟩)
    | (go_at_call 34; with_reducible refine (hC6 _).mono ?_; exact fun e w3 hh => ⟨hh.1, ⟨_, Fr.then (Wd13.h _) hh.2⟩, rfl⟩)
    | (go_at_call 35; with_reducible refine (hC7 _).mono ?_; exact fun e w3 hh => ⟨hh.1, ⟨_, Fr.then (Wd13.h _) hh.2⟩, rfl⟩)))
  refine wpQuiet_nil ?_
  rintro _ ⟨y, rfl⟩
  clear hb0 hb1 hb2 hb3 hb5 hb6 hq0 hq1 hq2 hq3 hC1 hC2 hC3 hC4 hC5 hC6 hC7
  obtain ⟨w5, hF5⟩ := y
  simp only
  have HF5 : Hid (Fr [] w w5) := HF4.out.2.then hF5
  obtain ⟨a0, a1, a2⟩ := HA.out _ (HF4.out.1.then hF5)
  have HTe : Hid (Calls _ _ _ _ _) := HTell.out w5 m' bo Lb' cb ho Lh' ch bs' hs HF5.out (HSv.out _ (HF4.out.1.then hF5))
  clear hF5
  go_wp2_with fail
  refine Calls.mono HTe.out ?_
  rintro e w6 ⟨rfl, B', hK, hF6, hgr⟩
  have HK : Hid (K w6 B' /\ Fr B w w6 /\ ∀ q ∈ B', q ∈ B \/ w.heap.size <= q) := ⟨hK, (HF5.out.mono (by simp)).then hF6, hgr⟩
  have HTs6 : Hid (∀ W, Fr [] w6 W -> Ts w0 W pb gd gr SD SR t vs vt SS) := fun W hf => ((HTs.out _ HF5.out).keepS hF6 (fun q hq => (HKp.out.2 q hq).1) (fun q hq => (HKp.out.2 q hq).2)).quiet hf
  have HPb6 : Hid (∀ W, Fr [] w6 W -> W.cell? ⟨pb, 0, none⟩ = some (.pointer (some ⟨gd, 0, none⟩)) /\ W.cell? ⟨pb, 2, none⟩ = some (.pointer (some ⟨gr, 0, none⟩))) := fun W hf => by
    have hb := (HTs6.out W hf).box
    refine ⟨?_, ?_⟩ <;> rw [cell_of_row _ _ _ _ _ _ hb] <;> rfl
  clear HTe hK hF6 hgr a0 a1 a2 HTell HL1 HL2 HPb HTs HSv HSv' HA HB4 HN HKv
  go_wp2_with fail
  go_loopw [15] (fun ii wr => ∃ j : Nat, ii = .int .i64 (j : Int) /\ j <= 2 /\ Hid (Fr [] w6 wr)) (fun ii _ => 2 - (RowKit.intOf ii).toNat)
  case atStart => exact ⟨0, rfl, by omega, Fr.refl _ _⟩
  case round =>
    obtain ⟨j, rfl, hj2, HFr⟩ := hrel
    by_cases hj : j < 2
    · have hlt : (j : Int) < 2 := by omega
      obtain ⟨xs, hto⟩ : ∃ xs, Told t (j : Int) 0 xs := by
        by_cases h0 : j = 0
        · exact ⟨t.s0, .slot0 (by omega)⟩
        · exact ⟨t.s1, .slot1 (by omega)⟩
      have HTo : Hid (Told t (j : Int) 0 xs) := hto
      have HRd : Hid (Calls Tryz.prog 36 #[.pointer (some ⟨gd, 0, none⟩), .int .i64 (j : Int)] wr fun e w' => ∃ ao n cap, e = .returned (.tuple #[.slice ao n cap, .int .i64 0]) /\ Fre wr w' ao n cap xs /\ LD w0 w' gd SD t) := zqx (HTs6.out _ HFr.out).pr.d hto
      obtain ⟨p0, p2⟩ := HPb6.out _ HFr.out
      clear hto
      go_wp2_with fail
      refine Calls.mono HRd.out ?_
      rintro e x1 ⟨ao, n1, c1, rfl, hfre, hLD⟩
      have HF7 : Hid (Fr [] w6 x1) := HFr.out.then hfre.fr
      have HLen : Hid (n1 = xs.length /\ xs.length <= 16777216) := ⟨hfre.len, HTo.out.few (HTs6.out _ HFr.out).pr.d.ok⟩
      have HRa : Hid (Rs x1 ao xs) := zkg hfre.own (by have := HLen.out; omega)
      have HRr : Hid (Calls Tryz.prog 37 #[.pointer (some ⟨gr, 0, none⟩), .int .i64 (j : Int)] x1 fun e w' => ∃ ao n cap, e = .returned (.tuple #[.slice ao n cap, .int .i64 0]) /\ Rs x1 ao xs /\ n = xs.length /\ x1 = w') := zaaw (HTs6.out _ HF7.out).pr.r HTo.out
      clear p0 p2 hfre hLD HRd
      obtain ⟨p0, p2⟩ := HPb6.out _ HF7.out
      go_wp2_with fail
      refine Calls.mono HRr.out ?_
      rintro e x2 ⟨ao2, n2, c2, rfl, hR2, hn2, rfl⟩
      have hnn : n2 = n1 := by rw [hn2, HLen.out.1]
      subst hnn
      have HSa : Hid (Calls _ _ _ _ _) := zmi ao ao2 n2 n2 c1 c2 xs xs x1 HRa.out hR2 HLen.out.1 HLen.out.1 rfl
      clear hR2 hn2 HRr p0 p2
      go_wp2_with fail
      refine Calls.mono HSa.out ?_
      rintro e x3 ⟨rfl, nq, rfl⟩
      have HF8 : Hid (Fr [] w6 (x1.drewN nq)) := HF7.out.then (Fr.drewN _ _ _)
      clear HSa
      go_wp2_with fail
      go_roundw
      case rel => exact ⟨j + 1, by simp, by omega, HF8⟩
      case measure => simp [RowKit.intOf]; omega
    · have hlt : ¬ (j : Int) < 2 := by omega
      have HR : Hid (∃ B', K wr B' /\ Fr B w wr /\ ∀ q ∈ B', q ∈ B \/ w.heap.size <= q) := ⟨B', HKp.out.1 _ _ _ HK.out.1 HFr.out, HK.out.2.1.then (HFr.out.mono (by simp)), HK.out.2.2⟩
      go_wp2
      go_ret
      exact ⟨rfl, HR.out⟩
end Go.Proofs.YtembflnhhfliaaaGreatDoor
namespace Go.Proofs.YtembflnhhfliaaaGreatDoor.Bq.Wk
open BigFrame Go.ChangeShapes Go.WideShapes Go.ChangeAt Go.RowKit Go.Lib
section
variable {K J : Kd} {S : List Nat} {w w' : World} {bk : Nat} {rv rv' : Value} {hs : List HB} {cs' : Array Value}
end
section
variable {S : List Nat} {w0 w w' : World} {bk T : Nat} {rB rI rW rT : Value} {hB hI hW hT : List HB}
end
end Go.Proofs.YtembflnhhfliaaaGreatDoor.Bq.Wk
