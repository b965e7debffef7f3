/- Contracts and plain lemmas of this claim. -/
import Derived.Test.YtembflnhhfliaaaGreatDoorGp45
import Derived.Test.YtembflnhhfliaaaGreatDoorGp34
set_option linter.unusedSimpArgs false
set_option linter.unusedVariables false
set_option maxHeartbeats 4000000
set_option maxRecDepth 100000
namespace Go.Proofs.YtembflnhhfliaaaGreatDoor
open BigFrame Go.ChangeShapes Go.WideShapes Go.ChangeAt Go.RowKit Go.Lib Go.Maps
def DoP (w0 : World) (pb gd gr : Nat) (SD SR SS : List Nat) (t : Sk) (w : World) (e : Ending) (w' : World) : Prop := e = .returned (.bool true) /\ ∃ SD' SR' t' vs' vt' SS', Ts w0 w' pb gd gr SD' SR' t' vs' vt' SS' /\ t'.n <= t.n + 1 /\ To (Ow pb SD SR SS) (Ow pb SD' SR' SS') w w'
theorem zsr {w0 w : World} {pb gd gr : Nat} {SD SR SS : List Nat} {t : Sk} {vs vt : Value} (h : Ts w0 w pb gd gr SD SR t vs vt SS) (hn : t.n < 2^40) (m slot at_ n : Int) (b1 h1 bo : Option Addr) (L1 c1 L2 c2 M cb : Nat) (ys : List Nat) (hat : at_ <= 9223372036854775807) (hB : BArg w0 bo M cb ys) :
    Calls Tryz.prog 8 #[.pointer (some ⟨pb, 0, none⟩), .agg #[.int .u8 3, .int .i64 m, .slice b1 L1 c1, .slice h1 L2 c2, .int .i64 slot, .int .i64 at_, .slice bo M cb, .int .i64 n]] w fun e w' => DoP w0 pb gd gr SD SR SS t w e w' := by
  obtain ⟨E, t', hc⟩ := Wrote.some t slot at_ ys
  have hn' := hc.n
  obtain ⟨w1, HW1⟩ : ∃ w1, Hid (w.alloc (.cells #[.int .u8 3, .int .i64 m, .slice b1 L1 c1, .slice h1 L2 c2, .int .i64 slot, .int .i64 at_, .slice bo M cb, .int .i64 n] 60) = w1) := ⟨_, rfl⟩
  have hF1 : Fr [] w w1 := by rw [<- HW1.out]; exact Fr.alloc [] w _
  obtain ⟨ob, hob⟩ : ∃ ob, ob = w.heap.size := ⟨_, rfl⟩
  have hb1 : w1.heap[ob]? = some (.cells #[.int .u8 3, .int .i64 m, .slice b1 L1 c1, .slice h1 L2 c2, .int .i64 slot, .int .i64 at_, .slice bo M cb, .int .i64 n] 60 (0, 0)) := by rw [<- HW1.out, hob]; exact heap_alloc_new w _
  have hFd : Fr [] w w1.drew := hF1.then (Fr.drew [] w1)
  have hbd : w1.drew.heap[ob]? = some (.cells #[.int .u8 3, .int .i64 m, .slice b1 L1 c1, .slice h1 L2 c2, .int .i64 slot, .int .i64 at_, .slice bo M cb, .int .i64 n] 60 (0, 0)) := (Fr.drew [] w1).keep hb1 (by simp)
  have hTd := h.quiet hFd
  have hoD : ob ∉ SD := fun hm => by have := h.pr.d.lt _ hm; omega
  have hoR : ob ∉ SR := fun hm => by have := h.pr.r.lt _ hm; omega
  have HC : Hid (Calls _ _ _ _ _) := zyw (t := t) (fD := 19) (fR := 20) (aD := #[.pointer (some ⟨gd, 0, none⟩), .int .i64 slot, .int .i64 at_, .slice bo M cb]) (aR := #[.pointer (some ⟨gr, 0, none⟩), .int .i64 slot, .int .i64 at_, .slice bo M cb]) (E := E) (t' := t') hTd hbd hoD hoR (zod hTd.pr.d hn hat (hB.keep hTd.pr.d.fr) (hTd.pr.d.apart hB) hc) (fun W hL _ => zjc hL hn hat (hB.keep hL.fr) (hL.apart hB) hc)
  have HF : Hid (Fr [] w w1.drew /\ t'.n <= t.n + 1) := ⟨hFd, hn'⟩
  have k0 : w1.cell? ⟨ob, 0, none⟩ = some (.int .u8 3) := by rw [cell_of_row _ _ _ _ _ _ hb1]; rfl
  have p0 : w1.drew.cell? ⟨pb, 0, none⟩ = some (.pointer (some ⟨gd, 0, none⟩)) := by rw [cell_of_row _ _ _ _ _ _ hTd.box]; rfl
  have p2 : w1.drew.cell? ⟨pb, 2, none⟩ = some (.pointer (some ⟨gr, 0, none⟩)) := by rw [cell_of_row _ _ _ _ _ _ hTd.box]; rfl
  have k4 : w1.drew.cell? ⟨ob, 4, none⟩ = some (.int .i64 slot) := by rw [cell_of_row _ _ _ _ _ _ hbd]; rfl
  have k5 : w1.drew.cell? ⟨ob, 5, none⟩ = some (.int .i64 at_) := by rw [cell_of_row _ _ _ _ _ _ hbd]; rfl
  have k6 : w1.drew.cell? ⟨ob, 6, none⟩ = some (.slice bo M cb) := by rw [cell_of_row _ _ _ _ _ _ hbd]; rfl
  clear h hn hb1 hbd hTd hF1 hFd hoD hoR hc hn' hB hat
  go_enter Tryz.func8, Tryz.ntmps8
  go_upto_region 1 with fail
  rw [HW1.out, <- hob]
  clear HW1 hob
  go_upto_region 13 with fail
  clear k0
  go_loud (go_region_held3 (fun W => W.cell? ⟨pb, 0, none⟩ = some (.pointer (some ⟨gd, 0, none⟩)) /\ W.cell? ⟨pb, 2, none⟩ = some (.pointer (some ⟨gr, 0, none⟩)) /\ W.cell? ⟨ob, 4, none⟩ = some (.int .i64 slot) /\ W.cell? ⟨ob, 5, none⟩ = some (.int .i64 at_) /\ W.cell? ⟨ob, 6, none⟩ = some (.slice bo M cb)) (go_keep)
    (first
    | (go_at_call 19; with_reducible refine HC.out.mono ?_; rintro e2 w2 ⟨rfl, q1, q2, HC2⟩; have l0 := q1 0 _ rfl; have l2 := q1 2 _ rfl; have l4 := q2 4 _ rfl; have l5 := q2 5 _ rfl; have l6 := q2 6 _ rfl;  clear q1 q2)
    | (go_at_call 20; with_reducible refine HC2.out.mono ?_; rintro e3 w3 ⟨rfl, q1, q2, HR3⟩; have m0 := q1 0 _ rfl; have m2 := q1 2 _ rfl; have m4 := q2 4 _ rfl; have m5 := q2 5 _ rfl; have m6 := q2 6 _ rfl;  clear q1 q2)))
  have HR : Hid (DoP w0 pb gd gr SD SR SS t w (.returned (.bool true)) w3) := by
    obtain ⟨SD', SR', a1, a2⟩ := HR3.out
    exact ⟨rfl, SD', SR', t', _, _, SS, a1, HF.out.2, (To.quiet HF.out.1).then a2⟩
  clear HR3 HC HC2
  go_wp2
  go_ret
  exact HR.out
theorem zxh {w0 w : World} {pb gd gr : Nat} {SD SR SS : List Nat} {t : Sk} {vs vt : Value} (h : Ts w0 w pb gd gr SD SR t vs vt SS) (hn : t.n < 2^40) : ∃ (E : Int) (t' : Sk), t'.n <= t.n + 1 /\
    Calls Tryz.prog 11 #[vs] w fun e w2 => e = .returned (.int .i64 E) /\ (∀ (j : Nat) v, (#[.pointer (some ⟨gd, 0, none⟩), vs, .pointer (some ⟨gr, 0, none⟩), vt] : Array Value)[j]? = some v -> w2.cell? ⟨pb, j, none⟩ = some v) /\
      Hid (Calls Tryz.prog 27 #[vt] w2 fun e w3 => e = .returned (.int .i64 E) /\ (∀ (j : Nat) v, (#[.pointer (some ⟨gd, 0, none⟩), vs, .pointer (some ⟨gr, 0, none⟩), vt] : Array Value)[j]? = some v -> w3.cell? ⟨pb, j, none⟩ = some v) /\ Hid (∃ SD' SR', Ts w0 w3 pb gd gr SD' SR' t' vs vt SS /\ To (Ow pb SD SR SS) (Ow pb SD' SR' SS) w w3)) := by
  have hbx : ∀ W : World, W.heap[pb]? = some (.cells #[.pointer (some ⟨gd, 0, none⟩), vs, .pointer (some ⟨gr, 0, none⟩), vt] 35 (0, 0)) -> ∀ (j : Nat) v, (#[.pointer (some ⟨gd, 0, none⟩), vs, .pointer (some ⟨gr, 0, none⟩), vt] : Array Value)[j]? = some v -> W.cell? ⟨pb, j, none⟩ = some v := fun W hW j v hv => by rw [cell_of_row _ _ _ _ _ _ hW]; exact hv
  rcases h.sv with ⟨rfl, rfl, rfl⟩ | ⟨sb, fb, ab, tb, ab2, slot, zs, k, rfl, rfl, e3, hs⟩
  · refine ⟨2, t, by omega, (zxb w).mono ?_⟩
    rintro e w2 ⟨rfl, rfl⟩
    refine ⟨rfl, hbx _ h.box, Calls.mono (zxg w) ?_⟩
    rintro e w3 ⟨rfl, rfl⟩
    exact ⟨rfl, hbx _ h.box, SD, SR, h, To.refl _ _⟩
  · obtain ⟨fo, fc, ac, hsa⟩ := hs.s
    obtain ⟨ac2, hza⟩ := hs.t
    obtain ⟨E, t', k', hr⟩ := StepR.some t slot zs k hsa.kle
    have hin : ∀ q ∈ [sb, fb, ab, tb, ab2], q ∈ SS := fun q hq => by rw [e3]; exact hq
    have hlt := hs.lt
    have hne := hs.ne
    have hpl := lt_of_block h.box
    have hps : pb ≠ sb /\ pb ≠ tb := by
      refine ⟨?_, ?_⟩
      · rintro rfl; have := h.box; rw [hsa.box] at this; simp at this
      · rintro rfl; have := h.box; rw [hza.box] at this; simp at this
    refine ⟨E, t', hr.n, (zvb h.pr.d hsa (hs.apD _ (by simp)) (hs.apD _ (by simp)) (hs.apD _ (by simp)) (hs.new _ (by simp)) hn hr).mono ?_⟩
    rintro e w2 ⟨rfl, SD', fo', fc', hL, hsa2, hgr, hFr⟩
    have hpb2 : pb ∉ sb :: SD := by simp only [List.mem_cons, not_or]; exact ⟨hps.1, h.pbn.2.1⟩
    have hb2 := hFr.keep h.box hpb2
    have hR2 : LR w0 w2 gr SR t := h.pr.r.keepS hFr (fun q hq => by
      rcases List.mem_cons.1 hq with rfl | hq
      · exact hs.apR _ (by simp)
      · exact h.pr.ap q hq) (fun q hq => by
      rcases List.mem_cons.1 hq with rfl | hq
      · exact hs.new _ (by simp)
      · exact h.pr.d.new q hq)
    have hza2 : ZaM w2 tb gr ab2 ac2 slot zs k := hza.keep hFr (by simp only [List.mem_cons, not_or]; exact ⟨fun e => hne.1 e.symm, hs.apD _ (by simp)⟩) (by simp only [List.mem_cons, not_or]; exact ⟨fun e => hne.2.1 e.symm, hs.apD _ (by simp)⟩)
    refine ⟨rfl, hbx _ hb2, Calls.mono (zvd hR2 hza2 (hs.apR _ (by simp)) (hs.apR _ (by simp)) (hs.new _ (by simp)) hn hr) ?_⟩
    rintro e w3 ⟨rfl, SR', hL3, hza3, hgr3, hFr3⟩
    have hpb3 : pb ∉ tb :: SR := by simp only [List.mem_cons, not_or]; exact ⟨hps.2, h.pbn.2.2⟩
    have hb3 := hFr3.keep hb2 hpb3
    have hsz2 := hFr.size
    have hD' : ∀ q ∈ SD', q ∉ tb :: SR := fun q hq => by
      simp only [List.mem_cons, not_or]
      rcases hgr q hq with p | p
      · exact ⟨fun e => hs.apD tb (by simp) (by rw [<- e]; exact p), h.pr.ap q p⟩
      · exact ⟨fun e => by have := hlt tb (by simp); omega, fun hm => by have := h.pr.r.lt q hm; omega⟩
    have hL' : LD w0 w3 gd SD' t' := hL.keepS hFr3 (fun q hq hm => hD' q hm hq) (fun q hq => by
      rcases List.mem_cons.1 hq with rfl | hq
      · exact hs.new _ (by simp)
      · exact h.pr.r.new q hq)
    have hapD' : ∀ q ∈ [sb, fb, ab, tb, ab2], q ∉ SD' := fun q hq hm => by
      rcases hgr q hm with p | p
      · exact hs.apD q hq p
      · have := hlt q hq; omega
    have hapR' : ∀ q ∈ [sb, fb, ab, tb, ab2], q ∉ SR' := fun q hq hm => by
      rcases hgr3 q hm with p | p
      · exact hs.apR q hq p
      · have := hlt q hq; omega
    have hsa3 : SaM w3 sb gd fb ab fo' fc' ac slot zs k' := hsa2.keep hFr3 (by simp only [List.mem_cons, not_or]; exact ⟨hne.1, hs.apR _ (by simp)⟩) (by simp only [List.mem_cons, not_or]; exact ⟨fun e => hne.2.2.1 e.symm, hs.apR _ (by simp)⟩) (by simp only [List.mem_cons, not_or]; exact ⟨fun e => hne.2.2.2 e.symm, hs.apR _ (by simp)⟩)
    refine ⟨rfl, hbx _ hb3, SD', SR', ⟨⟨hL', hL3, fun q hq hm => ?_⟩, hb3, ⟨h.pbn.1, fun hm => ?_, fun hm => ?_⟩, Or.inr ⟨sb, fb, ab, tb, ab2, slot, zs, k', rfl, rfl, e3, ⟨fo', fc', ac, hsa3⟩, ⟨ac2, hza3⟩, hapD', hapR', hs.new⟩⟩, ?_⟩
    · rcases hgr3 q hm with p | p
      · exact hD' q hq (List.mem_cons_of_mem _ p)
      · have := hL.lt q hq; omega
    · rcases hgr pb hm with p | p
      · exact h.pbn.2.1 p
      · omega
    · rcases hgr3 pb hm with p | p
      · exact h.pbn.2.2 p
      · omega
    · refine ⟨(hFr.mono (fun x hx _ => ?_)).then (hFr3.mono (fun x hx _ => ?_)), fun q hq => ?_⟩
      · rcases List.mem_cons.1 hx with rfl | hx
        · exact mem_Ow.2 (Or.inr (Or.inr (Or.inr (hin _ (by simp)))))
        · exact mem_Ow.2 (Or.inr (Or.inl hx))
      · rcases List.mem_cons.1 hx with rfl | hx
        · exact mem_Ow.2 (Or.inr (Or.inr (Or.inr (hin _ (by simp)))))
        · exact mem_Ow.2 (Or.inr (Or.inr (Or.inl hx)))
      · rcases mem_Ow.1 hq with p | p | p | p
        · exact Or.inl (mem_Ow.2 (Or.inl p))
        · rcases hgr q p with r | r
          · exact Or.inl (mem_Ow.2 (Or.inr (Or.inl r)))
          · exact Or.inr r
        · rcases hgr3 q p with r | r
          · exact Or.inl (mem_Ow.2 (Or.inr (Or.inr (Or.inl r))))
          · exact Or.inr (by omega)
        · exact Or.inl (mem_Ow.2 (Or.inr (Or.inr (Or.inr p))))
theorem zmb {w0 w : World} {pb gd gr : Nat} {SD SR SS : List Nat} {t : Sk} {vs vt : Value} (h : Ts w0 w pb gd gr SD SR t vs vt SS) (hn : t.n < 2^40) (K m slot at_ n : Int) (b1 h1 bo : Option Addr) (L1 c1 L2 c2 M cb : Nat) (hK : K ≠ 1 /\ K ≠ 3 /\ K ≠ 4 /\ K ≠ 5 /\ K ≠ 6) :
    Calls Tryz.prog 8 #[.pointer (some ⟨pb, 0, none⟩), .agg #[.int .u8 K, .int .i64 m, .slice b1 L1 c1, .slice h1 L2 c2, .int .i64 slot, .int .i64 at_, .slice bo M cb, .int .i64 n]] w fun e w' => DoP w0 pb gd gr SD SR SS t w e w' := by
  have y1 : (K == 1) = false := by simpa using hK.1
  have y3 : (K == 3) = false := by simpa using hK.2.1
  have y4 : (K == 4) = false := by simpa using hK.2.2.1
  have y5 : (K == 5) = false := by simpa using hK.2.2.2.1
  have y6 : (K == 6) = false := by simpa using hK.2.2.2.2
  obtain ⟨w1, HW1⟩ : ∃ w1, Hid (w.alloc (.cells #[.int .u8 K, .int .i64 m, .slice b1 L1 c1, .slice h1 L2 c2, .int .i64 slot, .int .i64 at_, .slice bo M cb, .int .i64 n] 60) = w1) := ⟨_, rfl⟩
  have hF1 : Fr [] w w1 := by rw [<- HW1.out]; exact Fr.alloc [] w _
  obtain ⟨ob, hob⟩ : ∃ ob, ob = w.heap.size := ⟨_, rfl⟩
  have hb1 : w1.heap[ob]? = some (.cells #[.int .u8 K, .int .i64 m, .slice b1 L1 c1, .slice h1 L2 c2, .int .i64 slot, .int .i64 at_, .slice bo M cb, .int .i64 n] 60 (0, 0)) := by rw [<- HW1.out, hob]; exact heap_alloc_new w _
  have hFd : Fr [] w w1.drew := hF1.then (Fr.drew [] w1)
  have hTd := h.quiet hFd
  obtain ⟨E, t', hn', hC⟩ := zxh hTd hn
  have HC : Hid (Calls _ _ _ _ _) := hC
  have HF : Hid (Fr [] w w1.drew /\ t'.n <= t.n + 1) := ⟨hFd, hn'⟩
  have k0 : w1.cell? ⟨ob, 0, none⟩ = some (.int .u8 K) := by rw [cell_of_row _ _ _ _ _ _ hb1]; rfl
  have p1 : w1.drew.cell? ⟨pb, 1, none⟩ = some vs := by rw [cell_of_row _ _ _ _ _ _ hTd.box]; rfl
  have p3 : w1.drew.cell? ⟨pb, 3, none⟩ = some vt := by rw [cell_of_row _ _ _ _ _ _ hTd.box]; rfl
  clear h hn hb1 hTd hF1 hFd hC hn' hK
  go_enter Tryz.func8, Tryz.ntmps8
  go_upto_region 1 with fail
  rw [HW1.out, <- hob]
  clear HW1 hob
  go_upto_region 20 with fail
  clear k0
  go_loud (go_region_held3 (fun W => W.cell? ⟨pb, 1, none⟩ = some vs /\ W.cell? ⟨pb, 3, none⟩ = some vt) (go_keep)
    (first
    | (go_at_call 11; with_reducible refine HC.out.mono ?_; rintro e2 w2 ⟨rfl, q1, HC2⟩; have l1 := q1 1 _ rfl; have l3 := q1 3 _ rfl; clear q1)
    | (go_at_call 27; with_reducible refine HC2.out.mono ?_; rintro e3 w3 ⟨rfl, q1, HR3⟩; have m1 := q1 1 _ rfl; have m3 := q1 3 _ rfl; clear q1)))
  have HR : Hid (DoP w0 pb gd gr SD SR SS t w (.returned (.bool true)) w3) := by
    obtain ⟨SD', SR', a1, a2⟩ := HR3.out
    exact ⟨rfl, SD', SR', t', _, _, SS, a1, HF.out.2, (To.quiet HF.out.1).then a2⟩
  clear HR3 HC HC2
  go_wp2
  go_ret
  exact HR.out
theorem zqj {wS wT w : World} {m : Int} {bs : List Int} {hs : List Hd} {bb bh Lb Lh : Nat} {ks : List Nat} {wx : World} {ho : Option Addr}
    (hTw : TwS wS wT bs hs bb bh ks) (hST : Fr [] wS wT) (hTW : Fr [] wT w) (hLb : Lb = bs.length) (hLh : Lh = hs.length) (hb1 : Lb < 2^21) (hh1 : Lh < 2^21) (hfew : Few hs) (hH : HRs wx ho hs) (ht : Bq.Tab wS) :
    Calls Tryz.prog 18 #[.pointer (some ⟨w.heap.size, 0, none⟩), .agg #[.int .i64 m, .slice (some ⟨bb, 0, none⟩) Lb (Lb + 1), .slice (some ⟨bh, 0, none⟩) Lh (Lh + 1)]] (w.alloc (.cells Bq.newBk 52)) fun e w1 => e = .returned (.tuple #[]) /\ Fr [] w w1 /\
      Hid (∀ (W : World) (S : List Nat), Fr S w1 W -> (∀ q ∈ S, q < wS.heap.size /\ q ≠ Bq.gTab) -> Calls Tryz.prog 10 #[.pointer (some ⟨w.heap.size, 0, none⟩)] W fun e w4 => e = .returned (.bool true) /\ ∃ T, Fr T W w4 /\ ∀ q ∈ T, (wS.heap.size <= q /\ q < wT.heap.size) \/ w.heap.size <= q) := by
  obtain ⟨wa, hwa⟩ : ∃ wa, wa = w.alloc (.cells Bq.newBk 52) := ⟨_, rfl⟩
  have hF0 : Fr [] w wa := by rw [hwa]; exact Fr.alloc _ _ _
  have hB := Bq.B4.new (w0 := w) (w := wa) (bk := w.heap.size) (by rw [hwa]; exact heap_alloc_new w _) (Nat.le_refl _)
  have hTa := hTw.keep (hTW.then hF0)
  have hD := zul hTa.rh hTa.tw hLh (by omega) hfew (fun t htm => (hH.each t htm).len)
  rw [<- hwa]
  refine (Bq.saved_tell hB m _ _ Lb (Lb + 1) Lh (Lh + 1) _ ⟨Lb, zbi bs, Bq.Cut.of (hTa.iown hLb hb1), by omega⟩ (by simp [Bq.lbs]) hD (by simp [Bq.lbs]) (by simp [Bq.lbs]) (by omega)).mono ?_
  rintro e w1 ⟨rfl, rI', rT', rW', hB1, hF1, hM1, hM2, hM3⟩
  have hF1' : Fr [w.heap.size] wa w1 := by simpa [Value.ownBlock] using hF1
  have hsa : w.heap.size < wa.heap.size := by rw [hwa]; simp
  have hF01 : Fr [] w w1 := hF0.on hF1' (fun j hj => by simp at hj; omega)
  refine ⟨rfl, hF01, ?_⟩
  intro W S hFS hS
  have hsST := hST.size
  have hsTW := hTW.size
  have hown : ∀ q ∈ Bq.kbs w.heap.size (.slice none 0 0) rI' rW' rT' [] ([] ++ [⟨.slice (some ⟨bb, 0, none⟩) Lb (Lb + 1), .slice none 0 0, 0 + 1⟩]) ([] ++ [⟨.slice (some ⟨bh, 0, none⟩) Lh (Lh + 1), .slice none 0 0, 0 + 1 + Lh + 1⟩]) ([] ++ Bq.held (0 + 1) (dsOf (twTs hs ks))), (wS.heap.size <= q /\ q < wT.heap.size) \/ w.heap.size <= q := fun q hq => by
    have hnew : ∀ {v : Value}, Moved wa.heap.size (.slice none 0 0) v -> v.ownBlock = some q -> w.heap.size <= q := fun hM hk => by
      rcases Bq.moved_of hM hk with p | p
      · simp [Value.ownBlock] at p
      · omega
    rcases Bq.mem_kbs.1 hq with p | (p | p) | (p | p) | (p | p) | (p | p)
    · exact Or.inr (by omega)
    · simp [Value.ownBlock] at p
    · simp [Bq.lbs] at p
    · exact Or.inr (hnew hM1 p)
    · rcases Bq.lbs_snoc p with p2 | p2
      · simp [Bq.lbs] at p2
      · simp [Value.ownBlock] at p2
        subst p2
        exact Or.inl ⟨hTw.nb, lt_of_block hTw.rb⟩
    · exact Or.inr (hnew hM3 p)
    · rcases Bq.lbs_snoc p with p2 | p2
      · simp [Bq.lbs] at p2
      · simp [Value.ownBlock] at p2
        subst p2
        exact Or.inl ⟨hTw.nh, lt_of_block hTw.rh⟩
    · exact Or.inr (hnew hM2 p)
    · rw [List.nil_append] at p
      obtain ⟨i, d, hd, hk⟩ := Bq.mem_held p
      obtain ⟨x, hx, rfl⟩ := zck hd
      obtain ⟨t, k, ht2, hk2, rfl⟩ := zdl hx
      simp [twT, Value.ownBlock] at hk
      subst hk
      exact Or.inl ⟨hTw.tw.new k (List.mem_of_getElem? hk2), lt_of_block (hTw.tw.row i t k ht2 hk2)⟩
  have hB2 := hB1.keepN hFS (fun q hq hm => by
    have h1 := (hS q hm).1
    rcases hown q hq with p | p <;> omega)
  obtain ⟨cs, hX, _⟩ := hB2.box
  have hglt := ht.lt
  have hTb : Bq.Tab W := ((ht.keep (hST.then (hTW.then hF01)) (by simp)).keep hFS (fun hm => (hS _ hm).2 rfl))
  refine (Bq.apart4_any w.heap.size cs _ _ _ _ _ _ _ _ W hX hB2.sB hB2.sI hB2.sW hB2.sT hTb (fun hm => ?_)).mono ?_
  · rcases hown Bq.gTab (List.mem_cons_of_mem _ hm) with p | p <;> omega
  · rintro e w4 ⟨rfl, hF4⟩
    exact ⟨rfl, _, hF4, fun q hq => hown q (List.mem_cons_of_mem _ hq)⟩
end Go.Proofs.YtembflnhhfliaaaGreatDoor
