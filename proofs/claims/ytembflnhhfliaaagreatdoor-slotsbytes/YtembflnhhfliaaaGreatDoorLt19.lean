/- A pair's step. Conditions: disks that are there; fewer than 2^40 raw writes. -/
import Derived.Test.YtembflnhhfliaaaGreatDoorLd19
namespace Go.Proofs.YtembflnhhfliaaaGreatDoor
open BigFrame Go.ChangeShapes Go.WideShapes Go.ChangeAt Go.RowKit Go.Lib Go.Maps
set_option linter.unusedVariables false
set_option linter.unusedSimpArgs false

theorem two_step {w0 w : World} {pb gd gr : Nat} {SD SR SS : List Nat} {t : Sk} {vs vt : Value} (h : Ts w0 w pb gd gr SD SR t vs vt SS) (hn : t.n < 2^40) : ∃ (E : Int) (t' : Sk), t'.n ≤ t.n + 1 ∧
    Calls Tryz.prog 11 #[vs] w fun e w2 => e = .returned (.int .i64 E) ∧ (∀ (j : Nat) v, (#[.pointer (some ⟨gd, 0, none⟩), vs, .pointer (some ⟨gr, 0, none⟩), vt] : Array Value)[j]? = some v → w2.cell? ⟨pb, j, none⟩ = some v) ∧
      Hid (Calls Tryz.prog 27 #[vt] w2 fun e w3 => e = .returned (.int .i64 E) ∧ (∀ (j : Nat) v, (#[.pointer (some ⟨gd, 0, none⟩), vs, .pointer (some ⟨gr, 0, none⟩), vt] : Array Value)[j]? = some v → w3.cell? ⟨pb, j, none⟩ = some v) ∧ Hid (∃ SD' SR', Ts w0 w3 pb gd gr SD' SR' t' vs vt SS ∧ To (Ow pb SD SR SS) (Ow pb SD' SR' SS) w w3)) := by
  have hbx : ∀ W : World, W.heap[pb]? = some (.cells #[.pointer (some ⟨gd, 0, none⟩), vs, .pointer (some ⟨gr, 0, none⟩), vt] 35 (0, 0)) → ∀ (j : Nat) v, (#[.pointer (some ⟨gd, 0, none⟩), vs, .pointer (some ⟨gr, 0, none⟩), vt] : Array Value)[j]? = some v → W.cell? ⟨pb, j, none⟩ = some v := fun W hW j v hv => by rw [cell_of_row _ _ _ _ _ _ hW]; exact hv
  rcases h.sv with ⟨rfl, rfl, rfl⟩ | ⟨sb, fb, ab, tb, ab2, slot, zs, k, rfl, rfl, e3, hs⟩
  · refine ⟨2, t, by omega, (sstep_no w).mono ?_⟩
    rintro e w2 ⟨rfl, rfl⟩
    refine ⟨rfl, hbx _ h.box, Calls.mono (zstep_no w) ?_⟩
    rintro e w3 ⟨rfl, rfl⟩
    exact ⟨rfl, hbx _ h.box, SD, SR, h, To.refl _ _⟩
  · obtain ⟨fo, fc, ac, hsa⟩ := hs.s
    obtain ⟨ac2, hza⟩ := hs.t
    obtain ⟨E, t', k', hr⟩ := StepR.some t slot zs k hsa.kle
    have hin : ∀ q ∈ [sb, fb, ab, tb, ab2], q ∈ SS := fun q hq => by rw [e3]; exact hq
    have hlt := hs.lt
    have hne := hs.ne
    have hpl := lt_of_block h.box
    have hps : pb ≠ sb ∧ pb ≠ tb := by
      refine ⟨?_, ?_⟩
      · rintro rfl; have := h.box; rw [hsa.box] at this; simp at this
      · rintro rfl; have := h.box; rw [hza.box] at this; simp at this
    refine ⟨E, t', hr.n, (sstep_any h.pr.d hsa (hs.apD _ (by simp)) (hs.apD _ (by simp)) (hs.apD _ (by simp)) (hs.new _ (by simp)) hn hr).mono ?_⟩
    rintro e w2 ⟨rfl, SD', fo', fc', hL, hsa2, hgr, hFr⟩
    have hpb2 : pb ∉ sb :: SD := by simp only [List.mem_cons, not_or]; exact ⟨hps.1, h.pbn.2.1⟩
    have hb2 := hFr.keep h.box hpb2
    have hR2 : LR w0 w2 gr SR t := h.pr.r.keepS hFr (fun q hq => by
      rcases List.mem_cons.1 hq with rfl | hq
      · exact hs.apR _ (by simp)
      · exact h.pr.ap q hq) (fun q hq => by
      rcases List.mem_cons.1 hq with rfl | hq
      · exact hs.new _ (by simp)
      · exact h.pr.d.new q hq)
    have hza2 : ZaM w2 tb gr ab2 ac2 slot zs k := hza.keep hFr (by simp only [List.mem_cons, not_or]; exact ⟨fun e => hne.1 e.symm, hs.apD _ (by simp)⟩) (by simp only [List.mem_cons, not_or]; exact ⟨fun e => hne.2.1 e.symm, hs.apD _ (by simp)⟩)
    refine ⟨rfl, hbx _ hb2, Calls.mono (zstep_any hR2 hza2 (hs.apR _ (by simp)) (hs.apR _ (by simp)) (hs.new _ (by simp)) hn hr) ?_⟩
    rintro e w3 ⟨rfl, SR', hL3, hza3, hgr3, hFr3⟩
    have hpb3 : pb ∉ tb :: SR := by simp only [List.mem_cons, not_or]; exact ⟨hps.2, h.pbn.2.2⟩
    have hb3 := hFr3.keep hb2 hpb3
    have hsz2 := hFr.size
    have hD' : ∀ q ∈ SD', q ∉ tb :: SR := fun q hq => by
      simp only [List.mem_cons, not_or]
      rcases hgr q hq with p | p
      · exact ⟨fun e => hs.apD tb (by simp) (by rw [← e]; exact p), h.pr.ap q p⟩
      · exact ⟨fun e => by have := hlt tb (by simp); omega, fun hm => by have := h.pr.r.lt q hm; omega⟩
    have hL' : LD w0 w3 gd SD' t' := hL.keepS hFr3 (fun q hq hm => hD' q hm hq) (fun q hq => by
      rcases List.mem_cons.1 hq with rfl | hq
      · exact hs.new _ (by simp)
      · exact h.pr.r.new q hq)
    have hapD' : ∀ q ∈ [sb, fb, ab, tb, ab2], q ∉ SD' := fun q hq hm => by
      rcases hgr q hm with p | p
      · exact hs.apD q hq p
      · have := hlt q hq; omega
    have hapR' : ∀ q ∈ [sb, fb, ab, tb, ab2], q ∉ SR' := fun q hq hm => by
      rcases hgr3 q hm with p | p
      · exact hs.apR q hq p
      · have := hlt q hq; omega
    have hsa3 : SaM w3 sb gd fb ab fo' fc' ac slot zs k' := hsa2.keep hFr3 (by simp only [List.mem_cons, not_or]; exact ⟨hne.1, hs.apR _ (by simp)⟩) (by simp only [List.mem_cons, not_or]; exact ⟨fun e => hne.2.2.1 e.symm, hs.apR _ (by simp)⟩) (by simp only [List.mem_cons, not_or]; exact ⟨fun e => hne.2.2.2 e.symm, hs.apR _ (by simp)⟩)
    refine ⟨rfl, hbx _ hb3, SD', SR', ⟨⟨hL', hL3, fun q hq hm => ?_⟩, hb3, ⟨h.pbn.1, fun hm => ?_, fun hm => ?_⟩, Or.inr ⟨sb, fb, ab, tb, ab2, slot, zs, k', rfl, rfl, e3, ⟨fo', fc', ac, hsa3⟩, ⟨ac2, hza3⟩, hapD', hapR', hs.new⟩⟩, ?_⟩
    · rcases hgr3 q hm with p | p
      · exact hD' q hq (List.mem_cons_of_mem _ p)
      · have := hL.lt q hq; omega
    · rcases hgr pb hm with p | p
      · exact h.pbn.2.1 p
      · omega
    · rcases hgr3 pb hm with p | p
      · exact h.pbn.2.2 p
      · omega
    · refine ⟨(hFr.mono (fun x hx _ => ?_)).then (hFr3.mono (fun x hx _ => ?_)), fun q hq => ?_⟩
      · rcases List.mem_cons.1 hx with rfl | hx
        · exact mem_Ow.2 (Or.inr (Or.inr (Or.inr (hin _ (by simp)))))
        · exact mem_Ow.2 (Or.inr (Or.inl hx))
      · rcases List.mem_cons.1 hx with rfl | hx
        · exact mem_Ow.2 (Or.inr (Or.inr (Or.inr (hin _ (by simp)))))
        · exact mem_Ow.2 (Or.inr (Or.inr (Or.inl hx)))
      · rcases mem_Ow.1 hq with p | p | p | p
        · exact Or.inl (mem_Ow.2 (Or.inl p))
        · rcases hgr q p with r | r
          · exact Or.inl (mem_Ow.2 (Or.inr (Or.inl r)))
          · exact Or.inr r
        · rcases hgr3 q p with r | r
          · exact Or.inl (mem_Ow.2 (Or.inr (Or.inr (Or.inl r))))
          · exact Or.inr (by omega)
        · exact Or.inl (mem_Ow.2 (Or.inr (Or.inr (Or.inr p))))
set_option maxHeartbeats 4000000 in
set_option maxRecDepth 100000 in
theorem does_step {w0 w : World} {pb gd gr : Nat} {SD SR SS : List Nat} {t : Sk} {vs vt : Value} (h : Ts w0 w pb gd gr SD SR t vs vt SS) (hn : t.n < 2^40) (K m slot at_ n : Int) (b1 h1 bo : Option Addr) (L1 c1 L2 c2 M cb : Nat) (hK : K ≠ 1 ∧ K ≠ 3 ∧ K ≠ 4 ∧ K ≠ 5 ∧ K ≠ 6) :
    Calls Tryz.prog 8 #[.pointer (some ⟨pb, 0, none⟩), .agg #[.int .u8 K, .int .i64 m, .slice b1 L1 c1, .slice h1 L2 c2, .int .i64 slot, .int .i64 at_, .slice bo M cb, .int .i64 n]] w fun e w' => DoP w0 pb gd gr SD SR SS t w e w' := by
  have y1 : (K == 1) = false := by simpa using hK.1
  have y3 : (K == 3) = false := by simpa using hK.2.1
  have y4 : (K == 4) = false := by simpa using hK.2.2.1
  have y5 : (K == 5) = false := by simpa using hK.2.2.2.1
  have y6 : (K == 6) = false := by simpa using hK.2.2.2.2
  obtain ⟨w1, HW1⟩ : ∃ w1, Hid (w.alloc (.cells #[.int .u8 K, .int .i64 m, .slice b1 L1 c1, .slice h1 L2 c2, .int .i64 slot, .int .i64 at_, .slice bo M cb, .int .i64 n] 60) = w1) := ⟨_, rfl⟩
  have hF1 : Fr [] w w1 := by rw [← HW1.out]; exact Fr.alloc [] w _
  obtain ⟨ob, hob⟩ : ∃ ob, ob = w.heap.size := ⟨_, rfl⟩
  have hb1 : w1.heap[ob]? = some (.cells #[.int .u8 K, .int .i64 m, .slice b1 L1 c1, .slice h1 L2 c2, .int .i64 slot, .int .i64 at_, .slice bo M cb, .int .i64 n] 60 (0, 0)) := by rw [← HW1.out, hob]; exact heap_alloc_new w _
  have hFd : Fr [] w w1.drew := hF1.then (Fr.drew [] w1)
  have hTd := h.quiet hFd
  obtain ⟨E, t', hn', hC⟩ := two_step hTd hn
  have HC : Hid (Calls _ _ _ _ _) := hC
  have HF : Hid (Fr [] w w1.drew ∧ t'.n ≤ t.n + 1) := ⟨hFd, hn'⟩
  have k0 : w1.cell? ⟨ob, 0, none⟩ = some (.int .u8 K) := by rw [cell_of_row _ _ _ _ _ _ hb1]; rfl
  have p1 : w1.drew.cell? ⟨pb, 1, none⟩ = some vs := by rw [cell_of_row _ _ _ _ _ _ hTd.box]; rfl
  have p3 : w1.drew.cell? ⟨pb, 3, none⟩ = some vt := by rw [cell_of_row _ _ _ _ _ _ hTd.box]; rfl
  clear h hn hb1 hTd hF1 hFd hC hn' hK
  go_enter Tryz.func8, Tryz.ntmps8
  go_upto_region 1 with fail
  rw [HW1.out, ← hob]
  clear HW1 hob
  go_upto_region 20 with fail
  clear k0
  go_loud (go_region_held3 (fun W => W.cell? ⟨pb, 1, none⟩ = some vs ∧ W.cell? ⟨pb, 3, none⟩ = some vt) (go_keep)
    (first
    | (go_at_call 11; with_reducible refine HC.out.mono ?_; rintro e2 w2 ⟨rfl, q1, HC2⟩; have l1 := q1 1 _ rfl; have l3 := q1 3 _ rfl; clear q1)
    | (go_at_call 27; with_reducible refine HC2.out.mono ?_; rintro e3 w3 ⟨rfl, q1, HR3⟩; have m1 := q1 1 _ rfl; have m3 := q1 3 _ rfl; clear q1)))
  have HR : Hid (DoP w0 pb gd gr SD SR SS t w (.returned (.bool true)) w3) := by
    obtain ⟨SD', SR', a1, a2⟩ := HR3.out
    exact ⟨rfl, SD', SR', t', _, _, SS, a1, HF.out.2, (To.quiet HF.out.1).then a2⟩
  clear HR3 HC HC2
  go_wp2
  go_ret
  exact HR.out
end Go.Proofs.YtembflnhhfliaaaGreatDoor
