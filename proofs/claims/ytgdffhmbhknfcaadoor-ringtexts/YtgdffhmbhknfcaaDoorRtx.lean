/- The walk of the law RingTexts. Conditions: how its arguments lie in memory; the table of powers of ten. -/
import Derived.Test.YtgdffhmbhknfcaaDoorPt10
import Derived.Test.YtgdffhmbhknfcaaDoorOp10
import Derived.Laws.EntriesVeiled
namespace Go.Proofs.YtgdffhmbhknfcaaDoor
open Go.ChangeShapes Go.WideShapes Go.ChangeAt Go.RowKit Go.Lib Go.Maps Go.Sort
set_option linter.unusedVariables false
set_option linter.unusedSimpArgs false
attribute [local go_sem] Oper.semAt_some

theorem results_cell1 {fn : Func} {p : Tmp} {ty : TypeId} (h : fn.results = #[.cell p ty]) (tmps : Array Value) (P : Program) (w : World) :
    (results fn tmps).run P w = ((asAddr (tmps.getD p undef)).run P w).andThen fun a w₁ => (loadVar ty a).run P w₁ := by
  simp only [results, h]
  simp [Sem.run_bind, Result.andThen]
/-- Between two rounds of the loop over the texts. -/
structure Lt (w0 : World) (Bn Bw lr D : Nat) (rec : Loop) (i : Nat) (sl : Value) (W : World) : Prop where
  nb : W.heap[Bn]? = some (.cells #[.int .i64 (i : Int)] 3 (0, 0))
  wb : W.heap[Bw]? = some (.cells #[sl] 39 (0, 0))
  lp : W.heap[lr]? = some (.loop rec)
  df : W.heap[D]? = some (.deferred (some []))
  fr : Fr [] w0 W
structure Dt (w0 : World) (Bn Bw lr D : Nat) : Prop where
  a0 : w0.heap.size ≤ Bn
  a1 : w0.heap.size ≤ Bw
  a2 : Bn ≠ Bw
  a3 : Bn < D
  a4 : Bw < D
  a5 : D < lr
theorem Lt.quiet {w0 W W' : World} {Bn Bw lr D i : Nat} {rec : Loop} {sl : Value} (h : Lt w0 Bn Bw lr D rec i sl W) (hf : Fr [] W W') : Lt w0 Bn Bw lr D rec i sl W' :=
  ⟨hf.keep h.nb (by simp), hf.keep h.wb (by simp), hf.keep h.lp (by simp), hf.keep h.df (by simp), h.fr.then hf⟩
theorem Lt.rec_ {w0 W : World} {Bn Bw lr D i : Nat} {rec : Loop} {sl : Value} (d : Dt w0 Bn Bw lr D) (h : Lt w0 Bn Bw lr D rec i sl W) (rec' : Loop) : Lt w0 Bn Bw lr D rec' i sl (W.putObj lr (.loop rec')) := by
  obtain ⟨d0, d1, d2, d3, d4, d5⟩ := d
  have hf := Fr.putObj W lr (.loop rec')
  exact ⟨hf.keep h.nb (by simp; omega), hf.keep h.wb (by simp; omega), World.putObj_heap_same (Array.getElem?_eq_some_iff.1 h.lp).1, hf.keep h.df (by simp; omega), h.fr.on hf (fun x hx => by simp at hx; omega)⟩
theorem Lt.inc {w0 W : World} {Bn Bw lr D i : Nat} {rec : Loop} {sl : Value} (d : Dt w0 Bn Bw lr D) (h : Lt w0 Bn Bw lr D rec i sl W) : Lt w0 Bn Bw lr D rec (i + 1) sl (W.setCell ⟨Bn, 0, none⟩ (.int .i64 ((i : Int) + 1))) ∧ Fr [Bn] W (W.setCell ⟨Bn, 0, none⟩ (.int .i64 ((i : Int) + 1))) := by
  obtain ⟨d0, d1, d2, d3, d4, d5⟩ := d
  have hf : Fr [Bn] W (W.setCell ⟨Bn, 0, none⟩ (.int .i64 ((i : Int) + 1))) := Fr.set _ _ _ (by simp)
  refine ⟨⟨?_, hf.keep h.wb (by simp; omega), hf.keep h.lp (by simp; omega), hf.keep h.df (by simp; omega), h.fr.on hf (fun x hx => by simp at hx; omega)⟩, hf⟩
  rw [vrow_setCell _ h.nb]
  rfl
set_option maxHeartbeats 16000000 in
set_option maxRecDepth 100000 in
theorem rtx_in (c0 : Nat) (hc0 : c0 ≤ 255) (ao : Option Addr) (L cap : Nat) (os : List (Nat × Int)) (w : World) (hA : OArg w ao L cap os) (htab : Bq.Tab w) :
    CallsIn Fence.wide 3 Tryd.prog 3 #[.int .u8 (c0 : Int), .slice ao L cap] w fun e w' => e = .returned (.bool true) ∧ Fr [] w w' := by
  have HA : Hid (OArg w ao L cap os) := hA
  have HTab : Hid (∀ W, Fr [] w W → Bq.Tab W) := fun W hf => htab.keep hf (by simp)
  have hLm := hA.most
  clear hA htab
  have hb0 : (w.alloc (.cells #[.bool false] 4)).heap[w.heap.size]? = some (.cells #[.bool false] 4 (0, 0)) := heap_alloc_new w _
  have hF0 : Fr [] w (w.alloc (.cells #[.bool false] 4)) := Fr.alloc _ _ _
  refine callsIn_of_wp_marks Tryd.func3 rfl trivial ?_ rfl
  simp only [Tryd.ntmps3, List.size_toArray, List.length_cons, List.length_nil, Nat.reduceAdd, Nat.reduceSub, Array.replicate_succ, Array.replicate_zero, List.push_toArray, List.append_toArray, List.nil_append, List.cons_append]
  by_cases hbig : 5000 < L
  · have hb1 : (5000 : Int) < (L : Int) := by omega
    have z0 : (w.alloc (.cells #[.bool false] 4)).cell? ⟨w.heap.size, 0, none⟩ = some (.bool false) := by rw [cell_of_row _ _ _ _ _ _ hb0]; rfl
    gi_wp2
    refine ⟨.bool true, ?_, rfl, Fr.alloc _ _ _⟩
    have hb2 := heap_alloc_new w (.cells #[.bool true] 4)
    have z2 : (w.alloc (.cells #[.bool true] 4)).cell? ⟨w.heap.size, 0, none⟩ = some (.bool true) := by rw [cell_of_row _ _ _ _ _ _ hb2]; rfl
    rw [results_cell1 rfl]
    go_simp
  · have hb1 : ¬ (5000 : Int) < (L : Int) := by omega
    have hdd : decide ((5000 : Int) < (L : Int)) = false := by simp; omega
    obtain ⟨C, hC⟩ : ∃ C : Nat, C = 1 + c0 := ⟨_, rfl⟩
    have hC1 : 1 ≤ C ∧ C ≤ 256 := by omega
    have hq1 : (1 : Int) + (c0 : Int) = (C : Int) := by omega
    clear hC
    have N1 : Hid (∀ W, Calls _ _ _ _ _) := fun W => gnew_any (C : Int) W (by omega)
    have N2 : Hid (∀ W, Calls _ _ _ _ _) := fun W => qnew_any (C : Int) W (by omega)
    gi_wp2_with fail
    obtain ⟨w1, HW1⟩ : ∃ w1, Hid (w.alloc (.cells #[.bool false] 4) = w1) := ⟨_, rfl⟩
    rw [HW1.out] at hb0 hF0 ⊢
    obtain ⟨rb, hrb⟩ : ∃ rb, rb = w.heap.size := ⟨_, rfl⟩
    rw [← hrb] at hb0 ⊢
    have hrbw : w.heap.size ≤ rb := by omega
    clear HW1 hrb
    refine ⟨trivial, (callsIn_wide.2 (N1.out _)).mono ?_⟩
    rintro e w2 ⟨g, rfl, hg, hR2, hF2⟩
    gi_wp2_with fail
    refine ⟨trivial, (callsIn_wide.2 (N2.out _)).mono ?_⟩
    rintro e w3 ⟨q, rfl, hq, hQ3, hF3⟩
    rw [show ((C : Int)).toNat = C by omega] at hR2 hQ3
    have HT : Hid (T2 w w3 rb g q (Rg.own g none) [q] C []) := by
      have h1 := hF0.size
      have h2 := hF2.size
      have h3 := hR2.lt
      have h4 := lt_of_block hb0
      refine ⟨⟨none, rfl, hR2.same hF3⟩, ⟨none, 0, 0, rfl, hQ3⟩, ?_, (hF2.then hF3).keep hb0 (by simp), ?_, ?_, by simp, hF0.then (hF2.then hF3)⟩
      · intro b hb; simp [Rg.own] at hb; simp; omega
      · intro b hb; simp [Rg.own] at hb; omega
      · intro b hb; simp [Rg.own] at hb; omega
    clear hR2 hQ3 hF2 hF3 hg hq N1 N2 hb0 hF0
    gi_wp2_with fail
    gi_loopw [9] (fun ii wr => ∃ (i : Nat) (O1 O2 : List Nat) (xs : List Int), ii = .int .i64 i ∧ i ≤ L ∧ Hid (T2 w wr rb g q O1 O2 C xs)) (fun ii _ => L - (RowKit.intOf ii).toNat)
    case atStart => exact ⟨0, _, _, [], rfl, Nat.zero_le _, HT⟩
    case round =>
      clear HT
      obtain ⟨i, O1, O2, xs, rfl, hiL, HT⟩ := hrel
      by_cases hi : i < L
      · obtain ⟨b, off, rfl, hbl, hat⟩ := HA.out.lies (by omega)
        obtain ⟨o, ho⟩ : ∃ o, o = os.getD i (0, 0) := ⟨_, rfl⟩
        have hoe := HA.out.each o (by rw [ho]; have := HA.out.len; simp [List.getD]; rw [List.getElem?_eq_getElem (by omega)]; simp)
        have HX : Hid (∀ W, Fr [] w W → W.cell? ⟨b, off + i * 2, none⟩ = some (.int .u8 (o.1 : Int)) ∧ W.cell? ⟨b, off + i * 2 + 1, none⟩ = some (.int .i64 o.2)) := fun W hf => by
          rw [ho]
          exact ⟨(World.cell?_of_block (hf.block b hbl (by simp))).trans (hat i hi).1, (World.cell?_of_block (hf.block b hbl (by simp))).trans (hat i hi).2⟩
        obtain ⟨k, X⟩ := o
        simp only at HX hoe
        have HoX : Hid (okI X) := hoe.2
        have hk255 : k ≤ 255 := hoe.1
        clear hat ho hoe
        obtain ⟨e0, e1⟩ := HX.out _ HT.out.fr
        by_cases hk2 : k = 2
        · subst hk2
          cases xs with
          | nil =>
            have P1 : Hid (Calls _ _ _ _ _) := pt_none HT.out.p
            gi_wp2_with fail
            refine ⟨trivial, (callsIn_wide.2 P1.out).mono ?_⟩
            rintro e w4 ⟨rfl, hP4, hF4⟩
            have P2 : Hid (Calls _ _ _ _ _) := qt_none (HT.out.qs hF4)
            gi_wp2_with fail
            refine ⟨trivial, (callsIn_wide.2 P2.out).mono ?_⟩
            rintro e w5 ⟨rfl, hQ5, hF5⟩
            have HT5 : Hid (T2 w w5 rb g q O1 O2 C []) := HT.out.two hP4 hF4 (Nw.refl _ _) hQ5 hF5 (Nw.refl _ _) (by simp)
            clear P1 P2 hP4 hF4 hQ5 hF5 HT e0 e1
            gi_wp2_with fail
            refine ⟨trivial, ?_⟩
            rename_i hK
            refine hK _ _ ?_
            clear hK
            gi_wp2
            exact ⟨⟨i + 1, _, _, _, by simp, by omega, HT5⟩, by simp [RowKit.intOf]; omega⟩
          | cons x xs =>
            have P1 : Hid (Calls _ _ _ _ _) := pt_take (it x) HT.out.p
            have hox := HT.out.ok x (by simp)
            gi_wp2_with fail
            refine ⟨trivial, (callsIn_wide.2 P1.out).mono ?_⟩
            rintro e w4 ⟨rfl, hP4, hF4⟩
            have P2 : Hid (Calls _ _ _ _ _) := qt_take x (HT.out.qs hF4)
            gi_wp2_with fail
            refine ⟨trivial, (callsIn_wide.2 P2.out).mono ?_⟩
            rintro e w5 ⟨rfl, hQ5, hF5⟩
            have hT5 := HT.out.two hP4 hF4 (Nw.refl _ _) hQ5 hF5 (Nw.refl _ _) (fun y hy => HT.out.ok y (by simp [hy]))
            have HT5 : Hid (T2 w w5 rb g q O1 O2 C xs) := hT5
            have P3 : Hid (Calls _ _ _ _ _) := itoa_all x hox w5 (HTab.out _ hT5.fr)
            obtain ⟨s, hs⟩ : ∃ s, s = it x := ⟨_, rfl⟩
            rw [← hs] at P3
            rw [← hs]
            have hss : (s.toList != s.toList) = false := by simp
            clear P1 P2 hP4 hF4 hQ5 hF5 HT e0 e1 hT5 hox hs
            gi_wp2_with fail
            refine ⟨trivial, (callsIn_wide.2 P3.out).mono ?_⟩
            rintro e w6 ⟨rfl, hF6⟩
            have HT6 : Hid (T2 w w6 rb g q O1 O2 C xs) := HT5.out.same hF6
            clear HT5 hF6 P3
            gi_wp2
            exact ⟨⟨i + 1, _, _, _, by simp, by omega, HT6⟩, by simp [RowKit.intOf]; omega⟩
        · have hkz : ¬ (k : Int) = 2 := by omega
          have hfw := HT.out.q.few
          have P1 : Hid (∀ W, Fr [] wr W → Calls _ _ _ _ _) := fun W hf => itoa_all X HoX.out W (HTab.out _ (HT.out.fr.then hf))
          obtain ⟨s, hs⟩ : ∃ s, s = it X := ⟨_, rfl⟩
          have HC : Hid (∃ (B : Bool) (xs' : List Int), (∀ V, Fr [] wr V → Calls Tryd.prog 9 #[.pointer (some ⟨g, 0, none⟩), .string s] V fun e W' => e = .returned (.bool B) ∧ ∃ O', PT W' g O' C (xs'.map it) ∧ Fr O1 V W' ∧ Nw V O1 O') ∧ (∀ V, Fr O1 wr V → Calls Tryd.prog 10 #[.pointer (some ⟨q, 0, none⟩), .int .i64 X] V fun e W' => e = .returned (.bool B) ∧ ∃ O', QT W' q O' C xs' ∧ Fr O2 V W' ∧ Nw V O2 O') ∧ ∀ y ∈ xs', okI y) := by
            by_cases hl : xs.length < C
            · refine ⟨true, xs ++ [X], fun V hf => ?_, fun V hf => qt_put X (HT.out.qs hf) hl, fun y hy => ?_⟩
              · have := pt_put s (HT.out.p.keep hf (by simp)) (by simpa using hl)
                rw [hs, List.map_append] at *
                exact this
              · rcases List.mem_append.1 hy with h | h
                · exact HT.out.ok y h
                · simp at h; subst h; exact HoX.out
            · exact ⟨false, xs, fun V hf => pt_full s (HT.out.p.keep hf (by simp)) (by simp; omega), fun V hf => qt_full X (HT.out.qs hf) (by omega), HT.out.ok⟩
          obtain ⟨B, xs', hC1, hC2, hC3⟩ := HC.out
          have C1 : Hid (∀ V, Fr [] wr V → _) := hC1
          have C2 : Hid (∀ V, Fr O1 wr V → _) := hC2
          have C3 : Hid (∀ y ∈ xs', okI y) := hC3
          have hBB : (B != B) = false := by cases B <;> rfl
          rw [← hs] at P1
          have HXo : Hid (∀ V, Fr O1 wr V → V.cell? ⟨b, off + i * 2 + 1, none⟩ = some (.int .i64 X)) := fun V hf => by
            have hnb : b ∉ O1 := fun hh => by have := HT.out.nw b (by simp [hh]); omega
            rw [World.cell?_of_block (hf.block b (by have := HT.out.fr.size; omega) hnb)]
            exact e1
          clear hC1 hC2 hC3 HC hs
          gi_wp2_with fail
          refine wpIn_wide.2 ?_
          go_region_held3 (fun V => V.cell? ⟨b, off + i * 2 + 1, none⟩ = some (.int .i64 X)) (go_keep)
            (first
              | (with_reducible refine Calls.mono (C2.out _ hG5) ?_; rintro e w6 ⟨rfl, O2', hQ6, hF6, hN6⟩; have e3 : w6.cell? ⟨b, off + i * 2 + 1, none⟩ = some (.int .i64 X) := (World.cell?_of_block (hF6.block b hb5 hnb2)).trans e2)
              | (with_reducible refine Calls.mono (C1.out _ hG4) ?_; rintro e w5 ⟨rfl, O1', hP5, hF5, hN5⟩; have hG5 : Fr O1 wr w5 := (hG4.mono (by simp)).then hF5; have e2 := HXo.out _ hG5; have hb5 : b < w5.heap.size := (by have := HT.out.fr.size; have := hG5.size; omega); have hnb2 : b ∉ O2 := fun hh => (by have := HT.out.nw b (by simp [hh]); omega))
              | (with_reducible refine Calls.mono (P1.out _ (Fr.drew _ _)) ?_; rintro e w4 ⟨rfl, hF4⟩; have hG4 : Fr [] wr w4 := (Fr.drew _ wr).then hF4; have e4 := HXo.out _ (hG4.mono (by simp))))
          all_goals (
            have HT6 : Hid (T2 w w6 rb g q O1' O2' C xs') := (HT.out.same hG4).two hP5 hF5 hN5 hQ6 hF6 hN6 C3.out
            clear hP5 hF5 hN5 hQ6 hF6 hN6 hG4 hG5 HT C1 C2 C3 P1 HXo hb5 hnb2
            gi_wp2
            exact ⟨⟨i + 1, _, _, _, by simp, by omega, HT6⟩, by simp [RowKit.intOf]; omega⟩)
      · have hfw := HT.out.q.few
        obtain ⟨lo, n, c, _, hQM⟩ := HT.out.q
        have hnl := hQM.row.len
        have HNl : Hid (n = xs.length) := hnl
        have hn256 : n ≤ 65536 := by omega
        have HQR : Hid (∀ W, Fr [] wr W → QR W lo n c xs) := fun W hf => hQM.row.keep hf (by simp)
        have Q1 : Hid (Calls _ _ _ _ _) := qall_any wr hQM
        obtain ⟨pb, _, hRg⟩ := HT.out.p
        have HTl : Hid (∀ W, Fr [] wr W → Tells W (some ⟨g, 0, none⟩) (xs.map it)) := fun W hf => tells_any (hRg.same hf)
        have HrB : Hid (wr.heap[rb]? = some (.cells #[.bool false] 4 (0, 0))) := HT.out.rs
        have HOk : Hid (∀ x ∈ xs, okI x) := HT.out.ok
        have HFr : Hid (Fr [] w wr) := HT.out.fr
        clear HT hQM hnl hRg hfw
        gi_wp2_with fail
        refine ⟨trivial, (callsIn_wide.2 Q1.out).mono ?_⟩
        rintro e w4 ⟨rfl, hF4⟩
        clear Q1
        -- the two variables
        have hW5 : (w4.alloc (.cells #[.slice lo n c] 39)).heap[w4.heap.size]? = some (.cells #[.slice lo n c] 39 (0, 0)) := heap_alloc_new w4 _
        have hN6 : ((w4.alloc (.cells #[.slice lo n c] 39)).alloc (.cells #[.int .i64 0] 3)).heap[w4.heap.size + 1]? = some (.cells #[.int .i64 0] 3 (0, 0)) := by
          have := heap_alloc_new (w4.alloc (.cells #[.slice lo n c] 39)) (.cells #[.int .i64 0] 3)
          rwa [World.size_alloc] at this
        have hF6 : Fr [] w4 ((w4.alloc (.cells #[.slice lo n c] 39)).alloc (.cells #[.int .i64 0] 3)) := (Fr.alloc [] _ _).then (Fr.alloc [] _ _)
        have hW6 := (Fr.alloc [] (w4.alloc (.cells #[.slice lo n c] 39)) (.cells #[.int .i64 0] 3)).keep hW5 (by simp)
        have hs6 : ((w4.alloc (.cells #[.slice lo n c] 39)).alloc (.cells #[.int .i64 0] 3)).heap.size = w4.heap.size + 2 := by simp
        gi_wp2_with fail
        obtain ⟨w6, HW6⟩ : ∃ w6, Hid ((w4.alloc (.cells #[.slice lo n c] 39)).alloc (.cells #[.int .i64 0] 3) = w6) := ⟨_, rfl⟩
        rw [HW6.out] at hN6 hF6 hW6 hs6 ⊢
        obtain ⟨Bw, hBw⟩ : ∃ Bw, Bw = w4.heap.size := ⟨_, rfl⟩
        obtain ⟨Bn, hBn⟩ : ∃ Bn, Bn = w4.heap.size + 1 := ⟨_, rfl⟩
        rw [← hBn] at hN6 ⊢
        rw [← hBw] at hW6 ⊢
        have HO1 : Hid (Bw = w4.heap.size ∧ Bn = w4.heap.size + 1 ∧ w6.heap.size = w4.heap.size + 2) := ⟨hBw, hBn, hs6⟩
        clear HW6 hBw hBn hs6 hW5
        refine ⟨trivial, (callsIn_wide.2 (gall_any (some ⟨g, 0, none⟩) w6)).mono ?_⟩
        rintro e w6' ⟨rfl, rfl⟩
        have hC7 : (w6.alloc (.cells #[.pointer (some ⟨g, 0, none⟩)] 23)).cell? ⟨w6.heap.size, 0, none⟩ = some (.pointer (some ⟨g, 0, none⟩)) := by rw [cell_of_row _ _ _ _ _ _ (heap_alloc_new w6 _)]; rfl
        have hF7 : Fr [] w6 (w6.alloc (.cells #[.pointer (some ⟨g, 0, none⟩)] 23)) := Fr.alloc _ _ _
        have hs7 : (w6.alloc (.cells #[.pointer (some ⟨g, 0, none⟩)] 23)).heap.size = w6.heap.size + 1 := by simp
        obtain ⟨bb, hbb⟩ : ∃ bb, bb = w6.heap.size := ⟨_, rfl⟩
        obtain ⟨w7, HW7⟩ : ∃ w7, Hid (w6.alloc (.cells #[.pointer (some ⟨g, 0, none⟩)] 23) = w7) := ⟨_, rfl⟩
        rw [HW7.out] at hC7 hF7 hs7 ⊢
        rw [← hbb] at hC7 ⊢
        have HO2 : Hid (bb = w6.heap.size ∧ w7.heap.size = w6.heap.size + 1) := ⟨hbb, hs7⟩
        clear HW7 hbb hs7
        gi_wp2_with fail
        refine range_of rfl (fun _ => True.intro) rfl (gf := 19) (lb := #[.pointer (some ⟨bb, 0, none⟩)]) rfl (enters_of Tryd.func19 (by kernel_rfl) rfl) ?_
        intro fn RC HRC
        obtain ⟨D, hD⟩ : ∃ D, D = w7.heap.size := ⟨_, rfl⟩
        obtain ⟨lr, hlr⟩ : ∃ lr, lr = w7.heap.size + 1 := ⟨_, rfl⟩
        have hF8 : Fr [] w7 ((w7.alloc (.deferred (some []))).alloc (.loop (RC .ready none))) := (Fr.alloc [] _ _).then (Fr.alloc [] _ _)
        have hL8 : ((w7.alloc (.deferred (some []))).alloc (.loop (RC .ready none))).heap[w7.heap.size + 1]? = some (.loop (RC .ready none)) := by
          have := World.alloc_heap_new (w7.alloc (.deferred (some []))) (.loop (RC .ready none)); rwa [World.size_alloc] at this
        have hK8 : ((w7.alloc (.deferred (some []))).alloc (.loop (RC .ready none))).heap[w7.heap.size]? = some (.deferred (some [])) :=
          (Below.heap_alloc _ _ _ (by simp)).trans (World.alloc_heap_new w7 _)
        have hs8 : ((w7.alloc (.deferred (some []))).alloc (.loop (RC .ready none))).heap.size = w7.heap.size + 2 := by simp
        obtain ⟨w8, HW8⟩ : ∃ w8, Hid ((w7.alloc (.deferred (some []))).alloc (.loop (RC .ready none)) = w8) := ⟨_, rfl⟩
        rw [HW8.out] at hF8 hL8 hK8 hs8 ⊢
        rw [← hlr] at hL8 ⊢
        rw [← hD] at HRC hK8 ⊢
        obtain ⟨hBw, hBn, hs6⟩ := HO1.out
        obtain ⟨hbb, hs7⟩ := HO2.out
        have hC8 : w8.cell? ⟨bb, 0, none⟩ = some (.pointer (some ⟨g, 0, none⟩)) := (World.cell?_of_block (hF8.block bb (by omega) (by simp))).trans hC7
        have hDt : Dt w4 Bn Bw lr D := ⟨by omega, by omega, by omega, by omega, by omega, by omega⟩
        have hbl : bb < w8.heap.size := by omega
        have hl8 : lr < w8.heap.size := by omega
        have hG8 := (hF6.then hF7).then hF8
        have hA0 : Lt w4 Bn Bw lr D (RC .ready none) 0 (.slice lo n c) w8 := ⟨hF8.keep (hF7.keep hN6 (by simp)) (by simp), hF8.keep (hF7.keep hW6 (by simp)) (by simp), hL8, hK8, hG8⟩
        have hT8 := HTl.out w8 (hF4.then hG8)
        clear hD hlr hs8 HW8 hBn hBw hs6 hs7 hbb hC7 hF6 hF7 hF8 hL8 hK8 hN6 hW6
        have HDt : Hid (Dt w4 Bn Bw lr D) := hDt
        refine (hT8 1 lr bb w8 (fun s i W => Lt w4 Bn Bw lr D (RC .ready none) i (.slice lo n c) W) (fun s i W => False) (fun i => true) (Fr.refl _ _) hC8 hbl (fun s hs => hA0) ?_ ?_).mono ?_
        · rintro s i W W' h hf
          exact h.quiet hf
        · rintro s i W hL hsW hsw hix
          rw [List.length_map] at hix
          refine round_of1 HRC hL.lp ?_
          have hbr := begin_of (P := Tryd.prog) HRC hL.lp
          have hLb := hL.rec_ hDt (RC .busy none)
          have hszb : (W.putObj lr (.loop (RC .busy none))).heap.size = W.heap.size := by simp
          have hfb := Fr.putObj W lr (.loop (RC .busy none))
          obtain ⟨Wb, HWb⟩ : ∃ Wb, Hid (W.putObj lr (.loop (RC .busy none)) = Wb) := ⟨_, rfl⟩
          rw [HWb.out] at hbr hLb hszb hfb
          obtain ⟨x, hxx⟩ : ∃ x, x = xs.getD i 0 := ⟨_, rfl⟩
          have hmx : x ∈ xs := by rw [hxx]; simp [List.getD, hix]
          have hsx : (xs.map it).getD i ⟨#[]⟩ = it x := by rw [hxx]; simp [List.getD, hix]
          rw [hsx]
          have hin : i < n := by have := HNl.out; omega
          obtain ⟨b9, off9, rfl, hc9⟩ := (HQR.out Wb (hF4.then hLb.fr)).lies (by omega)
          have x0 : Wb.cell? ⟨Bn, 0, none⟩ = some (.int .i64 (i : Int)) := by rw [cell_of_row _ _ _ _ _ _ hLb.nb]; rfl
          have x2 : Wb.cell? ⟨Bw, 0, none⟩ = some (.slice (some ⟨b9, off9, none⟩) n c) := by rw [cell_of_row _ _ _ _ _ _ hLb.wb]; rfl
          have x3 := hc9 i hin
          rw [← hxx] at x3
          have P3 : Hid (Calls _ _ _ _ _) := itoa_all x (HOk.out x hmx) Wb (HTab.out _ (HFr.out.then (hF4.then hLb.fr)))
          obtain ⟨t, ht⟩ : ∃ t, t = it x := ⟨_, rfl⟩
          rw [← ht] at P3 ⊢
          have hss : (t.toList != t.toList) = false := by simp
          have HLb : Hid (Lt w4 Bn Bw lr D (RC .busy none) i (.slice (some ⟨b9, off9, none⟩) n c) Wb) := hLb
          have Hfb : Hid (Fr [lr] W Wb ∧ Wb.heap.size = W.heap.size) := ⟨hfb, hszb⟩
          clear hL hLb HWb hxx hmx hsx hc9 ht hfb hszb
          simp only [List.setIfInBounds_toArray, List.set_cons_succ, List.set_cons_zero]
          gi_wp2_with (rw [Oper.semAt_eq _ _ _ (fun c h => by cases h)]; go_simp; try go_bits)
          refine ⟨trivial, ((callsIn_wide.2 P3.out).inRound lr).mono ?_⟩
          rintro e Wc ⟨rfl, hFc⟩
          have hLc := HLb.out.quiet hFc
          have y0 : Wc.cell? ⟨Bn, 0, none⟩ = some (.int .i64 (i : Int)) := by rw [cell_of_row _ _ _ _ _ _ hLc.nb]; rfl
          have y1 : Wc.frozen? ⟨Bn, 0, none⟩ = false := by simp [World.frozen?, hLc.nb]
          have HLc : Hid (Lt w4 Bn Bw lr D (RC .busy none) i (.slice (some ⟨b9, off9, none⟩) n c) Wc ∧ Fr [] Wb Wc) := ⟨hLc, hFc⟩
          clear hLc hFc x0 x2 x3 P3
          gi_wp2_with (rw [Oper.semAt_eq _ _ _ (fun c h => by cases h)]; go_simp; try go_bits)
          obtain ⟨hL5, hF5⟩ := HLc.out.1.inc HDt.out
          have hend := end_of (P := Tryd.prog) HRC hL5.lp none
          have hA5 := hL5.rec_ HDt.out (RC .ready none)
          have hf6 := Fr.putObj (Wc.setCell ⟨Bn, 0, none⟩ (.int .i64 ((i : Int) + 1))) lr (.loop (RC .ready none))
          have d0 := HDt.out.a3
          have d1 := HDt.out.a5
          have hz1 := Hfb.out.2
          have hz2 := HLc.out.2.size
          have hz3 := hF5.size
          have hz4 : W.heap.size ≤ (Wc.setCell ⟨Bn, 0, none⟩ (.int .i64 ((i : Int) + 1))).heap.size := by omega
          refine ⟨_, _, hend, rfl, hA5, Nat.le_trans hz4 hf6.size, fun k h1 h2 => ?_⟩
          have e1 := hf6.block k (by omega) (by simp; omega)
          have e2 := hF5.block k (by omega) (by simp; omega)
          have e3 := HLc.out.2.block k (by omega) (by simp)
          have e4 := Hfb.out.1.block k (by omega) (by simp; omega)
          exact e1.trans (e2.trans (e3.trans e4))
        · rintro e W3 ⟨⟨v0, rfl⟩, s, hEnd⟩
          rw [List.length_map] at hEnd
          have hL : Lt w4 Bn Bw lr D (RC .ready none) xs.length (.slice lo n c) W3 := by
            rcases hEnd with h | ⟨_, _, h, _⟩
            · exact h
            · cases h
          rw [← HNl.out] at hL
          have hle := loop_end_of (P := Tryd.prog) HRC hL.lp (by simp)
          have hL4 := hL.rec_ HDt.out (RC .exhausted none)
          obtain ⟨W4, HW4⟩ : ∃ W4, Hid (W3.putObj lr (.loop (RC .exhausted none)) = W4) := ⟨_, rfl⟩
          rw [HW4.out] at hle hL4
          have x0 : W4.cell? ⟨Bn, 0, none⟩ = some (.int .i64 (n : Int)) := by rw [cell_of_row _ _ _ _ _ _ hL4.nb]; rfl
          have x2 : W4.cell? ⟨Bw, 0, none⟩ = some (.slice lo n c) := by rw [cell_of_row _ _ _ _ _ _ hL4.wb]; rfl
          have hrB4 := (hF4.then hL4.fr).keep HrB.out (by simp)
          have x4 : W4.cell? ⟨rb, 0, none⟩ = some (.bool false) := by rw [cell_of_row _ _ _ _ _ _ hrB4]; rfl
          have x5 : W4.frozen? ⟨rb, 0, none⟩ = false := by simp [World.frozen?, hrB4]
          have HRB4 : Hid (W4.heap[rb]? = some (.cells #[.bool false] 4 (0, 0))) := hrB4
          have HL4 : Hid (Lt w4 Bn Bw lr D (RC .exhausted none) n (.slice lo n c) W4) := hL4
          have hqq : ((n : Int) == (n : Int)) = true := by simp
          have HF4 : Hid (Fr [] wr w4) := hF4
          clear hL hL4 HRC hA0 hEnd hrB4 hT8 hF4
          refine ⟨none, W4, hle, ?_⟩
          clear hle
          gi_wp2_with fail
          have hfs : Fr [rb] W4 (W4.setCell ⟨rb, 0, none⟩ (.bool true)) := Fr.set _ _ _ (by simp)
          have hdr : D ≠ rb := by
            rintro rfl
            have := HRB4.out.symm.trans HL4.out.df
            simp at this
          have hd5 := hfs.keep HL4.out.df (by simp; exact hdr)
          have hF5 : Fr [D] (W4.setCell ⟨rb, 0, none⟩ (.bool true)) ((W4.setCell ⟨rb, 0, none⟩ (.bool true)).putObj D (.deferred none)) := Fr.putObj _ D _
          refine ⟨by simp, .inl ⟨_, _, rfl, run_takeDeferred hd5, ?_⟩⟩
          have hrb5 : ((W4.setCell ⟨rb, 0, none⟩ (.bool true)).putObj D (.deferred none)).heap[rb]? = some (.cells #[.bool true] 4 (0, 0)) := by
            refine hF5.keep ?_ (by simp; exact fun e => hdr e.symm)
            rw [vrow_setCell _ HRB4.out]
            rfl
          have z5 : ((W4.setCell ⟨rb, 0, none⟩ (.bool true)).putObj D (.deferred none)).cell? ⟨rb, 0, none⟩ = some (.bool true) := by rw [cell_of_row _ _ _ _ _ _ hrb5]; rfl
          refine ⟨.bool true, ?_, rfl, ?_⟩
          · rw [results_cell1 rfl]
            go_simp
          · have h1 := HDt.out.a0
            have h2 := HDt.out.a3
            have h3 := (HFr.out.then HF4.out).size
            exact (((HFr.out.then HF4.out).then HL4.out.fr).on hfs (by intro y hy; simp at hy; omega)).on hF5 (by intro y hy; simp at hy; omega)
theorem rtx (c0 : Nat) (hc0 : c0 ≤ 255) (ao : Option Addr) (L cap : Nat) (os : List (Nat × Int)) (w : World) (hA : OArg w ao L cap os) (htab : Bq.Tab w) :
    Calls Tryd.prog 3 #[.int .u8 (c0 : Int), .slice ao L cap] w fun e w' => e = .returned (.bool true) ∧ Fr [] w w' := callsIn_wide.1 (rtx_in c0 hc0 ao L cap os w hA htab)
end Go.Proofs.YtgdffhmbhknfcaaDoor
