/- Texts of this claim laid together, one behind the other: contracts and plain lemmas; conditions as each names them. -/
import Derived.Test.YtdojhkgnnbdfkaaGreatGp31
import Derived.Deep.RegionLaw
/- The document's Decode. Conditions: fewer than 2^41 bytes. -/
namespace Go.Proofs.YtdojhkgnnbdfkaaGreat
open BigFrame Go.ChangeShapes Go.WideShapes Go.ChangeAt Go.RowKit Go.Lib Go.Maps
set_option linter.unusedVariables false
set_option linter.unusedSimpArgs false

/-- Live in the first loop. -/
def lv1 (xs : List Nat) (m z : Int) (i : Nat) (bs : List Int) (p : Nat) : Prop := ∃ n : Nat, z = n ∧ n ≤ 65536 ∧ i ≤ n ∧ dS xs = kB m (preL bs (dR dI (n - i) (xs.drop p)))
theorem lv1.go {xs : List Nat} {m z : Int} {i : Nat} {bs : List Int} {p p' n : Nat} (h : lv1 xs m z i bs p) (hi : (i : Int) < z) (hn : dN (xs.drop p) = .ok (n, xs.drop p')) : lv1 xs m z (i + 1) (bs ++ [(n : Int)]) p' := by
  obtain ⟨k, h1, h2, h3, h4⟩ := h
  refine ⟨k, h1, h2, by omega, ?_⟩
  rw [h4, show k - i = (k - (i + 1)) + 1 by omega, preL_step bs (dI_ok hn)]
theorem lv1.no {xs : List Nat} {m z : Int} {i : Nat} {bs : List Int} {p c : Nat} (h : lv1 xs m z i bs p) (hi : (i : Int) < z) (hn : dN (xs.drop p) = .error c) : deX xs c := by
  obtain ⟨k, h1, h2, h3, h4⟩ := h
  show dS xs = _
  rw [h4, show k - i = (k - (i + 1)) + 1 by omega, preL_err bs (dI_no hn)]
  rfl
theorem lv1.out {xs : List Nat} {m z : Int} {i : Nat} {bs : List Int} {p : Nat} (h : lv1 xs m z i bs p) (hi : ¬ (i : Int) < z) : dS xs = kK m bs (dL dK (xs.drop p)) := by
  obtain ⟨k, h1, h2, h3, h4⟩ := h
  rw [h4, show k - i = 0 by omega, preL_end]
  rfl
theorem dS_lim {xs r : List Nat} {s : Sd} (hb : ∀ y ∈ xs, y < 256) (h : dS xs = .ok (s, r)) : ∀ p ∈ s.ps, limK p := by
  unfold dS at h
  cases h1 : dI xs with
  | error e => rw [h1] at h; cases h
  | ok a =>
    obtain ⟨m, r1⟩ := a
    rw [h1] at h
    simp only at h
    have e1 := (dI_inv hb h1).1
    have hb1 : ∀ y ∈ r1, y < 256 := fun y hy => hb y (by rw [e1]; exact List.mem_append_right _ hy)
    cases h2 : dL dI r1 with
    | error e => rw [h2] at h; cases h
    | ok a2 =>
      obtain ⟨bs, r2⟩ := a2
      rw [h2] at h
      simp only at h
      have e2 := (dL_inv (e := encI) (G := fun _ => True) (fun hb h => ⟨(dI_inv hb h).1, trivial⟩) hb1 h2).1
      have hb2 : ∀ y ∈ r2, y < 256 := fun y hy => hb1 y (by rw [e2]; simp [hy])
      cases h3 : dL dK r2 with
      | error e => rw [h3] at h; cases h
      | ok a3 =>
        obtain ⟨ps, r3⟩ := a3
        rw [h3] at h
        simp only [Except.ok.injEq, Prod.mk.injEq] at h
        rw [← h.1]
        exact dLK_lim hb2 h3
set_option maxHeartbeats 32000000 in
set_option maxRecDepth 100000 in
theorem ydecode_any (ao : Option Addr) (L cap : Nat) (xs : List Nat) (w : World) (hB : Yb w ao L cap xs) :
    Calls Tryz.prog 85 #[.slice ao L cap] w fun e w' => DeP xs w e w' := by
  have HYb : Hid (∀ W, Fr [] w W → Yb W ao L cap xs) := fun W hf => ⟨hB.rs.fr5 hf, hB.low, hB.len, hB.le⟩
  obtain ⟨w1, HW1⟩ : ∃ w1, Hid ((w.alloc (.cells #[.int .i64 0, .slice none 0 0, .slice none 0 0] 27)).alloc (.cells #[.bool false, .slice ao L cap, .int .i64 0, .int .i64 0, .int .i64 0] 161) = w1) := ⟨_, rfl⟩
  have hF1 : Fr [] w w1 := by rw [← HW1.out]; exact (Fr.alloc [] w _).then (Fr.alloc [] _ _)
  have hb0 : w1.heap[w.heap.size]? = some (.cells #[.int .i64 0, .slice none 0 0, .slice none 0 0] 27 (0, 0)) := by rw [← HW1.out]; exact (Fr.alloc [] _ _).keep (heap_alloc_new w _) (by simp)
  have hbt : w1.heap[w.heap.size + 1]? = some (.cells #[.bool false, .slice ao L cap, .int .i64 0, .int .i64 0, .int .i64 0] 161 (0, 0)) := by
    rw [← HW1.out]
    have := heap_alloc_new (w.alloc (.cells #[.int .i64 0, .slice none 0 0, .slice none 0 0] 27)) (.cells #[.bool false, .slice ao L cap, .int .i64 0, .int .i64 0, .int .i64 0] 161)
    simpa using this
  obtain ⟨b0, hb0e⟩ : ∃ b, b = w.heap.size := ⟨_, rfl⟩
  obtain ⟨t, hte⟩ : ∃ t, t = w.heap.size + 1 := ⟨_, rfl⟩
  rw [← hb0e] at hb0
  rw [← hte] at hbt
  have hS1 : St w1 t ao L cap (fun p => p = 0) (fun _ => False) := Or.inl ⟨0, ⟨⟨hbt⟩, Nat.zero_le _⟩, rfl⟩
  have HN1 : Hid (Calls _ _ _ _ _) := number_st hS1 (HYb.out _ hF1)
  have HF1 : Hid (Fr [] w w1) := hF1
  have HRb : Hid (SB w1 b0 (.int .i64 0) (.slice none 0 0) (.slice none 0 0)) := ⟨hb0⟩
  have HNm : Hid (b0 = w.heap.size ∧ t = w.heap.size + 1 ∧ t < w1.heap.size) := ⟨hb0e, hte, lt_of_block hbt⟩
  clear hS1 hF1 hb0 hbt hB
  go_enter Tryz.func85, Tryz.ntmps85
  go_upto_region 2 with fail
  rw [HW1.out]
  rw [← hte, ← hb0e]
  clear HW1 hte hb0e
  go_wp2_with fail
  refine Calls.mono HN1.out ?_
  rintro e w2 ⟨z0, rfl, hF2, hS2⟩
  obtain ⟨w3, HW3⟩ : ∃ w3, Hid (w2.alloc (.cells #[.int .i64 z0, .slice none 0 0, .slice none 0 0] 27) = w3) := ⟨_, rfl⟩
  have hF3 : Fr [] w2 w3 := by rw [← HW3.out]; exact Fr.alloc _ _ _
  have hb3 : w3.heap[w2.heap.size]? = some (.cells #[.int .i64 z0, .slice none 0 0, .slice none 0 0] 27 (0, 0)) := by rw [← HW3.out]; exact heap_alloc_new w2 _
  obtain ⟨sb, hsb⟩ : ∃ sb, sb = w2.heap.size := ⟨_, rfl⟩
  rw [← hsb] at hb3
  have hD3 : Dy w w3 b0 t sb (.int .i64 z0) (.slice none 0 0) (.slice none 0 0) := by
    obtain ⟨g1, g2, g3⟩ := HNm.out
    have g4 := hF2.size
    have g5 := HF1.out.size
    exact ⟨⟨(HRb.out.keep hF2 (by simp; omega)).keep hF3 (by simp), ⟨hb3⟩, (HF1.out.on hF2 (by intro k hk; simp at hk; omega)).then hF3⟩, by omega, by omega, by omega, by omega, by omega, by omega⟩
  have hS3 := hS2.keep hF3 (by simp)
  have HD3 : Hid (Dy w w3 b0 t sb (.int .i64 z0) (.slice none 0 0) (.slice none 0 0)) := hD3
  have HN2 : Hid (Calls _ _ _ _ _) := number_st hS3 (HYb.out _ hD3.i.fr)
  clear HN1 hF2 hS2 hF3 hb3 hS3 hD3 HRb HNm HF1
  go_upto_region 3 with fail
  rw [HW3.out]
  rw [← hsb]
  clear HW3 hsb
  go_wp2_with fail
  refine Calls.mono HN2.out ?_
  rintro e w4 ⟨z1, rfl, hF4, hS4⟩
  have HD4 : Hid (Dy w w4 b0 t sb (.int .i64 z0) (.slice none 0 0) (.slice none 0 0)) := HD3.out.stepT hF4
  have HS4 : Hid (St w4 t ao L cap (lv1 xs z0 z1 0 []) (deX xs)) := hS4.imp (fun p' _ hp => by
      obtain ⟨p, n, ⟨q, n0, rfl, g1, rfl, g2⟩, g3, rfl, g4⟩ := hp
      rw [List.drop_zero] at g1
      exact ⟨n, rfl, g4, Nat.zero_le _, by rw [dS_kB g1, dL_of g3, preL_nil]; rfl⟩) (fun c hc => by
      rcases hc with (hc | ⟨p, rfl, g1⟩) | ⟨p, ⟨q, n0, rfl, g1, rfl, g2⟩, g3⟩
      · exact absurd hc (by simp)
      · rw [List.drop_zero] at g1; exact dS_m g1
      · rw [List.drop_zero] at g1; exact dS_b g1 (dL_no g3))
  clear HN2 hF4 hS4 HD3
  go_wp2_with fail
  go_loopw [7] (fun ii wr => ∃ (i : Nat) (yo : Option Addr) (c : Nat) (bs : List Int), ii = .int .i64 i ∧ i ≤ 65536 ∧ Hid (Dy w wr b0 t sb (.int .i64 z0) (.slice yo i c) (.slice none 0 0)) ∧ Hid (IOw w.heap.size wr yo i c bs) ∧ Hid (St wr t ao L cap (lv1 xs z0 z1 i bs) (deX xs))) (fun ii _ => z1.toNat - (RowKit.intOf ii).toNat)
  case atStart => exact ⟨0, none, 0, [], rfl, by omega, HD4, IOw.nil _ _, HS4⟩
  case round =>
    obtain ⟨i, yo, c, bs, rfl, hi5, HD, HO, HS⟩ := hrel
    obtain ⟨cd, hcd, hcase⟩ := HS.out.code
    by_cases hiz : (i : Int) < z1
    · rcases hcase with ⟨rfl, p, hl1, hl2⟩ | ⟨hc0, hYd, hde⟩
      · have hi6 : i < 65536 := by obtain ⟨k, h1, h2, h3, h4⟩ := hl2; omega
        have k1 := HD.out.i.sv.c1
        have HNq : Hid (∀ W, Fr [] wr W → Calls Tryz.prog 100 #[.pointer (some ⟨t, 0, none⟩)] W fun e w2 => ∃ z : Int, e = .returned (.int .i64 z) ∧ w2.cell? ⟨sb, 1, none⟩ = some (.slice yo i c) ∧ (w2.alloc (.cells #[.int .i64 z] 3)).cell? ⟨sb, 1, none⟩ = some (.slice yo i c) ∧ Hid (IOw w.heap.size (w2.alloc (.cells #[.int .i64 z] 3)) yo i c bs ∧ w.heap.size ≤ (w2.alloc (.cells #[.int .i64 z] 3)).heap.size ∧ (w2.alloc (.cells #[.int .i64 z] 3)).cell? ⟨w2.heap.size, 0, none⟩ = some (.int .i64 z) ∧ ∀ yo' c' w4, IOw w.heap.size w4 yo' (i + 1) c' (bs ++ [z]) → Fr (Value.slice yo i c).ownBlock.toList (w2.alloc (.cells #[.int .i64 z] 3)) w4 → (w4.frozen? ⟨sb, 1, none⟩ = false ∧ w4.cell? ⟨sb, 1, none⟩ = some (.slice yo i c)) ∧
            Hid (Dy w (w4.setCell ⟨sb, 1, none⟩ (.slice yo' (i + 1) c')) b0 t sb (.int .i64 z0) (.slice yo' (i + 1) c') (.slice none 0 0) ∧ IOw w.heap.size (w4.setCell ⟨sb, 1, none⟩ (.slice yo' (i + 1) c')) yo' (i + 1) c' (bs ++ [z]) ∧ St (w4.setCell ⟨sb, 1, none⟩ (.slice yo' (i + 1) c')) t ao L cap (lv1 xs z0 z1 (i + 1) (bs ++ [z])) (deX xs)))) := fun W hW => by
          have hSW : St W t ao L cap (lv1 xs z0 z1 i bs) (deX xs) := HS.out.keep hW (by simp)
          have hDW := HD.out.step0 hW
          have hOW := HO.out.keepS hW (by simp)
          refine (number_st hSW (HYb.out _ hDW.i.fr)).mono ?_
          rintro e w2 ⟨z, rfl, hF2, hS2⟩
          have hS2' : St w2 t ao L cap (lv1 xs z0 z1 (i + 1) (bs ++ [z])) (deX xs) := hS2.imp (fun p' _ hp => by
            obtain ⟨p, n, g1, g2, rfl, g3⟩ := hp
            exact g1.go hiz g2) (fun c hc => by
            rcases hc with hc | ⟨p, g1, g2⟩
            · exact hc
            · exact g1.no hiz g2)
          have hAp := fun yo' c' w4 => app_beyond (yo' := yo') (c' := c') (w4 := w4) (n := z) hDW hOW hSW.box hF2 hS2' (Fr.alloc [] w2 (.cells #[.int .i64 z] 3))
          refine ⟨z, rfl, (hDW.stepT hF2).i.sv.c1, ((hDW.stepT hF2).step0 (Fr.alloc [] _ _)).i.sv.c1, (hAp none 0 w2).2.1, ((hDW.stepT hF2).step0 (Fr.alloc [] _ _)).i.fr.size, cell_new1 w2 _ _, fun yo' c' w4 e1 e2 => ?_⟩
          obtain ⟨q1, q2, q3, q4, q5, q6⟩ := (hAp yo' c' w4).2.2 e1 e2
          exact ⟨⟨q2, q3⟩, q4, q5, q6⟩
        clear HD HO HS hl1 hl2
        go_wp2_with fail
        go_region_law (first
            | (refine step_appI w.heap.size _ (by rfl) _ _ (by rfl) yo i c bs (by rfl) HA3.out.1 ⟨w2.heap.size, 0, none⟩ 1 z (by rfl) HA3.out.2.2.1 (by omega) HA3.out.2.1 ?_; intro yo' c' w4 e1 e2 _; obtain ⟨⟨j0, j1⟩, HR4⟩ := HA3.out.2.2.2 yo' c' w4 e1 e2)
            | (go_simp; go_at_call 100; with_reducible refine (HNq.out _ (Fr.drew _ _)).mono ?_; rintro e w2 ⟨z, rfl, g1, g2, HA3⟩; dsimp only))
        all_goals (
          clear HA3 HNq
          go_wp2_with fail
          go_roundw
          case rel => exact ⟨i + 1, yo', c', _, by simp, by omega, HR4.out.1, HR4.out.2.1, HR4.out.2.2⟩
          case measure => simp [RowKit.intOf]; omega)
      · have HNd : Hid (Calls _ _ _ _ _) := ywnumber_dead hYd
        have HC0 : Hid (cd ≠ 0 ∧ deX xs cd) := ⟨hc0, hde⟩
        have hcb : ((cd : Int) != 0) = true := by rw [bne_iff_ne]; omega
        have hce : ((cd : Int) == 0) = false := by rw [beq_eq_false_iff_ne]; omega
        clear hYd hde hc0 HO HS
        rename World => wo
        go_wp2_with fail
        refine Calls.mono HNd.out ?_
        rintro e w8 ⟨rfl, rfl⟩
        clear HNd
        go_wp2_with fail
        go_loopw [8] (fun ii wq => ii = .int .i64 0 ∧ wq = w8) (fun _ _ => 0)
        case atStart => exact ⟨rfl, rfl⟩
        case round =>
          obtain ⟨rfl, rfl⟩ := hrel
          have z0 := HD.out.i.rb.c0
          have z1 := HD.out.i.rb.c1
          have z2 := HD.out.i.rb.c2
          have y0 := HD.out.i.rb.fz 0
          have y1 := HD.out.i.rb.fz 1
          have y2 := HD.out.i.rb.fz 2
          have hbt := HD.out.d1
          go_wp2_with fail
          go_region
          obtain ⟨W3, HW3⟩ : ∃ W3, Hid (((wr.setCell ⟨b0, 0, none⟩ (.int .i64 0)).setCell ⟨b0, 1, none⟩ (.slice none 0 0)).setCell ⟨b0, 2, none⟩ (.slice none 0 0) = W3) := ⟨_, rfl⟩
          obtain ⟨q0, q1, q2, hfs, hfin⟩ := HD.out.i.fin HD.out.n0 (.int .i64 0) (.slice none 0 0) (.slice none 0 0) HW3.out
          have HFin : Hid (Fr [] w W3) := hfin
          rw [HW3.out]
          clear hfin hfs z0 z1 z2 y0 y1 y2
          have d0 : W3.drew.cell? ⟨b0, 0, none⟩ = some (.int .i64 0) := q0
          have d1 : W3.drew.cell? ⟨b0, 1, none⟩ = some (.slice none 0 0) := q1
          have d2 : W3.drew.cell? ⟨b0, 2, none⟩ = some (.slice none 0 0) := q2
          clear q0 q1 q2
          go_wp2
          refine bodyPost_ret (v := .tuple #[.agg #[.int .i64 0, .slice none 0 0, .slice none 0 0], .int .i64 (cd : Int)]) (by rw [results_cell_tmp rfl]; go_simp) rfl ?_
          exact Or.inl ⟨cd, Or.inl HC0.out.2, HC0.out.1, rfl, HFin.out.then (Fr.drew _ _)⟩
    · rcases hcase with ⟨rfl, p, hl1, hl2⟩ | ⟨hc0, hYd, hde⟩
      · have HS5 : Hid (St wr t ao L cap (fun p => dS xs = kK z0 bs (dL dK (xs.drop p))) (fun _ => False)) := Or.inl ⟨p, hl1, hl2.out hiz⟩
        have Hi5 : Hid (i ≤ 65536) := hi5
        have HN8 : Hid (Calls _ _ _ _ _) := number_st HS5.out (HYb.out _ HD.out.i.fr)
        have HT0 : Hid (∃ cs, wr.heap[t]? = some (.cells cs 161 (0, 0))) := HS5.out.box
        clear hl1 hl2 HS HS5 hi5
        rename World => wo
        go_wp2_with fail
        refine Calls.mono HN8.out ?_
        rintro e w5 ⟨z2, rfl, hF5, hS5⟩
        have HD5 : Hid (Dy w w5 b0 t sb (.int .i64 z0) (.slice yo i c) (.slice none 0 0)) := HD.out.stepT hF5
        have HO5 : Hid (IOw w.heap.size w5 yo i c bs) := HO.out.keepS hF5 (fun k hk hm => by
          simp at hm
          subst hm
          obtain ⟨ct, hct⟩ := HT0.out
          exact far_row hct HO.out.row (by decide) (Option.mem_toList.2 hk))
        have HS5 : Hid (St w5 t ao L cap (lv2 xs z0 bs z2 0 []) (deX xs)) := hS5.imp (fun p' _ hp => by
            obtain ⟨p, n, g1, g3, rfl, g4⟩ := hp
            exact ⟨n, rfl, g4, Nat.zero_le _, by rw [g1, dL_of g3, preL_nil]; rfl⟩) (fun c hc => by
            rcases hc with hc | ⟨p, g1, g3⟩
            · exact absurd hc (by simp)
            · show dS xs = _
              rw [g1, dL_no g3]
              rfl)
        have HIb : Hid (i ≤ 65536) := Hi5.out
        clear HN8 hF5 hS5 HD HO HT0
        go_wp2_with fail
        go_loopw [8] (fun jj wr => ∃ (j : Nat) (ho : Option Addr) (ch : Nat) (hs : List Hd), jj = .int .i64 j ∧ j ≤ 65536 ∧ Hid (Dy w wr b0 t sb (.int .i64 z0) (.slice yo i c) (.slice ho j ch)) ∧ Hid (IOw w.heap.size wr yo i c bs) ∧ Hid (HOut w wr ho j ch hs) ∧ Hid (St wr t ao L cap (lv2 xs z0 bs z2 j (hs.map Hd.kv)) (deX xs))) (fun jj _ => z2.toNat - (RowKit.intOf jj).toNat)
        case atStart => exact ⟨0, none, 0, [], rfl, by omega, HD5, HO5, ⟨rfl, ⟨rfl, .inl ⟨rfl, rfl⟩⟩, by simp, List.Pairwise.nil⟩, HS5⟩
        case round =>
          obtain ⟨j, ho, ch, hs, rfl, hj5, HD, HO, HH, HS⟩ := hrel
          obtain ⟨cd, hcd, hcase⟩ := HS.out.code
          by_cases hjz : (j : Int) < z2
          · rcases hcase with ⟨rfl, p, hl1, hl2⟩ | ⟨hc0, hYd, hde⟩
            · have hj6 : j < 65536 := by obtain ⟨k, h1, h2, h3, h4⟩ := hl2; omega
              rename World => wu
              have HTx : Hid (Calls _ _ _ _ _) := text_st 64 (by omega) HS.out (HYb.out _ HD.out.i.fr)
              have HTb : Hid (∃ cs, wu.heap[t]? = some (.cells cs 161 (0, 0))) := HS.out.box
              clear hl1 hl2
              go_wp2_with fail
              refine Calls.mono HTx.out ?_
              rintro e w2 ⟨key, rfl, hF2, hS2⟩
              obtain ⟨w3, HW3⟩ : ∃ w3, Hid (w2.alloc (.cells #[.string key, .slice none 0 0] 58) = w3) := ⟨_, rfl⟩
              have hF3 : Fr [] w2 w3 := by rw [← HW3.out]; exact Fr.alloc _ _ _
              have hb3 : w3.heap[w2.heap.size]? = some (.cells #[.string key, .slice none 0 0] 58 (0, 0)) := by rw [← HW3.out]; exact heap_alloc_new w2 _
              obtain ⟨hb, hhb⟩ : ∃ hb, hb = w2.heap.size := ⟨_, rfl⟩
              rw [← hhb] at hb3
              have hS3 := hS2.keep hF3 (by simp)
              have hD3 := (HD.out.stepT hF2).step0 hF3
              have HNx : Hid (Calls _ _ _ _ _) := number_st hS3 (HYb.out _ hD3.i.fr)
              have HF3 : Hid (Fr [t] wu w3 ∧ wu.heap.size ≤ hb ∧ w3.heap[hb]? = some (.cells #[.string key, .slice none 0 0] 58 (0, 0)) ∧ t < wu.heap.size) := ⟨hF2.then (hF3.mono (by simp)), by rw [hhb]; exact hF2.size, hb3, HS.out.lt⟩
              clear HTx hF2 hS2 hF3 hb3 hS3 hD3
              go_upto_region 13 with fail
              rw [HW3.out]
              rw [← hhb]
              clear HW3 hhb
              go_wp2_with fail
              refine Calls.mono HNx.out ?_
              rintro e wb ⟨z3, rfl, hF4, hS4⟩
              have HSb : Hid (St wb t ao L cap (lv3 xs z0 bs z2 j (hs.map Hd.kv) key z3 0 []) (deX xs)) := hS4.imp (fun p' _ hp => by
                  obtain ⟨q, n, ⟨p, g1, g2⟩, g3, rfl, g4⟩ := hp
                  exact g1.keyed hjz g2 g3 g4) (fun c hc => by
                  rcases hc with (hc | ⟨p, g1, g2⟩) | ⟨q, ⟨p, g1, g2⟩, g3⟩
                  · exact hc
                  · exact g1.noT hjz g2
                  · exact g1.noN hjz g2 g3)
              have HFb : Hid (Fr [t] wu wb) := HF3.out.1.then hF4
              have hne : t ≠ hb := by have := HF3.out.2.1; have := HF3.out.2.2.2; omega
              have hbb : wb.heap[hb]? = some (.cells #[.string key, .slice none 0 0] 58 (0, 0)) := hF4.keep HF3.out.2.2.1 (by simp; exact fun e => hne e.symm)
              have HL0 : Hid (L3 wb wb t hb key none 0 0 []) := ⟨hbb, ⟨rfl, .inl ⟨rfl, rfl⟩⟩, rfl, Fr.refl _ _, Nat.lt_of_lt_of_le HF3.out.2.2.2 HFb.out.size, lt_of_block hbb, hne⟩
              have HKeep : Hid (∀ W, Fr [t, hb] wb W → Dy w W b0 t sb (.int .i64 z0) (.slice yo i c) (.slice ho j ch) ∧ IOw w.heap.size W yo i c bs ∧ HOut w W ho j ch hs) := fun W hW => by
                have hgt := HF3.out.2.1
                obtain ⟨ct, hct⟩ := HTb.out
                have hF : Fr [t, hb] wu W := HFb.out.trans hW (fun x hx _ => by simp at hx; simp [hx]) (fun x hx _ => hx)
                have l1 := lt_of_block HD.out.i.rb.box
                have l2 := lt_of_block HD.out.i.sv.box
                have l3 := HD.out.i.fr.size
                have nT := HD.out.nt
                refine ⟨HD.out.row hF (by simp; exact ⟨HD.out.d1, by omega⟩) (by simp; exact ⟨HD.out.d2, by omega⟩) (fun k hk => by simp at hk; omega), HO.out.keepS hF (fun k hk hm => ?_), HH.out.keepS hF (fun k hk hm => ?_) (fun q cur hq hm => ?_)⟩
                · obtain ⟨_, cur, hc⟩ := owns_cells HO.out.row hk
                  have l4 := lt_of_block hc
                  simp at hm
                  rcases hm with rfl | rfl
                  · exact far_row hct HO.out.row (by decide) (Option.mem_toList.2 hk)
                  · omega
                · obtain ⟨_, cur, hc⟩ := owns_cells HH.out.row hk
                  have l4 := lt_of_block hc
                  simp at hm
                  rcases hm with rfl | rfl
                  · exact far_row hct HH.out.row (by decide) (Option.mem_toList.2 hk)
                  · omega
                · have l4 := lt_of_block hq
                  simp at hm
                  rcases hm with rfl | rfl
                  · rw [hct] at hq
                    simp at hq
                  · omega
              have HSz : Hid (w.heap.size ≤ wb.heap.size) := Nat.le_trans HD.out.i.fr.size HFb.out.size
              have HKl : Hid (∀ (vo : Option Addr) (k cv : Nat) (vs : List Vn) {W : World}, W.ownsRow wb.heap.size 74 3 (.slice vo k cv) k (vnsC vs) → k ≤ cv) := fun vo k cv vs W h => own_cap18 h
              have HNewA : Hid (∀ (vo : Option Addr) (k cv : Nat) (vs : List Vn) (W : World), k = vs.length → W.ownsRow wb.heap.size 74 3 (.slice vo k cv) k (vnsC vs) → ∀ x ∈ hs, Apa x.vo vo) := fun vo k cv vs W hk h => (HKeep.out wb (Fr.refl _ _)).2.2.newApart (w2 := W) ⟨⟨cv, Nat.le_refl _, h⟩, hk, own_cap18 h⟩
              clear HNx hF4 hS4 HF3 HFb hbb hne HD HO HH HS HTb hcd
              go_wp2_with fail
              go_loopw [11] (fun kk wr => ∃ (k : Nat) (vo : Option Addr) (cv : Nat) (vs : List Vn), kk = .int .i64 k ∧ k ≤ 65536 ∧ Hid (L3 wb wr t hb key vo k cv vs) ∧ Hid (St wr t ao L cap (lv3 xs z0 bs z2 j (hs.map Hd.kv) key z3 k vs) (deX xs))) (fun kk _ => z3.toNat - (RowKit.intOf kk).toNat)
              case atStart => exact ⟨0, none, 0, [], rfl, by omega, HL0, HSb⟩
              case round =>
                obtain ⟨k, vo, cv, vs, rfl, hk5, HL, HS⟩ := hrel
                obtain ⟨cd, hcd, hcase⟩ := HS.out.code
                by_cases hkz : (k : Int) < z3
                · rcases hcase with ⟨rfl, p, hl1, hl2⟩ | ⟨hc0, hYd, hde⟩
                  · have hk6 : k < 65536 := by obtain ⟨N, n, h1, h2, h3, h4, h5, h6, h7⟩ := hl2; omega
                    have HNy : Hid (Calls _ _ _ _ _) := number_st HS.out (HYb.out _ (HKeep.out _ HL.out.fr).1.i.fr)
                    have HtL : Hid (t < wr.heap.size) := HS.out.lt
                    have HYw : Hid (∀ W, Fr [t] wr W → Yb W ao L cap xs) := fun W hf => HYb.out _ (HKeep.out _ (HL.out.stepT hf).fr).1.i.fr
                    clear hl1 hl2
                    go_wp2_with fail
                    refine Calls.mono HNy.out ?_
                    rintro e w5 ⟨z4, rfl, hF5, hS5⟩
                    obtain ⟨w6, HW6⟩ : ∃ w6, Hid (w5.alloc (.cells #[.int .i64 z4, .string ⟨#[]⟩, .bool false] 74) = w6) := ⟨_, rfl⟩
                    have hF6 : Fr [] w5 w6 := by rw [← HW6.out]; exact Fr.alloc _ _ _
                    have hb6 : w6.heap[w5.heap.size]? = some (.cells #[.int .i64 z4, .string ⟨#[]⟩, .bool false] 74 (0, 0)) := by rw [← HW6.out]; exact heap_alloc_new w5 _
                    obtain ⟨vb, hvb⟩ : ∃ vb, vb = w5.heap.size := ⟨_, rfl⟩
                    rw [← hvb] at hb6
                    have hvw : wr.heap.size ≤ vb := by rw [hvb]; exact hF5.size
                    have hS6 := hS5.keep hF6 (by simp)
                    have hF16 : Fr [t] wr w6 := hF5.then (hF6.mono (by simp))
                    have HDr : Hid (Calls _ _ _ _ _) := drop_st hS6 (HYw.out _ hF16)
                    have HF16 : Hid (Fr [t] wr w6 ∧ w6.heap[vb]? = some (.cells #[.int .i64 z4, .string ⟨#[]⟩, .bool false] 74 (0, 0)) ∧ wr.heap.size ≤ vb) := ⟨hF16, hb6, hvw⟩
                    clear HNy hF5 hS5 hF6 hb6 hS6 hF16 hvw hcd
                    go_upto_region 18 with fail
                    rw [HW6.out]
                    rw [← hvb]
                    clear HW6 hvb
                    go_wp2_with fail
                    refine Calls.mono HDr.out ?_
                    rintro e w7 ⟨b, rfl, hF7, hS7⟩
                    have htv : t ≠ vb := by have := HtL.out; have := HF16.out.2.2; omega
                    have hb7 : w7.heap[vb]? = some (.cells #[.int .i64 z4, .string ⟨#[]⟩, .bool false] 74 (0, 0)) := hF7.keep HF16.out.2.1 (by simp; exact fun e => htv e.symm)
                    obtain ⟨v0, v1, v2⟩ := sv_cells hb7
                    have vf : w7.frozen? ⟨vb, 2, none⟩ = false := by simp [World.frozen?, hb7]
                    obtain ⟨w8, HW8⟩ : ∃ w8, Hid (w7.setCell ⟨vb, 2, none⟩ (.bool b) = w8) := ⟨_, rfl⟩
                    have hb8 : w8.heap[vb]? = some (.cells #[.int .i64 z4, .string ⟨#[]⟩, .bool b] 74 (0, 0)) := by rw [← HW8.out, put_row _ hb7]; rfl
                    have hF8 : Fr [vb] w7 w8 := by rw [← HW8.out]; exact Fr.set _ _ _ (by simp)
                    have hS8 := hS7.keep hF8 (by simp; exact htv)
                    have HF8 : Hid (Fr [t] wr w8) := (HF16.out.1.then hF7).trans hF8 (fun x hx _ => hx) (fun x hx hl => by simp at hx; have := HF16.out.2.2; omega)
                    have HB8 : Hid (w8.heap[vb]? = some (.cells #[.int .i64 z4, .string ⟨#[]⟩, .bool b] 74 (0, 0))) := hb8
                    clear HDr hF7 hb7 hF8 hS7
                    go_upto_region 19 with fail
                    rw [HW8.out]
                    clear v0 v1 v2 vf HW8
                    obtain ⟨v0, v1, v2⟩ := sv_cells hb8
                    cases b with
                    | true =>
                      have HSq : Hid (St w8 t ao L cap (lv3 xs z0 bs z2 j (hs.map Hd.kv) key z3 (k + 1) (vs ++ [⟨z4, ⟨#[]⟩, true⟩])) (deX xs)) := hS8.imp (fun p' _ hp => by
                          obtain ⟨q, d, ⟨p, n, g1, g2, rfl, g3⟩, g4, g5, g6⟩ := hp
                          have hd : d = 1 := by simpa using g6.symm
                          subst hd
                          exact g1.go hkz (dX_1 g2 g4)) (fun c hc => by
                          rcases hc with (hc | ⟨p, g1, g2⟩) | ⟨q, ⟨p, n, g1, g2, rfl, g3⟩, g4⟩
                          · exact hc
                          · exact g1.no hkz (dX_n g2)
                          · exact g1.no hkz (dX_d g2 g4))
                      have HFq : Hid (Fr [t] wr w8) := HF8
                      clear hS8 hb8
                      have HLW : Hid (L3 wb w8 t hb key vo k cv vs) := HL.out.stepT HFq.out
                      have hh1 := HLW.out.c1
                      have HAp : Hid (∀ vo' c' w12, w12.ownsRow wb.heap.size 74 3 (.slice vo' (k + 1) c') (k + 1) (vnsC (vs ++ [⟨z4, ⟨#[]⟩, true⟩])) → Fr (Value.slice vo k cv).ownBlock.toList w8 w12 → (w12.frozen? ⟨hb, 1, none⟩ = false ∧ w12.cell? ⟨hb, 1, none⟩ = some (.slice vo k cv)) ∧ Hid (L3 wb (w12.setCell ⟨hb, 1, none⟩ (.slice vo' (k + 1) c')) t hb key vo' (k + 1) c' (vs ++ [⟨z4, ⟨#[]⟩, true⟩]) ∧ St (w12.setCell ⟨hb, 1, none⟩ (.slice vo' (k + 1) c')) t ao L cap (lv3 xs z0 bs z2 j (hs.map Hd.kv) key z3 (k + 1) (vs ++ [⟨z4, ⟨#[]⟩, true⟩])) (deX xs))) := fun vo' c' w12 e1 e2 => by
                        obtain ⟨a1, a2, a3, a4⟩ := HLW.out.app HSq.out e1 e2
                        exact ⟨⟨a1, a2⟩, a3, a4⟩
                      have hsq : wb.heap.size ≤ w8.heap.size := HLW.out.fr.size
                      clear HS HL HFq HSq
                      go_wp2_with (first
                        | (at_builtin; refine wpList_appX wb w8 rfl _ _ rfl vo k cv vs rfl HLW.out.row (by omega) hsq ⟨z4, ⟨#[]⟩, true⟩ rfl ?_
                           intro vo' c' w12 e1 e2
                           obtain ⟨⟨f1, f2⟩, HR⟩ := HAp.out vo' c' w12 e1 e2
                           clear e1 e2
                           go_frame)
                        | fail)
                      go_roundw
                      case rel => exact ⟨k + 1, vo', c', _, by simp, by omega, HR.out.1, HR.out.2⟩
                      case measure => simp [RowKit.intOf]; omega
                    | false =>
                      have HTe : Hid (Calls _ _ _ _ _) := text_st 1024 (by omega) hS8 (HYw.out _ HF8.out)
                      clear hS8
                      go_wp2_with fail
                      refine Calls.mono HTe.out ?_
                      rintro e w9 ⟨sv, rfl, hF9, hS9⟩
                      have hb9 := hF9.keep HB8.out (by simp; exact fun e => htv e.symm)
                      obtain ⟨v0, v1, v2⟩ := sv_cells hb9
                      have vf : w9.frozen? ⟨vb, 1, none⟩ = false := by simp [World.frozen?, hb9]
                      obtain ⟨w10, HW10⟩ : ∃ w10, Hid (w9.setCell ⟨vb, 1, none⟩ (.string sv) = w10) := ⟨_, rfl⟩
                      have hb10 : w10.heap[vb]? = some (.cells #[.int .i64 z4, .string sv, .bool false] 74 (0, 0)) := by rw [← HW10.out, put_row _ hb9]; rfl
                      have hF10 : Fr [vb] w9 w10 := by rw [← HW10.out]; exact Fr.set _ _ _ (by simp)
                      have HSq : Hid (St w10 t ao L cap (lv3 xs z0 bs z2 j (hs.map Hd.kv) key z3 (k + 1) (vs ++ [⟨z4, sv, false⟩])) (deX xs)) := (hS9.keep hF10 (by simp; exact htv)).imp (fun p' _ hp => by
                          obtain ⟨r, ⟨q, d, ⟨p, n, g1, g2, rfl, g3⟩, g4, g5, g6⟩, g7⟩ := hp
                          have hd : d ≠ 1 := by simpa using g6.symm
                          exact g1.go hkz (dX_ok g2 g4 hd g7)) (fun c hc => by
                          rcases hc with ((hc | ⟨p, g1, g2⟩) | ⟨q, ⟨p, n, g1, g2, rfl, g3⟩, g4⟩) | ⟨r, ⟨q, d, ⟨p, n, g1, g2, rfl, g3⟩, g4, g5, g6⟩, g7⟩
                          · exact hc
                          · exact g1.no hkz (dX_n g2)
                          · exact g1.no hkz (dX_d g2 g4)
                          · have hd : d ≠ 1 := by simpa using g6.symm
                            exact g1.no hkz (dX_v g2 g4 hd g7))
                      have HFq : Hid (Fr [t] wr w10) := (HF8.out.then hF9).trans hF10 (fun x hx _ => hx) (fun x hx hl => by simp at hx; have := HF16.out.2.2; omega)
                      clear HTe hF9 hS9 hb9 hF10
                      go_upto_region 21 with fail
                      rw [HW10.out]
                      clear v0 v1 v2 vf HW10
                      obtain ⟨v0, v1, v2⟩ := sv_cells hb10
                      clear hb10
                      have HLW : Hid (L3 wb w10 t hb key vo k cv vs) := HL.out.stepT HFq.out
                      have hh1 := HLW.out.c1
                      have HAp : Hid (∀ vo' c' w12, w12.ownsRow wb.heap.size 74 3 (.slice vo' (k + 1) c') (k + 1) (vnsC (vs ++ [⟨z4, sv, false⟩])) → Fr (Value.slice vo k cv).ownBlock.toList w10 w12 → (w12.frozen? ⟨hb, 1, none⟩ = false ∧ w12.cell? ⟨hb, 1, none⟩ = some (.slice vo k cv)) ∧ Hid (L3 wb (w12.setCell ⟨hb, 1, none⟩ (.slice vo' (k + 1) c')) t hb key vo' (k + 1) c' (vs ++ [⟨z4, sv, false⟩]) ∧ St (w12.setCell ⟨hb, 1, none⟩ (.slice vo' (k + 1) c')) t ao L cap (lv3 xs z0 bs z2 j (hs.map Hd.kv) key z3 (k + 1) (vs ++ [⟨z4, sv, false⟩])) (deX xs))) := fun vo' c' w12 e1 e2 => by
                        obtain ⟨a1, a2, a3, a4⟩ := HLW.out.app HSq.out e1 e2
                        exact ⟨⟨a1, a2⟩, a3, a4⟩
                      have hsq : wb.heap.size ≤ w10.heap.size := HLW.out.fr.size
                      clear HS HL HFq HSq
                      go_wp2_with (first
                        | (at_builtin; refine wpList_appX wb w10 rfl _ _ rfl vo k cv vs rfl HLW.out.row (by omega) hsq ⟨z4, sv, false⟩ rfl ?_
                           intro vo' c' w12 e1 e2
                           obtain ⟨⟨f1, f2⟩, HR⟩ := HAp.out vo' c' w12 e1 e2
                           clear e1 e2
                           go_frame)
                        | fail)
                      go_roundw
                      case rel => exact ⟨k + 1, vo', c', _, by simp, by omega, HR.out.1, HR.out.2⟩
                      case measure => simp [RowKit.intOf]; omega
                  · have hce : ((cd : Int) == 0) = false := by rw [beq_eq_false_iff_ne]; omega
                    have HSx : Hid (St wr t ao L cap (lv2 xs z0 bs z2 (j + 1) ((hs ++ [(⟨key, vo, k, cv, vs⟩ : Hd)]).map Hd.kv)) (deX xs)) := Or.inr ⟨cd, hYd, hde⟩
                    clear hYd hde
                    have HFb : Hid (Fr [t, hb] wb wr) := HL.out.fr
                    have HDx : Hid (Dy w wr b0 t sb (.int .i64 z0) (.slice yo i c) (.slice ho j ch) ∧ IOw w.heap.size wr yo i c bs ∧ HOut w wr ho j ch hs) := HKeep.out wr HFb.out
                    have HVo : Hid (VOut w wr vo k cv vs) := (VOut.later (w1 := wb) ⟨⟨cv, Nat.le_refl _, HL.out.row⟩, HL.out.len, HKl.out vo k cv vs HL.out.row⟩ HSz.out)
                    have HApa : Hid (∀ x ∈ hs, Apa x.vo vo) := HNewA.out vo k cv vs wr HL.out.len HL.out.row
                    have h0 := HL.out.c0
                    have h1 := HL.out.c1
                    have l2 := HDx.out.1.i.sv.c2
                    have HApp : Hid (∀ so' c' w4, HOut w w4 so' (j + 1) c' (hs ++ [⟨key, vo, k, cv, vs⟩]) → Fr (Value.slice ho j ch).ownBlock.toList wr w4 → (w4.frozen? ⟨sb, 2, none⟩ = false ∧ w4.cell? ⟨sb, 2, none⟩ = some (.slice ho j ch)) ∧ Hid (Dy w (w4.setCell ⟨sb, 2, none⟩ (.slice so' (j + 1) c')) b0 t sb (.int .i64 z0) (.slice yo i c) (.slice so' (j + 1) c') ∧ IOw w.heap.size (w4.setCell ⟨sb, 2, none⟩ (.slice so' (j + 1) c')) yo i c bs ∧ HOut w (w4.setCell ⟨sb, 2, none⟩ (.slice so' (j + 1) c')) so' (j + 1) c' (hs ++ [⟨key, vo, k, cv, vs⟩]) ∧ St (w4.setCell ⟨sb, 2, none⟩ (.slice so' (j + 1) c')) t ao L cap (lv2 xs z0 bs z2 (j + 1) ((hs ++ [(⟨key, vo, k, cv, vs⟩ : Hd)]).map Hd.kv)) (deX xs))) := fun so' c' w4 e1 e2 => app_held HDx.out.1 HDx.out.2.1 HDx.out.2.2 HSx.out e1 e2
                    have hsz : w.heap.size ≤ wr.heap.size := Nat.le_trans HSz.out HFb.out.size
                    clear HS HL
                    go_upto_region 22 with fail
                    go_wp2_with (first
                      | (at_builtin; refine wpList_appH w wr rfl _ _ rfl ho j ch hs rfl HDx.out.2.2 (by omega) hsz ⟨key, vo, k, cv, vs⟩ HVo.out HApa.out rfl ?_
                         intro so' c' w4 e1 e2
                         obtain ⟨⟨f1, f2⟩, HR⟩ := HApp.out so' c' w4 e1 e2
                         clear e1 e2
                         go_frame)
                      | fail)
                    clear HApp HDx HVo HApa HFb HSx
                    go_wp2_with fail
                    go_roundw
                    case rel => exact ⟨j + 1, so', c', _, by simp, by omega, HR.out.1, HR.out.2.1, HR.out.2.2.1, HR.out.2.2.2⟩
                    case measure => simp [RowKit.intOf]; omega
                · have HSx : Hid (St wr t ao L cap (lv2 xs z0 bs z2 (j + 1) ((hs ++ [(⟨key, vo, k, cv, vs⟩ : Hd)]).map Hd.kv)) (deX xs)) := HS.out.imp (fun p _ hp => by rw [List.map_append]; exact hp.out hkz) (fun c h => h)
                  have HFb : Hid (Fr [t, hb] wb wr) := HL.out.fr
                  have HDx : Hid (Dy w wr b0 t sb (.int .i64 z0) (.slice yo i c) (.slice ho j ch) ∧ IOw w.heap.size wr yo i c bs ∧ HOut w wr ho j ch hs) := HKeep.out wr HFb.out
                  have HVo : Hid (VOut w wr vo k cv vs) := (VOut.later (w1 := wb) ⟨⟨cv, Nat.le_refl _, HL.out.row⟩, HL.out.len, HKl.out vo k cv vs HL.out.row⟩ HSz.out)
                  have HApa : Hid (∀ x ∈ hs, Apa x.vo vo) := HNewA.out vo k cv vs wr HL.out.len HL.out.row
                  have h0 := HL.out.c0
                  have h1 := HL.out.c1
                  have l2 := HDx.out.1.i.sv.c2
                  have HApp : Hid (∀ so' c' w4, HOut w w4 so' (j + 1) c' (hs ++ [⟨key, vo, k, cv, vs⟩]) → Fr (Value.slice ho j ch).ownBlock.toList wr w4 → (w4.frozen? ⟨sb, 2, none⟩ = false ∧ w4.cell? ⟨sb, 2, none⟩ = some (.slice ho j ch)) ∧ Hid (Dy w (w4.setCell ⟨sb, 2, none⟩ (.slice so' (j + 1) c')) b0 t sb (.int .i64 z0) (.slice yo i c) (.slice so' (j + 1) c') ∧ IOw w.heap.size (w4.setCell ⟨sb, 2, none⟩ (.slice so' (j + 1) c')) yo i c bs ∧ HOut w (w4.setCell ⟨sb, 2, none⟩ (.slice so' (j + 1) c')) so' (j + 1) c' (hs ++ [⟨key, vo, k, cv, vs⟩]) ∧ St (w4.setCell ⟨sb, 2, none⟩ (.slice so' (j + 1) c')) t ao L cap (lv2 xs z0 bs z2 (j + 1) ((hs ++ [(⟨key, vo, k, cv, vs⟩ : Hd)]).map Hd.kv)) (deX xs))) := fun so' c' w4 e1 e2 => app_held HDx.out.1 HDx.out.2.1 HDx.out.2.2 HSx.out e1 e2
                  have hsz : w.heap.size ≤ wr.heap.size := Nat.le_trans HSz.out HFb.out.size
                  clear HS HL
                  go_upto_region 22 with fail
                  go_wp2_with (first
                    | (at_builtin; refine wpList_appH w wr rfl _ _ rfl ho j ch hs rfl HDx.out.2.2 (by omega) hsz ⟨key, vo, k, cv, vs⟩ HVo.out HApa.out rfl ?_
                       intro so' c' w4 e1 e2
                       obtain ⟨⟨f1, f2⟩, HR⟩ := HApp.out so' c' w4 e1 e2
                       clear e1 e2
                       go_frame)
                    | fail)
                  clear HApp HDx HVo HApa HFb HSx
                  go_wp2_with fail
                  go_roundw
                  case rel => exact ⟨j + 1, so', c', _, by simp, by omega, HR.out.1, HR.out.2.1, HR.out.2.2.1, HR.out.2.2.2⟩
                  case measure => simp [RowKit.intOf]; omega
            · have HC0 : Hid (cd ≠ 0 ∧ deX xs cd) := ⟨hc0, hde⟩
              have hcb : ((cd : Int) != 0) = true := by rw [bne_iff_ne]; omega
              have hce : ((cd : Int) == 0) = false := by rw [beq_eq_false_iff_ne]; omega
              clear hYd hde hc0 HO HS HH
              have z0 := HD.out.i.rb.c0
              have z1 := HD.out.i.rb.c1
              have z2 := HD.out.i.rb.c2
              have y0 := HD.out.i.rb.fz 0
              have y1 := HD.out.i.rb.fz 1
              have y2 := HD.out.i.rb.fz 2
              have hbt := HD.out.d1
              go_wp2_with fail
              go_region
              obtain ⟨W3, HW3⟩ : ∃ W3, Hid (((wr.setCell ⟨b0, 0, none⟩ (.int .i64 0)).setCell ⟨b0, 1, none⟩ (.slice none 0 0)).setCell ⟨b0, 2, none⟩ (.slice none 0 0) = W3) := ⟨_, rfl⟩
              obtain ⟨q0, q1, q2, hfs, hfin⟩ := HD.out.i.fin HD.out.n0 (.int .i64 0) (.slice none 0 0) (.slice none 0 0) HW3.out
              have HFin : Hid (Fr [] w W3) := hfin
              rw [HW3.out]
              clear hfin hfs z0 z1 z2 y0 y1 y2
              have d0 : W3.drew.cell? ⟨b0, 0, none⟩ = some (.int .i64 0) := q0
              have d1 : W3.drew.cell? ⟨b0, 1, none⟩ = some (.slice none 0 0) := q1
              have d2 : W3.drew.cell? ⟨b0, 2, none⟩ = some (.slice none 0 0) := q2
              clear q0 q1 q2
              go_wp2
              refine bodyPost_ret (v := .tuple #[.agg #[.int .i64 0, .slice none 0 0, .slice none 0 0], .int .i64 (cd : Int)]) (by rw [results_cell_tmp rfl]; go_simp) rfl ?_
              exact Or.inl ⟨cd, Or.inl HC0.out.2, HC0.out.1, rfl, HFin.out.then (Fr.drew _ _)⟩
          · rcases hcase with ⟨rfl, p, hl1, hl2⟩ | ⟨hc0, hYd, hde⟩
            · have HEn : Hid (dS xs = .ok (⟨z0, bs, hs.map Hd.kv⟩, xs.drop p)) := hl2.out hjz
              have hYl := hl1.ta.cs
              obtain ⟨t0, t1, t2, t3, t4⟩ := hYl
              have hpL : p ≤ L := hl1.le
              have HLx : Hid (L = xs.length) := (HYb.out _ HD.out.i.fr).len
              have HLow : Hid (∀ x ∈ xs, x < 256) := (HYb.out _ HD.out.i.fr).low
              have hLL : L < 2^41 := by rw [HLx.out]; exact (HYb.out _ HD.out.i.fr).rs.len
              have HE := xEnd_any ao L cap p 0 wr hLL hpL
              have hIO := HO.out.irs Hi5.out
              have hHO := HH.out.rsL (dS_lim HLow.out HEn.out) hj5
              have HRd : Hid (∀ W, Fr [] wr W → IRs W yo bs ∧ HRs W ho hs ∧ Dy w W b0 t sb (.int .i64 z0) (.slice yo i c) (.slice ho j ch) ∧ IOw w.heap.size W yo i c bs ∧ HOut w W ho j ch hs) := fun W hf => ⟨hIO.keep hf, hHO.keep hf, HD.out.step0 hf, HO.out.keepS hf (by simp), HH.out.keep hf⟩
              have HLs : Hid (i = bs.length ∧ j = hs.length) := ⟨HO.out.len, HH.out.len⟩
              clear hIO hHO hl1 hl2 HS
              by_cases hpe : p < L
              · rw [show endOf 0 (L - p) = 4 by simp [endOf]; omega] at HE
                have HE2 : Hid (Calls _ _ _ _ _) := HE
                clear HE
                go_wp2_with fail
                refine Calls.mono HE2.out ?_
                rintro e w6 ⟨rfl, hF6⟩
                have HDz : Hid (Dy w w6 b0 t sb (.int .i64 z0) (.slice yo i c) (.slice ho j ch)) := HD.out.step0 hF6
                clear hF6 HE2 t0 t1 t2 t3 t4
                have z0' := HDz.out.i.rb.c0
                have z1' := HDz.out.i.rb.c1
                have z2' := HDz.out.i.rb.c2
                have y0 := HDz.out.i.rb.fz 0
                have y1 := HDz.out.i.rb.fz 1
                have y2 := HDz.out.i.rb.fz 2
                obtain ⟨W3, HW3⟩ : ∃ W3, Hid (((w6.setCell ⟨b0, 0, none⟩ (.int .i64 0)).setCell ⟨b0, 1, none⟩ (.slice none 0 0)).setCell ⟨b0, 2, none⟩ (.slice none 0 0) = W3) := ⟨_, rfl⟩
                obtain ⟨q0, q1, q2, hfs, hfin⟩ := HDz.out.i.fin HDz.out.n0 (.int .i64 0) (.slice none 0 0) (.slice none 0 0) HW3.out
                have HFin : Hid (Fr [b0] w6 W3 ∧ Fr [] w W3) := ⟨hfs, hfin⟩
                clear hfs hfin
                go_wp2_with fail
                rw [HW3.out]
                clear z0' z1' z2' y0 y1 y2
                go_wp2
                refine bodyPost_ret (v := .tuple #[.agg #[.int .i64 0, .slice none 0 0, .slice none 0 0], .int .i64 4]) (by rw [results_cell_tmp rfl]; go_simp) rfl ?_
                exact Or.inl ⟨4, Or.inr (Or.inl ⟨rfl, _, _, HEn.out, by rw [List.length_drop]; have := HLx.out; omega⟩), by decide, rfl, HFin.out.2⟩
              · rw [show endOf 0 (L - p) = 0 by simp [endOf]; omega] at HE
                have HE2 : Hid (Calls _ _ _ _ _) := HE
                have HEq : Hid (dS xs = .ok (⟨z0, bs, hs.map Hd.kv⟩, [])) := by
                  show _ = _
                  rw [HEn.out, List.drop_of_length_le (by have := HLx.out; omega)]
                clear HE
                obtain ⟨ck, hck⟩ := CkS.ex z0 bs hs
                have HCk : Hid (CkS z0 bs hs ck) := hck
                go_wp2_with fail
                refine Calls.mono HE2.out ?_
                rintro e w6 ⟨rfl, hF6⟩
                obtain ⟨g1, g2, g3, g4, g5⟩ := HRd.out _ hF6
                have HCh : Hid (Calls _ _ _ _ _) := ywcheck_any z0 yo ho i c j ch ck bs hs w6 g1 HLs.out.1 g2 HLs.out.2 hck
                have HF6 : Hid (Fr [] wr w6) := hF6
                have s0 := g3.i.sv.c0
                have s1 := g3.i.sv.c1
                have s2 := g3.i.sv.c2
                clear hF6 HE2 t0 t1 t2 t3 t4 g1 g2 g3 g4 g5 hck
                go_wp2_with fail
                refine Calls.mono HCh.out ?_
                rintro e w7 ⟨rfl, hF7⟩
                obtain ⟨_, _, g3, g4, g5⟩ := HRd.out _ (HF6.out.then hF7)
                have HDz : Hid (Dy w w7 b0 t sb (.int .i64 z0) (.slice yo i c) (.slice ho j ch)) := g3
                have HOz : Hid (IOw w.heap.size w7 yo i c bs) := g4
                have HHz : Hid (HOut w w7 ho j ch hs) := g5
                have s0 := g3.i.sv.c0
                have s1 := g3.i.sv.c1
                have s2 := g3.i.sv.c2
                clear hF7 HCh g3 g4 g5 HRd HF6
                rcases HCk.out with ⟨rfl, hok⟩ | ⟨rfl, hno⟩
                · have HOk : Hid (OkS z0 bs (hs.map Hd.kv)) := hok
                  clear hok
                  have z0' := HDz.out.i.rb.c0
                  have z1' := HDz.out.i.rb.c1
                  have z2' := HDz.out.i.rb.c2
                  have y0 := HDz.out.i.rb.fz 0
                  have y1 := HDz.out.i.rb.fz 1
                  have y2 := HDz.out.i.rb.fz 2
                  obtain ⟨W3, HW3⟩ : ∃ W3, Hid (((w7.setCell ⟨b0, 0, none⟩ (.int .i64 z0)).setCell ⟨b0, 1, none⟩ (.slice yo i c)).setCell ⟨b0, 2, none⟩ (.slice ho j ch) = W3) := ⟨_, rfl⟩
                  obtain ⟨q0, q1, q2, hfs, hfin⟩ := HDz.out.i.fin HDz.out.n0 (.int .i64 z0) (.slice yo i c) (.slice ho j ch) HW3.out
                  have HFin : Hid (Fr [b0] w7 W3 ∧ Fr [] w W3) := ⟨hfs, hfin⟩
                  clear hfs hfin
                  go_wp2_with fail
                  rw [HW3.out]
                  clear z0' z1' z2' y0 y1 y2
                  go_wp2
                  refine bodyPost_ret (v := .tuple #[.agg #[.int .i64 z0, .slice yo i c, .slice ho j ch], .int .i64 0]) (by rw [results_cell_tmp rfl]; go_simp) rfl ?_
                  exact Or.inr ⟨z0, yo, i, c, ho, j, ch, bs, hs, HEq.out, HOk.out, Hi5.out, hj5, rfl, HOz.out.keepS HFin.out.1 (fun k hk hm => by simp at hm; subst hm; exact far_row HDz.out.i.rb.box HOz.out.row (by decide) (Option.mem_toList.2 hk)), HHz.out.offS HDz.out.i.rb HFin.out.1, HFin.out.2⟩
                · have HNo : Hid (¬ OkS z0 bs (hs.map Hd.kv)) := hno
                  clear hno
                  have z0' := HDz.out.i.rb.c0
                  have z1' := HDz.out.i.rb.c1
                  have z2' := HDz.out.i.rb.c2
                  have y0 := HDz.out.i.rb.fz 0
                  have y1 := HDz.out.i.rb.fz 1
                  have y2 := HDz.out.i.rb.fz 2
                  obtain ⟨W3, HW3⟩ : ∃ W3, Hid (((w7.setCell ⟨b0, 0, none⟩ (.int .i64 0)).setCell ⟨b0, 1, none⟩ (.slice none 0 0)).setCell ⟨b0, 2, none⟩ (.slice none 0 0) = W3) := ⟨_, rfl⟩
                  obtain ⟨q0, q1, q2, hfs, hfin⟩ := HDz.out.i.fin HDz.out.n0 (.int .i64 0) (.slice none 0 0) (.slice none 0 0) HW3.out
                  have HFin : Hid (Fr [b0] w7 W3 ∧ Fr [] w W3) := ⟨hfs, hfin⟩
                  clear hfs hfin
                  go_wp2_with fail
                  rw [HW3.out]
                  clear z0' z1' z2' y0 y1 y2
                  go_wp2
                  refine bodyPost_ret (v := .tuple #[.agg #[.int .i64 0, .slice none 0 0, .slice none 0 0], .int .i64 1]) (by rw [results_cell_tmp rfl]; go_simp) rfl ?_
                  exact Or.inl ⟨1, Or.inr (Or.inr ⟨rfl, _, HEq.out, HNo.out⟩), by decide, rfl, HFin.out.2⟩
            · have HC0 : Hid (cd ≠ 0 ∧ deX xs cd) := ⟨hc0, hde⟩
              have hcb : ((cd : Int) != 0) = true := by rw [bne_iff_ne]; omega
              have hce : ((cd : Int) == 0) = false := by rw [beq_eq_false_iff_ne]; omega
              clear hYd hde hc0 HO HS HH
              have z0 := HD.out.i.rb.c0
              have z1 := HD.out.i.rb.c1
              have z2 := HD.out.i.rb.c2
              have y0 := HD.out.i.rb.fz 0
              have y1 := HD.out.i.rb.fz 1
              have y2 := HD.out.i.rb.fz 2
              have hbt := HD.out.d1
              go_wp2_with fail
              go_region
              obtain ⟨W3, HW3⟩ : ∃ W3, Hid (((wr.setCell ⟨b0, 0, none⟩ (.int .i64 0)).setCell ⟨b0, 1, none⟩ (.slice none 0 0)).setCell ⟨b0, 2, none⟩ (.slice none 0 0) = W3) := ⟨_, rfl⟩
              obtain ⟨q0, q1, q2, hfs, hfin⟩ := HD.out.i.fin HD.out.n0 (.int .i64 0) (.slice none 0 0) (.slice none 0 0) HW3.out
              have HFin : Hid (Fr [] w W3) := hfin
              rw [HW3.out]
              clear hfin hfs z0 z1 z2 y0 y1 y2
              have d0 : W3.drew.cell? ⟨b0, 0, none⟩ = some (.int .i64 0) := q0
              have d1 : W3.drew.cell? ⟨b0, 1, none⟩ = some (.slice none 0 0) := q1
              have d2 : W3.drew.cell? ⟨b0, 2, none⟩ = some (.slice none 0 0) := q2
              clear q0 q1 q2
              go_wp2
              refine bodyPost_ret (v := .tuple #[.agg #[.int .i64 0, .slice none 0 0, .slice none 0 0], .int .i64 (cd : Int)]) (by rw [results_cell_tmp rfl]; go_simp) rfl ?_
              exact Or.inl ⟨cd, Or.inl HC0.out.2, HC0.out.1, rfl, HFin.out.then (Fr.drew _ _)⟩
      · have HNd : Hid (Calls _ _ _ _ _) := ywnumber_dead hYd
        have HC0 : Hid (cd ≠ 0 ∧ deX xs cd) := ⟨hc0, hde⟩
        have hcb : ((cd : Int) != 0) = true := by rw [bne_iff_ne]; omega
        have hce : ((cd : Int) == 0) = false := by rw [beq_eq_false_iff_ne]; omega
        clear hYd hde hc0 HO HS
        rename World => wo
        go_wp2_with fail
        refine Calls.mono HNd.out ?_
        rintro e w8 ⟨rfl, rfl⟩
        clear HNd
        go_wp2_with fail
        go_loopw [8] (fun ii wq => ii = .int .i64 0 ∧ wq = w8) (fun _ _ => 0)
        case atStart => exact ⟨rfl, rfl⟩
        case round =>
          obtain ⟨rfl, rfl⟩ := hrel
          have z0 := HD.out.i.rb.c0
          have z1 := HD.out.i.rb.c1
          have z2 := HD.out.i.rb.c2
          have y0 := HD.out.i.rb.fz 0
          have y1 := HD.out.i.rb.fz 1
          have y2 := HD.out.i.rb.fz 2
          have hbt := HD.out.d1
          go_wp2_with fail
          go_region
          obtain ⟨W3, HW3⟩ : ∃ W3, Hid (((wr.setCell ⟨b0, 0, none⟩ (.int .i64 0)).setCell ⟨b0, 1, none⟩ (.slice none 0 0)).setCell ⟨b0, 2, none⟩ (.slice none 0 0) = W3) := ⟨_, rfl⟩
          obtain ⟨q0, q1, q2, hfs, hfin⟩ := HD.out.i.fin HD.out.n0 (.int .i64 0) (.slice none 0 0) (.slice none 0 0) HW3.out
          have HFin : Hid (Fr [] w W3) := hfin
          rw [HW3.out]
          clear hfin hfs z0 z1 z2 y0 y1 y2
          have d0 : W3.drew.cell? ⟨b0, 0, none⟩ = some (.int .i64 0) := q0
          have d1 : W3.drew.cell? ⟨b0, 1, none⟩ = some (.slice none 0 0) := q1
          have d2 : W3.drew.cell? ⟨b0, 2, none⟩ = some (.slice none 0 0) := q2
          clear q0 q1 q2
          go_wp2
          refine bodyPost_ret (v := .tuple #[.agg #[.int .i64 0, .slice none 0 0, .slice none 0 0], .int .i64 (cd : Int)]) (by rw [results_cell_tmp rfl]; go_simp) rfl ?_
          exact Or.inl ⟨cd, Or.inl HC0.out.2, HC0.out.1, rfl, HFin.out.then (Fr.drew _ _)⟩
end Go.Proofs.YtdojhkgnnbdfkaaGreat
