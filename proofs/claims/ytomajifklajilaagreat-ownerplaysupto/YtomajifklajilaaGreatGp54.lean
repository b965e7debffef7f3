/- Texts of this claim laid together, one behind the other: contracts and plain lemmas; conditions as each names them. -/
import Derived.Test.YtomajifklajilaaGreatGp52
import Derived.Test.YtomajifklajilaaGreatGp53
import Derived.Test.YtomajifklajilaaGreatGp24
import Derived.Test.YtomajifklajilaaGreatRows
/- An owner that is not there, the program's and the document's; the walk of OwnerNone. Conditions as each names them. -/
namespace Go.Proofs.YtomajifklajilaaGreat
open Go.ChangeShapes Go.WideShapes Go.ChangeAt Go.RowKit Go.Lib Go.Maps
set_option linter.unusedVariables false
set_option linter.unusedSimpArgs false
/-- An owner that is not there: nil, or a zero struct. -/
def NoO (w : World) (p : Option Addr) : Prop := p = none ∨ ∃ z, p = some ⟨z, 0, none⟩ ∧ w.heap[z]? = some (.cells #[.pointer none, .pointer none] 45 (0, 0))
theorem NoO.same {w w' : World} {p : Option Addr} (h : NoO w p) (hf : Fr [] w w') : NoO w' p := by
  rcases h with h | ⟨z, e, hz⟩
  · exact Or.inl h
  · exact Or.inr ⟨z, e, hf.keep hz (by simp)⟩
theorem othere_no (p : Option Addr) (w : World) (h : NoO w p) : Calls Tryz.prog 31 #[.pointer p] w fun e w' => e = .returned (.bool false) ∧ w = w' := by
  rcases h with rfl | ⟨z, rfl, hz⟩
  · go_enter Tryz.func31, Tryz.ntmps31
    go_wp2
    go_ret
    exact ⟨rfl, rfl⟩
  · have c0 : w.cell? ⟨z, 0, none⟩ = some (.pointer none) := by rw [cell_of_row _ _ _ _ _ _ hz]; rfl
    go_enter Tryz.func31, Tryz.ntmps31
    go_wp2
    go_ret
    exact ⟨rfl, rfl⟩
set_option maxHeartbeats 1000000 in
theorem olen_no (p : Option Addr) (w : World) (h : NoO w p) : Calls Tryz.prog 20 #[.pointer p] w fun e w' => e = .returned (.int .i64 0) ∧ w = w' := by
  have HT : Hid (Calls _ _ _ _ _) := othere_no p w h
  clear h
  go_enter Tryz.func20, Tryz.ntmps20
  go_wp2_with fail
  refine Calls.mono HT.out ?_
  rintro e w1 ⟨rfl, rfl⟩
  go_wp2
  go_ret
  exact ⟨rfl, rfl⟩
set_option maxHeartbeats 1000000 in
theorem oroom_no (p : Option Addr) (w : World) (h : NoO w p) : Calls Tryz.prog 22 #[.pointer p] w fun e w' => e = .returned (.int .i64 0) ∧ w = w' := by
  have HT : Hid (Calls _ _ _ _ _) := othere_no p w h
  clear h
  go_enter Tryz.func22, Tryz.ntmps22
  go_wp2_with fail
  refine Calls.mono HT.out ?_
  rintro e w1 ⟨rfl, rfl⟩
  go_wp2
  go_ret
  exact ⟨rfl, rfl⟩
set_option maxHeartbeats 1000000 in
theorem oall_no (p : Option Addr) (w : World) (h : NoO w p) : Calls Tryz.prog 25 #[.pointer p] w fun e w' => e = .returned (.slice none 0 0) ∧ w = w' := by
  have HT : Hid (Calls _ _ _ _ _) := othere_no p w h
  clear h
  go_enter Tryz.func25, Tryz.ntmps25
  go_wp2_with fail
  refine Calls.mono HT.out ?_
  rintro e w1 ⟨rfl, rfl⟩
  go_wp2
  go_ret
  exact ⟨rfl, rfl⟩
set_option maxHeartbeats 1000000 in
theorem oask_none (p : Option Addr) (x : Rv) (w : World) (h : NoO w p) : Calls Tryz.prog 17 #[.pointer p, x.v] w fun e w' => e = .returned (.tuple #[.bool false, .int .i64 2]) ∧ Fr [] w w' := by
  obtain ⟨xk, xf, xn, xa, xb, xd, xc, xe, xo, xl, xm⟩ := x
  have hF0 := Fr.alloc [] w (.cells #[.int .u8 xk, .int .i64 xf, .int .i64 xn, .string xa, .string xb, .bool xd, .string xc, .string xe, .slice xo xl xm] 36)
  have HT : Hid (Calls _ _ _ _ _) := othere_no p _ (h.same hF0)
  have HF0 := (show Hid _ from hF0)
  clear h hF0
  simp only [Rv.v]
  go_enter Tryz.func17, Tryz.ntmps17
  go_wp2_with fail
  refine Calls.mono HT.out ?_
  rintro e w1 ⟨rfl, rfl⟩
  go_wp2
  go_ret2
  exact ⟨rfl, HF0.out⟩
set_option maxHeartbeats 1000000 in
theorem oserve_none (p : Option Addr) (w : World) (h : NoO w p) : Calls Tryz.prog 13 #[.pointer p] w fun e w' => e = .returned (.tuple #[.agg #[.int .i64 0, .bool false, .slice none 0 0, .slice none 0 0, .int .i64 0], .int .i64 2]) ∧ Fr [] w w' := by
  have hF0 := Fr.alloc [] w (.cells #[.int .i64 0, .bool false, .slice none 0 0, .slice none 0 0, .int .i64 0] 56)
  have hr := heap_alloc_new w (.cells #[.int .i64 0, .bool false, .slice none 0 0, .slice none 0 0, .int .i64 0] 56)
  have HT : Hid (Calls _ _ _ _ _) := othere_no p _ (h.same hF0)
  have HF0 := (show Hid _ from hF0)
  have hself := setRow_self _ _ _ _ _ hr
  have hld := load_resp hr
  clear h hF0
  go_enter Tryz.func13, Tryz.ntmps13
  go_wp2_with fail
  refine Calls.mono HT.out ?_
  rintro e w1 ⟨rfl, rfl⟩
  go_wp2_with (first
    | (refine wpList_store_row rfl 56 _ _ rfl w.heap.size #[.int .i64 0, .bool false, .slice none 0 0, .slice none 0 0, .int .i64 0] rfl rfl _ _ hr (by kernel_rfl) rfl (rs_one _ _ _ _ _ _ _ _ _) ?_; rw [hself]; go_frame)
    | fail)
  refine bodyPost_ret (results_ct_row rfl _ _ _ _ _ rfl hld) rfl ?_
  exact ⟨rfl, HF0.out⟩
theorem yolen_nil (w : World) : Calls Tryz.prog 21 #[.pointer none] w fun e w' => e = .returned (.int .i64 0) ∧ w = w' := by
  go_enter Tryz.func21, Tryz.ntmps21
  go_wp2
  go_ret
  exact ⟨rfl, rfl⟩
theorem yoroom_nil (w : World) : Calls Tryz.prog 23 #[.pointer none] w fun e w' => e = .returned (.int .i64 0) ∧ w = w' := by
  go_enter Tryz.func23, Tryz.ntmps23
  go_wp2
  go_ret
  exact ⟨rfl, rfl⟩
theorem yoall_nil (w : World) : Calls Tryz.prog 26 #[.pointer none] w fun e w' => e = .returned (.slice none 0 0) ∧ w = w' := by
  go_enter Tryz.func26, Tryz.ntmps26
  go_wp2
  go_ret
  exact ⟨rfl, rfl⟩
set_option maxHeartbeats 1000000 in
theorem yoask_nil (x : Rv) (w : World) : Calls Tryz.prog 18 #[.pointer none, x.v] w fun e w' => e = .returned (.tuple #[.bool false, .int .i64 2]) ∧ Fr [] w w' := by
  obtain ⟨xk, xf, xn, xa, xb, xd, xc, xe, xo, xl, xm⟩ := x
  have HF0 := (show Hid _ from Fr.alloc [] w (.cells #[.int .u8 xk, .int .i64 xf, .int .i64 xn, .string xa, .string xb, .bool xd, .string xc, .string xe, .slice xo xl xm] 36))
  simp only [Rv.v]
  go_enter Tryz.func18, Tryz.ntmps18
  go_wp2
  go_ret2
  exact ⟨rfl, HF0.out⟩
set_option maxHeartbeats 1000000 in
theorem yoserve_nil (w : World) : Calls Tryz.prog 14 #[.pointer none] w fun e w' => e = .returned (.tuple #[.agg #[.int .i64 0, .bool false, .slice none 0 0, .slice none 0 0, .int .i64 0], .int .i64 2]) ∧ Fr [] w w' := by
  have hF0 := Fr.alloc [] w (.cells #[.int .i64 0, .bool false, .slice none 0 0, .slice none 0 0, .int .i64 0] 56)
  have hr := heap_alloc_new w (.cells #[.int .i64 0, .bool false, .slice none 0 0, .slice none 0 0, .int .i64 0] 56)
  have HF0 := (show Hid _ from hF0)
  have hself := setRow_self _ _ _ _ _ hr
  have hld := load_resp hr
  clear hF0
  go_enter Tryz.func14, Tryz.ntmps14
  go_wp2_with (first
    | (refine wpList_store_row rfl 56 _ _ rfl w.heap.size #[.int .i64 0, .bool false, .slice none 0 0, .slice none 0 0, .int .i64 0] rfl rfl _ _ hr (by kernel_rfl) rfl (rs_one _ _ _ _ _ _ _ _ _) ?_; rw [hself]; go_frame)
    | fail)
  refine bodyPost_ret (results_ct_row rfl _ _ _ _ _ rfl hld) rfl ?_
  exact ⟨rfl, HF0.out⟩
theorem ers_nil (w : World) : ERs w none [] := ⟨by simp, fun h => by simp at h⟩
set_option maxHeartbeats 4000000 in
set_option maxRecDepth 100000 in
theorem asks_serve0 (p : Option Addr) (x : Rv) (w : World) (h : NoO w p) : Calls Tryz.prog 6 #[.pointer p, .pointer none, .agg #[.bool true, .int .u8 x.k, .int .i64 x.f, .int .i64 x.n, .string x.wk, .string x.wv, .bool x.wd, .string x.key, .string x.en, .slice x.bo x.bl x.bc]] w fun e w' => e = .returned (.bool true) ∧ Fr [] w w' := by
  obtain ⟨xk, xf, xn, xa, xb, xd, xc, xe, xo, xl, xm⟩ := x
  simp only
  have hF0 := Fr.alloc [] w (.cells #[.bool true, .int .u8 xk, .int .i64 xf, .int .i64 xn, .string xa, .string xb, .bool xd, .string xc, .string xe, .slice xo xl xm] 38)
  have HS : Hid (Calls _ _ _ _ _) := oserve_none p _ (h.same hF0)
  have HF0 := (show Hid _ from hF0)
  clear h hF0
  go_enter Tryz.func6, Tryz.ntmps6
  go_wp2_with fail
  refine Calls.mono HS.out ?_
  rintro e w1 ⟨rfl, hF1⟩
  have h7 := heap_alloc_new w1 (.cells #[.int .i64 0, .bool false, .slice none 0 0, .slice none 0 0, .int .i64 0] 56)
  have HF1 : Hid (Fr [] w (w1.alloc (.cells #[.int .i64 0, .bool false, .slice none 0 0, .slice none 0 0, .int .i64 0] 56))) := HF0.out.then (hF1.then (Fr.alloc _ _ _))
  go_wp2_with fail
  refine (yoserve_nil _).mono ?_
  rintro e w2 ⟨rfl, hF2⟩
  have h72 := (hF2.then (Fr.alloc [] w2 (.cells #[.int .i64 0, .bool false, .slice none 0 0, .slice none 0 0, .int .i64 0] 56))).keep h7 (by simp)
  have h9 := heap_alloc_new w2 (.cells #[.int .i64 0, .bool false, .slice none 0 0, .slice none 0 0, .int .i64 0] 56)
  have HF2 : Hid (Fr [] w (w2.alloc (.cells #[.int .i64 0, .bool false, .slice none 0 0, .slice none 0 0, .int .i64 0] 56))) := HF1.out.then (hF2.then (Fr.alloc _ _ _))
  have c0 : (w2.alloc (.cells #[.int .i64 0, .bool false, .slice none 0 0, .slice none 0 0, .int .i64 0] 56)).cell? ⟨w1.heap.size, 0, none⟩ = some (.int .i64 0) := by rw [cell_of_row _ _ _ _ _ _ h72]; rfl
  have c1 : (w2.alloc (.cells #[.int .i64 0, .bool false, .slice none 0 0, .slice none 0 0, .int .i64 0] 56)).cell? ⟨w1.heap.size, 1, none⟩ = some (.bool false) := by rw [cell_of_row _ _ _ _ _ _ h72]; rfl
  have c2 : (w2.alloc (.cells #[.int .i64 0, .bool false, .slice none 0 0, .slice none 0 0, .int .i64 0] 56)).cell? ⟨w1.heap.size, 2, none⟩ = some (.slice none 0 0) := by rw [cell_of_row _ _ _ _ _ _ h72]; rfl
  have c3 : (w2.alloc (.cells #[.int .i64 0, .bool false, .slice none 0 0, .slice none 0 0, .int .i64 0] 56)).cell? ⟨w1.heap.size, 3, none⟩ = some (.slice none 0 0) := by rw [cell_of_row _ _ _ _ _ _ h72]; rfl
  have c4 : (w2.alloc (.cells #[.int .i64 0, .bool false, .slice none 0 0, .slice none 0 0, .int .i64 0] 56)).cell? ⟨w1.heap.size, 4, none⟩ = some (.int .i64 0) := by rw [cell_of_row _ _ _ _ _ _ h72]; rfl
  clear hF1 h7 hF2 h72 h9 HS
  go_wp2_with fail
  refine (sameResp_any 0 false none none none none 0 0 0 0 0 0 0 [] [] [] _ (ers_nil _) (ers_nil _) rfl (hrs_nil _) (hrs_nil _) rfl rfl).mono ?_
  rintro e w3 ⟨rfl, hF3⟩
  go_wp2
  go_ret
  exact ⟨rfl, HF2.out.then hF3⟩
/-- What asks answers where neither owner is there. -/
theorem asks_none (p : Option Addr) (a : As) (w : World) (h : NoO w p) (hR : RqB w a.r a.ns) : Calls Tryz.prog 6 #[.pointer p, .pointer none, .agg #[.bool a.s, .int .u8 a.r.k, .int .i64 a.r.f, .int .i64 a.r.n, .string a.r.wk, .string a.r.wv, .bool a.r.wd, .string a.r.key, .string a.r.en, .slice a.r.bo a.r.bl a.r.bc]] w fun e w' => e = .returned (.bool true) ∧ Fr [] w w' := by
  obtain ⟨s, x, ns⟩ := a
  cases s with
  | true => exact asks_serve0 p x w h
  | false =>
    refine (asks_ask p none x ns w hR (fun W w2 => Fr [] W w2) (fun W tb hW htb hB => (oask_none p _ W (h.same hW)).mono ?_)).mono ?_
    · rintro e w1 ⟨rfl, hF1⟩
      refine ⟨false, 2, rfl, Nf.of hF1, (yoask_nil x w1).mono ?_⟩
      rintro e w2 ⟨rfl, hF2⟩
      exact ⟨rfl, Nf.of hF2, hR.keep (hW.then (hF1.then hF2)), hF1.then hF2⟩
    · rintro e w' ⟨rfl, W, w2, T, hW, hP, hT, hj⟩
      exact ⟨rfl, (hW.then hP).on hT (fun y hy => (hj y hy).1)⟩
set_option maxHeartbeats 1000000 in
theorem stands_none (p : Option Addr) (w : World) (h : NoO w p) : Calls Tryz.prog 7 #[.pointer p, .pointer none] w fun e w' => e = .returned (.bool true) ∧ Fr [] w w' := by
  have H1 : Hid (Calls _ _ _ _ _) := olen_no p w h
  have H2 : Hid (Calls _ _ _ _ _) := oroom_no p w h
  have H3 : Hid (Calls _ _ _ _ _) := oall_no p w h
  clear h
  go_enter Tryz.func7, Tryz.ntmps7
  go_wp2_with fail
  refine Calls.mono H1.out ?_
  rintro e w1 ⟨rfl, rfl⟩
  go_wp2_with fail
  refine (yolen_nil _).mono ?_
  rintro e w1 ⟨rfl, rfl⟩
  go_wp2_with fail
  refine Calls.mono H2.out ?_
  rintro e w1 ⟨rfl, rfl⟩
  go_wp2_with fail
  refine (yoroom_nil _).mono ?_
  rintro e w1 ⟨rfl, rfl⟩
  go_wp2_with fail
  refine Calls.mono H3.out ?_
  rintro e w1 ⟨rfl, rfl⟩
  go_wp2_with fail
  refine (yoall_nil _).mono ?_
  rintro e w1 ⟨rfl, rfl⟩
  go_wp2_with fail
  refine (sameHelds_any none none 0 0 0 [] [] _ (hrs_nil _) (hrs_nil _) rfl rfl).mono ?_
  rintro e w1 ⟨rfl, hF⟩
  go_wp2
  go_ret
  exact ⟨rfl, hF⟩
set_option maxHeartbeats 8000000 in
set_option maxRecDepth 100000 in
theorem none_walk (ao : Option Addr) (L cap : Nat) (os : List As) (w : World) (hA : ARs w ao os) (hL : L = os.length) :
    Calls Tryz.prog 4 #[.slice ao L cap] w fun e w' => e = .returned (.bool true) ∧ Fr [] w w' := by
  obtain ⟨wz, HWz⟩ : ∃ wz, Hid (w.alloc (.cells #[.pointer none, .pointer none] 45) = wz) := ⟨_, rfl⟩
  have hF0 : Fr [] w wz := by rw [← HWz.out]; exact Fr.alloc [] w _
  have hr : wz.heap[w.heap.size]? = some (.cells #[.pointer none, .pointer none] 45 (0, 0)) := by rw [← HWz.out]; exact heap_alloc_new w _
  obtain ⟨z, HZ⟩ : ∃ Z, Hid (w.heap.size = Z) := ⟨_, rfl⟩
  rw [HZ.out] at hr
  have HN : Hid (∀ W, Fr [] wz W → NoO W (some ⟨z, 0, none⟩)) := fun W hf => Or.inr ⟨z, rfl, hf.keep hr (by simp)⟩
  have HA : Hid (∀ W, Fr [] wz W → ARs W ao os) := fun W hf => hA.keep (hF0.then hf)
  have HL : Hid (L = os.length) := hL
  have HF0 : Hid (Fr [] w wz) := hF0
  have hLm : L ≤ 140737488355328 := by have := hA.few; omega
  clear hA hL hF0 hr
  go_enter Tryz.func4, Tryz.ntmps4
  go_wp2_with fail
  rw [HWz.out, HZ.out]
  clear HWz HZ
  go_loopw [4] (fun ii wr => ∃ (i : Nat), ii = .int .i64 i ∧ i ≤ L ∧ i ≤ 50 ∧ Hid (Fr [] wz wr)) (fun ii _ => 50 - (RowKit.intOf ii).toNat)
  case atStart => exact ⟨0, rfl, Nat.zero_le _, Nat.zero_le _, Fr.refl _ _⟩
  case round =>
    obtain ⟨i, rfl, hiL, hi5, HF⟩ := hrel
    by_cases hi : i < L
    · by_cases hj : i < 50
      · have hi' : i < os.length := by rw [← HL.out]; exact hi
        have HX : Hid (∀ W, Fr [] wz W → ∃ ab off, ao = some ⟨ab, off, none⟩ ∧ ∀ j, j < 10 → W.cell? ⟨ab, off + i * 10 + j, none⟩ = (os.getD i As.zero).c[j]?) := fun W hf => by
          obtain ⟨ab, off, e, _, h2⟩ := (HA.out W hf).lies (by omega)
          exact ⟨ab, off, e, h2 i hi'⟩
        have HB : Hid (∀ W, Fr [] wz W → RqB W (os.getD i As.zero).r (os.getD i As.zero).ns) := fun W hf => (HA.out W hf).each _ (agetD_mem os i hi')
        obtain ⟨a, ha⟩ : ∃ a, a = os.getD i As.zero := ⟨_, rfl⟩
        rw [← ha] at HX HB
        clear ha
        have H1 : Hid (Calls _ _ _ _ _) := asks_none none a wr (Or.inl rfl) (HB.out _ HF.out)
        have H2 : Hid (∀ W, Fr [] wz W → Calls _ _ _ _ _) := fun W hf => asks_none (some ⟨z, 0, none⟩) a W (HN.out W hf) (HB.out W hf)
        obtain ⟨ab, off, rfl, hx⟩ := HX.out _ HF.out
        have HX2 : Hid (∀ W, Fr [] wz W → ∀ j, j < 10 → W.cell? ⟨ab, off + i * 10 + j, none⟩ = a.c[j]?) := fun W hf => by
          obtain ⟨ab', off', e, h⟩ := HX.out W hf
          cases e
          exact h
        obtain ⟨s, ⟨xk, xf, xn, xa, xb, xd, xc, xe, xo, xl, xm⟩, ns⟩ := a
        have HX3 : Hid (∀ W, Fr [] wz W → W.cell? ⟨ab, off + i * 10, none⟩ = some (.bool s) ∧ W.cell? ⟨ab, off + i * 10 + 1, none⟩ = some (.int .u8 xk) ∧ W.cell? ⟨ab, off + i * 10 + 2, none⟩ = some (.int .i64 xf) ∧ W.cell? ⟨ab, off + i * 10 + 3, none⟩ = some (.int .i64 xn) ∧ W.cell? ⟨ab, off + i * 10 + 4, none⟩ = some (.string xa) ∧ W.cell? ⟨ab, off + i * 10 + 5, none⟩ = some (.string xb) ∧ W.cell? ⟨ab, off + i * 10 + 6, none⟩ = some (.bool xd) ∧ W.cell? ⟨ab, off + i * 10 + 7, none⟩ = some (.string xc) ∧ W.cell? ⟨ab, off + i * 10 + 8, none⟩ = some (.string xe) ∧ W.cell? ⟨ab, off + i * 10 + 9, none⟩ = some (.slice xo xl xm)) := fun W hf => by
          have h := HX2.out W hf
          exact ⟨h 0 (by omega), h 1 (by omega), h 2 (by omega), h 3 (by omega), h 4 (by omega), h 5 (by omega), h 6 (by omega), h 7 (by omega), h 8 (by omega), h 9 (by omega)⟩
        obtain ⟨a0, a1, a2, a3, a4, a5, a6, a7, a8, a9⟩ := HX3.out _ HF.out
        simp only at H1 H2
        clear hx HX HX2 HB
        go_wp2_with fail
        refine Calls.mono H1.out ?_
        rintro e w1 ⟨rfl, hF1⟩
        have hG1 := HF.out.then hF1
        clear a0 a1 a2 a3 a4 a5 a6 a7 a8 a9
        obtain ⟨a0, a1, a2, a3, a4, a5, a6, a7, a8, a9⟩ := HX3.out _ hG1
        go_wp2_with fail
        refine Calls.mono (H2.out _ hG1) ?_
        rintro e w2 ⟨rfl, hF2⟩
        have HF2 : Hid (Fr [] wz w2) := hG1.then hF2
        clear a0 a1 a2 a3 a4 a5 a6 a7 a8 a9 hF1 hG1 hF2 H1 H2
        go_wp2_with fail
        go_roundw
        case rel => exact ⟨i + 1, by simp, by omega, by omega, HF2⟩
        case measure => simp [RowKit.intOf]; omega
      · go_wp2_with fail
        refine (stands_none none _ (Or.inl rfl)).mono ?_
        rintro e w1 ⟨rfl, hF1⟩
        go_wp2_with fail
        refine (stands_none (some ⟨z, 0, none⟩) _ (HN.out _ (HF.out.then hF1))).mono ?_
        rintro e w2 ⟨rfl, hF2⟩
        go_wp2_with fail
        refine (lives_any _).mono ?_
        rintro e w3 ⟨rfl, hF3⟩
        go_wp2
        go_ret
        exact ⟨rfl, HF0.out.then (HF.out.then (hF1.then (hF2.then hF3)))⟩
    · go_wp2_with fail
      refine (stands_none none _ (Or.inl rfl)).mono ?_
      rintro e w1 ⟨rfl, hF1⟩
      go_wp2_with fail
      refine (stands_none (some ⟨z, 0, none⟩) _ (HN.out _ (HF.out.then hF1))).mono ?_
      rintro e w2 ⟨rfl, hF2⟩
      go_wp2_with fail
      refine (lives_any _).mono ?_
      rintro e w3 ⟨rfl, hF3⟩
      go_wp2
      go_ret
      exact ⟨rfl, HF0.out.then (HF.out.then (hF1.then (hF2.then hF3)))⟩
end Go.Proofs.YtomajifklajilaaGreat
/- The law's helper made: both owners made, or neither. Conditions as each names them. -/
namespace Go.Proofs.YtomajifklajilaaGreat
open Go.ChangeShapes Go.WideShapes Go.ChangeAt Go.RowKit Go.Lib Go.Maps
set_option linter.unusedVariables false
set_option linter.unusedSimpArgs false
section
variable {w0 w w' : World} {b : Nat} {ts : List Hd} {ks : List Nat}
/-- The twins read as what they were made of. -/
theorem twins_hrs {ao : Option Addr} (h : HRs w' ao ts) (hT : Twd w0 w ts ks) (hb : w.heap[b]? = some (.cells (hdsC (twTs ts ks ++ [spT])).toArray 70 (0, 0))) : HRs w (some ⟨b, 0, none⟩) (twTs ts ks) := by
  have hl := twTs_length ts ks hT.len
  refine ⟨fun h0 => ⟨b, 0, rfl, lt_of_block hb, fun i hi => ?_⟩, by rw [hl]; exact h.few, fun x hx => ?_⟩
  · obtain ⟨e1, e2⟩ := hdsC_get (twTs ts ks ++ [spT]) i (by simp; omega)
    have e3 : (twTs ts ks ++ [spT]).getD i Hd.zero = (twTs ts ks).getD i Hd.zero := by simp [List.getD, List.getElem?_append_left hi]
    rw [e3] at e1 e2
    rw [cell_of_row _ _ _ _ _ _ hb, cell_of_row _ _ _ _ _ _ hb, Nat.zero_add]
    exact ⟨by simpa using e1, by simpa using e2⟩
  · obtain ⟨i, hi⟩ := List.getElem?_of_mem hx
    obtain ⟨t, k, ht, hk, rfl⟩ := twTs_get hi
    have he := h.each t (List.mem_of_getElem? ht)
    refine ⟨he.k, he.len, by simp [twT], ?_⟩
    have hr := hT.row i t k ht hk
    refine VRs.of_cells (fun _ => lt_of_block hr) (fun j u hj => ?_) he.rs.few he.rs.each
    rw [Nat.zero_add, cell_of_row _ _ _ _ _ _ hr]
    have hj : (vnsC t.vs)[j]? = some u := hj
    have hj' : j < (vnsC t.vs).length := (List.getElem?_eq_some_iff.1 hj).1
    rw [vnsC_append]
    simpa [List.getElem?_append_left hj'] using hj
theorem twins_kv (hT : Twd w0 w ts ks) : (twTs ts ks).map hkv = ts.map hkv := by
  apply List.ext_getElem?
  intro i
  rw [List.getElem?_map, List.getElem?_map]
  by_cases hi : i < ts.length
  · have h1 : i < (twTs ts ks).length := by rw [twTs_length ts ks hT.len]; exact hi
    obtain ⟨u, hu⟩ : ∃ u, (twTs ts ks)[i]? = some u := ⟨_, List.getElem?_eq_getElem h1⟩
    obtain ⟨t, k, ht, hk, rfl⟩ := twTs_get hu
    rw [hu, ht]
    rfl
  · rw [List.getElem?_eq_none (by rw [twTs_length ts ks hT.len]; omega), List.getElem?_eq_none (by omega)]
end
/-- Both owners at their birth. -/
theorem bo_new {wl w0 w1 w2 : World} {ob sb b n g C yb yg lc : Nat} {lo : Option Addr} {gs : List Hd} (h : OwS w0 (fun _ => False) w1 ob sb b n g none C (mOf gs) []) (hl : wl.heap.size ≤ w0.heap.size) (hY : YoM w2 yb (some ⟨yg, 0, none⟩) C none 0 0 []) (hK : KSh w1 w2 yg n lc lo gs) (hv : ∀ x ∈ gs, ∀ j, VB x j → w1.heap.size ≤ j) (hy : w1.heap.size ≤ yb) (hne : yb ≠ yg) (hf : Fr [] w1 w2) :
    Bo wl w0 w1 w2 ob sb b g C yb yg n [] := by
  have hO := h.same hf
  have s0 := h.fr.size
  have hD : ∀ j, DocB yb none yg lo n lc gs j → w1.heap.size ≤ j := fun j hj => by
    rcases hj with rfl | hj | rfl | hj | ⟨x, hx, hj⟩
    · exact hy
    · cases hj
    · exact hK.gn
    · exact (owns_cells hK.log.row hj).1
    · exact hv x hx j hj
  refine ⟨none, none, 0, 0, [], n, lc, lo, gs, hO, ⟨hY, hK, .nil, fun j hj hd => ?_, fun j hd => ?_, fun hd => ?_, (fun k e => by cases e), hl, hf.size⟩, Nat.le_refl _⟩
  · have := h.lt (hj.back hf (by simp) h.sh.bl)
    have := hD j hd
    omega
  · have := hD j hd
    omega
  · rcases hd with e | hj | ⟨x, hx, hj⟩
    · exact hne e
    · obtain ⟨_, cur, e⟩ := owns_cells hK.log.row hj
      rw [hY.row] at e
      simp only [Option.some.injEq, Obj.cells.injEq] at e
      exact absurd e.2.1 (by decide)
    · obtain ⟨cur, e⟩ := hK.log.ty x hx yb hj
      rw [hY.row] at e
      simp only [Option.some.injEq, Obj.cells.injEq] at e
      exact absurd e.2.1 (by decide)
/-- What made says: neither, or both, alike. -/
def MdT (w : World) (L : Nat) (e : Ending) (w' : World) : Prop :=
  (e = .returned (.tuple #[.pointer none, .pointer none, .bool true]) ∧ Fr [] w w') ∨ ∃ ob sb b g C yb yg w0 w1, e = .returned (.tuple #[.pointer (some ⟨ob, 0, none⟩), .pointer (some ⟨yb, 0, none⟩), .bool true]) ∧ Bo w w0 w1 w' ob sb b g C yb yg L [] ∧ Fr [] w w0 ∧ Fr [] w w'
set_option maxHeartbeats 4000000 in
set_option maxRecDepth 100000 in
theorem made_any (sh qu : Int) (hi : -9223372036854775808 ≤ sh ∧ sh ≤ 9223372036854775807 ∧ -9223372036854775808 ≤ qu ∧ qu ≤ 9223372036854775807) (ao : Option Addr) (L cap : Nat) (ts : List Hd) (w : World) (hH : HRs w ao ts) (hL : L = ts.length) (hm : L < 2^21) (hfew : Few ts) :
    Calls Tryz.prog 5 #[.int .i64 sh, .int .i64 qu, .slice ao L cap] w fun e w' => MdT w L e w' := by
  have HTw : Hid (Calls _ _ _ _ _) := twinHs_any ao L cap ts w hH hL hm hfew
  have HI := (show Hid _ from hi)
  have HH : Hid (∀ W, Fr [] w W → HRs W ao ts) := fun W hf => hH.keep hf
  have HLf : Hid (∀ (W : World) (tb : Nat) (ks : List Nat), Fr [] w W → Twd w W ts ks → W.heap[tb]? = some (.cells (hdsC (twTs ts ks ++ [spT])).toArray 70 (0, 0)) → Calls _ _ _ _ _) := fun W tb ks hf hT hr => leftHs_any tb ks w ao L cap ts W (hH.keep hf) hL hm hfew hT hr
  have HL := (show Hid _ from hL)
  clear hH hL hfew hi
  go_enter Tryz.func5, Tryz.ntmps5
  go_wp2_with fail
  refine Calls.mono HTw.out ?_
  rintro e v0 ⟨tb, ks, rfl, htb, hrow, hT, hF0⟩
  have HF0 : Hid (Fr [] w v0) := hF0
  have HT : Hid (∀ W, Fr [] v0 W → Twd w W ts ks ∧ W.heap[tb]? = some (.cells (hdsC (twTs ts ks ++ [spT])).toArray 70 (0, 0))) := fun W hf => ⟨hT.keep hf (by simp), hf.keep hrow (by simp)⟩
  have HR : Hid (HRs v0 (some ⟨tb, 0, none⟩) (twTs ts ks) ∧ L = (twTs ts ks).length) := ⟨twins_hrs (HH.out _ hF0) hT hrow, by rw [twTs_length ts ks hT.len]; exact HL.out⟩
  have HE : Hid ((twTs ts ks).map hkv = ts.map hkv) := twins_kv hT
  clear hrow hT hF0 HTw htb
  by_cases hN : okN sh qu
  · have HN : Hid (Calls _ _ _ _ _) := onew_any sh qu (some ⟨tb, 0, none⟩) L (L + 1) (twTs ts ks) v0 hN HR.out.1 HR.out.2
    have HY : Hid (∀ W, Fr [] v0 W → Calls _ _ _ _ _) := fun W hf => yonew_any sh qu hN ao L cap ts W (HH.out _ (HF0.out.then hf)) HL.out
    clear hN
    go_wp2_with fail
    refine Calls.mono HN.out ?_
    rintro e v1 (⟨hl, rfl, hF1⟩ | ⟨hl, ob, sb, b, g, rfl, hO⟩)
    · have HF1 : Hid (Fr [] v0 v1) := hF1
      have HNl : Hid (¬ LoOk ts) := fun h => hl (h.kv HE.out).1
      clear hl hF1 HN
      go_wp2_with fail
      refine Calls.mono (HY.out _ HF1.out) ?_
      rintro e v2 (⟨hl, _⟩ | ⟨_, rfl, hF2⟩)
      · exact absurd hl HNl.out
      · have HF2 : Hid (Fr [] v0 v2) := HF1.out.then hF2
        clear hF2 HY
        go_wp2_with fail
        refine Calls.mono (HLf.out _ tb ks (HF0.out.then HF2.out) (HT.out _ HF2.out).1 (HT.out _ HF2.out).2) ?_
        rintro e v3 ⟨rfl, hF3⟩
        go_wp2
        refine bodyPost_ret (results_tmp3 rfl _ _ _) rfl ?_
        exact Or.inl ⟨rfl, (HF0.out.then HF2.out).then hF3⟩
    · have HO : Hid (OwS v0 (fun _ => False) v1 ob sb b L g none qu.toNat (mOf (twTs ts ks)) [] ∧ mOf (twTs ts ks) = mOf ts) := ⟨hO, (LoOk.kv (hs := ts) ((LoOk.kv (hs := twTs ts ks) hl HE.out.symm).1) HE.out).2⟩
      have HLo : Hid (LoOk ts) := (LoOk.kv (hs := twTs ts ks) hl HE.out.symm).1
      clear hl hO HN
      go_wp2_with fail
      refine Calls.mono (HY.out _ HO.out.1.fr) ?_
      rintro e v2 (⟨_, yb, yg, lc, lo, gs, rfl, hY, hK, hMo, hV, hyb, hne, hF2⟩ | ⟨hl, _⟩)
      · have HF2 : Hid (Fr [] v0 v2) := HO.out.1.fr.then hF2
        have HB : Hid (Bo w v0 v1 v2 ob sb b g qu.toNat yb yg L []) := bo_new (by rw [hMo, ← HO.out.2]; exact HO.out.1) HF0.out.size hY hK hV hyb hne hF2
        clear hF2 HY hY hK hMo hV hyb hne
        go_wp2_with fail
        refine Calls.mono (HLf.out _ tb ks (HF0.out.then HF2.out) (HT.out _ HF2.out).1 (HT.out _ HF2.out).2) ?_
        rintro e v3 ⟨rfl, hF3⟩
        go_wp2
        refine bodyPost_ret (results_tmp3 rfl _ _ _) rfl ?_
        exact Or.inr ⟨ob, sb, b, g, qu.toNat, yb, yg, v0, v1, rfl, HB.out.same hF3, HF0.out, (HF0.out.then HF2.out).then hF3⟩
      · exact absurd HLo.out hl
  · have HN : Hid (Calls _ _ _ _ _) := onew_no sh qu (some ⟨tb, 0, none⟩) L (L + 1) v0 hN
    have HY : Hid (Calls _ _ _ _ _) := yonew_arg sh qu HI.out ao L cap v0 (by unfold okN at hN; omega)
    clear hN
    go_wp2_with fail
    refine Calls.mono HN.out ?_
    rintro e v1 ⟨rfl, rfl⟩
    go_wp2_with fail
    refine Calls.mono HY.out ?_
    rintro e v2 ⟨rfl, hF2⟩
    have HF2 : Hid (Fr [] v0 v2) := hF2
    clear hF2 HY HN
    go_wp2_with fail
    refine Calls.mono (HLf.out _ tb ks (HF0.out.then HF2.out) (HT.out _ HF2.out).1 (HT.out _ HF2.out).2) ?_
    rintro e v3 ⟨rfl, hF3⟩
    go_wp2
    refine bodyPost_ret (results_tmp3 rfl _ _ _) rfl ?_
    exact Or.inl ⟨rfl, (HF0.out.then HF2.out).then hF3⟩
end Go.Proofs.YtomajifklajilaaGreat
/- For every way to make an owner, of fewer than 2^21 keys of fewer than 2^21 versions each, and every row of asks the law OwnerPlays returns true. -/
namespace Go.Proofs.YtomajifklajilaaGreat
open Go.ChangeShapes Go.WideShapes Go.ChangeAt Go.RowKit Go.Lib Go.Maps
set_option linter.unusedVariables false
set_option linter.unusedSimpArgs false
/-- Neither owner, or both alike, behind i asks. -/
def Pq (p r : Option Addr) (wz : World) (n : Nat) (W : World) : Prop := (p = none ∧ r = none ∧ Fr [] wz W) ∨ ∃ ob sb b g C yb yg w0 w1 rs, p = some ⟨ob, 0, none⟩ ∧ r = some ⟨yb, 0, none⟩ ∧ Fr [] wz w0 ∧ Bo wz w0 w1 W ob sb b g C yb yg n rs
section
variable {p r : Option Addr} {wz W W' : World} {n : Nat}
theorem Pq.fr (h : Pq p r wz n W) : Fr [] wz W := by
  rcases h with ⟨_, _, h⟩ | ⟨ob, sb, b, g, C, yb, yg, w0, w1, rs, _, _, h1, h2⟩
  · exact h
  · exact h1.then h2.fr
theorem Pq.same (h : Pq p r wz n W) (hf : Fr [] W W') : Pq p r wz n W' := by
  rcases h with ⟨e1, e2, h⟩ | ⟨ob, sb, b, g, C, yb, yg, w0, w1, rs, e1, e2, h1, h2⟩
  · exact Or.inl ⟨e1, e2, h.then hf⟩
  · exact Or.inr ⟨ob, sb, b, g, C, yb, yg, w0, w1, rs, e1, e2, h1, h2.same hf⟩
theorem pq_asks (h : Pq p r wz n W) (hn : n < 3518437208800) (a : As) (hR : RqB wz a.r a.ns) : Calls Tryz.prog 6 #[.pointer p, .pointer r, .agg #[.bool a.s, .int .u8 a.r.k, .int .i64 a.r.f, .int .i64 a.r.n, .string a.r.wk, .string a.r.wv, .bool a.r.wd, .string a.r.key, .string a.r.en, .slice a.r.bo a.r.bl a.r.bc]] W fun e w' => e = .returned (.bool true) ∧ Pq p r wz (n + 1) w' := by
  have hRW := hR.keep h.fr
  rcases h with ⟨rfl, rfl, h⟩ | ⟨ob, sb, b, g, C, yb, yg, w0, w1, rs, rfl, rfl, h1, h2⟩
  · refine (asks_none none a W (Or.inl rfl) hRW).mono ?_
    rintro e w' ⟨rfl, hf⟩
    exact ⟨rfl, Or.inl ⟨rfl, rfl, h.then hf⟩⟩
  · obtain ⟨s, x, ns⟩ := a
    cases s with
    | true =>
      refine (bo_serve h2 hn x).mono ?_
      rintro e w' ⟨rfl, rs', hB⟩
      exact ⟨rfl, Or.inr ⟨ob, sb, b, g, C, yb, yg, w0, w1, rs', rfl, rfl, h1, hB⟩⟩
    | false =>
      refine (bo_ask h2 x ns hRW (fun h0 a e => ?_)).mono ?_
      · obtain ⟨bb, off, e2, hb, _⟩ := hR.is.lies h0
        rw [e] at e2
        cases e2
        exact hb
      · rintro e w' ⟨rfl, rs', hB⟩
        exact ⟨rfl, Or.inr ⟨ob, sb, b, g, C, yb, yg, w0, w1, rs', rfl, rfl, h1, hB.mono (Nat.le_succ n)⟩⟩
theorem pq_stands (h : Pq p r wz n W) (hn : n < 3518437208800) : Calls Tryz.prog 7 #[.pointer p, .pointer r] W fun e w' => e = .returned (.bool true) ∧ Fr [] W w' := by
  rcases h with ⟨rfl, rfl, h⟩ | ⟨ob, sb, b, g, C, yb, yg, w0, w1, rs, rfl, rfl, h1, h2⟩
  · exact stands_none none W (Or.inl rfl)
  · exact bo_stands h2 hn
end
set_option maxHeartbeats 8000000 in
set_option maxRecDepth 100000 in
theorem plays_walk (sh qu : Int) (hi : -9223372036854775808 ≤ sh ∧ sh ≤ 9223372036854775807 ∧ -9223372036854775808 ≤ qu ∧ qu ≤ 9223372036854775807) (so : Option Addr) (M cap : Nat) (ts : List Hd) (ao : Option Addr) (L cap' : Nat) (os : List As) (w : World) (hH : HRs w so ts) (hM : M = ts.length) (hm : M < 2^21) (hfew : Few ts) (hA : ARs w ao os) (hL : L = os.length) :
    Calls Tryz.prog 3 #[.agg #[.int .i64 sh, .int .i64 qu, .slice so M cap], .slice ao L cap'] w fun e w' => e = .returned (.bool true) ∧ Fr [] w w' := by
  obtain ⟨wz, HWz⟩ : ∃ wz, Hid (w.alloc (.cells #[.int .i64 sh, .int .i64 qu, .slice so M cap] 24) = wz) := ⟨_, rfl⟩
  have hF0 : Fr [] w wz := by rw [← HWz.out]; exact Fr.alloc [] w _
  have hr : wz.heap[w.heap.size]? = some (.cells #[.int .i64 sh, .int .i64 qu, .slice so M cap] 24 (0, 0)) := by rw [← HWz.out]; exact heap_alloc_new w _
  obtain ⟨z, HZ⟩ : ∃ Z, Hid (w.heap.size = Z) := ⟨_, rfl⟩
  rw [HZ.out] at hr
  have HMd : Hid (Calls _ _ _ _ _) := made_any sh qu hi so M cap ts wz (hH.keep hF0) hM hm hfew
  have HA : Hid (∀ W, Fr [] wz W → ARs W ao os) := fun W hf => hA.keep (hF0.then hf)
  have HL : Hid (L = os.length) := hL
  have HF0 : Hid (Fr [] w wz) := hF0
  have hLm : L ≤ 140737488355328 := by have := hA.few; omega
  have c0 : wz.cell? ⟨z, 0, none⟩ = some (.int .i64 sh) := by rw [cell_of_row _ _ _ _ _ _ hr]; rfl
  have c1 : wz.cell? ⟨z, 1, none⟩ = some (.int .i64 qu) := by rw [cell_of_row _ _ _ _ _ _ hr]; rfl
  have c2 : wz.cell? ⟨z, 2, none⟩ = some (.slice so M cap) := by rw [cell_of_row _ _ _ _ _ _ hr]; rfl
  clear hA hL hF0 hr hH hM hfew hi
  go_enter Tryz.func3, Tryz.ntmps3
  go_upto_region 1 with fail
  rw [HWz.out, HZ.out]
  clear HWz HZ
  go_wp2_with fail
  refine Calls.mono HMd.out ?_
  intro e v1 hmd
  obtain ⟨p, r, rfl, hPq⟩ : ∃ p r, e = .returned (.tuple #[.pointer p, .pointer r, .bool true]) ∧ Pq p r wz M v1 := by
    rcases hmd with ⟨rfl, hf⟩ | ⟨ob, sb, b, g, C, yb, yg, w0, w1, rfl, hB, h0, hf⟩
    · exact ⟨none, none, rfl, Or.inl ⟨rfl, rfl, hf⟩⟩
    · exact ⟨_, _, rfl, Or.inr ⟨ob, sb, b, g, C, yb, yg, w0, w1, [], rfl, rfl, h0, hB⟩⟩
  have HPq : Hid (Pq p r wz M v1) := hPq
  clear hmd hPq c0 c1 c2 HMd
  go_wp2_with fail
  go_loopw [8] (fun ii wr => ∃ (i : Nat), ii = .int .i64 i ∧ i ≤ L ∧ i ≤ 200 ∧ Hid (Pq p r wz (M + i) wr)) (fun ii _ => 200 - (RowKit.intOf ii).toNat)
  case atStart => exact ⟨0, rfl, Nat.zero_le _, Nat.zero_le _, HPq⟩
  case round =>
    obtain ⟨i, rfl, hiL, hi5, HF⟩ := hrel
    by_cases hi : i < L
    · by_cases hj : i < 200
      · have hi' : i < os.length := by rw [← HL.out]; exact hi
        have HX : Hid (∀ W, Fr [] wz W → ∃ ab off, ao = some ⟨ab, off, none⟩ ∧ ∀ j, j < 10 → W.cell? ⟨ab, off + i * 10 + j, none⟩ = (os.getD i As.zero).c[j]?) := fun W hf => by
          obtain ⟨ab, off, e, _, h2⟩ := (HA.out W hf).lies (by omega)
          exact ⟨ab, off, e, h2 i hi'⟩
        have HB : Hid (RqB wz (os.getD i As.zero).r (os.getD i As.zero).ns) := (HA.out wz (Fr.refl _ _)).each _ (agetD_mem os i hi')
        obtain ⟨a, ha⟩ : ∃ a, a = os.getD i As.zero := ⟨_, rfl⟩
        rw [← ha] at HX HB
        clear ha
        have H1 : Hid (Calls _ _ _ _ _) := pq_asks HF.out (by omega) a HB.out
        obtain ⟨ab, off, rfl, hx⟩ := HX.out _ HF.out.fr
        obtain ⟨s, ⟨xk, xf, xn, xa, xb, xd, xc, xe, xo, xl, xm⟩, ns⟩ := a
        have a0 : wr.cell? ⟨ab, off + i * 10, none⟩ = some (.bool s) := hx 0 (by omega)
        have a1 : wr.cell? ⟨ab, off + i * 10 + 1, none⟩ = some (.int .u8 xk) := hx 1 (by omega)
        have a2 : wr.cell? ⟨ab, off + i * 10 + 2, none⟩ = some (.int .i64 xf) := hx 2 (by omega)
        have a3 : wr.cell? ⟨ab, off + i * 10 + 3, none⟩ = some (.int .i64 xn) := hx 3 (by omega)
        have a4 : wr.cell? ⟨ab, off + i * 10 + 4, none⟩ = some (.string xa) := hx 4 (by omega)
        have a5 : wr.cell? ⟨ab, off + i * 10 + 5, none⟩ = some (.string xb) := hx 5 (by omega)
        have a6 : wr.cell? ⟨ab, off + i * 10 + 6, none⟩ = some (.bool xd) := hx 6 (by omega)
        have a7 : wr.cell? ⟨ab, off + i * 10 + 7, none⟩ = some (.string xc) := hx 7 (by omega)
        have a8 : wr.cell? ⟨ab, off + i * 10 + 8, none⟩ = some (.string xe) := hx 8 (by omega)
        have a9 : wr.cell? ⟨ab, off + i * 10 + 9, none⟩ = some (.slice xo xl xm) := hx 9 (by omega)
        simp only at H1
        clear hx HX HB
        go_wp2_with fail
        refine Calls.mono H1.out ?_
        rintro e w1 ⟨rfl, hP1⟩
        have HP1 : Hid (Pq p r wz (M + i + 1) w1) := hP1
        clear a0 a1 a2 a3 a4 a5 a6 a7 a8 a9 hP1 H1
        go_wp2_with fail
        refine Calls.mono (pq_stands HP1.out (by omega)) ?_
        rintro e w2 ⟨rfl, hF2⟩
        have HF2 : Hid (Pq p r wz (M + (i + 1)) w2) := HP1.out.same hF2
        clear hF2 HP1
        go_wp2_with fail
        go_roundw
        case rel => exact ⟨i + 1, by simp, by omega, by omega, HF2⟩
        case measure => simp [RowKit.intOf]; omega
      · go_wp2_with fail
        refine Calls.mono (pq_stands HF.out (by omega)) ?_
        rintro e w1 ⟨rfl, hF1⟩
        have HG : Hid (Fr [] wz w1) := HF.out.fr.then hF1
        clear hF1
        go_wp2_with fail
        refine (lives_any _).mono ?_
        rintro e w3 ⟨rfl, hF3⟩
        go_wp2
        go_ret
        exact ⟨rfl, HF0.out.then (HG.out.then hF3)⟩
    · go_wp2_with fail
      refine Calls.mono (pq_stands HF.out (by omega)) ?_
      rintro e w1 ⟨rfl, hF1⟩
      have HG : Hid (Fr [] wz w1) := HF.out.fr.then hF1
      clear hF1
      go_wp2_with fail
      refine (lives_any _).mono ?_
      rintro e w3 ⟨rfl, hF3⟩
      go_wp2
      go_ret
      exact ⟨rfl, HF0.out.then (HG.out.then hF3)⟩
end Go.Proofs.YtomajifklajilaaGreat
/- How an owner is made, as it comes in. Conditions as each names them. -/
namespace Go.Proofs.YtomajifklajilaaGreat
open Go.ChangeShapes Go.WideShapes Go.ChangeAt Go.RowKit Go.Lib
set_option linter.unusedVariables false
set_option linter.unusedSimpArgs false
section
variable {H : Type} {enc : TypeId × Value → H}
theorem Tryz.cHds15 : Tryz.prog.cellsOf 22 = 1 := by kernel_rfl
theorem Tryz.cMade : Tryz.prog.cellsOf 24 = 3 := by kernel_rfl
theorem Tryz.madeFields : (match Tryz.prog.underlying 24 with | some (.struct fs) => fs.toList.map (fun f => (f.type, f.offset)) | _ => []) = [(3, 0), (3, 1), (22, 2)] := by kernel_rfl
set_option maxRecDepth 100000 in
theorem made_open {w : World} {fuel : Nat} {cs : List Value} {x : DataW H × List MemPlace} (h : DataW.trod enc Tryz.prog w 0 (fun _ => true) true fuel 24 cs = some x) (hsz : ∀ n ∈ x.1.weights Tryz.prog 24, n ≤ reachBytes) :
    ∃ (sh qu : Int) (ao : Option Addr) (L cap : Nat) (os : List Hd), cs = [.int .i64 sh, .int .i64 qu, .slice ao L cap] ∧ HRs w ao os ∧ L = os.length ∧ L ≤ 3518437208780 ∧ (-9223372036854775808 ≤ sh ∧ sh ≤ 9223372036854775807 ∧ -9223372036854775808 ≤ qu ∧ qu ≤ 9223372036854775807) := by
  have hF := Tryz.madeFields
  cases hu : Tryz.prog.underlying 24 with
  | none => rw [hu] at hF; simp at hF
  | some u =>
    rw [hu] at hF
    cases u with
    | struct fs =>
      simp only at hF
      obtain ⟨ys, n, _, hx, hlen, hys, hf⟩ := DataW.trod_struct hu h
      rw [Tryz.cMade] at hlen
      match cs, hlen with
      | [v0, v1, v2], _ =>
        have hl2 : fs.toList.length = 3 := by have := congrArg List.length hF; simpa using this
        obtain ⟨l, hl⟩ : ∃ l, l = fs.toList := ⟨_, rfl⟩
        rw [← hl] at hF hl2
        match l, hl2 with
        | [f0, f1, f2], _ =>
          simp only [List.map_cons, List.map_nil, List.cons.injEq, Prod.mk.injEq, and_true] at hF
          obtain ⟨⟨t0, o0⟩, ⟨t1, o1⟩, ⟨t2, o2⟩⟩ := hF
          have g : ∀ (i : Nat) (f : Field), [f0, f1, f2][i]? = some f → fs[i]? = some f := by
            intro i f hi
            rw [hl] at hi
            simpa using hi
          have r0 := hf 0 f0 (g 0 f0 rfl)
          have r1 := hf 1 f1 (g 1 f1 rfl)
          have r2 := hf 2 f2 (g 2 f2 rfl)
          rw [t0, o0, Tryz.cI9] at r0
          rw [t1, o1, Tryz.cI9] at r1
          rw [t2, o2, Tryz.cHds15] at r2
          simp only [List.drop_zero, List.drop_succ_cons, List.take_succ_cons, List.take_zero] at r0 r1 r2
          have hy2 : ys.length = 3 := by rw [hys]; have := congrArg List.length hl; simpa using this.symm
          match ys, hy2 with
          | [y0, y1, y2], _ =>
            simp only [List.getElem?_cons_zero, List.getElem?_cons_succ] at r0 r1 r2
            have hty : fs.toList.map (·.type) = [3, 3, 22] := by rw [← hl]; simp [t0, t1, t2]
            have hw : ∀ (j : Nat) (t : TypeId) (d : DataW H), [3, 3, 22][j]? = some t → [y0.1, y1.1, y2.1][j]? = some d → ∀ q ∈ d.weights Tryz.prog t, q ≤ reachBytes := fun j t d h1 h2 q hq => by
              apply hsz
              rw [hx]
              simp only [DataW.weights, hu]
              rw [hty]
              exact DataW.weights_mem_each (j := j) (t := t) (d := d) h1 h2 _ hq
            obtain ⟨k0, e0, _, w0⟩ := DataW.trod_int Tryz.undI9 r0
            obtain ⟨k1, e1, _, w1⟩ := DataW.trod_int Tryz.undI9 r1
            obtain ⟨ao, L, cap, os, e2, hH, hL, _, hM⟩ := hs9_open r2 (hw 2 22 y2.1 rfl rfl)
            have b0 := bounds_i64 w0
            have b1 := bounds_i64 w1
            simp only [List.cons.injEq, and_true] at e0 e1
            exact ⟨k0, k1, ao, L, cap, os, by rw [e0, e1, e2], hH, hL, hM, by omega, by omega, by omega, by omega⟩
    | _ => simp at hF
end
end Go.Proofs.YtomajifklajilaaGreat
/- What a bound on the bulk of what came in says of an owner's keys and versions. Conditions as each names them. -/
namespace Go.Proofs.YtomajifklajilaaGreat
open Go.ChangeShapes Go.WideShapes Go.ChangeAt Go.RowKit Go.Lib
set_option linter.unusedVariables false
set_option linter.unusedSimpArgs false
section
variable {H : Type} {enc : TypeId × Value → H} {w : World}
theorem bulk_one (d : DataW H) : 1 ≤ Rows.uptoBulk d := by
  cases d with
  | lit l => cases l <;> simp [Rows.uptoBulk]
  | _ => simp [Rows.uptoBulk]
theorem bulk_mem {d : DataW H} : ∀ {l : List (DataW H)}, d ∈ l → Rows.uptoBulk d ≤ Rows.uptoBulkAll l
  | [], h => by cases h
  | x :: r, h => by
    simp only [Rows.uptoBulkAll]
    rcases List.mem_cons.1 h with e | e
    · subst e; omega
    · have := bulk_mem e; omega
theorem bulk_len : ∀ l : List (DataW H), l.length ≤ Rows.uptoBulkAll l
  | [] => by simp [Rows.uptoBulkAll]
  | x :: r => by have := bulk_one x; have := bulk_len r; simp only [Rows.uptoBulkAll, List.length_cons]; omega
theorem bulk_part {t : TypeId} {fs : Array Field} {fuel : Nat} {cs : List Value} {x : DataW H × List MemPlace} (hu : Tryz.prog.underlying t = some (.struct fs)) (h : DataW.trod enc Tryz.prog w 0 (fun _ => true) true fuel t cs = some x) {i : Nat} {f : Field} (hi : fs[i]? = some f) :
    ∃ n y, DataW.trod enc Tryz.prog w 0 (fun _ => true) true n f.type ((cs.drop f.offset).take (Tryz.prog.cellsOf f.type)) = some y ∧ Rows.uptoBulk y.1 ≤ Rows.uptoBulk x.1 := by
  obtain ⟨ys, n, _, hx, hlen, hys, hf⟩ := DataW.trod_struct hu h
  have r := hf i f hi
  have hl : i < ys.length := by
    rw [hys]
    have := (Array.getElem?_eq_some_iff.1 hi).1
    simpa using this
  rw [List.getElem?_eq_getElem hl] at r
  refine ⟨n, ys[i], r, ?_⟩
  rw [hx]
  simp only [Rows.uptoBulk]
  have := bulk_mem (l := ys.map fun x => x.fst) (List.mem_map.2 ⟨ys[i], List.getElem_mem hl, rfl⟩)
  omega
theorem bulk_slice {t e : TypeId} {fuel : Nat} {ao : Option Addr} {L cap : Nat} {x : DataW H × List MemPlace} (ht : Tryz.prog.underlying t = some (.slice e)) (h : DataW.trod enc Tryz.prog w 0 (fun _ => true) true fuel t [.slice ao L cap] = some x) : L ≤ Rows.uptoBulk x.1 := by
  rcases Go.Deep.open_slice ht h with ⟨hcs, _⟩ | ⟨a, len, c, m, n, D, Pl, hcs, hb, hl, hm, hmm, hx, hE⟩
  · simp only [List.cons.injEq, Value.slice.injEq, and_true] at hcs
    omega
  · simp only [List.cons.injEq, Value.slice.injEq, and_true] at hcs
    rw [hx]
    simp only [Rows.uptoBulk]
    have := bulk_len ((List.range len).map D)
    simp only [List.length_map, List.length_range] at this
    omega
theorem Tryz.undVnsB : Tryz.prog.underlying 68 = some (.slice 110) := by kernel_rfl
theorem bulk_hd {fuel : Nat} {cs : List Value} {x : DataW H × List MemPlace} (h : DataW.trod enc Tryz.prog w 0 (fun _ => true) true fuel 70 cs = some x) {vo : Option Addr} {M c : Nat} (hc : cs[1]? = some (.slice vo M c)) : M ≤ Rows.uptoBulk x.1 := by
  have hF := Tryz.hdFields9
  obtain ⟨fs, f, hu, hf, e1, e2⟩ : ∃ fs f, Tryz.prog.underlying 70 = some (.struct fs) ∧ fs[1]? = some f ∧ f.type = 68 ∧ f.offset = 1 := by
    cases hu : Tryz.prog.underlying 70 with
    | none => rw [hu] at hF; simp at hF
    | some u =>
      rw [hu] at hF
      cases u with
      | struct fs =>
        simp only at hF
        have hq : (fs.toList.map (fun f => (f.type, f.offset)))[1]? = some (68, 1) := by rw [hF]; rfl
        rw [List.getElem?_map] at hq
        obtain ⟨f, hf, e⟩ := Option.map_eq_some_iff.1 hq
        simp only [Prod.mk.injEq] at e
        exact ⟨fs, f, rfl, by simpa using hf, e.1, e.2⟩
      | _ => simp at hF
  obtain ⟨n, y, hy, hb⟩ := bulk_part hu h hf
  rw [e1, e2, Tryz.cVns9] at hy
  obtain ⟨hl, hg⟩ := List.getElem?_eq_some_iff.1 hc
  have e3 : (cs.drop 1).take 1 = [.slice vo M c] := by
    rw [List.drop_eq_getElem_cons hl, hg]
    rfl
  rw [e3] at hy
  have := bulk_slice Tryz.undVnsB hy
  omega
theorem bulk_hds {fuel : Nat} {ao : Option Addr} {L cap : Nat} {x : DataW H × List MemPlace} (h : DataW.trod enc Tryz.prog w 0 (fun _ => true) true fuel 22 [.slice ao L cap] = some x) :
    L ≤ Rows.uptoBulk x.1 ∧ ∀ a, ao = some a → ∀ i, i < L → ∀ vo M c, w.cell? ((a.add (i * 2)).add 1) = some (.slice vo M c) → M ≤ Rows.uptoBulk x.1 := by
  refine ⟨bulk_slice Tryz.undHds9 h, fun a ha i hi vo M c hc => ?_⟩
  rcases Go.Deep.open_slice Tryz.undHds9 h with ⟨hcs, _⟩ | ⟨a', len, c', m, n, D, Pl, hcs, hb, hl, hm, hmm, hx, hE⟩
  · simp only [List.cons.injEq, Value.slice.injEq, and_true] at hcs
    omega
  · simp only [List.cons.injEq, Value.slice.injEq, and_true] at hcs
    obtain ⟨e1, e2, e3⟩ := hcs
    rw [ha] at e1
    cases e1
    simp only [if_true] at hmm
    rw [Tryz.cellsHd9] at hE
    obtain ⟨cs', h1, h2⟩ := hE i (by omega)
    have h3 := (World.cells?_some h1).2.2 1 (by omega)
    rw [hc] at h3
    have h4 := bulk_hd h2 h3.symm
    rw [hx]
    simp only [Rows.uptoBulk]
    have := bulk_mem (d := D i) (l := (List.range len).map D) (List.mem_map.2 ⟨i, by simp; omega, rfl⟩)
    simp only at h4
    omega
theorem bulk_made {fuel : Nat} {v0 v1 : Value} {ao : Option Addr} {L cap : Nat} {x : DataW H × List MemPlace} (h : DataW.trod enc Tryz.prog w 0 (fun _ => true) true fuel 24 [v0, v1, .slice ao L cap] = some x) {os : List Hd} (hH : HRs w ao os) (hL : L = os.length) (hb : Rows.uptoBulk x.1 ≤ 1048576) : L < 2^21 ∧ Few os := by
  have hF := Tryz.madeFields
  obtain ⟨fs, f, hu, hf, e1, e2⟩ : ∃ fs f, Tryz.prog.underlying 24 = some (.struct fs) ∧ fs[2]? = some f ∧ f.type = 22 ∧ f.offset = 2 := by
    cases hu : Tryz.prog.underlying 24 with
    | none => rw [hu] at hF; simp at hF
    | some u =>
      rw [hu] at hF
      cases u with
      | struct fs =>
        simp only at hF
        have hq : (fs.toList.map (fun f => (f.type, f.offset)))[2]? = some (22, 2) := by rw [hF]; rfl
        rw [List.getElem?_map] at hq
        obtain ⟨f, hf, e⟩ := Option.map_eq_some_iff.1 hq
        simp only [Prod.mk.injEq] at e
        exact ⟨fs, f, rfl, by simpa using hf, e.1, e.2⟩
      | _ => simp at hF
  obtain ⟨n, y, hy, hb2⟩ := bulk_part hu h hf
  rw [e1, e2, Tryz.cHds15] at hy
  simp only [List.drop_succ_cons, List.drop_zero, List.take_succ_cons, List.take_zero] at hy
  obtain ⟨k1, k2⟩ := bulk_hds hy
  refine ⟨by omega, fun t ht => ?_⟩
  obtain ⟨i, hi, e⟩ := List.getElem_of_mem ht
  obtain ⟨b, off, ea, _, hc⟩ := hH.lies (by omega)
  have h3 := (hc i hi).2
  have e4 : os.getD i Hd.zero = t := by simp [List.getD, hi, e]
  rw [e4] at h3
  have := k2 _ ea i (by omega) t.vo t.L t.cap (by rw [Addr.add_lit, Addr.add_lit]; exact h3)
  omega
end
end Go.Proofs.YtomajifklajilaaGreat
