/- Texts of this claim laid together, one behind the other: contracts and plain lemmas; conditions as each names them. -/
import Derived.Test.YtomajifklajilaaGreatGp47
import Derived.Test.YtomajifklajilaaGreatGp48
import Derived.Test.YtomajifklajilaaGreatGp49
import Derived.Test.YtomajifklajilaaGreatGp50
/- An owner that is not there, the program's and the document's; the walk of OwnerNone. Conditions as each names them. -/
namespace Go.Proofs.YtomajifklajilaaGreat
open Go.ChangeShapes Go.WideShapes Go.ChangeAt Go.RowKit Go.Lib Go.Maps
set_option linter.unusedVariables false
set_option linter.unusedSimpArgs false
/-- An owner that is not there: nil, or a zero struct. -/
def NoO (w : World) (p : Option Addr) : Prop := p = none ∨ ∃ z, p = some ⟨z, 0, none⟩ ∧ w.heap[z]? = some (.cells #[.pointer none, .pointer none] 45 (0, 0))
theorem NoO.same {w w' : World} {p : Option Addr} (h : NoO w p) (hf : Fr [] w w') : NoO w' p := by
  rcases h with h | ⟨z, e, hz⟩
  · exact Or.inl h
  · exact Or.inr ⟨z, e, hf.keep hz (by simp)⟩
theorem othere_no (p : Option Addr) (w : World) (h : NoO w p) : Calls Tryz.prog 31 #[.pointer p] w fun e w' => e = .returned (.bool false) ∧ w = w' := by
  rcases h with rfl | ⟨z, rfl, hz⟩
  · go_enter Tryz.func31, Tryz.ntmps31
    go_wp2
    go_ret
    exact ⟨rfl, rfl⟩
  · have c0 : w.cell? ⟨z, 0, none⟩ = some (.pointer none) := by rw [cell_of_row _ _ _ _ _ _ hz]; rfl
    go_enter Tryz.func31, Tryz.ntmps31
    go_wp2
    go_ret
    exact ⟨rfl, rfl⟩
set_option maxHeartbeats 1000000 in
theorem olen_no (p : Option Addr) (w : World) (h : NoO w p) : Calls Tryz.prog 20 #[.pointer p] w fun e w' => e = .returned (.int .i64 0) ∧ w = w' := by
  have HT : Hid (Calls _ _ _ _ _) := othere_no p w h
  clear h
  go_enter Tryz.func20, Tryz.ntmps20
  go_wp2_with fail
  refine Calls.mono HT.out ?_
  rintro e w1 ⟨rfl, rfl⟩
  go_wp2
  go_ret
  exact ⟨rfl, rfl⟩
set_option maxHeartbeats 1000000 in
theorem oroom_no (p : Option Addr) (w : World) (h : NoO w p) : Calls Tryz.prog 22 #[.pointer p] w fun e w' => e = .returned (.int .i64 0) ∧ w = w' := by
  have HT : Hid (Calls _ _ _ _ _) := othere_no p w h
  clear h
  go_enter Tryz.func22, Tryz.ntmps22
  go_wp2_with fail
  refine Calls.mono HT.out ?_
  rintro e w1 ⟨rfl, rfl⟩
  go_wp2
  go_ret
  exact ⟨rfl, rfl⟩
set_option maxHeartbeats 1000000 in
theorem oall_no (p : Option Addr) (w : World) (h : NoO w p) : Calls Tryz.prog 25 #[.pointer p] w fun e w' => e = .returned (.slice none 0 0) ∧ w = w' := by
  have HT : Hid (Calls _ _ _ _ _) := othere_no p w h
  clear h
  go_enter Tryz.func25, Tryz.ntmps25
  go_wp2_with fail
  refine Calls.mono HT.out ?_
  rintro e w1 ⟨rfl, rfl⟩
  go_wp2
  go_ret
  exact ⟨rfl, rfl⟩
set_option maxHeartbeats 1000000 in
theorem oask_none (p : Option Addr) (x : Rv) (w : World) (h : NoO w p) : Calls Tryz.prog 17 #[.pointer p, x.v] w fun e w' => e = .returned (.tuple #[.bool false, .int .i64 2]) ∧ Fr [] w w' := by
  obtain ⟨xk, xf, xn, xa, xb, xd, xc, xe, xo, xl, xm⟩ := x
  have hF0 := Fr.alloc [] w (.cells #[.int .u8 xk, .int .i64 xf, .int .i64 xn, .string xa, .string xb, .bool xd, .string xc, .string xe, .slice xo xl xm] 36)
  have HT : Hid (Calls _ _ _ _ _) := othere_no p _ (h.same hF0)
  have HF0 := (show Hid _ from hF0)
  clear h hF0
  simp only [Rv.v]
  go_enter Tryz.func17, Tryz.ntmps17
  go_wp2_with fail
  refine Calls.mono HT.out ?_
  rintro e w1 ⟨rfl, rfl⟩
  go_wp2
  go_ret2
  exact ⟨rfl, HF0.out⟩
set_option maxHeartbeats 1000000 in
theorem oserve_none (p : Option Addr) (w : World) (h : NoO w p) : Calls Tryz.prog 13 #[.pointer p] w fun e w' => e = .returned (.tuple #[.agg #[.int .i64 0, .bool false, .slice none 0 0, .slice none 0 0, .int .i64 0], .int .i64 2]) ∧ Fr [] w w' := by
  have hF0 := Fr.alloc [] w (.cells #[.int .i64 0, .bool false, .slice none 0 0, .slice none 0 0, .int .i64 0] 56)
  have hr := heap_alloc_new w (.cells #[.int .i64 0, .bool false, .slice none 0 0, .slice none 0 0, .int .i64 0] 56)
  have HT : Hid (Calls _ _ _ _ _) := othere_no p _ (h.same hF0)
  have HF0 := (show Hid _ from hF0)
  have hself := setRow_self _ _ _ _ _ hr
  have hld := load_resp hr
  clear h hF0
  go_enter Tryz.func13, Tryz.ntmps13
  go_wp2_with fail
  refine Calls.mono HT.out ?_
  rintro e w1 ⟨rfl, rfl⟩
  go_wp2_with (first
    | (refine wpList_store_row rfl 56 _ _ rfl w.heap.size #[.int .i64 0, .bool false, .slice none 0 0, .slice none 0 0, .int .i64 0] rfl rfl _ _ hr (by kernel_rfl) rfl (rs_one _ _ _ _ _ _ _ _ _) ?_; rw [hself]; go_frame)
    | fail)
  refine bodyPost_ret (results_ct_row rfl _ _ _ _ _ rfl hld) rfl ?_
  exact ⟨rfl, HF0.out⟩
theorem yolen_nil (w : World) : Calls Tryz.prog 21 #[.pointer none] w fun e w' => e = .returned (.int .i64 0) ∧ w = w' := by
  go_enter Tryz.func21, Tryz.ntmps21
  go_wp2
  go_ret
  exact ⟨rfl, rfl⟩
theorem yoroom_nil (w : World) : Calls Tryz.prog 23 #[.pointer none] w fun e w' => e = .returned (.int .i64 0) ∧ w = w' := by
  go_enter Tryz.func23, Tryz.ntmps23
  go_wp2
  go_ret
  exact ⟨rfl, rfl⟩
theorem yoall_nil (w : World) : Calls Tryz.prog 26 #[.pointer none] w fun e w' => e = .returned (.slice none 0 0) ∧ w = w' := by
  go_enter Tryz.func26, Tryz.ntmps26
  go_wp2
  go_ret
  exact ⟨rfl, rfl⟩
set_option maxHeartbeats 1000000 in
theorem yoask_nil (x : Rv) (w : World) : Calls Tryz.prog 18 #[.pointer none, x.v] w fun e w' => e = .returned (.tuple #[.bool false, .int .i64 2]) ∧ Fr [] w w' := by
  obtain ⟨xk, xf, xn, xa, xb, xd, xc, xe, xo, xl, xm⟩ := x
  have HF0 := (show Hid _ from Fr.alloc [] w (.cells #[.int .u8 xk, .int .i64 xf, .int .i64 xn, .string xa, .string xb, .bool xd, .string xc, .string xe, .slice xo xl xm] 36))
  simp only [Rv.v]
  go_enter Tryz.func18, Tryz.ntmps18
  go_wp2
  go_ret2
  exact ⟨rfl, HF0.out⟩
set_option maxHeartbeats 1000000 in
theorem yoserve_nil (w : World) : Calls Tryz.prog 14 #[.pointer none] w fun e w' => e = .returned (.tuple #[.agg #[.int .i64 0, .bool false, .slice none 0 0, .slice none 0 0, .int .i64 0], .int .i64 2]) ∧ Fr [] w w' := by
  have hF0 := Fr.alloc [] w (.cells #[.int .i64 0, .bool false, .slice none 0 0, .slice none 0 0, .int .i64 0] 56)
  have hr := heap_alloc_new w (.cells #[.int .i64 0, .bool false, .slice none 0 0, .slice none 0 0, .int .i64 0] 56)
  have HF0 := (show Hid _ from hF0)
  have hself := setRow_self _ _ _ _ _ hr
  have hld := load_resp hr
  clear hF0
  go_enter Tryz.func14, Tryz.ntmps14
  go_wp2_with (first
    | (refine wpList_store_row rfl 56 _ _ rfl w.heap.size #[.int .i64 0, .bool false, .slice none 0 0, .slice none 0 0, .int .i64 0] rfl rfl _ _ hr (by kernel_rfl) rfl (rs_one _ _ _ _ _ _ _ _ _) ?_; rw [hself]; go_frame)
    | fail)
  refine bodyPost_ret (results_ct_row rfl _ _ _ _ _ rfl hld) rfl ?_
  exact ⟨rfl, HF0.out⟩
theorem ers_nil (w : World) : ERs w none [] := ⟨by simp, fun h => by simp at h⟩
set_option maxHeartbeats 4000000 in
set_option maxRecDepth 100000 in
theorem asks_serve0 (p : Option Addr) (x : Rv) (w : World) (h : NoO w p) : Calls Tryz.prog 6 #[.pointer p, .pointer none, .agg #[.bool true, .int .u8 x.k, .int .i64 x.f, .int .i64 x.n, .string x.wk, .string x.wv, .bool x.wd, .string x.key, .string x.en, .slice x.bo x.bl x.bc]] w fun e w' => e = .returned (.bool true) ∧ Fr [] w w' := by
  obtain ⟨xk, xf, xn, xa, xb, xd, xc, xe, xo, xl, xm⟩ := x
  simp only
  have hF0 := Fr.alloc [] w (.cells #[.bool true, .int .u8 xk, .int .i64 xf, .int .i64 xn, .string xa, .string xb, .bool xd, .string xc, .string xe, .slice xo xl xm] 38)
  have HS : Hid (Calls _ _ _ _ _) := oserve_none p _ (h.same hF0)
  have HF0 := (show Hid _ from hF0)
  clear h hF0
  go_enter Tryz.func6, Tryz.ntmps6
  go_wp2_with fail
  refine Calls.mono HS.out ?_
  rintro e w1 ⟨rfl, hF1⟩
  have h7 := heap_alloc_new w1 (.cells #[.int .i64 0, .bool false, .slice none 0 0, .slice none 0 0, .int .i64 0] 56)
  have HF1 : Hid (Fr [] w (w1.alloc (.cells #[.int .i64 0, .bool false, .slice none 0 0, .slice none 0 0, .int .i64 0] 56))) := HF0.out.then (hF1.then (Fr.alloc _ _ _))
  go_wp2_with fail
  refine (yoserve_nil _).mono ?_
  rintro e w2 ⟨rfl, hF2⟩
  have h72 := (hF2.then (Fr.alloc [] w2 (.cells #[.int .i64 0, .bool false, .slice none 0 0, .slice none 0 0, .int .i64 0] 56))).keep h7 (by simp)
  have h9 := heap_alloc_new w2 (.cells #[.int .i64 0, .bool false, .slice none 0 0, .slice none 0 0, .int .i64 0] 56)
  have HF2 : Hid (Fr [] w (w2.alloc (.cells #[.int .i64 0, .bool false, .slice none 0 0, .slice none 0 0, .int .i64 0] 56))) := HF1.out.then (hF2.then (Fr.alloc _ _ _))
  have c0 : (w2.alloc (.cells #[.int .i64 0, .bool false, .slice none 0 0, .slice none 0 0, .int .i64 0] 56)).cell? ⟨w1.heap.size, 0, none⟩ = some (.int .i64 0) := by rw [cell_of_row _ _ _ _ _ _ h72]; rfl
  have c1 : (w2.alloc (.cells #[.int .i64 0, .bool false, .slice none 0 0, .slice none 0 0, .int .i64 0] 56)).cell? ⟨w1.heap.size, 1, none⟩ = some (.bool false) := by rw [cell_of_row _ _ _ _ _ _ h72]; rfl
  have c2 : (w2.alloc (.cells #[.int .i64 0, .bool false, .slice none 0 0, .slice none 0 0, .int .i64 0] 56)).cell? ⟨w1.heap.size, 2, none⟩ = some (.slice none 0 0) := by rw [cell_of_row _ _ _ _ _ _ h72]; rfl
  have c3 : (w2.alloc (.cells #[.int .i64 0, .bool false, .slice none 0 0, .slice none 0 0, .int .i64 0] 56)).cell? ⟨w1.heap.size, 3, none⟩ = some (.slice none 0 0) := by rw [cell_of_row _ _ _ _ _ _ h72]; rfl
  have c4 : (w2.alloc (.cells #[.int .i64 0, .bool false, .slice none 0 0, .slice none 0 0, .int .i64 0] 56)).cell? ⟨w1.heap.size, 4, none⟩ = some (.int .i64 0) := by rw [cell_of_row _ _ _ _ _ _ h72]; rfl
  clear hF1 h7 hF2 h72 h9 HS
  go_wp2_with fail
  refine (sameResp_any 0 false none none none none 0 0 0 0 0 0 0 [] [] [] _ (ers_nil _) (ers_nil _) rfl (hrs_nil _) (hrs_nil _) rfl rfl).mono ?_
  rintro e w3 ⟨rfl, hF3⟩
  go_wp2
  go_ret
  exact ⟨rfl, HF2.out.then hF3⟩
/-- What asks answers where neither owner is there. -/
theorem asks_none (p : Option Addr) (a : As) (w : World) (h : NoO w p) (hR : RqB w a.r a.ns) : Calls Tryz.prog 6 #[.pointer p, .pointer none, .agg #[.bool a.s, .int .u8 a.r.k, .int .i64 a.r.f, .int .i64 a.r.n, .string a.r.wk, .string a.r.wv, .bool a.r.wd, .string a.r.key, .string a.r.en, .slice a.r.bo a.r.bl a.r.bc]] w fun e w' => e = .returned (.bool true) ∧ Fr [] w w' := by
  obtain ⟨s, x, ns⟩ := a
  cases s with
  | true => exact asks_serve0 p x w h
  | false =>
    refine (asks_ask p none x ns w hR (fun W w2 => Fr [] W w2) (fun W tb hW htb hB => (oask_none p _ W (h.same hW)).mono ?_)).mono ?_
    · rintro e w1 ⟨rfl, hF1⟩
      refine ⟨false, 2, rfl, Nf.of hF1, (yoask_nil x w1).mono ?_⟩
      rintro e w2 ⟨rfl, hF2⟩
      exact ⟨rfl, Nf.of hF2, hR.keep (hW.then (hF1.then hF2)), hF1.then hF2⟩
    · rintro e w' ⟨rfl, W, w2, T, hW, hP, hT, hj⟩
      exact ⟨rfl, (hW.then hP).on hT (fun y hy => (hj y hy).1)⟩
set_option maxHeartbeats 1000000 in
theorem stands_none (p : Option Addr) (w : World) (h : NoO w p) : Calls Tryz.prog 7 #[.pointer p, .pointer none] w fun e w' => e = .returned (.bool true) ∧ Fr [] w w' := by
  have H1 : Hid (Calls _ _ _ _ _) := olen_no p w h
  have H2 : Hid (Calls _ _ _ _ _) := oroom_no p w h
  have H3 : Hid (Calls _ _ _ _ _) := oall_no p w h
  clear h
  go_enter Tryz.func7, Tryz.ntmps7
  go_wp2_with fail
  refine Calls.mono H1.out ?_
  rintro e w1 ⟨rfl, rfl⟩
  go_wp2_with fail
  refine (yolen_nil _).mono ?_
  rintro e w1 ⟨rfl, rfl⟩
  go_wp2_with fail
  refine Calls.mono H2.out ?_
  rintro e w1 ⟨rfl, rfl⟩
  go_wp2_with fail
  refine (yoroom_nil _).mono ?_
  rintro e w1 ⟨rfl, rfl⟩
  go_wp2_with fail
  refine Calls.mono H3.out ?_
  rintro e w1 ⟨rfl, rfl⟩
  go_wp2_with fail
  refine (yoall_nil _).mono ?_
  rintro e w1 ⟨rfl, rfl⟩
  go_wp2_with fail
  refine (sameHelds_any none none 0 0 0 [] [] _ (hrs_nil _) (hrs_nil _) rfl rfl).mono ?_
  rintro e w1 ⟨rfl, hF⟩
  go_wp2
  go_ret
  exact ⟨rfl, hF⟩
set_option maxHeartbeats 8000000 in
set_option maxRecDepth 100000 in
theorem none_walk (ao : Option Addr) (L cap : Nat) (os : List As) (w : World) (hA : ARs w ao os) (hL : L = os.length) :
    Calls Tryz.prog 4 #[.slice ao L cap] w fun e w' => e = .returned (.bool true) ∧ Fr [] w w' := by
  obtain ⟨wz, HWz⟩ : ∃ wz, Hid (w.alloc (.cells #[.pointer none, .pointer none] 45) = wz) := ⟨_, rfl⟩
  have hF0 : Fr [] w wz := by rw [← HWz.out]; exact Fr.alloc [] w _
  have hr : wz.heap[w.heap.size]? = some (.cells #[.pointer none, .pointer none] 45 (0, 0)) := by rw [← HWz.out]; exact heap_alloc_new w _
  obtain ⟨z, HZ⟩ : ∃ Z, Hid (w.heap.size = Z) := ⟨_, rfl⟩
  rw [HZ.out] at hr
  have HN : Hid (∀ W, Fr [] wz W → NoO W (some ⟨z, 0, none⟩)) := fun W hf => Or.inr ⟨z, rfl, hf.keep hr (by simp)⟩
  have HA : Hid (∀ W, Fr [] wz W → ARs W ao os) := fun W hf => hA.keep (hF0.then hf)
  have HL : Hid (L = os.length) := hL
  have HF0 : Hid (Fr [] w wz) := hF0
  have hLm : L ≤ 140737488355328 := by have := hA.few; omega
  clear hA hL hF0 hr
  go_enter Tryz.func4, Tryz.ntmps4
  go_wp2_with fail
  rw [HWz.out, HZ.out]
  clear HWz HZ
  go_loopw [4] (fun ii wr => ∃ (i : Nat), ii = .int .i64 i ∧ i ≤ L ∧ i ≤ 50 ∧ Hid (Fr [] wz wr)) (fun ii _ => 50 - (RowKit.intOf ii).toNat)
  case atStart => exact ⟨0, rfl, Nat.zero_le _, Nat.zero_le _, Fr.refl _ _⟩
  case round =>
    obtain ⟨i, rfl, hiL, hi5, HF⟩ := hrel
    by_cases hi : i < L
    · by_cases hj : i < 50
      · have hi' : i < os.length := by rw [← HL.out]; exact hi
        have HX : Hid (∀ W, Fr [] wz W → ∃ ab off, ao = some ⟨ab, off, none⟩ ∧ ∀ j, j < 10 → W.cell? ⟨ab, off + i * 10 + j, none⟩ = (os.getD i As.zero).c[j]?) := fun W hf => by
          obtain ⟨ab, off, e, _, h2⟩ := (HA.out W hf).lies (by omega)
          exact ⟨ab, off, e, h2 i hi'⟩
        have HB : Hid (∀ W, Fr [] wz W → RqB W (os.getD i As.zero).r (os.getD i As.zero).ns) := fun W hf => (HA.out W hf).each _ (agetD_mem os i hi')
        obtain ⟨a, ha⟩ : ∃ a, a = os.getD i As.zero := ⟨_, rfl⟩
        rw [← ha] at HX HB
        clear ha
        have H1 : Hid (Calls _ _ _ _ _) := asks_none none a wr (Or.inl rfl) (HB.out _ HF.out)
        have H2 : Hid (∀ W, Fr [] wz W → Calls _ _ _ _ _) := fun W hf => asks_none (some ⟨z, 0, none⟩) a W (HN.out W hf) (HB.out W hf)
        obtain ⟨ab, off, rfl, hx⟩ := HX.out _ HF.out
        have HX2 : Hid (∀ W, Fr [] wz W → ∀ j, j < 10 → W.cell? ⟨ab, off + i * 10 + j, none⟩ = a.c[j]?) := fun W hf => by
          obtain ⟨ab', off', e, h⟩ := HX.out W hf
          cases e
          exact h
        obtain ⟨s, ⟨xk, xf, xn, xa, xb, xd, xc, xe, xo, xl, xm⟩, ns⟩ := a
        have HX3 : Hid (∀ W, Fr [] wz W → W.cell? ⟨ab, off + i * 10, none⟩ = some (.bool s) ∧ W.cell? ⟨ab, off + i * 10 + 1, none⟩ = some (.int .u8 xk) ∧ W.cell? ⟨ab, off + i * 10 + 2, none⟩ = some (.int .i64 xf) ∧ W.cell? ⟨ab, off + i * 10 + 3, none⟩ = some (.int .i64 xn) ∧ W.cell? ⟨ab, off + i * 10 + 4, none⟩ = some (.string xa) ∧ W.cell? ⟨ab, off + i * 10 + 5, none⟩ = some (.string xb) ∧ W.cell? ⟨ab, off + i * 10 + 6, none⟩ = some (.bool xd) ∧ W.cell? ⟨ab, off + i * 10 + 7, none⟩ = some (.string xc) ∧ W.cell? ⟨ab, off + i * 10 + 8, none⟩ = some (.string xe) ∧ W.cell? ⟨ab, off + i * 10 + 9, none⟩ = some (.slice xo xl xm)) := fun W hf => by
          have h := HX2.out W hf
          exact ⟨h 0 (by omega), h 1 (by omega), h 2 (by omega), h 3 (by omega), h 4 (by omega), h 5 (by omega), h 6 (by omega), h 7 (by omega), h 8 (by omega), h 9 (by omega)⟩
        obtain ⟨a0, a1, a2, a3, a4, a5, a6, a7, a8, a9⟩ := HX3.out _ HF.out
        simp only at H1 H2
        clear hx HX HX2 HB
        go_wp2_with fail
        refine Calls.mono H1.out ?_
        rintro e w1 ⟨rfl, hF1⟩
        have hG1 := HF.out.then hF1
        clear a0 a1 a2 a3 a4 a5 a6 a7 a8 a9
        obtain ⟨a0, a1, a2, a3, a4, a5, a6, a7, a8, a9⟩ := HX3.out _ hG1
        go_wp2_with fail
        refine Calls.mono (H2.out _ hG1) ?_
        rintro e w2 ⟨rfl, hF2⟩
        have HF2 : Hid (Fr [] wz w2) := hG1.then hF2
        clear a0 a1 a2 a3 a4 a5 a6 a7 a8 a9 hF1 hG1 hF2 H1 H2
        go_wp2_with fail
        go_roundw
        case rel => exact ⟨i + 1, by simp, by omega, by omega, HF2⟩
        case measure => simp [RowKit.intOf]; omega
      · go_wp2_with fail
        refine (stands_none none _ (Or.inl rfl)).mono ?_
        rintro e w1 ⟨rfl, hF1⟩
        go_wp2_with fail
        refine (stands_none (some ⟨z, 0, none⟩) _ (HN.out _ (HF.out.then hF1))).mono ?_
        rintro e w2 ⟨rfl, hF2⟩
        go_wp2_with fail
        refine (lives_any _).mono ?_
        rintro e w3 ⟨rfl, hF3⟩
        go_wp2
        go_ret
        exact ⟨rfl, HF0.out.then (HF.out.then (hF1.then (hF2.then hF3)))⟩
    · go_wp2_with fail
      refine (stands_none none _ (Or.inl rfl)).mono ?_
      rintro e w1 ⟨rfl, hF1⟩
      go_wp2_with fail
      refine (stands_none (some ⟨z, 0, none⟩) _ (HN.out _ (HF.out.then hF1))).mono ?_
      rintro e w2 ⟨rfl, hF2⟩
      go_wp2_with fail
      refine (lives_any _).mono ?_
      rintro e w3 ⟨rfl, hF3⟩
      go_wp2
      go_ret
      exact ⟨rfl, HF0.out.then (HF.out.then (hF1.then (hF2.then hF3)))⟩
end Go.Proofs.YtomajifklajilaaGreat
/- The law's helper made: both owners made, or neither. Conditions as each names them. -/
namespace Go.Proofs.YtomajifklajilaaGreat
open Go.ChangeShapes Go.WideShapes Go.ChangeAt Go.RowKit Go.Lib Go.Maps
set_option linter.unusedVariables false
set_option linter.unusedSimpArgs false
section
variable {w0 w w' : World} {b : Nat} {ts : List Hd} {ks : List Nat}
/-- The twins read as what they were made of. -/
theorem twins_hrs {ao : Option Addr} (h : HRs w' ao ts) (hT : Twd w0 w ts ks) (hb : w.heap[b]? = some (.cells (hdsC (twTs ts ks ++ [spT])).toArray 70 (0, 0))) : HRs w (some ⟨b, 0, none⟩) (twTs ts ks) := by
  have hl := twTs_length ts ks hT.len
  refine ⟨fun h0 => ⟨b, 0, rfl, lt_of_block hb, fun i hi => ?_⟩, by rw [hl]; exact h.few, fun x hx => ?_⟩
  · obtain ⟨e1, e2⟩ := hdsC_get (twTs ts ks ++ [spT]) i (by simp; omega)
    have e3 : (twTs ts ks ++ [spT]).getD i Hd.zero = (twTs ts ks).getD i Hd.zero := by simp [List.getD, List.getElem?_append_left hi]
    rw [e3] at e1 e2
    rw [cell_of_row _ _ _ _ _ _ hb, cell_of_row _ _ _ _ _ _ hb, Nat.zero_add]
    exact ⟨by simpa using e1, by simpa using e2⟩
  · obtain ⟨i, hi⟩ := List.getElem?_of_mem hx
    obtain ⟨t, k, ht, hk, rfl⟩ := twTs_get hi
    have he := h.each t (List.mem_of_getElem? ht)
    refine ⟨he.k, he.len, by simp [twT], ?_⟩
    have hr := hT.row i t k ht hk
    refine VRs.of_cells (fun _ => lt_of_block hr) (fun j u hj => ?_) he.rs.few he.rs.each
    rw [Nat.zero_add, cell_of_row _ _ _ _ _ _ hr]
    have hj : (vnsC t.vs)[j]? = some u := hj
    have hj' : j < (vnsC t.vs).length := (List.getElem?_eq_some_iff.1 hj).1
    rw [vnsC_append]
    simpa [List.getElem?_append_left hj'] using hj
theorem twins_kv (hT : Twd w0 w ts ks) : (twTs ts ks).map hkv = ts.map hkv := by
  apply List.ext_getElem?
  intro i
  rw [List.getElem?_map, List.getElem?_map]
  by_cases hi : i < ts.length
  · have h1 : i < (twTs ts ks).length := by rw [twTs_length ts ks hT.len]; exact hi
    obtain ⟨u, hu⟩ : ∃ u, (twTs ts ks)[i]? = some u := ⟨_, List.getElem?_eq_getElem h1⟩
    obtain ⟨t, k, ht, hk, rfl⟩ := twTs_get hu
    rw [hu, ht]
    rfl
  · rw [List.getElem?_eq_none (by rw [twTs_length ts ks hT.len]; omega), List.getElem?_eq_none (by omega)]
end
/-- Both owners at their birth. -/
theorem bo_new {wl w0 w1 w2 : World} {ob sb b n g C yb yg lc : Nat} {lo : Option Addr} {gs : List Hd} (h : OwS w0 (fun _ => False) w1 ob sb b n g none C (mOf gs) []) (hl : wl.heap.size ≤ w0.heap.size) (hY : YoM w2 yb (some ⟨yg, 0, none⟩) C none 0 0 []) (hK : KSh w1 w2 yg n lc lo gs) (hv : ∀ x ∈ gs, ∀ j, VB x j → w1.heap.size ≤ j) (hy : w1.heap.size ≤ yb) (hne : yb ≠ yg) (hf : Fr [] w1 w2) :
    Bo wl w0 w1 w2 ob sb b g C yb yg n [] := by
  have hO := h.same hf
  have s0 := h.fr.size
  have hD : ∀ j, DocB yb none yg lo n lc gs j → w1.heap.size ≤ j := fun j hj => by
    rcases hj with rfl | hj | rfl | hj | ⟨x, hx, hj⟩
    · exact hy
    · cases hj
    · exact hK.gn
    · exact (owns_cells hK.log.row hj).1
    · exact hv x hx j hj
  refine ⟨none, none, 0, 0, [], n, lc, lo, gs, hO, ⟨hY, hK, .nil, fun j hj hd => ?_, fun j hd => ?_, fun hd => ?_, (fun k e => by cases e), hl, hf.size⟩, Nat.le_refl _⟩
  · have := h.lt (hj.back hf (by simp) h.sh.bl)
    have := hD j hd
    omega
  · have := hD j hd
    omega
  · rcases hd with e | hj | ⟨x, hx, hj⟩
    · exact hne e
    · obtain ⟨_, cur, e⟩ := owns_cells hK.log.row hj
      rw [hY.row] at e
      simp only [Option.some.injEq, Obj.cells.injEq] at e
      exact absurd e.2.1 (by decide)
    · obtain ⟨cur, e⟩ := hK.log.ty x hx yb hj
      rw [hY.row] at e
      simp only [Option.some.injEq, Obj.cells.injEq] at e
      exact absurd e.2.1 (by decide)
/-- What made says: neither, or both, alike. -/
def MdT (w : World) (L : Nat) (e : Ending) (w' : World) : Prop :=
  (e = .returned (.tuple #[.pointer none, .pointer none, .bool true]) ∧ Fr [] w w') ∨ ∃ ob sb b g C yb yg w0 w1, e = .returned (.tuple #[.pointer (some ⟨ob, 0, none⟩), .pointer (some ⟨yb, 0, none⟩), .bool true]) ∧ Bo w w0 w1 w' ob sb b g C yb yg L [] ∧ Fr [] w w0 ∧ Fr [] w w'
set_option maxHeartbeats 4000000 in
set_option maxRecDepth 100000 in
theorem made_any (sh qu : Int) (hi : -9223372036854775808 ≤ sh ∧ sh ≤ 9223372036854775807 ∧ -9223372036854775808 ≤ qu ∧ qu ≤ 9223372036854775807) (ao : Option Addr) (L cap : Nat) (ts : List Hd) (w : World) (hH : HRs w ao ts) (hL : L = ts.length) (hm : L < 2^21) (hfew : Few ts) :
    Calls Tryz.prog 5 #[.int .i64 sh, .int .i64 qu, .slice ao L cap] w fun e w' => MdT w L e w' := by
  have HTw : Hid (Calls _ _ _ _ _) := twinHs_any ao L cap ts w hH hL hm hfew
  have HI := (show Hid _ from hi)
  have HH : Hid (∀ W, Fr [] w W → HRs W ao ts) := fun W hf => hH.keep hf
  have HLf : Hid (∀ (W : World) (tb : Nat) (ks : List Nat), Fr [] w W → Twd w W ts ks → W.heap[tb]? = some (.cells (hdsC (twTs ts ks ++ [spT])).toArray 70 (0, 0)) → Calls _ _ _ _ _) := fun W tb ks hf hT hr => leftHs_any tb ks w ao L cap ts W (hH.keep hf) hL hm hfew hT hr
  have HL := (show Hid _ from hL)
  clear hH hL hfew hi
  go_enter Tryz.func5, Tryz.ntmps5
  go_wp2_with fail
  refine Calls.mono HTw.out ?_
  rintro e v0 ⟨tb, ks, rfl, htb, hrow, hT, hF0⟩
  have HF0 : Hid (Fr [] w v0) := hF0
  have HT : Hid (∀ W, Fr [] v0 W → Twd w W ts ks ∧ W.heap[tb]? = some (.cells (hdsC (twTs ts ks ++ [spT])).toArray 70 (0, 0))) := fun W hf => ⟨hT.keep hf (by simp), hf.keep hrow (by simp)⟩
  have HR : Hid (HRs v0 (some ⟨tb, 0, none⟩) (twTs ts ks) ∧ L = (twTs ts ks).length) := ⟨twins_hrs (HH.out _ hF0) hT hrow, by rw [twTs_length ts ks hT.len]; exact HL.out⟩
  have HE : Hid ((twTs ts ks).map hkv = ts.map hkv) := twins_kv hT
  clear hrow hT hF0 HTw htb
  by_cases hN : okN sh qu
  · have HN : Hid (Calls _ _ _ _ _) := onew_any sh qu (some ⟨tb, 0, none⟩) L (L + 1) (twTs ts ks) v0 hN HR.out.1 HR.out.2
    have HY : Hid (∀ W, Fr [] v0 W → Calls _ _ _ _ _) := fun W hf => yonew_any sh qu hN ao L cap ts W (HH.out _ (HF0.out.then hf)) HL.out
    clear hN
    go_wp2_with fail
    refine Calls.mono HN.out ?_
    rintro e v1 (⟨hl, rfl, hF1⟩ | ⟨hl, ob, sb, b, g, rfl, hO⟩)
    · have HF1 : Hid (Fr [] v0 v1) := hF1
      have HNl : Hid (¬ LoOk ts) := fun h => hl (h.kv HE.out).1
      clear hl hF1 HN
      go_wp2_with fail
      refine Calls.mono (HY.out _ HF1.out) ?_
      rintro e v2 (⟨hl, _⟩ | ⟨_, rfl, hF2⟩)
      · exact absurd hl HNl.out
      · have HF2 : Hid (Fr [] v0 v2) := HF1.out.then hF2
        clear hF2 HY
        go_wp2_with fail
        refine Calls.mono (HLf.out _ tb ks (HF0.out.then HF2.out) (HT.out _ HF2.out).1 (HT.out _ HF2.out).2) ?_
        rintro e v3 ⟨rfl, hF3⟩
        go_wp2
        refine bodyPost_ret (results_tmp3 rfl _ _ _) rfl ?_
        exact Or.inl ⟨rfl, (HF0.out.then HF2.out).then hF3⟩
    · have HO : Hid (OwS v0 (fun _ => False) v1 ob sb b L g none qu.toNat (mOf (twTs ts ks)) [] ∧ mOf (twTs ts ks) = mOf ts) := ⟨hO, (LoOk.kv (hs := ts) ((LoOk.kv (hs := twTs ts ks) hl HE.out.symm).1) HE.out).2⟩
      have HLo : Hid (LoOk ts) := (LoOk.kv (hs := twTs ts ks) hl HE.out.symm).1
      clear hl hO HN
      go_wp2_with fail
      refine Calls.mono (HY.out _ HO.out.1.fr) ?_
      rintro e v2 (⟨_, yb, yg, lc, lo, gs, rfl, hY, hK, hMo, hV, hyb, hne, hF2⟩ | ⟨hl, _⟩)
      · have HF2 : Hid (Fr [] v0 v2) := HO.out.1.fr.then hF2
        have HB : Hid (Bo w v0 v1 v2 ob sb b g qu.toNat yb yg L []) := bo_new (by rw [hMo, ← HO.out.2]; exact HO.out.1) HF0.out.size hY hK hV hyb hne hF2
        clear hF2 HY hY hK hMo hV hyb hne
        go_wp2_with fail
        refine Calls.mono (HLf.out _ tb ks (HF0.out.then HF2.out) (HT.out _ HF2.out).1 (HT.out _ HF2.out).2) ?_
        rintro e v3 ⟨rfl, hF3⟩
        go_wp2
        refine bodyPost_ret (results_tmp3 rfl _ _ _) rfl ?_
        exact Or.inr ⟨ob, sb, b, g, qu.toNat, yb, yg, v0, v1, rfl, HB.out.same hF3, HF0.out, (HF0.out.then HF2.out).then hF3⟩
      · exact absurd HLo.out hl
  · have HN : Hid (Calls _ _ _ _ _) := onew_no sh qu (some ⟨tb, 0, none⟩) L (L + 1) v0 hN
    have HY : Hid (Calls _ _ _ _ _) := yonew_arg sh qu HI.out ao L cap v0 (by unfold okN at hN; omega)
    clear hN
    go_wp2_with fail
    refine Calls.mono HN.out ?_
    rintro e v1 ⟨rfl, rfl⟩
    go_wp2_with fail
    refine Calls.mono HY.out ?_
    rintro e v2 ⟨rfl, hF2⟩
    have HF2 : Hid (Fr [] v0 v2) := hF2
    clear hF2 HY HN
    go_wp2_with fail
    refine Calls.mono (HLf.out _ tb ks (HF0.out.then HF2.out) (HT.out _ HF2.out).1 (HT.out _ HF2.out).2) ?_
    rintro e v3 ⟨rfl, hF3⟩
    go_wp2
    refine bodyPost_ret (results_tmp3 rfl _ _ _) rfl ?_
    exact Or.inl ⟨rfl, (HF0.out.then HF2.out).then hF3⟩
end Go.Proofs.YtomajifklajilaaGreat
