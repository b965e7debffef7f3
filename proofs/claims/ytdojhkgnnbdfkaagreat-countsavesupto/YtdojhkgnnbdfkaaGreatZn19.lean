/- The document's Newest: contract. Conditions: a disk that is there. -/
import Derived.Test.YtdojhkgnnbdfkaaGreatZx19
namespace Go.Proofs.YtdojhkgnnbdfkaaGreat
open BigFrame Go.ChangeShapes Go.WideShapes Go.ChangeAt Go.RowKit Go.Lib Go.Maps
set_option linter.unusedVariables false
set_option linter.unusedSimpArgs false

set_option maxHeartbeats 1000000 in
theorem rread0 {w : World} {g : Nat} {v0 v1 : Value} {t : Sk} (h : Rk w g v0 v1 t) : Calls Tryz.prog 60 #[.pointer (some ⟨g, 0, none⟩), .int .i64 0] w fun e w' => e = .returned (.tuple #[v0, .int .i64 0]) ∧ w = w' := by
  have c1 := h.cell 1
  have c2 := h.cell 2
  obtain ⟨a0, k0, rfl⟩ := own_slice h.two.r0
  clear h
  go_enter Tryz.func60, Tryz.ntmps60
  go_wp2
  go_ret2
  exact ⟨rfl, rfl⟩
set_option maxHeartbeats 1000000 in
theorem rread1 {w : World} {g : Nat} {v0 v1 : Value} {t : Sk} (h : Rk w g v0 v1 t) : Calls Tryz.prog 60 #[.pointer (some ⟨g, 0, none⟩), .int .i64 1] w fun e w' => e = .returned (.tuple #[v1, .int .i64 0]) ∧ w = w' := by
  have c1 := h.cell 1
  have c2 := h.cell 2
  obtain ⟨a0, k0, rfl⟩ := own_slice h.two.r1
  clear h
  go_enter Tryz.func60, Tryz.ntmps60
  go_wp2
  go_ret2
  exact ⟨rfl, rfl⟩
theorem nil_newest (w : World) : Calls Tryz.prog 36 #[.pointer none] w fun e w' => e = .returned (.tuple #[.agg #[.int .i64 0, .slice none 0 0, .slice none 0 0], .int .i64 0, .int .i64 0, .bool false, .int .i64 2]) ∧ Fr [] w w' := by
  obtain ⟨w1, HW1⟩ : ∃ w1, Hid (w.alloc (.cells #[.int .i64 0, .slice none 0 0, .slice none 0 0] 27) = w1) := ⟨_, rfl⟩
  have hF1 : Fr [] w w1 := by rw [← HW1.out]; exact Fr.alloc [] w _
  obtain ⟨A, hA⟩ : ∃ A, A = w.heap.size := ⟨_, rfl⟩
  have hs : SB w1 A (.int .i64 0) (.slice none 0 0) (.slice none 0 0) := ⟨by rw [← HW1.out, hA]; exact svnew w⟩
  have a0 := hs.c0
  have a1 := hs.c1
  have a2 := hs.c2
  have b0 := hs.fz 0
  have b1 := hs.fz 1
  have b2 := hs.fz 2
  have HR : Hid ((loadVar 27 ⟨A, 0, none⟩).run Tryz.prog (((w1.setCell ⟨A, 0, none⟩ (.int .i64 0)).setCell ⟨A, 1, none⟩ (.slice none 0 0)).setCell ⟨A, 2, none⟩ (.slice none 0 0)) = .ok (.agg #[.int .i64 0, .slice none 0 0, .slice none 0 0]) (((w1.setCell ⟨A, 0, none⟩ (.int .i64 0)).setCell ⟨A, 1, none⟩ (.slice none 0 0)).setCell ⟨A, 2, none⟩ (.slice none 0 0)) ∧ Fr [] w (((w1.setCell ⟨A, 0, none⟩ (.int .i64 0)).setCell ⟨A, 1, none⟩ (.slice none 0 0)).setCell ⟨A, 2, none⟩ (.slice none 0 0))) := by
    obtain ⟨q1, q2⟩ := hs.fr0 (.int .i64 0) (.slice none 0 0) (.slice none 0 0)
    exact ⟨load_sv q1.box, hF1.on q2 (fun j hj => by simp at hj; omega)⟩
  clear hs hF1
  go_enter Tryz.func36, Tryz.ntmps36
  go_upto_region 1 with fail
  rw [HW1.out, ← hA]
  clear HW1 hA
  go_wp2
  refine bodyPost_ret (v := .tuple #[.agg #[.int .i64 0, .slice none 0 0, .slice none 0 0], .int .i64 0, .int .i64 0, .bool false, .int .i64 2]) (by rw [results_c4 rfl _ _ _ A _ rfl HR.out.1]; rfl) rfl ?_
  exact ⟨rfl, HR.out.2⟩
set_option maxHeartbeats 8000000 in
set_option maxRecDepth 100000 in
theorem znewest_any {w0 w : World} {d : Nat} {S : List Nat} {t : Sk} (h : LR w0 w d S t) :
    Calls Tryz.prog 36 #[.pointer (some ⟨d, 0, none⟩)] w fun e w' => NwP t.s0 t.s1 w e w' := by
  obtain ⟨v0, v1, hD, hSe⟩ := h.dk
  have hok := h.ok
  obtain ⟨a0, k0, rfl⟩ := own_slice hD.two.r0
  obtain ⟨a1, k1, rfl⟩ := own_slice hD.two.r1
  have HF01 : Hid (t.s0.length ≤ 16777216 ∧ t.s1.length ≤ 16777216 ∧ (∀ x ∈ t.s0, x < 256) ∧ (∀ x ∈ t.s1, x < 256)) := ⟨Nat.le_trans hok.f0 hok.cap, Nat.le_trans hok.f1 hok.cap, hok.b0, hok.b1⟩
  obtain ⟨w1, HW1⟩ : ∃ w1, Hid (w.alloc (.cells #[.int .i64 0, .slice none 0 0, .slice none 0 0] 27) = w1) := ⟨_, rfl⟩
  have hF1 : Fr [] w w1 := by rw [← HW1.out]; exact Fr.alloc [] w _
  obtain ⟨A, hA⟩ : ∃ A, A = w.heap.size := ⟨_, rfl⟩
  have HS1 : Hid (∀ W, Fr [] w1 W → SB W A (.int .i64 0) (.slice none 0 0) (.slice none 0 0)) := fun W hf => (⟨by rw [← HW1.out, hA]; exact svnew w⟩ : SB w1 A (.int .i64 0) (.slice none 0 0) (.slice none 0 0)).keep hf (by simp)
  obtain ⟨n0, hn0⟩ : ∃ n0, n0 = t.s0.length := ⟨_, rfl⟩
  obtain ⟨n1, hn1⟩ : ∃ n1, n1 = t.s1.length := ⟨_, rfl⟩
  rw [← hn0, ← hn1] at hD
  have HN : Hid (n0 = t.s0.length ∧ n1 = t.s1.length) := ⟨hn0, hn1⟩
  have HDk : Hid (∀ W, Fr [] w W → Rk W d (.slice a0 n0 k0) (.slice a1 n1 k1) t) := fun W hf => hD.keep hf (by simp)
  have HB0 : Hid (∀ W, Fr [] w W → BArg W a0 n0 k0 t.s0) := fun W hf => by
    have h9 := (HDk.out W hf).two.r0
    rw [← HN.out.1] at h9
    exact own_arg h9 HF01.out.2.2.1 (by have := HF01.out.1; omega)
  have HB1 : Hid (∀ W, Fr [] w W → BArg W a1 n1 k1 t.s1) := fun W hf => by
    have h9 := (HDk.out W hf).two.r1
    rw [← HN.out.2] at h9
    exact own_arg h9 HF01.out.2.2.2 (by have := HF01.out.2.1; omega)
  have HF1 : Hid (Fr [] w w1 ∧ w.heap.size ≤ A) := ⟨hF1, by omega⟩
  have HR0 : Hid (Calls _ _ _ _ _) := rread0 (HDk.out _ hF1)
  have HR1 : Hid (Calls _ _ _ _ _) := rread1 (HDk.out _ hF1)
  clear h hD hok hSe hF1 hn0 hn1
  go_enter Tryz.func36, Tryz.ntmps36
  go_upto_region 1 with fail
  rw [HW1.out, ← hA]
  clear HW1 hA
  go_wp2_with fail
  refine Calls.mono HR0.out ?_
  rintro e u ⟨rfl, rfl⟩
  go_wp2_with fail
  refine Calls.mono HR1.out ?_
  rintro e u ⟨rfl, rfl⟩
  clear HR0 HR1
  have HW0 : Hid (Calls _ _ _ _ _) := whole_any a0 n0 k0 t.s0 w1 (HB0.out _ HF1.out.1) (by have := HF01.out.1; omega)
  go_wp2_with fail
  refine Calls.mono HW0.out ?_
  rintro e w2 ⟨ok, g, gg, m, bo, Lb, cb, ho, Lh, ch, bs, hs, rfl, hWh, hgg, hgl, hSv, hF2⟩
  obtain ⟨w3, HW3⟩ : ∃ w3, Hid (w2.alloc (.cells #[.int .i64 m, .slice bo Lb cb, .slice ho Lh ch] 27) = w3) := ⟨_, rfl⟩
  have hF3 : Fr [] w2 w3 := by rw [← HW3.out]; exact Fr.alloc [] w2 _
  obtain ⟨P, hP⟩ : ∃ P, P = w2.heap.size := ⟨_, rfl⟩
  have HSP : Hid (∀ W, Fr [] w3 W → SB W P (.int .i64 m) (.slice bo Lb cb) (.slice ho Lh ch)) := fun W hf => (⟨by rw [← HW3.out, hP]; exact heap_alloc_new w2 _⟩ : SB w3 P _ _ _).keep hf (by simp)
  have HF13 : Hid (Fr [] w1 w3) := hF2.then hF3
  have HSv0 : Hid (∀ W, Fr [] w3 W → SvO w W bo Lb cb ho Lh ch bs hs) := fun W hf => ((hSv.keep hF3).later HF1.out.1.size).keep hf
  have HWh0 : Hid (Wh t.s0 ok g m bs (hs.map Hd.kv) ∧ (ok = true → gg = g)) := ⟨hWh, hgg⟩
  have HW1' : Hid (Calls _ _ _ _ _) := whole_any a1 n1 k1 t.s1 w3 (HB1.out _ (HF1.out.1.then HF13.out)) (by have := HF01.out.2.1; omega)
  clear HW0 hWh hgg hSv hF2 hF3
  go_upto_region 6 with fail
  rw [HW3.out, ← hP]
  clear HW3 hP
  go_wp2_with fail
  refine Calls.mono HW1'.out ?_
  rintro e w4 ⟨ok', g', gg', m', bo', Lb', cb', ho', Lh', ch', bs', hs', rfl, hWh, hgg, hgl', hSv, hF4⟩
  obtain ⟨w5, HW5⟩ : ∃ w5, Hid (w4.alloc (.cells #[.int .i64 m', .slice bo' Lb' cb', .slice ho' Lh' ch'] 27) = w5) := ⟨_, rfl⟩
  have hF5 : Fr [] w4 w5 := by rw [← HW5.out]; exact Fr.alloc [] w4 _
  obtain ⟨Q, hQ⟩ : ∃ Q, Q = w4.heap.size := ⟨_, rfl⟩
  have HSQ : Hid (SB w5 Q (.int .i64 m') (.slice bo' Lb' cb') (.slice ho' Lh' ch')) := ⟨by rw [← HW5.out, hQ]; exact heap_alloc_new w4 _⟩
  have HF15 : Hid (Fr [] w1 w5 ∧ Fr [] w3 w5) := ⟨HF13.out.then (hF4.then hF5), hF4.then hF5⟩
  have HSv1 : Hid (SvO w w5 bo' Lb' cb' ho' Lh' ch' bs' hs') := (hSv.keep hF5).later (HF1.out.1.then HF13.out).size
  have HWh1 : Hid (Wh t.s1 ok' g' m' bs' (hs'.map Hd.kv) ∧ (ok' = true → gg' = g')) := ⟨hWh, hgg⟩
  have c0 := (HS1.out _ HF15.out.1).c0
  have c1 := (HS1.out _ HF15.out.1).c1
  have c2 := (HS1.out _ HF15.out.1).c2
  have f0 := (HS1.out _ HF15.out.1).fz 0
  have f1 := (HS1.out _ HF15.out.1).fz 1
  have f2 := (HS1.out _ HF15.out.1).fz 2
  have p0 := (HSP.out _ HF15.out.2).c0
  have p1 := (HSP.out _ HF15.out.2).c1
  have p2 := (HSP.out _ HF15.out.2).c2
  have q0 := HSQ.out.c0
  have q1 := HSQ.out.c1
  have q2 := HSQ.out.c2
  have HE : Hid (∀ (ok : Bool) (g i : Nat) (m : Int) (bo : Option Addr) (Lb cb : Nat) (ho : Option Addr) (Lh ch : Nat) (bs : List Int) (hs : List Hd), Nw t.s0 t.s1 ok g i m bs (hs.map Hd.kv) → SvO w w5 bo Lb cb ho Lh ch bs hs → (loadVar 27 ⟨A, 0, none⟩).run Tryz.prog (((w5.setCell ⟨A, 0, none⟩ (.int .i64 m)).setCell ⟨A, 1, none⟩ (.slice bo Lb cb)).setCell ⟨A, 2, none⟩ (.slice ho Lh ch)) = .ok (.agg #[.int .i64 m, .slice bo Lb cb, .slice ho Lh ch]) (((w5.setCell ⟨A, 0, none⟩ (.int .i64 m)).setCell ⟨A, 1, none⟩ (.slice bo Lb cb)).setCell ⟨A, 2, none⟩ (.slice ho Lh ch)) ∧ NwP t.s0 t.s1 w (.returned (.tuple #[.agg #[.int .i64 m, .slice bo Lb cb, .slice ho Lh ch], .int .i64 (g : Int), .int .i64 (i : Int), .bool ok, .int .i64 0])) (((w5.setCell ⟨A, 0, none⟩ (.int .i64 m)).setCell ⟨A, 1, none⟩ (.slice bo Lb cb)).setCell ⟨A, 2, none⟩ (.slice ho Lh ch))) := fun ok g i m bo Lb cb ho Lh ch bs hs hN hS => by
    have hSb := HS1.out _ HF15.out.1
    obtain ⟨z1, z2⟩ := hSb.fr0 (.int .i64 m) (.slice bo Lb cb) (.slice ho Lh ch)
    exact ⟨load_sv z1.box, ok, g, i, m, bo, Lb, cb, ho, Lh, ch, bs, hs, rfl, hN, hS.offS hSb z2, (HF1.out.1.then HF15.out.1).on z2 (fun j hj => by have := HF1.out.2; simp at hj; omega)⟩
  clear HW1' hWh hgg hSv hF4 hF5
  go_upto_region 7 with fail
  rw [HW5.out, ← hQ]
  clear HW5 hQ
  cases ok' with
  | true =>
    obtain rfl : gg' = g' := HWh1.out.2 rfl
    have hg1 := HWh1.out.1.g_le
    have hwi : IntKind.i64.wrap (gg' : Int) = (gg' : Int) := by rw [IntKind.wrap_i64]; omega
    by_cases htk : g < gg'
    · obtain ⟨e1, e2⟩ := HE.out true gg' 1 m' bo' Lb' cb' ho' Lh' ch' bs' hs' (Or.inr ⟨rfl, HWh1.out.1, _, _, _, _, _, HWh0.out.1, htk⟩) HSv1.out
      have E1 : Hid ((loadVar _ _).run _ _ = _) := e1
      have E2 : Hid (NwP t.s0 t.s1 w _ _) := e2
      clear e1 e2
      cases ok with
      | true =>
        obtain rfl : gg = g := HWh0.out.2 rfl
        have htk' : (gg : Int) < (gg' : Int) := by omega
        go_wp2
        refine bodyPost_ret (v := .tuple #[.agg #[.int .i64 m', .slice bo' Lb' cb', .slice ho' Lh' ch'], .int .i64 (gg' : Int), .int .i64 1, .bool true, .int .i64 0]) (by rw [results_c4 rfl _ _ _ A _ rfl E1.out]; rfl) rfl ?_
        exact E2.out
      | false =>
        go_wp2
        refine bodyPost_ret (v := .tuple #[.agg #[.int .i64 m', .slice bo' Lb' cb', .slice ho' Lh' ch'], .int .i64 (gg' : Int), .int .i64 1, .bool true, .int .i64 0]) (by rw [results_c4 rfl _ _ _ A _ rfl E1.out]; rfl) rfl ?_
        exact E2.out
    · have hok1 : ok = true := HWh0.out.1.g_ok.2 (by have := HWh1.out.1.g_ok.1 rfl; omega)
      subst hok1
      obtain rfl : gg = g := HWh0.out.2 rfl
      have htk' : ¬ (gg : Int) < (gg' : Int) := by omega
      have hg0 := HWh0.out.1.g_le
      have hwi0 : IntKind.i64.wrap (gg : Int) = (gg : Int) := by rw [IntKind.wrap_i64]; omega
      obtain ⟨e1, e2⟩ := HE.out true gg 0 m bo Lb cb ho Lh ch bs hs (Or.inl ⟨rfl, HWh0.out.1, _, _, _, _, _, HWh1.out.1, by omega⟩) (HSv0.out _ HF15.out.2)
      have E1 : Hid ((loadVar _ _).run _ _ = _) := e1
      have E2 : Hid (NwP t.s0 t.s1 w _ _) := e2
      clear e1 e2
      go_wp2
      refine bodyPost_ret (v := .tuple #[.agg #[.int .i64 m, .slice bo Lb cb, .slice ho Lh ch], .int .i64 (gg : Int), .int .i64 0, .bool true, .int .i64 0]) (by rw [results_c4 rfl _ _ _ A _ rfl E1.out]; rfl) rfl ?_
      exact E2.out
  | false =>
    have hg'0 : g' = 0 := by
      rcases HWh1.out.1 with ⟨q, _⟩ | ⟨_, q, _⟩
      · cases q
      · exact q
    cases ok with
    | true =>
      obtain rfl : gg = g := HWh0.out.2 rfl
      have hg0 := HWh0.out.1.g_le
      have hwi0 : IntKind.i64.wrap (gg : Int) = (gg : Int) := by rw [IntKind.wrap_i64]; omega
      obtain ⟨e1, e2⟩ := HE.out true gg 0 m bo Lb cb ho Lh ch bs hs (Or.inl ⟨rfl, HWh0.out.1, _, _, _, _, _, HWh1.out.1, by omega⟩) (HSv0.out _ HF15.out.2)
      have E1 : Hid ((loadVar _ _).run _ _ = _) := e1
      have E2 : Hid (NwP t.s0 t.s1 w _ _) := e2
      clear e1 e2 hg'0
      go_wp2
      refine bodyPost_ret (v := .tuple #[.agg #[.int .i64 m, .slice bo Lb cb, .slice ho Lh ch], .int .i64 (gg : Int), .int .i64 0, .bool true, .int .i64 0]) (by rw [results_c4 rfl _ _ _ A _ rfl E1.out]; rfl) rfl ?_
      exact E2.out
    | false =>
      have HW00 : Hid (Wh t.s0 false 0 0 [] []) := by
        rcases HWh0.out.1 with ⟨q, _⟩ | ⟨_, _, _, _, _, q⟩
        · cases q
        · exact Or.inr ⟨rfl, rfl, rfl, rfl, rfl, q⟩
      obtain ⟨e1, e2⟩ := HE.out false 0 0 0 none 0 0 none 0 0 [] [] (Or.inl ⟨rfl, HW00.out, _, _, _, _, _, HWh1.out.1, by omega⟩) (SvO.nil _ _)
      have E1 : Hid ((loadVar _ _).run _ _ = _) := e1
      have E2 : Hid (NwP t.s0 t.s1 w _ _) := e2
      clear e1 e2 hg'0
      go_wp2
      refine bodyPost_ret (v := .tuple #[.agg #[.int .i64 0, .slice none 0 0, .slice none 0 0], .int .i64 0, .int .i64 0, .bool false, .int .i64 0]) (by rw [results_c4 rfl _ _ _ A _ rfl E1.out]; rfl) rfl ?_
      exact E2.out
end Go.Proofs.YtdojhkgnnbdfkaaGreat
