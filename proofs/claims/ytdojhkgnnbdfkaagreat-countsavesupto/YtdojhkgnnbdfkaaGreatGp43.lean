/- Texts of this claim laid together, one behind the other: contracts and plain lemmas; conditions as each names them. -/
import Derived.Test.YtdojhkgnnbdfkaaGreatGp42
import Derived.Test.YtdojhkgnnbdfkaaGreatGp29
/- The document's Newest: contract. Conditions: a disk that is there. -/
namespace Go.Proofs.YtdojhkgnnbdfkaaGreat
open BigFrame Go.ChangeShapes Go.WideShapes Go.ChangeAt Go.RowKit Go.Lib Go.Maps
set_option linter.unusedVariables false
set_option linter.unusedSimpArgs false

set_option maxHeartbeats 1000000 in
theorem rread0 {w : World} {g : Nat} {v0 v1 : Value} {t : Sk} (h : Rk w g v0 v1 t) : Calls Tryz.prog 60 #[.pointer (some ⟨g, 0, none⟩), .int .i64 0] w fun e w' => e = .returned (.tuple #[v0, .int .i64 0]) ∧ w = w' := by
  have c1 := h.cell 1
  have c2 := h.cell 2
  obtain ⟨a0, k0, rfl⟩ := own_slice h.two.r0
  clear h
  go_enter Tryz.func60, Tryz.ntmps60
  go_wp2
  go_ret2
  exact ⟨rfl, rfl⟩
set_option maxHeartbeats 1000000 in
theorem rread1 {w : World} {g : Nat} {v0 v1 : Value} {t : Sk} (h : Rk w g v0 v1 t) : Calls Tryz.prog 60 #[.pointer (some ⟨g, 0, none⟩), .int .i64 1] w fun e w' => e = .returned (.tuple #[v1, .int .i64 0]) ∧ w = w' := by
  have c1 := h.cell 1
  have c2 := h.cell 2
  obtain ⟨a0, k0, rfl⟩ := own_slice h.two.r1
  clear h
  go_enter Tryz.func60, Tryz.ntmps60
  go_wp2
  go_ret2
  exact ⟨rfl, rfl⟩
theorem nil_newest (w : World) : Calls Tryz.prog 36 #[.pointer none] w fun e w' => e = .returned (.tuple #[.agg #[.int .i64 0, .slice none 0 0, .slice none 0 0], .int .i64 0, .int .i64 0, .bool false, .int .i64 2]) ∧ Fr [] w w' := by
  obtain ⟨w1, HW1⟩ : ∃ w1, Hid (w.alloc (.cells #[.int .i64 0, .slice none 0 0, .slice none 0 0] 27) = w1) := ⟨_, rfl⟩
  have hF1 : Fr [] w w1 := by rw [← HW1.out]; exact Fr.alloc [] w _
  obtain ⟨A, hA⟩ : ∃ A, A = w.heap.size := ⟨_, rfl⟩
  have hs : SB w1 A (.int .i64 0) (.slice none 0 0) (.slice none 0 0) := ⟨by rw [← HW1.out, hA]; exact svnew w⟩
  have a0 := hs.c0
  have a1 := hs.c1
  have a2 := hs.c2
  have b0 := hs.fz 0
  have b1 := hs.fz 1
  have b2 := hs.fz 2
  have HR : Hid ((loadVar 27 ⟨A, 0, none⟩).run Tryz.prog (((w1.setCell ⟨A, 0, none⟩ (.int .i64 0)).setCell ⟨A, 1, none⟩ (.slice none 0 0)).setCell ⟨A, 2, none⟩ (.slice none 0 0)) = .ok (.agg #[.int .i64 0, .slice none 0 0, .slice none 0 0]) (((w1.setCell ⟨A, 0, none⟩ (.int .i64 0)).setCell ⟨A, 1, none⟩ (.slice none 0 0)).setCell ⟨A, 2, none⟩ (.slice none 0 0)) ∧ Fr [] w (((w1.setCell ⟨A, 0, none⟩ (.int .i64 0)).setCell ⟨A, 1, none⟩ (.slice none 0 0)).setCell ⟨A, 2, none⟩ (.slice none 0 0))) := by
    obtain ⟨q1, q2⟩ := hs.fr0 (.int .i64 0) (.slice none 0 0) (.slice none 0 0)
    exact ⟨load_sv q1.box, hF1.on q2 (fun j hj => by simp at hj; omega)⟩
  clear hs hF1
  go_enter Tryz.func36, Tryz.ntmps36
  go_upto_region 1 with fail
  rw [HW1.out, ← hA]
  clear HW1 hA
  go_wp2
  refine bodyPost_ret (v := .tuple #[.agg #[.int .i64 0, .slice none 0 0, .slice none 0 0], .int .i64 0, .int .i64 0, .bool false, .int .i64 2]) (by rw [results_c4 rfl _ _ _ A _ rfl HR.out.1]; rfl) rfl ?_
  exact ⟨rfl, HR.out.2⟩
set_option maxHeartbeats 8000000 in
set_option maxRecDepth 100000 in
theorem znewest_any {w0 w : World} {d : Nat} {S : List Nat} {t : Sk} (h : LR w0 w d S t) :
    Calls Tryz.prog 36 #[.pointer (some ⟨d, 0, none⟩)] w fun e w' => NwP t.s0 t.s1 w e w' := by
  obtain ⟨v0, v1, hD, hSe⟩ := h.dk
  have hok := h.ok
  obtain ⟨a0, k0, rfl⟩ := own_slice hD.two.r0
  obtain ⟨a1, k1, rfl⟩ := own_slice hD.two.r1
  have HF01 : Hid (t.s0.length ≤ 16777216 ∧ t.s1.length ≤ 16777216 ∧ (∀ x ∈ t.s0, x < 256) ∧ (∀ x ∈ t.s1, x < 256)) := ⟨Nat.le_trans hok.f0 hok.cap, Nat.le_trans hok.f1 hok.cap, hok.b0, hok.b1⟩
  obtain ⟨w1, HW1⟩ : ∃ w1, Hid (w.alloc (.cells #[.int .i64 0, .slice none 0 0, .slice none 0 0] 27) = w1) := ⟨_, rfl⟩
  have hF1 : Fr [] w w1 := by rw [← HW1.out]; exact Fr.alloc [] w _
  obtain ⟨A, hA⟩ : ∃ A, A = w.heap.size := ⟨_, rfl⟩
  have HS1 : Hid (∀ W, Fr [] w1 W → SB W A (.int .i64 0) (.slice none 0 0) (.slice none 0 0)) := fun W hf => (⟨by rw [← HW1.out, hA]; exact svnew w⟩ : SB w1 A (.int .i64 0) (.slice none 0 0) (.slice none 0 0)).keep hf (by simp)
  obtain ⟨n0, hn0⟩ : ∃ n0, n0 = t.s0.length := ⟨_, rfl⟩
  obtain ⟨n1, hn1⟩ : ∃ n1, n1 = t.s1.length := ⟨_, rfl⟩
  rw [← hn0, ← hn1] at hD
  have HN : Hid (n0 = t.s0.length ∧ n1 = t.s1.length) := ⟨hn0, hn1⟩
  have HDk : Hid (∀ W, Fr [] w W → Rk W d (.slice a0 n0 k0) (.slice a1 n1 k1) t) := fun W hf => hD.keep hf (by simp)
  have HB0 : Hid (∀ W, Fr [] w W → BArg W a0 n0 k0 t.s0) := fun W hf => by
    have h9 := (HDk.out W hf).two.r0
    rw [← HN.out.1] at h9
    exact own_arg h9 HF01.out.2.2.1 (by have := HF01.out.1; omega)
  have HB1 : Hid (∀ W, Fr [] w W → BArg W a1 n1 k1 t.s1) := fun W hf => by
    have h9 := (HDk.out W hf).two.r1
    rw [← HN.out.2] at h9
    exact own_arg h9 HF01.out.2.2.2 (by have := HF01.out.2.1; omega)
  have HF1 : Hid (Fr [] w w1 ∧ w.heap.size ≤ A) := ⟨hF1, by omega⟩
  have HR0 : Hid (Calls _ _ _ _ _) := rread0 (HDk.out _ hF1)
  have HR1 : Hid (Calls _ _ _ _ _) := rread1 (HDk.out _ hF1)
  clear h hD hok hSe hF1 hn0 hn1
  go_enter Tryz.func36, Tryz.ntmps36
  go_upto_region 1 with fail
  rw [HW1.out, ← hA]
  clear HW1 hA
  go_wp2_with fail
  refine Calls.mono HR0.out ?_
  rintro e u ⟨rfl, rfl⟩
  go_wp2_with fail
  refine Calls.mono HR1.out ?_
  rintro e u ⟨rfl, rfl⟩
  clear HR0 HR1
  have HW0 : Hid (Calls _ _ _ _ _) := whole_any a0 n0 k0 t.s0 w1 (HB0.out _ HF1.out.1) (by have := HF01.out.1; omega)
  go_wp2_with fail
  refine Calls.mono HW0.out ?_
  rintro e w2 ⟨ok, g, gg, m, bo, Lb, cb, ho, Lh, ch, bs, hs, rfl, hWh, hgg, hgl, hSv, hF2⟩
  obtain ⟨w3, HW3⟩ : ∃ w3, Hid (w2.alloc (.cells #[.int .i64 m, .slice bo Lb cb, .slice ho Lh ch] 27) = w3) := ⟨_, rfl⟩
  have hF3 : Fr [] w2 w3 := by rw [← HW3.out]; exact Fr.alloc [] w2 _
  obtain ⟨P, hP⟩ : ∃ P, P = w2.heap.size := ⟨_, rfl⟩
  have HSP : Hid (∀ W, Fr [] w3 W → SB W P (.int .i64 m) (.slice bo Lb cb) (.slice ho Lh ch)) := fun W hf => (⟨by rw [← HW3.out, hP]; exact heap_alloc_new w2 _⟩ : SB w3 P _ _ _).keep hf (by simp)
  have HF13 : Hid (Fr [] w1 w3) := hF2.then hF3
  have HSv0 : Hid (∀ W, Fr [] w3 W → SvO w W bo Lb cb ho Lh ch bs hs) := fun W hf => ((hSv.keep hF3).later HF1.out.1.size).keep hf
  have HWh0 : Hid (Wh t.s0 ok g m bs (hs.map Hd.kv) ∧ (ok = true → gg = g)) := ⟨hWh, hgg⟩
  have HW1' : Hid (Calls _ _ _ _ _) := whole_any a1 n1 k1 t.s1 w3 (HB1.out _ (HF1.out.1.then HF13.out)) (by have := HF01.out.2.1; omega)
  clear HW0 hWh hgg hSv hF2 hF3
  go_upto_region 6 with fail
  rw [HW3.out, ← hP]
  clear HW3 hP
  go_wp2_with fail
  refine Calls.mono HW1'.out ?_
  rintro e w4 ⟨ok', g', gg', m', bo', Lb', cb', ho', Lh', ch', bs', hs', rfl, hWh, hgg, hgl', hSv, hF4⟩
  obtain ⟨w5, HW5⟩ : ∃ w5, Hid (w4.alloc (.cells #[.int .i64 m', .slice bo' Lb' cb', .slice ho' Lh' ch'] 27) = w5) := ⟨_, rfl⟩
  have hF5 : Fr [] w4 w5 := by rw [← HW5.out]; exact Fr.alloc [] w4 _
  obtain ⟨Q, hQ⟩ : ∃ Q, Q = w4.heap.size := ⟨_, rfl⟩
  have HSQ : Hid (SB w5 Q (.int .i64 m') (.slice bo' Lb' cb') (.slice ho' Lh' ch')) := ⟨by rw [← HW5.out, hQ]; exact heap_alloc_new w4 _⟩
  have HF15 : Hid (Fr [] w1 w5 ∧ Fr [] w3 w5) := ⟨HF13.out.then (hF4.then hF5), hF4.then hF5⟩
  have HSv1 : Hid (SvO w w5 bo' Lb' cb' ho' Lh' ch' bs' hs') := (hSv.keep hF5).later (HF1.out.1.then HF13.out).size
  have HWh1 : Hid (Wh t.s1 ok' g' m' bs' (hs'.map Hd.kv) ∧ (ok' = true → gg' = g')) := ⟨hWh, hgg⟩
  have c0 := (HS1.out _ HF15.out.1).c0
  have c1 := (HS1.out _ HF15.out.1).c1
  have c2 := (HS1.out _ HF15.out.1).c2
  have f0 := (HS1.out _ HF15.out.1).fz 0
  have f1 := (HS1.out _ HF15.out.1).fz 1
  have f2 := (HS1.out _ HF15.out.1).fz 2
  have p0 := (HSP.out _ HF15.out.2).c0
  have p1 := (HSP.out _ HF15.out.2).c1
  have p2 := (HSP.out _ HF15.out.2).c2
  have q0 := HSQ.out.c0
  have q1 := HSQ.out.c1
  have q2 := HSQ.out.c2
  have HE : Hid (∀ (ok : Bool) (g i : Nat) (m : Int) (bo : Option Addr) (Lb cb : Nat) (ho : Option Addr) (Lh ch : Nat) (bs : List Int) (hs : List Hd), Nw t.s0 t.s1 ok g i m bs (hs.map Hd.kv) → SvO w w5 bo Lb cb ho Lh ch bs hs → (loadVar 27 ⟨A, 0, none⟩).run Tryz.prog (((w5.setCell ⟨A, 0, none⟩ (.int .i64 m)).setCell ⟨A, 1, none⟩ (.slice bo Lb cb)).setCell ⟨A, 2, none⟩ (.slice ho Lh ch)) = .ok (.agg #[.int .i64 m, .slice bo Lb cb, .slice ho Lh ch]) (((w5.setCell ⟨A, 0, none⟩ (.int .i64 m)).setCell ⟨A, 1, none⟩ (.slice bo Lb cb)).setCell ⟨A, 2, none⟩ (.slice ho Lh ch)) ∧ NwP t.s0 t.s1 w (.returned (.tuple #[.agg #[.int .i64 m, .slice bo Lb cb, .slice ho Lh ch], .int .i64 (g : Int), .int .i64 (i : Int), .bool ok, .int .i64 0])) (((w5.setCell ⟨A, 0, none⟩ (.int .i64 m)).setCell ⟨A, 1, none⟩ (.slice bo Lb cb)).setCell ⟨A, 2, none⟩ (.slice ho Lh ch))) := fun ok g i m bo Lb cb ho Lh ch bs hs hN hS => by
    have hSb := HS1.out _ HF15.out.1
    obtain ⟨z1, z2⟩ := hSb.fr0 (.int .i64 m) (.slice bo Lb cb) (.slice ho Lh ch)
    exact ⟨load_sv z1.box, ok, g, i, m, bo, Lb, cb, ho, Lh, ch, bs, hs, rfl, hN, hS.offS hSb z2, (HF1.out.1.then HF15.out.1).on z2 (fun j hj => by have := HF1.out.2; simp at hj; omega)⟩
  clear HW1' hWh hgg hSv hF4 hF5
  go_upto_region 7 with fail
  rw [HW5.out, ← hQ]
  clear HW5 hQ
  cases ok' with
  | true =>
    obtain rfl : gg' = g' := HWh1.out.2 rfl
    have hg1 := HWh1.out.1.g_le
    have hwi : IntKind.i64.wrap (gg' : Int) = (gg' : Int) := by rw [IntKind.wrap_i64]; omega
    by_cases htk : g < gg'
    · obtain ⟨e1, e2⟩ := HE.out true gg' 1 m' bo' Lb' cb' ho' Lh' ch' bs' hs' (Or.inr ⟨rfl, HWh1.out.1, _, _, _, _, _, HWh0.out.1, htk⟩) HSv1.out
      have E1 : Hid ((loadVar _ _).run _ _ = _) := e1
      have E2 : Hid (NwP t.s0 t.s1 w _ _) := e2
      clear e1 e2
      cases ok with
      | true =>
        obtain rfl : gg = g := HWh0.out.2 rfl
        have htk' : (gg : Int) < (gg' : Int) := by omega
        go_wp2
        refine bodyPost_ret (v := .tuple #[.agg #[.int .i64 m', .slice bo' Lb' cb', .slice ho' Lh' ch'], .int .i64 (gg' : Int), .int .i64 1, .bool true, .int .i64 0]) (by rw [results_c4 rfl _ _ _ A _ rfl E1.out]; rfl) rfl ?_
        exact E2.out
      | false =>
        go_wp2
        refine bodyPost_ret (v := .tuple #[.agg #[.int .i64 m', .slice bo' Lb' cb', .slice ho' Lh' ch'], .int .i64 (gg' : Int), .int .i64 1, .bool true, .int .i64 0]) (by rw [results_c4 rfl _ _ _ A _ rfl E1.out]; rfl) rfl ?_
        exact E2.out
    · have hok1 : ok = true := HWh0.out.1.g_ok.2 (by have := HWh1.out.1.g_ok.1 rfl; omega)
      subst hok1
      obtain rfl : gg = g := HWh0.out.2 rfl
      have htk' : ¬ (gg : Int) < (gg' : Int) := by omega
      have hg0 := HWh0.out.1.g_le
      have hwi0 : IntKind.i64.wrap (gg : Int) = (gg : Int) := by rw [IntKind.wrap_i64]; omega
      obtain ⟨e1, e2⟩ := HE.out true gg 0 m bo Lb cb ho Lh ch bs hs (Or.inl ⟨rfl, HWh0.out.1, _, _, _, _, _, HWh1.out.1, by omega⟩) (HSv0.out _ HF15.out.2)
      have E1 : Hid ((loadVar _ _).run _ _ = _) := e1
      have E2 : Hid (NwP t.s0 t.s1 w _ _) := e2
      clear e1 e2
      go_wp2
      refine bodyPost_ret (v := .tuple #[.agg #[.int .i64 m, .slice bo Lb cb, .slice ho Lh ch], .int .i64 (gg : Int), .int .i64 0, .bool true, .int .i64 0]) (by rw [results_c4 rfl _ _ _ A _ rfl E1.out]; rfl) rfl ?_
      exact E2.out
  | false =>
    have hg'0 : g' = 0 := by
      rcases HWh1.out.1 with ⟨q, _⟩ | ⟨_, q, _⟩
      · cases q
      · exact q
    cases ok with
    | true =>
      obtain rfl : gg = g := HWh0.out.2 rfl
      have hg0 := HWh0.out.1.g_le
      have hwi0 : IntKind.i64.wrap (gg : Int) = (gg : Int) := by rw [IntKind.wrap_i64]; omega
      obtain ⟨e1, e2⟩ := HE.out true gg 0 m bo Lb cb ho Lh ch bs hs (Or.inl ⟨rfl, HWh0.out.1, _, _, _, _, _, HWh1.out.1, by omega⟩) (HSv0.out _ HF15.out.2)
      have E1 : Hid ((loadVar _ _).run _ _ = _) := e1
      have E2 : Hid (NwP t.s0 t.s1 w _ _) := e2
      clear e1 e2 hg'0
      go_wp2
      refine bodyPost_ret (v := .tuple #[.agg #[.int .i64 m, .slice bo Lb cb, .slice ho Lh ch], .int .i64 (gg : Int), .int .i64 0, .bool true, .int .i64 0]) (by rw [results_c4 rfl _ _ _ A _ rfl E1.out]; rfl) rfl ?_
      exact E2.out
    | false =>
      have HW00 : Hid (Wh t.s0 false 0 0 [] []) := by
        rcases HWh0.out.1 with ⟨q, _⟩ | ⟨_, _, _, _, _, q⟩
        · cases q
        · exact Or.inr ⟨rfl, rfl, rfl, rfl, rfl, q⟩
      obtain ⟨e1, e2⟩ := HE.out false 0 0 0 none 0 0 none 0 0 [] [] (Or.inl ⟨rfl, HW00.out, _, _, _, _, _, HWh1.out.1, by omega⟩) (SvO.nil _ _)
      have E1 : Hid ((loadVar _ _).run _ _ = _) := e1
      have E2 : Hid (NwP t.s0 t.s1 w _ _) := e2
      clear e1 e2 hg'0
      go_wp2
      refine bodyPost_ret (v := .tuple #[.agg #[.int .i64 0, .slice none 0 0, .slice none 0 0], .int .i64 0, .int .i64 0, .bool false, .int .i64 0]) (by rw [results_c4 rfl _ _ _ A _ rfl E1.out]; rfl) rfl ?_
      exact E2.out
end Go.Proofs.YtdojhkgnnbdfkaaGreat
/- The document's Bytes: contract. Conditions: fewer than 2^31 bytes. -/
namespace Go.Proofs.YtdojhkgnnbdfkaaGreat
open BigFrame Go.ChangeShapes Go.WideShapes Go.ChangeAt Go.RowKit Go.Lib Go.Maps
set_option linter.unusedVariables false
set_option linter.unusedSimpArgs false

theorem WT.quiet {w0 w w' : World} {v : Value} {us : List Nat} (h : WT w0 w v us) (hf : Fr [] w w') : WT w0 w' v us := WT.of ⟨h.it.wn.keep hf (by simp), h.fr.then hf, h.it.mv⟩
theorem WT.app {w0 w w1 : World} {v v1 : Value} {us ys : List Nat} {n : Nat} (h : WT w0 w v us) (hn : n = ys.length) (ho : w1.ownsRow 0 5 1 v1 n (bts ys)) (hg : w.grownBy w1 v.ownBlock) (hm : Moved w.heap.size v v1) : WT w0 w1 v1 ys := by
  subst hn
  exact h.then ⟨ho, Fr.grown hg (by intro k hk _; rw [hk]; simp), hm⟩
theorem WT.row {w0 w : World} {ao : Option Addr} {n cap : Nat} {us : List Nat} (h : WT w0 w (.slice ao n cap) us) : n = us.length ∧ w.ownsRow w0.heap.size 5 1 (.slice ao n cap) n (bts us) := by
  have e : n = us.length := by
    obtain ⟨a, c, e⟩ := h.it.wn.slice
    cases e
    rfl
  subst e
  refine ⟨rfl, h.it.wn.1, ?_⟩
  rcases h.it.wn.2 with h0 | ⟨g, cp, cur, hv, _, hr⟩
  · exact Or.inl h0
  · cases hv
    refine Or.inr ⟨g, cap, cur, rfl, ?_, hr⟩
    rcases h.it.mv with q | ⟨k, q1, q2⟩
    · simp [Value.ownBlock] at q
    · simp [Value.ownBlock] at q1
      omega
set_option maxHeartbeats 8000000 in
set_option maxRecDepth 100000 in
theorem zbytes_any (g : Nat) (ao : Option Addr) (L cap : Nat) (xs : List Nat) (w : World) (hA : BArg w ao L cap xs) (hg : g < 2^64) (hL : L < 2^31) :
    Calls Tryz.prog 37 #[.int .u64 (g : Int), .slice ao L cap] w fun e w' => ∃ zo zc, e = .returned (.slice zo (20 + L) zc) ∧ WT w w' (.slice zo (20 + L) zc) (hdB g xs ++ xs) := by
  have HA : Hid (∀ W, Fr [] w W → BArg W ao L cap xs) := fun W hf => hA.keep hf
  have HL : Hid (L = xs.length) := hA.len
  have H1 : Hid (Calls _ _ _ _ _) := refFixed_loop none 0 0 [] 1464880980 4 w (own_row_nil w) (by omega) (by omega) (by intro _; omega) (by omega) (by simp)
  clear hA
  go_enter Tryz.func37, Tryz.ntmps37
  go_wp2_with fail
  refine Calls.mono H1.out ?_
  rintro e w1 ⟨b1, n1, k1, rfl, hT1⟩
  have HB1 : Hid (WT w w1 (.slice b1 n1 k1) (leB 4 1464880980)) := WT.of (by simpa using hT1)
  have H2 : Hid (Calls _ _ _ _ _) := refFixed_loop none 0 0 [] g 8 w1 (own_row_nil w1) (by omega) (by omega) (by intro h; omega) hg (by simp)
  clear H1 hT1
  go_wp2_with fail
  refine Calls.mono H2.out ?_
  rintro e w2 ⟨b2, n2, k2, rfl, hT2⟩
  have HB2 : Hid (WT w1 w2 (.slice b2 n2 k2) (leB 8 g)) := WT.of (by simpa using hT2)
  have H3 : Hid (Calls _ _ _ _ _) := refFixed_loop b2 n2 k2 (leB 8 g) L 4 w2 HB2.out.it.wn (by omega) (by omega) (by intro _; omega) (by omega) (by rw [leB_length]; omega)
  have hwL : IntKind.u64.wrap (L : Int) = (L : Int) := u64_nat _ (by omega) (by omega)
  clear H2 hT2
  go_wp2_with fail
  refine Calls.mono H3.out ?_
  rintro e w3 ⟨b3, n3, k3, rfl, hT3⟩
  have HB3 : Hid (WT w1 w3 (.slice b3 n3 k3) (midB g L)) := HB2.out.then hT3
  have HN3 : Hid (n3 = 12) := HB3.out.row.1.trans (midB_length g L)
  have HA3 : Hid (BArg w3 b3 n3 k3 (midB g L)) := own_arg (own_base HB3.out.row.2 (Nat.zero_le _)) (midB_lt _ _) (by have := HN3.out; omega)
  obtain ⟨C, HC⟩ : ∃ C, Hid (more 0 (midB g L) = C) := ⟨_, rfl⟩
  obtain ⟨M, HM⟩ : ∃ M, Hid (more C xs = M) := ⟨_, rfl⟩
  have hC32 : C < 4294967296 := by rw [← HC.out]; exact more_lt _ _
  have hM32 : M < 4294967296 := by rw [← HM.out]; exact more_lt _ _
  have H4 : Hid (Calls _ _ _ _ _) := refCrc_any C b3 n3 k3 (midB g L) w3 HA3.out HC.out
  clear H3 hT3 HB2
  go_wp2_with fail
  refine Calls.mono H4.out ?_
  rintro e w4 ⟨rfl, hF4⟩
  have HF14 : Hid (Fr [] w1 w4 ∧ Fr [] w3 w4) := ⟨HB3.out.fr.then hF4, hF4⟩
  have H5 : Hid (Calls _ _ _ _ _) := refMore_any C M ao L cap xs w4 hC32 (HA.out _ (HB1.out.fr.then HF14.out.1)) HM.out
  clear H4 hF4
  go_wp2_with fail
  refine Calls.mono H5.out ?_
  rintro e w5 ⟨rfl, hF5⟩
  have HF15 : Hid (Fr [] w1 w5 ∧ Fr [] w3 w5) := ⟨HF14.out.1.then hF5, HF14.out.2.then hF5⟩
  have HB15 : Hid (WT w w5 (.slice b1 n1 k1) (leB 4 1464880980)) := HB1.out.quiet HF15.out.1
  have HA5 : Hid (BArg w5 b3 n3 k3 (midB g L)) := HA3.out.keep HF15.out.2
  have HN1 : Hid (n1 = 4) := HB15.out.row.1.trans (leB_length 4 _)
  have HO5 : Hid (w5.ownsRow 0 5 1 (.slice b1 n1 k1) n1 (bts (leB 4 1464880980))) := own_base HB15.out.row.2 (Nat.zero_le _)
  clear H5 hF5 HF14 HA3 HB1
  go_wp2_with (at_builtin; refine wpList_appB w5 rfl (.tmp 31) (.tmp 32) rfl (.slice b1 n1 k1) n1 (leB 4 1464880980) rfl HO5.out b3 n3 k3 (midB g L) rfl HA5.out (by have := HN1.out; have := HN3.out; omega) ?_)
  intro b6 n6 k6 w6 hn6 hO6 hg6 hm6
  have HB6 : Hid (WT w w6 (.slice b6 n6 k6) (leB 4 1464880980 ++ midB g L)) := HB15.out.app (by rw [List.length_append, leB_length, midB_length, hn6, HN1.out, HN3.out]) hO6 hg6 hm6
  have H7 : Hid (Calls _ _ _ _ _) := refFixed_loop b6 n6 k6 _ M 4 w6 HB6.out.it.wn (by omega) (by omega) (by intro _; omega) (by omega) (by rw [List.length_append, leB_length, midB_length]; omega)
  have hwM : IntKind.u64.wrap (M : Int) = (M : Int) := u64_nat _ (by omega) (by omega)
  clear hn6 hO6 hg6 hm6 HB15 HO5 HA5
  go_wp2_with fail
  refine Calls.mono H7.out ?_
  rintro e w7 ⟨b7, n7, k7, rfl, hT7⟩
  have HB7 : Hid (WT w w7 (.slice b7 n7 k7) (hdB g xs)) := by
    have h9 := HB6.out.then hT7
    have e9 : hdB g xs = leB 4 1464880980 ++ midB g L ++ leB 4 M := by
      unfold hdB sumH
      rw [← HL.out, HC.out, HM.out, List.append_assoc]
    show WT _ _ _ _
    rw [e9]
    exact h9
  have HN7 : Hid (n7 = 20) := HB7.out.row.1.trans (hdB_length _ _)
  have HO7 : Hid (w7.ownsRow 0 5 1 (.slice b7 n7 k7) n7 (bts (hdB g xs))) := own_base HB7.out.row.2 (Nat.zero_le _)
  have HA7 : Hid (BArg w7 ao L cap xs) := HA.out _ HB7.out.fr
  clear H7 hT7 HB6
  go_wp2_with (at_builtin; refine wpList_appB w7 rfl (.tmp 41) (.tmp 42) rfl (.slice b7 n7 k7) n7 (hdB g xs) rfl HO7.out ao L cap xs rfl HA7.out (by have := HN7.out; omega) ?_)
  intro b8 n8 k8 w8 hn8 hO8 hg8 hm8
  have HB8 : Hid (WT w w8 (.slice b8 n8 k8) (hdB g xs ++ xs)) := HB7.out.app (by rw [List.length_append, hdB_length, hn8, HN7.out, HL.out]) hO8 hg8 hm8
  have HN8 : Hid (n8 = 20 + L) := by show _ = _; rw [hn8, HN7.out]
  clear hn8 hO8 hg8 hm8 HB7 HO7 HA7
  go_wp2
  go_ret
  exact ⟨b8, k8, by rw [HN8.out]; rfl, by rw [← HN8.out]; exact HB8.out⟩
end Go.Proofs.YtdojhkgnnbdfkaaGreat
/- The document's savers: how they lie in memory; all, Left. Conditions: fewer than 2^24 bytes. -/
namespace Go.Proofs.YtdojhkgnnbdfkaaGreat
open BigFrame Go.ChangeShapes Go.WideShapes Go.ChangeAt Go.RowKit Go.Lib Go.Maps
set_option linter.unusedVariables false
set_option linter.unusedSimpArgs false

/-- The document's saver of such bytes for a slot, of whose raw writes k are done. -/
structure ZaM (w : World) (tb d ab ac slot : Nat) (zs : List Nat) (k : Nat) : Prop where
  box : w.heap[tb]? = some (.cells #[.pointer (some ⟨d, 0, none⟩), .int .i64 (slot : Int), .slice (some ⟨ab, 0, none⟩) zs.length ac, .int .i64 (k : Int)] 87 (0, 0))
  kle : k ≤ nB zs.length + 1
  byt : w.ownsRow 0 5 1 (.slice (some ⟨ab, 0, none⟩) zs.length ac) zs.length (bts zs)
  low : ∀ x ∈ zs, x < 256
  few : zs.length ≤ 16777216
  sl : slot ≤ 1
section
variable {w w' : World} {tb d ab ac slot : Nat} {zs : List Nat} {k : Nat}
theorem ZaM.keep {S : List Nat} (h : ZaM w tb d ab ac slot zs k) (hf : Fr S w w') (h1 : tb ∉ S) (h3 : ab ∉ S) : ZaM w' tb d ab ac slot zs k :=
  ⟨hf.keep h.box h1, h.kle, owns_keep h.byt hf (fun q hq => by simp [Value.ownBlock] at hq; subst hq; exact h3), h.low, h.few, h.sl⟩
theorem ZaM.blocks (h : ZaM w tb d ab ac slot zs k) : tb < w.heap.size ∧ ab < w.heap.size ∧ tb ≠ ab := by
  obtain ⟨ca, ha⟩ := own_type h.byt ab rfl
  refine ⟨lt_of_block h.box, lt_of_block ha, ?_⟩
  rintro rfl; rw [h.box] at ha; simp at ha
theorem ZaM.c0 (h : ZaM w tb d ab ac slot zs k) : w.cell? ⟨tb, 0, none⟩ = some (.pointer (some ⟨d, 0, none⟩)) := by rw [cell_of_row _ _ _ _ _ _ h.box]; rfl
theorem ZaM.c1 (h : ZaM w tb d ab ac slot zs k) : w.cell? ⟨tb, 1, none⟩ = some (.int .i64 (slot : Int)) := by rw [cell_of_row _ _ _ _ _ _ h.box]; rfl
theorem ZaM.c2 (h : ZaM w tb d ab ac slot zs k) : w.cell? ⟨tb, 2, none⟩ = some (.slice (some ⟨ab, 0, none⟩) zs.length ac) := by rw [cell_of_row _ _ _ _ _ _ h.box]; rfl
theorem ZaM.c3 (h : ZaM w tb d ab ac slot zs k) : w.cell? ⟨tb, 3, none⟩ = some (.int .i64 (k : Int)) := by rw [cell_of_row _ _ _ _ _ _ h.box]; rfl
theorem ZaM.f3 (h : ZaM w tb d ab ac slot zs k) : w.frozen? ⟨tb, 3, none⟩ = false := by simp [World.frozen?, h.box]
theorem ZaM.step (h : ZaM w tb d ab ac slot zs k) (hk : k ≤ nB zs.length) : ZaM (w.setCell ⟨tb, 3, none⟩ (.int .i64 ((k : Int) + 1))) tb d ab ac slot zs (k + 1) ∧ Fr [tb] w (w.setCell ⟨tb, 3, none⟩ (.int .i64 ((k : Int) + 1))) := by
  have hf : Fr [tb] w (w.setCell ⟨tb, 3, none⟩ (.int .i64 ((k : Int) + 1))) := Fr.set _ _ _ (by simp)
  obtain ⟨_, _, n2⟩ := h.blocks
  refine ⟨⟨?_, by omega, owns_keep h.byt hf (fun q hq => by simp [Value.ownBlock] at hq; subst hq; simp; omega), h.low, h.few, h.sl⟩, hf⟩
  rw [row_setCell _ h.box]
  rfl
theorem ZaM.chunk (h : ZaM w tb d ab ac slot zs k) (q : Nat) (hq : q < nB zs.length) : BArg w (some ⟨ab, 64 * q, none⟩) (min (64 * q + 64) zs.length - 64 * q) (ac - 64 * q) (chunk zs q) := by
  have hA : BArg w (some ⟨ab, 0, none⟩) zs.length ac zs := own_arg h.byt h.low (by have := h.few; omega)
  have h1 := nB_lt hq
  have h2 := hA.cut (64 * q) (min (64 * q + 64) zs.length) (by omega) (by omega)
  have h3 := hA.fits
  rw [show fromB (some ⟨ab, 0, none⟩) ac (64 * q) = some ⟨ab, 64 * q, none⟩ from by unfold fromB; rw [if_neg (by omega)]; simp [Addr.add_lit]] at h2
  exact h2
end
set_option maxHeartbeats 1000000 in
theorem zall_any {w : World} {tb n c : Nat} {ao : Option Addr} (h : w.cell? ⟨tb, 2, none⟩ = some (.slice ao n c)) (hn : n ≤ 16777216) : Calls Tryz.prog 39 #[.pointer (some ⟨tb, 0, none⟩)] w fun e w' => e = .returned (.int .i64 ((nB n : Int) + 1)) ∧ w = w' := by
  have hq : IntKind.i64.wrap (((n : Int) + 64 - 1).tdiv 64) = ((nB n : Nat) : Int) := by rw [IntKind.wrap_i64, Int.tdiv_eq_ediv_of_nonneg (by omega)]; unfold nB; omega
  have hb := nB_few hn
  obtain ⟨N, HN⟩ : ∃ N, Hid (nB n = N) := ⟨_, rfl⟩
  rw [HN.out] at hq hb ⊢
  rw [show (N : Int) + 1 = 1 + (N : Int) by omega]
  go_enter Tryz.func39, Tryz.ntmps39
  go_wp2
  go_ret
  exact ⟨rfl, rfl⟩
set_option maxHeartbeats 1000000 in
theorem zleft_no (w : World) : Calls Tryz.prog 19 #[.pointer none] w fun e w' => e = .returned (.int .i64 0) ∧ w = w' := by
  go_enter Tryz.func19, Tryz.ntmps19
  go_wp2
  go_ret
  exact ⟨rfl, rfl⟩
set_option maxHeartbeats 1000000 in
theorem zleft_any {w : World} {tb d ab ac slot : Nat} {zs : List Nat} {k n : Nat} (h : ZaM w tb d ab ac slot zs k) (hn : n = nB zs.length + 1 - k) : Calls Tryz.prog 19 #[.pointer (some ⟨tb, 0, none⟩)] w fun e w' => e = .returned (.int .i64 (n : Int)) ∧ Fr [] w w' := by
  have c3 := h.c3
  have HA : Hid (∀ q, Calls Tryz.prog 39 #[.pointer (some ⟨tb, 0, none⟩)] (w.drewN q) fun e w' => e = .returned (.int .i64 ((nB zs.length : Int) + 1)) ∧ w' = w.drewN q) := fun q => (zall_any (h.keep (Fr.drewN [] w q) (by simp) (by simp)).c2 h.few).mono (fun _ _ ⟨a, b⟩ => ⟨a, b.symm⟩)
  have hk := h.kle
  have hb := nB_few h.few
  obtain ⟨N, HN⟩ : ∃ N, Hid (nB zs.length = N) := ⟨_, rfl⟩
  rw [HN.out] at HA hk hb hn
  have e1 : (N : Int) + 1 - (k : Int) = (n : Int) := by omega
  clear h hn
  go_enter Tryz.func19, Tryz.ntmps19
  go_wp2_with fail
  go_quiet ((go_at_call 39; exact Calls.quiet_of_same (HA.out _)))
  have HF : Hid (Fr [] w (w.drewN nq)) := Fr.drewN _ _ _
  go_wp2
  go_ret
  exact ⟨rfl, HF.out⟩
end Go.Proofs.YtdojhkgnnbdfkaaGreat
