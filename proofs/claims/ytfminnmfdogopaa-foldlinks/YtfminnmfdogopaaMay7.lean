/- The Fold laws' helpers: may, last, among. Conditions as each names them. -/
import Derived.Test.YtfminnmfdogopaaAliv7
namespace Go.Proofs.Ytfminnmfdogopaa
open Go.ChangeShapes Go.WideShapes Go.ChangeAt Go.RowKit Go.Lib Go.Maps Go.Sort
set_option linter.unusedVariables false
set_option linter.unusedSimpArgs false

set_option maxHeartbeats 4000000 in
set_option maxRecDepth 100000 in
theorem may7_any (ao : Option Addr) (L cap c : Nat) (ts : List Tm) (w : World) (hT : TRs w ao ts) (hL : L = ts.length) (hc : Bad 1 (txs ts) c) (B : Bool) (hB : B = true ↔ c = 0) :
    Calls Try.prog 22 #[.slice ao L cap] w fun e w' => e = .returned (.bool B) ∧ Fr [] w w' := by
  have HB : Hid (B = true ↔ c = 0) := hB
  have HC : Hid (Bad 1 (txs ts) c) := hc
  have HL : Hid (L = ts.length) := hL
  have hLm : L ≤ 140737488355328 := by have := hT.few; omega
  clear hc hL hB
  go_enter Try.func22, Try.ntmps22
  go_wp2_with fail
  go_loopw [3] (fun ii wr => ∃ (i : Nat), ii = .int .i64 i ∧ i ≤ L ∧ Hid (Bad (1 + i) (txs (ts.drop i)) c) ∧ Fr [] w wr) (fun ii _ => L - (intOf ii).toNat)
  case atStart => exact ⟨0, rfl, Nat.zero_le _, HC.out, Fr.refl _ _⟩
  case round =>
    obtain ⟨i, rfl, hiL, HE, hFr⟩ := hrel
    by_cases hi : i < L
    · have hi' : i < ts.length := by rw [← HL.out]; exact hi
      obtain ⟨bb, off, rfl, hbl, hc⟩ := (hT.keep hFr).lies (by omega)
      have hx := hc i hi'
      have hat := (hT.keep hFr).each _ (tgetD_mem ts i hi')
      obtain ⟨x, hxx⟩ : ∃ x, x = ts.getD i Tm.zero := ⟨_, rfl⟩
      rw [← hxx] at hx hat
      have HX : Hid (x = ts.getD i Tm.zero) := hxx
      clear hxx hc
      obtain ⟨n, xo, M, cm, ws⟩ := x
      obtain ⟨c0, c1⟩ := hx
      simp only at c0 c1
      have e1 := HE.out
      rw [tdrop_cons7 ts i hi', ← HX.out] at e1
      have hn0 := hat.n0
      have hn1 := hat.n1
      simp only at hn0 hn1
      have hG := hFr
      have hat1 : TArg wr n xo M cm ws := hat
      have HCe : Hid (∀ W, Fr [] wr W → W.cell? ⟨bb, off + i * 2, none⟩ = some (.int .i64 n)) := fun W hf => (World.cell?_of_block (hf.block bb hbl (by simp))).trans c0
      clear hat
      clear HE HC
      rcases e1 with ⟨h1, rfl⟩ | ⟨h1, h2, rfl⟩ | ⟨h1, h2, h3⟩
      · have HN : Hid (¬ okT n ws) := h1
        have hBf : B = false := by
          cases hb : B with
          | false => rfl
          | true => exact absurd (HB.out.1 hb) (by decide)
        subst hBf
        clear h1
        go_wp2_with fail
        refine (check_any n xo M cm 1 ws _ hat1.rs hat1.len hn0 hn1 (Or.inr ⟨HN.out, rfl⟩)).mono ?_
        rintro e w2 ⟨rfl, hF2⟩
        have hG2 := hG.then hF2
        clear hG hF2 hat1
        go_wp2
        go_ret
        exact ⟨rfl, hG2⟩
      · have HN : Hid (okT n ws) := h1
        have hBf : B = false := by
          cases hb : B with
          | false => rfl
          | true => exact absurd (HB.out.1 hb) (by decide)
        subst hBf
        have hne : (n != (i : Int) + 1) = true := by rw [bne_iff_ne]; have h2' : n ≠ ((1 + i : Nat) : Int) := h2; omega
        clear h1 h2
        go_wp2_with fail
        refine (check_any n xo M cm 0 ws _ hat1.rs hat1.len hn0 hn1 (Or.inl ⟨HN.out, rfl⟩)).mono ?_
        rintro e w2 ⟨rfl, hF2⟩
        have hG2 := hG.then hF2
        have k0 := HCe.out _ hF2
        clear hG hF2 hat1 c0 c1
        go_wp2
        go_ret
        exact ⟨rfl, hG2⟩
      · have HN : Hid (okT n ws ∧ Bad (1 + i + 1) (txs (ts.drop (i + 1))) c) := ⟨h1, h3⟩
        have hne : (n != (i : Int) + 1) = false := by rw [bne_eq_false_iff_eq]; have h2' : n = ((1 + i : Nat) : Int) := h2; omega
        clear h1 h2 h3
        go_wp2_with fail
        refine (check_any n xo M cm 0 ws _ hat1.rs hat1.len hn0 hn1 (Or.inl ⟨HN.out.1, rfl⟩)).mono ?_
        rintro e w2 ⟨rfl, hF2⟩
        have hG2 := hG.then hF2
        have k0 := HCe.out _ hF2
        clear hG hF2 hat1 c0 c1
        go_wp2
        go_roundw
        case rel => exact ⟨i + 1, by simp, by omega, by show Bad _ _ _; rw [show 1 + (i + 1) = 1 + i + 1 by omega]; exact HN.out.2, hG2⟩
        case measure => simp [intOf]; omega
    · have hc0 : c = 0 := by
        have e1 := HE.out
        rw [List.drop_eq_nil_of_le (by rw [← HL.out]; omega)] at e1
        exact e1
      have hBt : B = true := HB.out.2 hc0
      subst hBt hc0
      clear HC HE
      go_wp2
      go_ret
      exact ⟨rfl, hFr⟩

/-- A transaction's last write of a key. -/
def lastW (ws : List Wt) (key : ByteArray) : Option Wt := ws.reverse.find? fun x => decide (x.key = key)
theorem lastW_append (a b : List Wt) (key : ByteArray) : lastW (a ++ b) key = (lastW b key).or (lastW a key) := by
  unfold lastW
  rw [List.reverse_append, List.find?_append]
theorem lastW_one (x : Wt) (key : ByteArray) : lastW [x] key = if x.key = key then some x else none := by
  unfold lastW
  by_cases h : x.key = key <;> simp [h]
theorem lastW_none (ws : List Wt) (key : ByteArray) : lastW ws key = none ↔ ∀ x ∈ ws, x.key ≠ key := by
  unfold lastW
  rw [List.find?_eq_none]
  simp
theorem wdrop_cons (ws : List Wt) (k : Nat) (h : k < ws.length) : ws.drop k = [ws.getD k Wt.zero] ++ ws.drop (k + 1) := by
  rw [List.drop_eq_getElem_cons h]
  simp [List.getD, h]
theorem results_ct {fn : Func} {p q : Tmp} {t : TypeId} (h : fn.results = #[.cell p t, .tmp q]) (tmps : Array Value) (P : Program) (w : World) :
    (results fn tmps).run P w = ((asAddr (tmps.getD p undef)).run P w).andThen fun a w₁ => ((loadVar t a).run P w₁).andThen fun x w₂ => .ok (.tuple #[x, tmps.getD q undef]) w₂ := by
  simp only [results, h]
  simp [Sem.run_bind, Result.andThen]
theorem row3 {w : World} {b : Nat} {t : TypeId} {x0 x1 x2 : Value} (h : w.heap[b]? = some (.cells #[x0, x1, x2] t (0, 0))) (a0 a1 a2 : Value) : (((w.setCell ⟨b, 0, none⟩ a0).setCell ⟨b, 1, none⟩ a1).setCell ⟨b, 2, none⟩ a2).heap[b]? = some (.cells #[a0, a1, a2] t (0, 0)) := by
  have k : ∀ (W : World) (cs : Array Value) (o : Nat) (v : Value), W.heap[b]? = some (.cells cs t (0, 0)) → (W.setCell ⟨b, o, none⟩ v).heap[b]? = some (.cells (cs.setIfInBounds o v) t (0, 0)) := by
    intro W cs o v hW
    obtain ⟨hlt, hk⟩ := Array.getElem?_eq_some_iff.1 hW
    show (W.heap.modify b _)[b]? = _
    rw [Array.getElem?_eq_getElem (by rw [Array.size_modify]; exact hlt), Array.getElem_modify_self, hk]
    rfl
  have := k _ _ 2 a2 (k _ _ 1 a1 (k _ _ 0 a0 h))
  simpa using this
set_option maxHeartbeats 4000000 in
set_option maxRecDepth 100000 in
theorem last7_any (n : Int) (xo : Option Addr) (M cm : Nat) (ws : List Wt) (key : ByteArray) (R : Option Wt) (w : World) (h : WRs w xo ws) (hM : M = ws.length) (hR : R = lastW ws key) :
    Calls Try.prog 25 #[.agg #[.int .i64 n, .slice xo M cm], .string key] w fun e w' => e = .returned (.tuple #[.agg #[.string (R.getD ⟨⟨#[]⟩, ⟨#[]⟩, false⟩).key, .string (R.getD ⟨⟨#[]⟩, ⟨#[]⟩, false⟩).val, .bool (R.getD ⟨⟨#[]⟩, ⟨#[]⟩, false⟩).drop], .bool R.isSome]) ∧ Fr [] w w' := by
  have HM : Hid (M = ws.length) := hM
  have HR : Hid (R = lastW ws key) := hR
  have hMm : M ≤ 140737488355328 := by have := h.few; omega
  obtain ⟨w0, HW0⟩ : ∃ w0, Hid ((w.alloc (.cells #[.int .i64 n, .slice xo M cm] 51)).alloc (.cells #[.string ⟨#[]⟩, .string ⟨#[]⟩, .bool false] 53) = w0) := ⟨_, rfl⟩
  have hF0 : Fr [] w w0 := by rw [← HW0.out]; exact (Fr.alloc [] w _).then (Fr.alloc [] _ _)
  have hb0 : w0.heap[w.heap.size]? = some (.cells #[.int .i64 n, .slice xo M cm] 51 (0, 0)) := by rw [← HW0.out]; exact (Below.heap_alloc _ _ _ (by simp)).trans (heap_alloc_new w _)
  have hb1 : w0.heap[w.heap.size + 1]? = some (.cells #[.string ⟨#[]⟩, .string ⟨#[]⟩, .bool false] 53 (0, 0)) := by
    rw [← HW0.out]
    have := heap_alloc_new (w.alloc (.cells #[.int .i64 n, .slice xo M cm] 51)) (.cells #[.string ⟨#[]⟩, .string ⟨#[]⟩, .bool false] 53)
    rwa [World.size_alloc] at this
  have c1 : w0.cell? ⟨w.heap.size, 1, none⟩ = some (.slice xo M cm) := by rw [cell_of_row _ _ _ _ _ _ hb0]; rfl
  have z0 : w0.cell? ⟨w.heap.size + 1, 0, none⟩ = some (.string ⟨#[]⟩) := by rw [cell_of_row _ _ _ _ _ _ hb1]; rfl
  have z1 : w0.cell? ⟨w.heap.size + 1, 1, none⟩ = some (.string ⟨#[]⟩) := by rw [cell_of_row _ _ _ _ _ _ hb1]; rfl
  have z2 : w0.cell? ⟨w.heap.size + 1, 2, none⟩ = some (.bool false) := by rw [cell_of_row _ _ _ _ _ _ hb1]; rfl
  have y0 := frozen_of_row hb1 0
  have y1 := frozen_of_row hb1 1
  have y2 := frozen_of_row hb1 2
  have h0 := h.keep hF0
  clear hM hR h
  go_enter Try.func25, Try.ntmps25
  go_upto_region 1 with fail
  rw [HW0.out]
  go_wp2_with fail
  go_loop [6] (fun ii => ∃ (k : Nat), ii = .int .i64 ((k : Int) - 1) ∧ k ≤ M ∧ Hid (lastW (ws.drop k) key = none)) (fun ii => (intOf ii + 1).toNat)
  case atStart => exact ⟨M, rfl, Nat.le_refl _, by show _ = _; rw [HM.out, List.drop_length]; rfl⟩
  case round =>
    obtain ⟨k, rfl, hkM, HE⟩ := hrel
    by_cases hk : 0 < k
    · obtain ⟨i, rfl⟩ : ∃ i, k = i + 1 := ⟨k - 1, by omega⟩
      have hi' : i < ws.length := by rw [← HM.out]; omega
      have hid : ((i + 1 : Nat) : Int) - 1 = (i : Int) := by omega
      rw [hid]
      obtain ⟨b2, o2, e2, _, hc2⟩ := h0.lies (by omega)
      obtain ⟨d0, d1, d2⟩ := hc2 i hi'
      have HX : Hid (lastW (ws.drop i) key = lastW [ws.getD i Wt.zero] key) := by
        show _ = _
        rw [wdrop_cons ws i hi', lastW_append, HE.out]
        rfl
      have HT : Hid (lastW ws key = (lastW (ws.drop i) key).or (lastW (ws.take i) key)) := by
        show _ = _
        rw [← lastW_append, List.take_append_drop]
      obtain ⟨y, hyy⟩ : ∃ y, y = ws.getD i Wt.zero := ⟨_, rfl⟩
      rw [← hyy] at d0 d1 d2 HX
      clear hyy hc2 hid
      obtain ⟨k2, v2, p2⟩ := y
      simp only at d0 d1 d2
      subst e2
      by_cases he : k2 = key
      · have heq : (k2.toList == key.toList) = true := by rw [he]; simp
        have hRs : R = some ⟨k2, v2, p2⟩ := by rw [HR.out, HT.out, HX.out, lastW_one, if_pos he]; rfl
        subst hRs
        go_wp2
        have hr3 := row3 hb1 (.string key) (.string v2) (.bool p2)
        have hFs : Fr [w.heap.size + 1] w0 (((w0.setCell ⟨w.heap.size + 1, 0, none⟩ (.string key)).setCell ⟨w.heap.size + 1, 1, none⟩ (.string v2)).setCell ⟨w.heap.size + 1, 2, none⟩ (.bool p2)) := ((Fr.set _ _ _ (by simp)).then (Fr.set _ _ _ (by simp))).then (Fr.set _ _ _ (by simp))
        obtain ⟨W3, HW3⟩ : ∃ W3, Hid (((w0.setCell ⟨w.heap.size + 1, 0, none⟩ (.string key)).setCell ⟨w.heap.size + 1, 1, none⟩ (.string v2)).setCell ⟨w.heap.size + 1, 2, none⟩ (.bool p2) = W3) := ⟨_, rfl⟩
        rw [HW3.out] at hr3 hFs ⊢
        have q0 : W3.cell? ⟨w.heap.size + 1, 0, none⟩ = some (.string key) := by rw [cell_of_row _ _ _ _ _ _ hr3]; rfl
        have q1 : W3.cell? ⟨w.heap.size + 1, 1, none⟩ = some (.string v2) := by rw [cell_of_row _ _ _ _ _ _ hr3]; rfl
        have q2 : W3.cell? ⟨w.heap.size + 1, 2, none⟩ = some (.bool p2) := by rw [cell_of_row _ _ _ _ _ _ hr3]; rfl
        have hfin : Fr [] w W3 := hF0.on hFs (by intro x hx; simp at hx; omega)
        refine bodyPost_ret (v := .tuple #[.agg #[.string key, .string v2, .bool p2], .bool true]) ?_ rfl ⟨rfl, hfin⟩
        rw [results_ct rfl]
        go_simp
      · have heq : (k2.toList == key.toList) = false := by
          rw [beq_eq_false_iff_ne]
          exact fun h => he ((tl_inj _ _).1 h)
        have HE2 : Hid (lastW (ws.drop i) key = none) := by show _ = _; rw [HX.out, lastW_one, if_neg he]
        go_wp2
        go_round
        case rel => exact ⟨i, rfl, by omega, HE2⟩
        case measure => simp [intOf]
    · obtain rfl : k = 0 := by omega
      have hRn : R = none := by rw [HR.out]; have := HE.out; simpa using this
      subst hRn
      go_wp2
      have hr3 := row3 hb1 (.string ⟨#[]⟩) (.string ⟨#[]⟩) (.bool false)
      have hFs : Fr [w.heap.size + 1] w0 (((w0.setCell ⟨w.heap.size + 1, 0, none⟩ (.string ⟨#[]⟩)).setCell ⟨w.heap.size + 1, 1, none⟩ (.string ⟨#[]⟩)).setCell ⟨w.heap.size + 1, 2, none⟩ (.bool false)) := ((Fr.set _ _ _ (by simp)).then (Fr.set _ _ _ (by simp))).then (Fr.set _ _ _ (by simp))
      obtain ⟨W3, HW3⟩ : ∃ W3, Hid (((w0.setCell ⟨w.heap.size + 1, 0, none⟩ (.string ⟨#[]⟩)).setCell ⟨w.heap.size + 1, 1, none⟩ (.string ⟨#[]⟩)).setCell ⟨w.heap.size + 1, 2, none⟩ (.bool false) = W3) := ⟨_, rfl⟩
      rw [HW3.out] at hr3 hFs ⊢
      have q0 : W3.cell? ⟨w.heap.size + 1, 0, none⟩ = some (.string ⟨#[]⟩) := by rw [cell_of_row _ _ _ _ _ _ hr3]; rfl
      have q1 : W3.cell? ⟨w.heap.size + 1, 1, none⟩ = some (.string ⟨#[]⟩) := by rw [cell_of_row _ _ _ _ _ _ hr3]; rfl
      have q2 : W3.cell? ⟨w.heap.size + 1, 2, none⟩ = some (.bool false) := by rw [cell_of_row _ _ _ _ _ _ hr3]; rfl
      have hfin : Fr [] w W3 := hF0.on hFs (by intro x hx; simp at hx; omega)
      refine bodyPost_ret (v := .tuple #[.agg #[.string ⟨#[]⟩, .string ⟨#[]⟩, .bool false], .bool false]) ?_ rfl ⟨rfl, hfin⟩
      rw [results_ct rfl]
      go_simp
end Go.Proofs.Ytfminnmfdogopaa
