/- The step of an owner's task. Conditions as each names them. -/
import Derived.Test.YtakbodlicfmkjaaGreatKx20
namespace Go.Proofs.YtakbodlicfmkjaaGreat
open Go.ChangeShapes Go.WideShapes Go.ChangeAt Go.RowKit Go.Lib Go.Maps
set_option linter.unusedVariables false
set_option linter.unusedSimpArgs false
section
variable {w0 w w' : World} {c : Cf} {T : List Tx} {Z : Lay} {s : Ms}
/-- Behind a store into boxes of one's own. -/
theorem Dn.finS {w1 w9 : World} {S : List Nat} {Z' : Lay} {s' : Ms} (k : Dn w0 c T w1 Z s w9 Z' s') (h : MaM w0 w c T Z s) (h1 : Fr [] w w1) (hS : ∀ b ∈ S, w.heap.size ≤ b ∧ MaM.off w0 w9 c T Z' s' b) (hf : Fr S w9 w') : Dn w0 c T w Z s w' Z' s' := by
  have hS' : ∀ b ∈ S, w0.heap.size ≤ b ∧ MaM.off w0 w9 c T Z' s' b := fun b hb => ⟨Nat.le_trans h.fr.size (hS b hb).1, (hS b hb).2⟩
  have back : ∀ i b, (mP w0 c T Z s i).O w1 b → (mP w0 c T Z s i).O w b := fun i b hb => ((h.m.ok i).keep [] w w1 (h.m.m i) h.m.fr h1 (by simp)).2 b hb
  have hx := k.x.from h1 fun i b hb => Or.inl (back i b hb)
  refine ⟨k.m.other hf hS', ⟨?_, fun i b hb => ?_⟩, k.z, k.y⟩
  · obtain ⟨S2, sf, sS⟩ := hx.fr
    refine ⟨S2, sf.trans hf (fun x hx _ => hx) (fun x hx hl => ?_), sS⟩
    have := (hS x hx).1
    omega
  · have hk := ((k.m.m.ok i).keep S w9 w' (k.m.m.m i) k.m.m.fr hf fun b hb hl => ⟨(hS' b hb).1, (hS' b hb).2 i⟩).2 b hb
    exact hx.sub i b hk
theorem taskV_w (c : Cf) (Z : St) {i : Nat} (hi : i < c.l.toNat) : taskV c Z (i + 1) = .iface 221 (.pointer (some ⟨Z.kw i, 0, none⟩)) := by
  unfold taskV
  rw [if_neg (by omega), if_pos (by omega)]
  rfl
theorem row_putE {w : World} {b j : Nat} {cs : Array Value} {t : TypeId} (x : Value) (h : w.heap[b]? = some (.cells cs t (0, 0))) : (w.setCell ⟨b, j, none⟩ x).heap[b]? = some (.cells (cs.setIfInBounds j x) t (0, 0)) := by
  obtain ⟨hlt, hk⟩ := Array.getElem?_eq_some_iff.1 h
  show (w.heap.modify b _)[b]? = _
  rw [Array.getElem?_modify, if_pos rfl, h]
  rfl
/-- An event's box. -/
def Ebx (w : World) (b : Nat) (n sh : Int) : Prop := w.heap[b]? = some (.cells #[.int .i64 0, .int .u8 0, .int .i64 n, .int .i64 sh, .int .i64 0, .int .i64 0] 35 (0, 0))
set_option maxHeartbeats 4000000 in
set_option maxRecDepth 100000 in
theorem kk_step (h : MaM w0 w c T Z s) (hnr : Z.nr = s.d) {j : Nat} (hj : j < c.s.toNat) {e : Qe} {r : List Qe} (hq : s.qs j = e :: r) {i : Nat} {g : Hl} (hi : i < c.l.toNat) (hef : e.f = ((i + 1 : Nat) : Int)) (hn : s.ln i = some g) (ho : 0 < g.out) (hen : 1 ≤ e.n ∧ e.n ≤ 65536) (hy : okW e.x) (hno : ∀ v ∈ s.M j e.x.key, v.num ≠ e.n) (hk : s.k < 16000000) :
    Calls Tryz.prog 303 #[.pointer (some ⟨Z.z.kk j, 0, none⟩), .int .u8 7] w fun e' w' => ∃ M', O.PutM (s.M j) e.x.key ⟨e.n, e.x.val, e.x.drop⟩ M' true ∧ StP w0 c T w Z s g.n (j : Int) 0 (servM s j e r g M') e' w' := by
  obtain ⟨w1, HW1⟩ : ∃ w1, Hid (w.alloc (.cells #[.int .i64 0, .int .u8 0, .int .i64 0, .int .i64 0, .int .i64 0, .int .i64 0] 35) = w1) := ⟨_, rfl⟩
  obtain ⟨A, HA⟩ : ∃ A, Hid (w.heap.size = A) := ⟨_, rfl⟩
  have hF1 : Fr [] w w1 := by rw [← HW1.out]; exact Fr.alloc _ _ _
  have hBx : Bx w0 c T w1 Z s A := by rw [← HW1.out, ← HA.out]; exact Bx.new h
  have h1 := h.quiet hF1
  obtain ⟨w2, HW2⟩ : ∃ w2, Hid (w1.alloc (.cells #[.int .i64 0, .int .u8 0, .int .i64 0, .int .i64 0, .int .i64 0, .int .i64 0] 35) = w2) := ⟨_, rfl⟩
  obtain ⟨E, HE⟩ : ∃ E, Hid (w1.heap.size = E) := ⟨_, rfl⟩
  have hF2 : Fr [] w1 w2 := by rw [← HW2.out]; exact Fr.alloc _ _ _
  have hBe : Bx w0 c T w2 Z s E := by rw [← HW2.out, ← HE.out]; exact Bx.new h1
  have h2 := h1.quiet hF2
  have hBa : Bx w0 c T w2 Z s A := hBx.then (h1.dn hF2)
  have hAE : A < E := by rw [← HE.out]; exact lt_of_block hBx.box
  have hwA : w.heap.size ≤ A := by rw [HA.out]; exact Nat.le_refl _
  obtain ⟨k0, k1, k2, k3⟩ := h1.kkc hj
  obtain ⟨G, hG⟩ : ∃ G, g.n = G := ⟨_, rfl⟩
  obtain ⟨EF, hEF⟩ : ∃ EF, e.f = EF := ⟨_, rfl⟩
  have HC1 : Hid (∀ w3, Fr [E] w2 w3 → Ebx w3 E 0 j → w3.cell? ⟨Z.z.kk j, 3, none⟩ = some (.pointer (some ⟨Z.z.ob j, 0, none⟩)) ∧ Calls Tryz.prog 305 #[.pointer (some ⟨Z.z.ob j, 0, none⟩)] w3 fun e' w4 => e' = .returned (.tuple #[.agg #[.int .i64 EF, .bool true, .slice none 0 0, .slice none 0 0, .int .i64 0], .int .i64 0]) ∧ Hid (∃ M', O.PutM (s.M j) e.x.key ⟨e.n, e.x.val, e.x.drop⟩ M' true ∧ ∀ W, Fr [] w4 W → W.cell? ⟨Z.z.kk j, 0, none⟩ = some (.pointer (some ⟨Z.z.mb, 0, none⟩)) ∧ Calls Tryz.prog 34 #[.pointer (some ⟨Z.z.mb, 0, none⟩), .int .i64 EF] W (fun e5 w' => e5 = .returned (.tuple #[.iface 221 (.pointer (some ⟨Z.z.kw i, 0, none⟩)), .bool true]) ∧ Fr [] W w') ∧ Calls Tryz.prog 269 #[.pointer (some ⟨Z.z.kw i, 0, none⟩), .agg #[.int .i64 EF, .bool true, .slice none 0 0, .slice none 0 0, .int .i64 0]] W (fun e5 w7 => e5 = .returned (.int .i64 G) ∧ Ebx w7 E 0 j ∧ ∀ w8, Fr [E] w7 w8 → Ebx w8 A 0 0 ∧ ∀ w9, Fr [A] w8 w9 → ∃ Z', Dn w0 c T w Z s w9 Z' (servM s j e r g M') ∧ Z'.nr = (servM s j e r g M').d))) := fun w3 hf3 hb3 => by
    have hSE : ∀ b ∈ [E], w0.heap.size ≤ b ∧ MaM.off w0 w2 c T Z s b := fun b hb => by rw [List.mem_singleton.1 hb]; exact ⟨by have := h.fr.size; omega, hBe.off⟩
    have h3 := h2.other hf3 hSE
    have hoE := h2.otherO hf3 hSE hBe.off
    have hoA := h2.otherO hf3 hSE hBa.off
    have hbA : Ebx w3 A 0 0 := hf3.keep hBa.box (by simp; omega)
    have hF3 : Fr [] w w3 := ((hF1.then hF2).on hf3 (fun x hx => by simp at hx; omega))
    refine ⟨(h3.kkc hj).2.2.2, (mserve_any h3 hj hq hen hy hno hk).mono ?_⟩
    rintro e' w4 ⟨rfl, M', Z4, hP, hD, hnr4⟩
    refine ⟨by rw [← hEF], M', hP, fun W hf => ?_⟩
    have hD5 := hD.trans (hD.m.dn hf)
    have hm := hD5.m
    refine ⟨by have := (hm.kkc hj).1; rw [hD5.z] at this; exact this, ?_, ?_⟩
    · have hF := find_any hm (q := i + 1) (by omega)
      rw [taskV_w c Z4.z hi, hD5.z, ← hef, hEF] at hF
      exact hF
    · have hH := whear_any hm hi (g := g) hn ho e.f
      rw [hG, hEF, hD5.z] at hH
      refine hH.mono ?_
      rintro e' w7 ⟨rfl, hD7⟩
      have hD8 := hD5.trans hD7
      have ob7 := hD8.keep hb3 hoE
      refine ⟨rfl, ob7, fun w8 hf8 => ?_⟩
      have oA7 := hD8.off (lt_of_block hbA) hoA
      have oE7 := hD8.off (lt_of_block hb3) hoE
      have hD9 := hD8.finS h hF3 (S := [E]) (fun b hb => by rw [List.mem_singleton.1 hb]; exact ⟨by omega, oE7⟩) hf8
      have bA8 : Ebx w8 A 0 0 := hf8.keep (hD8.keep hbA hoA) (by simp; omega)
      have oA8 := hD8.m.otherO hf8 (fun b hb => by rw [List.mem_singleton.1 hb]; exact ⟨by have := h.fr.size; omega, oE7⟩) oA7
      refine ⟨bA8, fun w9 hf9 => ?_⟩
      have hD10 := hD9.finS h (Fr.refl _ _) (S := [A]) (fun b hb => by rw [List.mem_singleton.1 hb]; exact ⟨hwA, oA8⟩) hf9
      have es : servM s j e r g M' = { s with qs := upd s.qs j r, ln := upd s.ln i (some (ackH g)), M := upd s.M j M', k := s.k + 1 } := by unfold servM; rw [hef]; rfl
      rw [es]
      exact ⟨_, hD10, hnr4.trans hnr⟩
  rw [hG]
  clear h hnr hj hq hef hn ho hen hy hno hk hF1 hBx h1 hF2 hBe h2 hBa hG hEF hwA
  have HAE : Hid (A < E) := hAE
  clear hAE
  go_enter Tryz.func303, Tryz.ntmps303
  go_upto_region 1 with fail
  rw [HW1.out, HA.out]
  clear HW1 HA
  go_wp2_with (first
    | (refine wpList_storeEv20 rfl _ _ rfl w1.heap.size 0 0 0 (j : Int) 0 0 rfl rfl 0 0 0 0 0 0 (heap_alloc_new w1 _) ?_; rw [HW2.out, HE.out]; clear HW2 HE; intro w3 hb3 hf3; obtain ⟨d3, hC⟩ := HC1.out w3 hf3 hb3.out; have HC : Hid (Calls _ _ _ _ _) := hC; clear hC HC1 hf3 hb3)
    | fail)
  refine Calls.mono HC.out ?_
  rintro e' w4 ⟨rfl, HP⟩
  obtain ⟨M', hP, hN⟩ := HP.out
  have HPM : Hid (O.PutM _ _ _ _ _) := hP
  have HN : Hid (∀ W, _ → _) := hN
  clear HC HP hP hN d3
  obtain ⟨w5, HW5⟩ : ∃ w5, Hid (w4.alloc (.cells #[.int .i64 EF, .bool true, .slice none 0 0, .slice none 0 0, .int .i64 0] 398) = w5) := ⟨_, rfl⟩
  obtain ⟨TB, HTB⟩ : ∃ TB, Hid (w4.heap.size = TB) := ⟨_, rfl⟩
  have hF5 : Fr [] w4 w5 := by rw [← HW5.out]; exact Fr.alloc _ _ _
  have hb5 : w5.heap[TB]? = some (.cells #[.int .i64 EF, .bool true, .slice none 0 0, .slice none 0 0, .int .i64 0] 398 (0, 0)) := by rw [← HW5.out, ← HTB.out]; exact heap_alloc_new _ _
  have q0 : ∀ y : Wq w5, y.W.cell? ⟨Z.z.kk j, 0, none⟩ = some (.pointer (some ⟨Z.z.mb, 0, none⟩)) := fun y => (HN.out y.W (hF5.then y.h)).1
  have qb : ∀ y : Wq w5, y.W.cell? ⟨TB, 0, none⟩ = some (.int .i64 EF) := fun y => by rw [cell_of_row _ _ _ _ _ _ (y.h.keep hb5 (by simp))]; rfl
  have HFd : ∀ y : Wq w5, Calls Tryz.prog 34 #[.pointer (some ⟨Z.z.mb, 0, none⟩), .int .i64 EF] y.W fun e5 w' => e5 = .returned (.tuple #[.iface 221 (.pointer (some ⟨Z.z.kw i, 0, none⟩)), .bool true]) ∧ Fr [] y.W w' := fun y => (HN.out y.W (hF5.then y.h)).2.1
  have HB5 : Hid (w5.heap[TB]? = _) := hb5
  have HF5 : Hid (Fr [] w4 w5) := hF5
  clear hb5 hF5
  go_upto_region 3 with fail
  rw [HW5.out, HTB.out]
  clear HW5 HTB
  refine wp_region_wq (w1 := w5) (by kernel_rfl) (by kernel_rfl) (Fr.refl _ _) ?_
  repeat (go_big_quiet_step (first
    | (go_at_call 34; with_reducible refine (HFd _).mono ?_; exact fun e w3 hh => ⟨hh.1, ⟨_, Fr.then (Wq.h _) hh.2⟩, rfl⟩)
    | simp [go_sem, q0, qb]))
  refine wpQuiet_nil ?_
  rintro _ ⟨z, rfl⟩
  have hbz := z.h.keep HB5.out (by simp)
  have HH : Hid (Calls _ _ _ _ _) := (HN.out z.W (HF5.out.then z.h)).2.2
  have t0 : z.W.cell? ⟨TB, 0, none⟩ = some (.int .i64 EF) := qb z
  have t1 : z.W.cell? ⟨TB, 1, none⟩ = some (.bool true) := by rw [cell_of_row _ _ _ _ _ _ hbz]; rfl
  have t2 : z.W.cell? ⟨TB, 2, none⟩ = some (.slice none 0 0) := by rw [cell_of_row _ _ _ _ _ _ hbz]; rfl
  have t3 : z.W.cell? ⟨TB, 3, none⟩ = some (.slice none 0 0) := by rw [cell_of_row _ _ _ _ _ _ hbz]; rfl
  have t4 : z.W.cell? ⟨TB, 4, none⟩ = some (.int .i64 0) := by rw [cell_of_row _ _ _ _ _ _ hbz]; rfl
  have MM := m_whear (Z.z.kw i) z.W
  obtain ⟨wz, HWZ⟩ : ∃ wz, wz = z.W := ⟨_, rfl⟩
  rw [← HWZ] at t0 t1 t2 t3 t4 MM HH ⊢
  clear HN HF5 HB5 q0 qb HFd hbz HWZ z
  go_wp2_with (simp [go_sem, MM])
  refine Calls.mono HH.out ?_
  rintro e' w7 ⟨rfl, hb7, hfin⟩
  have HFin : Hid (∀ w8, _ → _) := hfin
  have u2 : w7.cell? ⟨E, 2, none⟩ = some (.int .i64 0) := by rw [cell_of_row _ _ _ _ _ _ hb7]; rfl
  have z2 : w7.frozen? ⟨E, 2, none⟩ = false := by simp [World.frozen?, show w7.heap[E]? = _ from hb7]
  have HB7 : Hid (Ebx w7 E 0 j) := hb7
  clear hb7 hfin HH MM t0 t1 t2 t3 t4
  obtain ⟨w8, HW8⟩ : ∃ w8, Hid (w7.setCell ⟨E, 2, none⟩ (.int .i64 G) = w8) := ⟨_, rfl⟩
  have hF8 : Fr [E] w7 w8 := by rw [← HW8.out]; exact Fr.set _ _ _ (by simp)
  have hb8 : Ebx w8 E G j := by rw [← HW8.out]; exact row_putE (.int .i64 G) HB7.out
  obtain ⟨hA8, hfin⟩ := HFin.out w8 hF8
  have HFin9 : Hid (∀ w9, _ → _) := hfin
  have e0 : w8.cell? ⟨E, 0, none⟩ = some (.int .i64 0) := by rw [cell_of_row _ _ _ _ _ _ hb8]; rfl
  have e1 : w8.cell? ⟨E, 1, none⟩ = some (.int .u8 0) := by rw [cell_of_row _ _ _ _ _ _ hb8]; rfl
  have e2 : w8.cell? ⟨E, 2, none⟩ = some (.int .i64 G) := by rw [cell_of_row _ _ _ _ _ _ hb8]; rfl
  have e3 : w8.cell? ⟨E, 3, none⟩ = some (.int .i64 j) := by rw [cell_of_row _ _ _ _ _ _ hb8]; rfl
  have e4 : w8.cell? ⟨E, 4, none⟩ = some (.int .i64 0) := by rw [cell_of_row _ _ _ _ _ _ hb8]; rfl
  have e5 : w8.cell? ⟨E, 5, none⟩ = some (.int .i64 0) := by rw [cell_of_row _ _ _ _ _ _ hb8]; rfl
  clear hF8 hb8 hfin HB7 HFin
  go_upto_region 6 with fail
  rw [HW8.out]
  clear HW8 u2 z2
  go_wp2_with (first
    | (refine wpList_storeEv20 rfl _ _ rfl A 0 0 G (j : Int) 0 0 rfl rfl 0 0 0 0 0 0 hA8 ?_; intro w9 hw9 hf9; have HF9 : Hid _ := HFin9.out _ hf9; clear hf9)
    | fail)
  refine bodyPost_ret (results_c_row20 rfl _ _ _ A _ rfl (load_ev hw9.out)) rfl ?_
  exact ⟨M', HPM.out, rfl, HF9.out⟩
end
end Go.Proofs.YtakbodlicfmkjaaGreat
