/- Texts of this claim laid together, one behind the other: contracts and plain lemmas; conditions as each names them. -/
import Derived.Test.YtpdkdgmaofhlkaaGreatDoorGp9
/- Got, whatever the answer takes of the reply; what a Collect takes. Conditions as each names them. -/
namespace Go.Proofs.YtpdkdgmaofhlkaaGreatDoor
open Go.ChangeShapes Go.WideShapes Go.ChangeAt Go.RowKit Go.Lib
set_option linter.unusedVariables false
set_option linter.unusedSimpArgs false

/-- A reply as it lies in memory. -/
structure Rp where
  to_ : Int
  ok : Bool
  eo : Option Addr
  el : Nat
  ec : Nat
  ho : Option Addr
  hl : Nat
  hc : Nat
  ct : Int
def Rp.a (r : Rp) : Array Value := #[.int .i64 r.to_, .bool r.ok, .slice r.eo r.el r.ec, .slice r.ho r.hl r.hc, .int .i64 r.ct]
set_option maxHeartbeats 800000 in
theorem qGot_no {p : Value} {w : World} (r : Rp) (h : NoT p w) : Calls Tryz.prog 7 #[p, .agg r.a] w fun e w' => e = .returned (.int .i64 2) ∧ Fr [] w w' := by
  have hF := Fr.alloc [] w (.cells r.a 53)
  have HT : Hid (Calls _ _ _ _ _) := qthere_no (h.keep hF)
  have HF : Hid (Fr _ _ _) := hF
  obtain ⟨o, rfl⟩ := h.ptr
  clear h hF
  obtain ⟨a, b, c, d, e, f, g, i, j⟩ := r
  simp only [Rp.a] at HT HF ⊢
  go_enter Tryz.func7, Tryz.ntmps7
  go_wp2_with fail
  refine Calls.mono HT.out ?_
  rintro e w1 ⟨rfl, rfl⟩
  go_wp2
  go_ret
  exact ⟨rfl, HF.out⟩
set_option maxHeartbeats 800000 in
theorem qGot_idle {w : World} {t : Nat} {T : Tk} (r : Rp) (h : TkM w t T) (hn : T.n < 0) (he : T.rp = T.ak) : Calls Tryz.prog 7 #[.pointer (some ⟨t, 0, none⟩), .agg r.a] w fun e w' => e = .returned (.int .i64 9) ∧ Fr [] w w' := by
  have hF := Fr.alloc [] w (.cells r.a 53)
  have hk := h.keep hF (by simp)
  have HT : Hid (Calls _ _ _ _ _) := qthere_any hk hn
  have c19 := hk.c19
  have c20 := hk.c20
  rw [he] at c20
  have HF : Hid (Fr _ _ _) := hF
  clear h hF hk
  obtain ⟨a, b, c, d, e, f, g, i, j⟩ := r
  simp only [Rp.a] at HT HF c19 c20 ⊢
  obtain ⟨ak, hak⟩ : ∃ a, a = T.ak := ⟨_, rfl⟩
  rw [← hak] at c19 c20
  clear hak he
  have hq : (((ak : Nat) : Int) == ((ak : Nat) : Int)) = true := by simp
  go_enter Tryz.func7, Tryz.ntmps7
  go_wp2_with fail
  refine Calls.mono HT.out ?_
  rintro e w1 ⟨rfl, rfl⟩
  go_wp2_with fail
  go_quiet (fail)
  go_wp2
  go_ret
  exact ⟨rfl, HF.out.then (Fr.drewN _ _ _)⟩
set_option maxHeartbeats 1600000 in
set_option maxRecDepth 100000 in
theorem qGot_arg {w : World} {t : Nat} {T : Tk} (r : Rp) (h : TkM w t T) (hn : T.n < 0) (he : T.rp ≠ T.ak) (hto : r.to_ ≠ T.n) : Calls Tryz.prog 7 #[.pointer (some ⟨t, 0, none⟩), .agg r.a] w fun e w' => e = .returned (.int .i64 1) ∧ Fr [] w w' := by
  have hF := Fr.alloc [] w (.cells r.a 53)
  have hk := h.keep hF (by simp)
  have HT : Hid (Calls _ _ _ _ _) := qthere_any hk hn
  have HF : Hid (Fr _ _ _) := hF
  have HQ : Hid (∀ q, (World.drewN (w.alloc (.cells r.a 53)) q).cell? ⟨t, 0, none⟩ = some (.int .i64 T.n) ∧ (World.drewN (w.alloc (.cells r.a 53)) q).cell? ⟨w.heap.size, 0, none⟩ = some (.int .i64 r.to_)) := fun q => ⟨hk.c0, (show (w.alloc (.cells r.a 53)).cell? ⟨w.heap.size, 0, none⟩ = some (.int .i64 r.to_) from by rw [cell_of_row _ _ _ _ _ _ (heap_alloc_new w (.cells r.a 53))]; rfl)⟩
  have c19 := hk.c19
  have c20 := hk.c20
  clear h hF hk
  obtain ⟨a, b, c, d, e, f, g, i, j⟩ := r
  simp only [Rp.a] at HT HF c19 c20 HQ hto ⊢
  obtain ⟨ak, hak⟩ : ∃ a, a = T.ak := ⟨_, rfl⟩
  obtain ⟨rp, hrp⟩ : ∃ a, a = T.rp := ⟨_, rfl⟩
  obtain ⟨n, hnn⟩ : ∃ a, a = T.n := ⟨_, rfl⟩
  rw [← hak] at c19 he
  rw [← hrp] at c20 he
  rw [← hnn] at HQ hto hn
  clear hak hrp hnn
  have hq : (((rp : Nat) : Int) == ((ak : Nat) : Int)) = false := by rw [beq_eq_false_iff_ne]; omega
  have hq2 : (a != n) = true := by simp [hto]
  clear he
  go_enter Tryz.func7, Tryz.ntmps7
  go_wp2_with fail
  refine Calls.mono HT.out ?_
  rintro e w1 ⟨rfl, rfl⟩
  go_wp2_with fail
  go_quiet (fail)
  obtain ⟨k0, k1⟩ := HQ.out nq
  have hFq := HF.out.then (Fr.drewN [] _ nq)
  generalize World.drewN (w.alloc (.cells #[.int .i64 a, .bool b, .slice c d e, .slice f g i, .int .i64 j] 53)) nq = W1 at k0 k1 hFq ⊢
  have HFq : Hid (Fr _ _ _) := hFq
  clear c19 c20 HQ HF HT hFq
  go_wp2_with fail
  go_quiet (fail)
  go_wp2
  go_ret
  exact ⟨rfl, HFq.out.then (Fr.drewN _ _ _)⟩
set_option maxHeartbeats 1600000 in
set_option maxRecDepth 100000 in
theorem qGot_ok {w : World} {t : Nat} {T : Tk} (r : Rp) (h : TkM w t T) (hn : T.n < 0) (he : T.rp ≠ T.ak) (hrp : T.rp ≤ 16) (hto : r.to_ = T.n) (Post : World → Prop)
    (hA : ∀ W, TkM W t { T with rp := T.rp + 1 } → Fr [t] w W → Calls Tryz.prog 21 #[.pointer (some ⟨t, 21, none⟩), .int .u8 T.k, .agg r.a] W fun e w' => (∃ v, e = .returned v) ∧ Post w' ∧ w'.cell? ⟨t, 5, none⟩ = some (.int .u8 T.k) ∧ ∃ S, Fr S W w' ∧ ∀ x ∈ S, x < w.heap.size) :
    Calls Tryz.prog 7 #[.pointer (some ⟨t, 0, none⟩), .agg r.a] w fun e w' => e = .returned (.int .i64 0) ∧ Post w' := by
  have hF := Fr.alloc [] w (.cells r.a 53)
  have hk := h.keep hF (by simp)
  have HT : Hid (Calls _ _ _ _ _) := qthere_any hk hn
  have HF : Hid (Fr _ _ _) := hF
  have hbox : (w.alloc (.cells r.a 53)).heap[w.heap.size]? = some (.cells r.a 53 (0, 0)) := heap_alloc_new w _
  have hlt := h.lt
  have HQ : Hid (∀ q, TkM (World.drewN (w.alloc (.cells r.a 53)) q) t T ∧ (World.drewN (w.alloc (.cells r.a 53)) q).heap[w.heap.size]? = some (.cells r.a 53 (0, 0))) := fun q => ⟨hk, hbox⟩
  have c19 := hk.c19
  have c20 := hk.c20
  have HA : Hid (∀ W, TkM W t { T with rp := T.rp + 1 } → Fr [t] w W → Calls Tryz.prog 21 #[.pointer (some ⟨t, 21, none⟩), .int .u8 T.k, .agg r.a] W fun e w' => (∃ v, e = .returned v) ∧ Post w' ∧ w'.cell? ⟨t, 5, none⟩ = some (.int .u8 T.k) ∧ ∃ S, Fr S W w' ∧ ∀ x ∈ S, x < w.heap.size) := hA
  clear h hF hk hA hbox
  obtain ⟨a, b, c, d, e, f, g, i, j⟩ := r
  simp only [Rp.a] at HT HF c19 c20 HQ HA hto ⊢
  obtain ⟨ak, hak⟩ : ∃ a, a = T.ak := ⟨_, rfl⟩
  obtain ⟨rp, hrpp⟩ : ∃ a, a = T.rp := ⟨_, rfl⟩
  rw [← hak] at c19 he
  rw [← hrpp] at c20 he hrp
  have HRP : Hid (rp = T.rp) := hrpp
  have HTO : Hid (a = T.n) := hto
  clear hak hrpp hto
  have hq : (((rp : Nat) : Int) == ((ak : Nat) : Int)) = false := by rw [beq_eq_false_iff_ne]; omega
  clear he
  go_enter Tryz.func7, Tryz.ntmps7
  go_wp2_with fail
  refine Calls.mono HT.out ?_
  rintro e w1 ⟨rfl, rfl⟩
  go_wp2_with fail
  go_quiet (fail)
  obtain ⟨hk1, hb1⟩ := HQ.out nq
  have hFq := HF.out.then (Fr.drewN [] _ nq)
  generalize World.drewN (w.alloc (.cells #[.int .i64 a, .bool b, .slice c d e, .slice f g i, .int .i64 j] 53)) nq = W1 at hk1 hb1 hFq ⊢
  have HFq : Hid (Fr _ _ _) := hFq
  have HK1 : Hid (TkM W1 t T) := hk1
  have HB1 : Hid (W1.heap[w.heap.size]? = some (.cells #[.int .i64 a, .bool b, .slice c d e, .slice f g i, .int .i64 j] 53 (0, 0))) := hb1
  have k0 := hk1.c0
  have k1 : W1.cell? ⟨w.heap.size, 0, none⟩ = some (.int .i64 a) := by rw [cell_of_row _ _ _ _ _ _ hb1]; rfl
  rw [← HTO.out] at k0
  have hq2 : (a != a) = false := by simp
  clear c19 c20 HQ HF HT hFq hk1 hb1
  go_wp2_with fail
  go_quiet (fail)
  have hk2 : TkM (W1.drewN nq) t T := HK1.out
  have hb2 : (W1.drewN nq).heap[w.heap.size]? = some (.cells #[.int .i64 a, .bool b, .slice c d e, .slice f g i, .int .i64 j] 53 (0, 0)) := HB1.out
  have hF2 := HFq.out.then (Fr.drewN [] W1 nq)
  generalize W1.drewN nq = W2 at hk2 hb2 hF2 ⊢
  clear HK1 HB1 HFq k0 k1
  have m20 := hk2.c20
  rw [← HRP.out] at m20
  have z20 := hk2.fz 20
  have hk3 : TkM (W2.setCell ⟨t, 20, none⟩ (.int .i64 ((rp : Int) + 1))) t { T with rp := T.rp + 1 } := by
    have := row_put17 (j := 20) (.int .i64 ((rp : Int) + 1)) hk2
    rw [HRP.out] at this ⊢
    exact this
  have hf3 : Fr [t] W2 (W2.setCell ⟨t, 20, none⟩ (.int .i64 ((rp : Int) + 1))) := Fr.set _ _ _ (by simp)
  have hne : w.heap.size ≠ t := by omega
  have hb3 := hf3.keep hb2 (by simp; exact hne)
  have hF3 : Fr [t] w (W2.setCell ⟨t, 20, none⟩ (.int .i64 ((rp : Int) + 1))) := (hF2.mono (by intro x hx; simp at hx)).then hf3
  clear hf3 hk2 hb2 hF2
  go_upto_region 8 with fail
  generalize (W2.setCell ⟨t, 20, none⟩ (.int .i64 ((rp : Int) + 1))) = W3 at hk3 hb3 hF3 ⊢
  clear m20 z20
  have c5 := hk3.c5
  simp only at c5
  have e0 : W3.cell? ⟨w.heap.size, 0, none⟩ = some (.int .i64 a) := by rw [cell_of_row _ _ _ _ _ _ hb3]; rfl
  have e1 : W3.cell? ⟨w.heap.size, 1, none⟩ = some (.bool b) := by rw [cell_of_row _ _ _ _ _ _ hb3]; rfl
  have e2 : W3.cell? ⟨w.heap.size, 2, none⟩ = some (.slice c d e) := by rw [cell_of_row _ _ _ _ _ _ hb3]; rfl
  have e3 : W3.cell? ⟨w.heap.size, 3, none⟩ = some (.slice f g i) := by rw [cell_of_row _ _ _ _ _ _ hb3]; rfl
  have e4 : W3.cell? ⟨w.heap.size, 4, none⟩ = some (.int .i64 j) := by rw [cell_of_row _ _ _ _ _ _ hb3]; rfl
  have HA3 : Hid (Calls Tryz.prog 21 #[.pointer (some ⟨t, 21, none⟩), .int .u8 T.k, .agg #[.int .i64 a, .bool b, .slice c d e, .slice f g i, .int .i64 j]] W3.drew fun e9 w' => (∃ v, e9 = .returned v) ∧ Post w' ∧ w'.cell? ⟨t, 5, none⟩ = some (.int .u8 T.k) ∧ w'.cell? ⟨w.heap.size, 0, none⟩ = some (.int .i64 a) ∧ w'.cell? ⟨w.heap.size, 1, none⟩ = some (.bool b) ∧ w'.cell? ⟨w.heap.size, 2, none⟩ = some (.slice c d e) ∧ w'.cell? ⟨w.heap.size, 3, none⟩ = some (.slice f g i) ∧ w'.cell? ⟨w.heap.size, 4, none⟩ = some (.int .i64 j)) := by
    refine (HA.out W3.drew hk3 (hF3.then (Fr.drew _ _))).mono ?_
    rintro e9 w9 ⟨hv, hP, h5, S, hfS, hS⟩
    have hbl : w9.heap[w.heap.size]? = W3.heap[w.heap.size]? := hfS.block w.heap.size (show w.heap.size < W3.heap.size from lt_of_block hb3) (fun hx => by have := hS _ hx; omega)
    have hcl : ∀ o, w9.cell? ⟨w.heap.size, o, none⟩ = W3.cell? ⟨w.heap.size, o, none⟩ := fun o => World.cell?_of_block hbl
    exact ⟨hv, hP, h5, (hcl 0).trans e0, (hcl 1).trans e1, (hcl 2).trans e2, (hcl 3).trans e3, (hcl 4).trans e4⟩
  obtain ⟨b0, hb0⟩ : ∃ b, b = w.heap.size := ⟨_, rfl⟩
  rw [← hb0] at e0 e1 e2 e3 e4 HA3 ⊢
  clear hk3 hb3 hF3 HA hb0
  go_region_held3 (fun w => w.cell? ⟨t, 5, none⟩ = some (.int .u8 T.k) ∧ w.cell? ⟨b0, 0, none⟩ = some (.int .i64 a) ∧ w.cell? ⟨b0, 1, none⟩ = some (.bool b) ∧ w.cell? ⟨b0, 2, none⟩ = some (.slice c d e) ∧ w.cell? ⟨b0, 3, none⟩ = some (.slice f g i) ∧ w.cell? ⟨b0, 4, none⟩ = some (.int .i64 j)) (first | go_keep | trivial)
    (first
      | (with_reducible refine Calls.mono HA3.out ?_; rintro e9 w9 ⟨⟨v9, rfl⟩, hP, h5, g0, g1, g2, g3, g4⟩))
  have HP : Hid (Post w9) := hP
  clear hP
  go_wp2
  go_ret
  exact ⟨rfl, HP.out⟩
end Go.Proofs.YtpdkdgmaofhlkaaGreatDoor
