/- A lane takes the first one of the line; it sends its next write. Conditions as each names them. -/
import Derived.Test.YtaaghcimfcjehaaGreatDoorSh21
namespace Go.Proofs.YtaaghcimfcjehaaGreatDoor
open Go.ChangeShapes Go.WideShapes Go.ChangeAt Go.RowKit Go.Lib Go.Maps
set_option linter.unusedVariables false
set_option linter.unusedSimpArgs false

section
variable {w w' wS : World} {Z : Zs} {c : Cf} {s : Sy} {k : Nat} {ts : List Tm}
/-- A lane holds another one, with other shards left. -/
theorem SyM.setLane (h : SyM w Z c s k) {i : Nat} (hi : i < c.l.toNat) {w2 : World} (hf : Fr [] w w2) (n : Int) (q : Sq) (ys : List Int) (hq : QR w2 q.lo q.n q.c ys) (hn : ∀ x, qb q.lo = some x → w.heap.size ≤ x) :
    SyM ((w2.setCell ⟨Z.lb, 2 * i, none⟩ (.int .i64 n)).setCell ⟨Z.lb, 2 * i + 1, none⟩ q.v) (Z.put (2 + i) q) c { s with num := upd s.num i n, R := upd s.R (2 + i) ys } k ∧ Mv w Z ((w2.setCell ⟨Z.lb, 2 * i, none⟩ (.int .i64 n)).setCell ⟨Z.lb, 2 * i + 1, none⟩ q.v) (Z.put (2 + i) q) := by
  have h2 := h.quiet hf
  have hlt := h.lt
  obtain ⟨m1, m2⟩ := h2.setNum hi n
  have hnl : ∀ x, qb q.lo = some x → x ∉ Z.own := fun x hx hh => by have := hlt x hh; have := hn x hx; omega
  have hq2 : QR (w2.setCell ⟨Z.lb, 2 * i, none⟩ (.int .i64 n)) q.lo q.n q.c ys := hq.keep (Fr.set (S := [Z.lb]) w2 _ _ (by simp)) (fun b hb hh => hnl b hb (by simp at hh; exact Zs.mem_own.2 (Or.inl (by simp [Zs.six, hh]))))
  obtain ⟨r1, r2, r3⟩ := m1.rowL (wb := w) hi q ys (Fr.refl _ _) hq2 (Or.inr fun x hx => ⟨hnl x hx, hn x hx⟩)
  exact ⟨r1, ⟨(hf.mono (by simp)).then (m2.fr.then r2), r3, rfl, rfl, rfl, rfl⟩⟩
set_option maxHeartbeats 4000000 in
set_option maxRecDepth 100000 in
theorem take_any (h : SyM w Z c s k) (hx : Cx wS w Z ts) (hT : Lk (txs ts)) (i : Nat) (hi : i < c.l.toNat) (hR : ∀ n ∈ s.R 0, 1 ≤ n ∧ n ≤ ((txs ts).length : Int)) (h0i : s.num i = 0) :
    Calls Tryz.prog 145 #[.pointer (some ⟨Z.sb, 0, none⟩), .pointer (some ⟨Z.lb, 2 * i, none⟩)] w (TaskP w Z c k (lan c (txs ts) s i)) := by
  have hlt := h.lt
  have hF0 : Fr [] w (w.alloc (.cells (evA 0 0 0 0 0 0) 62)) := Fr.alloc _ _ _
  have hb0 : (w.alloc (.cells (evA 0 0 0 0 0 0) 62)).heap[w.heap.size]? = some (.cells (evA 0 0 0 0 0 0) 62 (0, 0)) := heap_alloc_new _ _
  have h0 := h.quiet hF0
  have hl0 : w.heap.size < (w.alloc (.cells (evA 0 0 0 0 0 0) 62)).heap.size := by simp
  have hx0 := hx.quiet hF0
  obtain ⟨w0, HW0⟩ : ∃ w0, Hid (w.alloc (.cells (evA 0 0 0 0 0 0) 62) = w0) := ⟨_, rfl⟩
  rw [HW0.out] at hF0 hb0 h0 hl0 hx0
  obtain ⟨rb, HRB⟩ : ∃ rb, Hid (w.heap.size = rb) := ⟨_, rfl⟩
  have hrb : w.heap.size ≤ rb := by rw [HRB.out]; exact Nat.le_refl _
  rw [HRB.out] at hb0 hl0
  have HFin : Hid (∀ W W' Z' s' k', Mv w0 Z W Z' → Fr [rb] W W' → SyM W Z' c s' k' → SyM W' Z' c s' k' ∧ Mv w Z W' Z') := fun W W' Z' s' k' hM hf hS => hM.fin hF0 hrb hl0 hlt hf hS
  have HBox : Hid (∀ W Z', Mv w0 Z W Z' → W.heap[rb]? = some (.cells (evA 0 0 0 0 0 0) 62 (0, 0))) := fun W Z' hM => hM.box hrb hlt hb0
  have HW0' : Hid (w.alloc (.cells #[.int .i64 0, .int .u8 0, .int .i64 0, .int .i64 0, .int .i64 0, .int .i64 0] 62) = w0) := HW0
  cases hR0 : s.R 0 with
  | nil =>
    have HC : Hid (Calls _ _ _ _ _) := first0_none h0 hR0
    have HO : Hid (lan c (txs ts) s i = (Te.no, s)) := by unfold lan; rw [if_pos h0i]; show (match s.R 0 with | [] => _ | n :: r => _) = _; rw [hR0]
    have HS : Hid (SyM w0 Z c s k) := h0
    clear h h0 hb0 hl0 hlt hF0 HW0 hx hx0 hR hT
    go_enter Tryz.func145, Tryz.ntmps145
    go_upto_region 1 with fail
    rw [HW0'.out, HRB.out]
    go_wp2_with fail
    refine Calls.mono HC.out ?_
    rintro e w1 ⟨rfl, rfl⟩
    have HB := HBox.out _ _ (Mv.refl w0 Z)
    go_wp2_with (refine wpList_storeEv rfl _ _ rfl rb 0 0 0 0 0 0 rfl rfl 0 0 0 0 0 0 HB ?_; intro w3 hw3 hf3)
    refine bodyPost_ret (results_c_row rfl _ _ _ rb _ rfl (load_evt hw3.out)) rfl ?_
    rw [HO.out]
    obtain ⟨m1, m2⟩ := HFin.out _ _ _ _ _ (Mv.refl w0 Z) hf3 HS.out
    exact ⟨Z, rfl, m1.mono (Nat.le_succ k), m2, rfl⟩
  | cons n r =>
    have HC : Hid (Calls _ _ _ _ _) := first0_some h0 hR0
    have hn := hR n (by rw [hR0]; simp)
    have hlen := hT.len
    rw [txs_length] at hn hlen
    have HO : Hid (lan c (txs ts) s i = (⟨4, n, 0, 0⟩, { s with num := upd s.num i n, R := upd (upd s.R 0 r) (2 + i) (shs c (txs ts) n) })) := by unfold lan; rw [if_pos h0i]; show (match s.R 0 with | [] => _ | n :: r => _) = _; rw [hR0]
    have hokn := hT.tx n hn.1 (by rw [txs_length]; exact hn.2)
    have H1 : Hid (∀ W Z', Z'.sb = Z.sb → SyM W Z' c (s.put 0 r) k → Mv w0 Z W Z' → Calls Tryz.prog 173 #[.pointer (some ⟨Z.sb, 0, none⟩), .int .i64 n] W fun e w' => ∃ so N cc, e = .returned (.slice so N cc) ∧ IOw W.heap.size w' so N cc (shs c (txs ts) n) ∧ Fr [] W w') := by
      intro W Z' e1 hW hM
      have := shards_any hW (hx0.next hM) n hn.1 hn.2 hokn hlen
      rw [e1] at this
      exact this
    have H2 : Hid (∀ W W2 Z' so N cc, Z'.sb = Z.sb → Z'.lb = Z.lb → SyM W Z' c (s.put 0 r) k → Mv w0 Z W Z' → IOw W.heap.size W2 so N cc (shs c (txs ts) n) → Fr [] W W2 → (∃ v, W2.cell? ⟨Z.lb, 2 * i, none⟩ = some (.int .i64 v)) ∧ (∃ a b d, W2.cell? ⟨Z.lb, 2 * i + 1, none⟩ = some (.slice a b d)) ∧ W2.frozen? ⟨Z.lb, 2 * i, none⟩ = false ∧ W2.frozen? ⟨Z.lb, 2 * i + 1, none⟩ = false ∧ ∃ Z2, Z2.sb = Z.sb ∧ SyM ((W2.setCell ⟨Z.lb, 2 * i, none⟩ (.int .i64 n)).setCell ⟨Z.lb, 2 * i + 1, none⟩ (.slice so N cc)) Z2 c (lan c (txs ts) s i).2 k ∧ Mv w0 Z ((W2.setCell ⟨Z.lb, 2 * i, none⟩ (.int .i64 n)).setCell ⟨Z.lb, 2 * i + 1, none⟩ (.slice so N cc)) Z2) := by
      intro W W2 Z' so N cc e1 e2 hW hM hI hf
      obtain ⟨l1, l2, l3, l4⟩ := (hW.quiet hf).lanCell hi
      obtain ⟨m1, m2⟩ := hW.setLane hi hf n ⟨so, N, cc⟩ (shs c (txs ts) n) (QR.of_own hI) (fun x hx => by
        refine (hI.blk (k := x) ?_).1
        cases so with
        | none => cases hx
        | some a =>
          obtain ⟨g, hg, _⟩ : ∃ g, some a = some (⟨g, 0, none⟩ : Addr) ∧ True := by
            rcases hI.row.2 with ⟨hh, _⟩ | ⟨g, cap, cur, hh, _⟩
            · cases hh
            · cases hh; exact ⟨g, rfl, trivial⟩
          cases hg
          simp [qb] at hx
          subst hx
          rfl)
      rw [e2] at l1 l2 l3 l4 m1 m2
      refine ⟨⟨_, l1⟩, ⟨_, _, _, l2⟩, l3, l4, Z'.put (2 + i) ⟨so, N, cc⟩, e1, ?_, hM.trans m2⟩
      rw [HO.out]
      exact m1
    clear h h0 hb0 hl0 hlt hF0 HW0 hx hx0 hR hT hokn hR0 h0i
    go_enter Tryz.func145, Tryz.ntmps145
    go_upto_region 1 with fail
    rw [HW0'.out, HRB.out]
    go_wp2_with fail
    refine Calls.mono HC.out ?_
    rintro e w1 ⟨Z1, rfl, hS1, hM1, z1, z2, z3⟩
    have HD : Hid (Calls _ _ _ _ _) := H1.out w1 Z1 z1 hS1 hM1
    have HS1 : Hid (SyM w1 Z1 c (s.put 0 r) k ∧ Mv w0 Z w1 Z1 ∧ Z1.sb = Z.sb ∧ Z1.lb = Z.lb) := ⟨hS1, hM1, z1, z2⟩
    clear hS1 hM1 z1 z2 z3 HC H1
    go_wp2_with fail
    refine Calls.mono HD.out ?_
    rintro e w2 ⟨so, N, cc, rfl, hI2, hF2⟩
    obtain ⟨⟨v0, l1⟩, ⟨a0, b0, d0, l2⟩, l3, l4, Z2, j3, j4, j5⟩ := H2.out w1 w2 Z1 so N cc HS1.out.2.2.1 HS1.out.2.2.2 HS1.out.1 HS1.out.2.1 hI2 hF2
    have HE : Hid (Z2.sb = Z.sb ∧ SyM _ _ _ _ _ ∧ Mv _ _ _ _) := ⟨j3, j4, j5⟩
    have HB := HBox.out _ _ j5
    clear j3 j4 j5 hI2 hF2 HD H2
    go_wp2_with (refine wpList_storeEv rfl _ _ rfl rb 0 4 n 0 0 0 rfl rfl 0 0 0 0 0 0 HB ?_; intro w6 hw6 hf6)
    refine bodyPost_ret (results_c_row rfl _ _ _ rb _ rfl (load_evt hw6.out)) rfl ?_
    obtain ⟨m1, m2⟩ := HFin.out _ _ _ _ _ HE.out.2.2 hf6 HE.out.2.1
    exact ⟨Z2, by rw [HO.out]; rfl, m1.mono (Nat.le_succ k), m2, HE.out.1⟩
end
end Go.Proofs.YtaaghcimfcjehaaGreatDoor
