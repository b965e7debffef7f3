/- Texts of this claim laid together, one behind the other: contracts and plain lemmas; conditions as each names them. -/
import Derived.Test.YtaaghcimfcjehaaGreatDoorGp17
/- A lane takes the first one of the line; it sends its next write. Conditions as each names them. -/
namespace Go.Proofs.YtaaghcimfcjehaaGreatDoor
open Go.ChangeShapes Go.WideShapes Go.ChangeAt Go.RowKit Go.Lib Go.Maps
set_option linter.unusedVariables false
set_option linter.unusedSimpArgs false

section
variable {w w' wS : World} {Z : Zs} {c : Cf} {s : Sy} {k : Nat} {ts : List Tm}
/-- A lane holds another one, with other shards left. -/
theorem SyM.setLane (h : SyM w Z c s k) {i : Nat} (hi : i < c.l.toNat) {w2 : World} (hf : Fr [] w w2) (n : Int) (q : Sq) (ys : List Int) (hq : QR w2 q.lo q.n q.c ys) (hn : ∀ x, qb q.lo = some x → w.heap.size ≤ x) :
    SyM ((w2.setCell ⟨Z.lb, 2 * i, none⟩ (.int .i64 n)).setCell ⟨Z.lb, 2 * i + 1, none⟩ q.v) (Z.put (2 + i) q) c { s with num := upd s.num i n, R := upd s.R (2 + i) ys } k ∧ Mv w Z ((w2.setCell ⟨Z.lb, 2 * i, none⟩ (.int .i64 n)).setCell ⟨Z.lb, 2 * i + 1, none⟩ q.v) (Z.put (2 + i) q) := by
  have h2 := h.quiet hf
  have hlt := h.lt
  obtain ⟨m1, m2⟩ := h2.setNum hi n
  have hnl : ∀ x, qb q.lo = some x → x ∉ Z.own := fun x hx hh => by have := hlt x hh; have := hn x hx; omega
  have hq2 : QR (w2.setCell ⟨Z.lb, 2 * i, none⟩ (.int .i64 n)) q.lo q.n q.c ys := hq.keep (Fr.set (S := [Z.lb]) w2 _ _ (by simp)) (fun b hb hh => hnl b hb (by simp at hh; exact Zs.mem_own.2 (Or.inl (by simp [Zs.six, hh]))))
  obtain ⟨r1, r2, r3⟩ := m1.rowL (wb := w) hi q ys (Fr.refl _ _) hq2 (Or.inr fun x hx => ⟨hnl x hx, hn x hx⟩)
  exact ⟨r1, ⟨(hf.mono (by simp)).then (m2.fr.then r2), r3, rfl, rfl, rfl, rfl⟩⟩
set_option maxHeartbeats 4000000 in
set_option maxRecDepth 100000 in
theorem take_any (h : SyM w Z c s k) (hx : Cx wS w Z ts) (hT : Lk (txs ts)) (i : Nat) (hi : i < c.l.toNat) (hR : ∀ n ∈ s.R 0, 1 ≤ n ∧ n ≤ ((txs ts).length : Int)) (h0i : s.num i = 0) :
    Calls Tryz.prog 145 #[.pointer (some ⟨Z.sb, 0, none⟩), .pointer (some ⟨Z.lb, 2 * i, none⟩)] w (TaskP w Z c k (lan c (txs ts) s i)) := by
  have hlt := h.lt
  have hF0 : Fr [] w (w.alloc (.cells (evA 0 0 0 0 0 0) 62)) := Fr.alloc _ _ _
  have hb0 : (w.alloc (.cells (evA 0 0 0 0 0 0) 62)).heap[w.heap.size]? = some (.cells (evA 0 0 0 0 0 0) 62 (0, 0)) := heap_alloc_new _ _
  have h0 := h.quiet hF0
  have hl0 : w.heap.size < (w.alloc (.cells (evA 0 0 0 0 0 0) 62)).heap.size := by simp
  have hx0 := hx.quiet hF0
  obtain ⟨w0, HW0⟩ : ∃ w0, Hid (w.alloc (.cells (evA 0 0 0 0 0 0) 62) = w0) := ⟨_, rfl⟩
  rw [HW0.out] at hF0 hb0 h0 hl0 hx0
  obtain ⟨rb, HRB⟩ : ∃ rb, Hid (w.heap.size = rb) := ⟨_, rfl⟩
  have hrb : w.heap.size ≤ rb := by rw [HRB.out]; exact Nat.le_refl _
  rw [HRB.out] at hb0 hl0
  have HFin : Hid (∀ W W' Z' s' k', Mv w0 Z W Z' → Fr [rb] W W' → SyM W Z' c s' k' → SyM W' Z' c s' k' ∧ Mv w Z W' Z') := fun W W' Z' s' k' hM hf hS => hM.fin hF0 hrb hl0 hlt hf hS
  have HBox : Hid (∀ W Z', Mv w0 Z W Z' → W.heap[rb]? = some (.cells (evA 0 0 0 0 0 0) 62 (0, 0))) := fun W Z' hM => hM.box hrb hlt hb0
  have HW0' : Hid (w.alloc (.cells #[.int .i64 0, .int .u8 0, .int .i64 0, .int .i64 0, .int .i64 0, .int .i64 0] 62) = w0) := HW0
  cases hR0 : s.R 0 with
  | nil =>
    have HC : Hid (Calls _ _ _ _ _) := first0_none h0 hR0
    have HO : Hid (lan c (txs ts) s i = (Te.no, s)) := by unfold lan; rw [if_pos h0i]; show (match s.R 0 with | [] => _ | n :: r => _) = _; rw [hR0]
    have HS : Hid (SyM w0 Z c s k) := h0
    clear h h0 hb0 hl0 hlt hF0 HW0 hx hx0 hR hT
    go_enter Tryz.func145, Tryz.ntmps145
    go_upto_region 1 with fail
    rw [HW0'.out, HRB.out]
    go_wp2_with fail
    refine Calls.mono HC.out ?_
    rintro e w1 ⟨rfl, rfl⟩
    have HB := HBox.out _ _ (Mv.refl w0 Z)
    go_wp2_with (refine wpList_storeEv rfl _ _ rfl rb 0 0 0 0 0 0 rfl rfl 0 0 0 0 0 0 HB ?_; intro w3 hw3 hf3)
    refine bodyPost_ret (results_c_row rfl _ _ _ rb _ rfl (load_evt hw3.out)) rfl ?_
    rw [HO.out]
    obtain ⟨m1, m2⟩ := HFin.out _ _ _ _ _ (Mv.refl w0 Z) hf3 HS.out
    exact ⟨Z, rfl, m1.mono (Nat.le_succ k), m2, rfl⟩
  | cons n r =>
    have HC : Hid (Calls _ _ _ _ _) := first0_some h0 hR0
    have hn := hR n (by rw [hR0]; simp)
    have hlen := hT.len
    rw [txs_length] at hn hlen
    have HO : Hid (lan c (txs ts) s i = (⟨4, n, 0, 0⟩, { s with num := upd s.num i n, R := upd (upd s.R 0 r) (2 + i) (shs c (txs ts) n) })) := by unfold lan; rw [if_pos h0i]; show (match s.R 0 with | [] => _ | n :: r => _) = _; rw [hR0]
    have hokn := hT.tx n hn.1 (by rw [txs_length]; exact hn.2)
    have H1 : Hid (∀ W Z', Z'.sb = Z.sb → SyM W Z' c (s.put 0 r) k → Mv w0 Z W Z' → Calls Tryz.prog 173 #[.pointer (some ⟨Z.sb, 0, none⟩), .int .i64 n] W fun e w' => ∃ so N cc, e = .returned (.slice so N cc) ∧ IOw W.heap.size w' so N cc (shs c (txs ts) n) ∧ Fr [] W w') := by
      intro W Z' e1 hW hM
      have := shards_any hW (hx0.next hM) n hn.1 hn.2 hokn hlen
      rw [e1] at this
      exact this
    have H2 : Hid (∀ W W2 Z' so N cc, Z'.sb = Z.sb → Z'.lb = Z.lb → SyM W Z' c (s.put 0 r) k → Mv w0 Z W Z' → IOw W.heap.size W2 so N cc (shs c (txs ts) n) → Fr [] W W2 → (∃ v, W2.cell? ⟨Z.lb, 2 * i, none⟩ = some (.int .i64 v)) ∧ (∃ a b d, W2.cell? ⟨Z.lb, 2 * i + 1, none⟩ = some (.slice a b d)) ∧ W2.frozen? ⟨Z.lb, 2 * i, none⟩ = false ∧ W2.frozen? ⟨Z.lb, 2 * i + 1, none⟩ = false ∧ ∃ Z2, Z2.sb = Z.sb ∧ SyM ((W2.setCell ⟨Z.lb, 2 * i, none⟩ (.int .i64 n)).setCell ⟨Z.lb, 2 * i + 1, none⟩ (.slice so N cc)) Z2 c (lan c (txs ts) s i).2 k ∧ Mv w0 Z ((W2.setCell ⟨Z.lb, 2 * i, none⟩ (.int .i64 n)).setCell ⟨Z.lb, 2 * i + 1, none⟩ (.slice so N cc)) Z2) := by
      intro W W2 Z' so N cc e1 e2 hW hM hI hf
      obtain ⟨l1, l2, l3, l4⟩ := (hW.quiet hf).lanCell hi
      obtain ⟨m1, m2⟩ := hW.setLane hi hf n ⟨so, N, cc⟩ (shs c (txs ts) n) (QR.of_own hI) (fun x hx => by
        refine (hI.blk (k := x) ?_).1
        cases so with
        | none => cases hx
        | some a =>
          obtain ⟨g, hg, _⟩ : ∃ g, some a = some (⟨g, 0, none⟩ : Addr) ∧ True := by
            rcases hI.row.2 with ⟨hh, _⟩ | ⟨g, cap, cur, hh, _⟩
            · cases hh
            · cases hh; exact ⟨g, rfl, trivial⟩
          cases hg
          simp [qb] at hx
          subst hx
          rfl)
      rw [e2] at l1 l2 l3 l4 m1 m2
      refine ⟨⟨_, l1⟩, ⟨_, _, _, l2⟩, l3, l4, Z'.put (2 + i) ⟨so, N, cc⟩, e1, ?_, hM.trans m2⟩
      rw [HO.out]
      exact m1
    clear h h0 hb0 hl0 hlt hF0 HW0 hx hx0 hR hT hokn hR0 h0i
    go_enter Tryz.func145, Tryz.ntmps145
    go_upto_region 1 with fail
    rw [HW0'.out, HRB.out]
    go_wp2_with fail
    refine Calls.mono HC.out ?_
    rintro e w1 ⟨Z1, rfl, hS1, hM1, z1, z2, z3⟩
    have HD : Hid (Calls _ _ _ _ _) := H1.out w1 Z1 z1 hS1 hM1
    have HS1 : Hid (SyM w1 Z1 c (s.put 0 r) k ∧ Mv w0 Z w1 Z1 ∧ Z1.sb = Z.sb ∧ Z1.lb = Z.lb) := ⟨hS1, hM1, z1, z2⟩
    clear hS1 hM1 z1 z2 z3 HC H1
    go_wp2_with fail
    refine Calls.mono HD.out ?_
    rintro e w2 ⟨so, N, cc, rfl, hI2, hF2⟩
    obtain ⟨⟨v0, l1⟩, ⟨a0, b0, d0, l2⟩, l3, l4, Z2, j3, j4, j5⟩ := H2.out w1 w2 Z1 so N cc HS1.out.2.2.1 HS1.out.2.2.2 HS1.out.1 HS1.out.2.1 hI2 hF2
    have HE : Hid (Z2.sb = Z.sb ∧ SyM _ _ _ _ _ ∧ Mv _ _ _ _) := ⟨j3, j4, j5⟩
    have HB := HBox.out _ _ j5
    clear j3 j4 j5 hI2 hF2 HD H2
    go_wp2_with (refine wpList_storeEv rfl _ _ rfl rb 0 4 n 0 0 0 rfl rfl 0 0 0 0 0 0 HB ?_; intro w6 hw6 hf6)
    refine bodyPost_ret (results_c_row rfl _ _ _ rb _ rfl (load_evt hw6.out)) rfl ?_
    obtain ⟨m1, m2⟩ := HFin.out _ _ _ _ _ HE.out.2.2 hf6 HE.out.2.1
    exact ⟨Z2, by rw [HO.out]; rfl, m1.mono (Nat.le_succ k), m2, HE.out.1⟩
end
end Go.Proofs.YtaaghcimfcjehaaGreatDoor
/- A lane sends its next write. Conditions as each names them. -/
namespace Go.Proofs.YtaaghcimfcjehaaGreatDoor
open Go.ChangeShapes Go.WideShapes Go.ChangeAt Go.RowKit Go.Lib Go.Maps
set_option linter.unusedVariables false
set_option linter.unusedSimpArgs false

section
variable {w w' wS : World} {Z : Zs} {c : Cf} {s : Sy} {k : Nat} {T : List Tx}
set_option maxHeartbeats 4000000 in
set_option maxRecDepth 100000 in
theorem send_any (h : SyM w Z c s k) (i : Nat) (hi : i < c.l.toNat) (hni : s.num i ≠ 0) (hi6 : i64 (s.num i)) (q : Int) (r : List Int) (hR : s.R (2 + i) = q :: r) (hq0 : 0 ≤ q) (hq1 : q < c.s) (hk : k < 1152921504606846976) (hc : ∀ n, -(k : Int) ≤ s.F n ∧ s.F n ≤ k) :
    Calls Tryz.prog 146 #[.pointer (some ⟨Z.sb, 0, none⟩), .pointer (some ⟨Z.lb, 2 * i, none⟩)] w (TaskP w Z c k (lan c T s i)) := by
  have hlt := h.lt
  have hl16 := h.may.1
  obtain ⟨j, rfl⟩ : ∃ j : Nat, q = (j : Int) := ⟨q.toNat, by omega⟩
  have hF0 : Fr [] w (w.alloc (.cells (evA 0 0 0 0 0 0) 62)) := Fr.alloc _ _ _
  have hb0 : (w.alloc (.cells (evA 0 0 0 0 0 0) 62)).heap[w.heap.size]? = some (.cells (evA 0 0 0 0 0 0) 62 (0, 0)) := heap_alloc_new _ _
  have h0 := h.quiet hF0
  have hl0 : w.heap.size < (w.alloc (.cells (evA 0 0 0 0 0 0) 62)).heap.size := by simp
  obtain ⟨w0, HW0⟩ : ∃ w0, Hid (w.alloc (.cells (evA 0 0 0 0 0 0) 62) = w0) := ⟨_, rfl⟩
  rw [HW0.out] at hF0 hb0 h0 hl0
  obtain ⟨rb, HRB⟩ : ∃ rb, Hid (w.heap.size = rb) := ⟨_, rfl⟩
  have hrb : w.heap.size ≤ rb := by rw [HRB.out]; exact Nat.le_refl _
  rw [HRB.out] at hb0 hl0
  have HFin : Hid (∀ W W' Z' s' k', Mv w0 Z W Z' → Fr [rb] W W' → SyM W Z' c s' k' → SyM W' Z' c s' k' ∧ Mv w Z W' Z') := fun W W' Z' s' k' hM hf hS => hM.fin hF0 hrb hl0 hlt hf hS
  have HBox : Hid (∀ W Z', Mv w0 Z W Z' → W.heap[rb]? = some (.cells (evA 0 0 0 0 0 0) 62 (0, 0))) := fun W Z' hM => hM.box hrb hlt hb0
  have HW0' : Hid (w.alloc (.cells #[.int .i64 0, .int .u8 0, .int .i64 0, .int .i64 0, .int .i64 0, .int .i64 0] 62) = w0) := HW0
  obtain ⟨l1, l2', _, _⟩ := h0.lanCell hi
  have hr0 := h0.rows (2 + i)
  rw [hR] at hr0
  obtain ⟨gb, goff, hlo, hcell, hcp, hnn, _⟩ := hr0.first
  have l2 : w0.cell? ⟨Z.lb, 2 * i + 1, none⟩ = some (.slice (Z.q (2 + i)).lo (Z.q (2 + i)).n (Z.q (2 + i)).c) := l2'
  clear l2'
  rw [hlo] at l2
  obtain ⟨nn, hn1⟩ : ∃ nn, nn = (Z.q (2 + i)).n := ⟨_, rfl⟩
  obtain ⟨cc, hcc⟩ : ∃ cc, cc = (Z.q (2 + i)).c := ⟨_, rfl⟩
  rw [← hn1, ← hcc] at l2
  rw [← hn1] at hnn
  have hnn2 : (0 : Int) < (nn : Int) := by omega
  have hnn3 : 0 < nn := by omega
  obtain ⟨nm, hnm⟩ : ∃ nm, nm = s.num i := ⟨_, rfl⟩
  by_cases hrm : Room c s (j : Int)
  · have HO : Hid (lan c T s i = (⟨5, nm, (j : Int), 0⟩, { asks s j nm with R := upd (asks s j nm).R (2 + i) r })) := by
      unfold lan
      rw [if_neg hni]
      show (match s.R (2 + i) with | q :: r => _ | [] => _) = _
      rw [hR]
      dsimp only
      rw [if_pos hrm.2.2, hnm]
      rfl
    rw [← hnm] at l1 hi6
    have HC : Hid (Calls _ _ _ _ _) := ask_yes h0 j nm hi6 hrm hk (hc nm)
    have H1 : Hid (∀ W Z', Z'.sb = Z.sb → Z'.lb = Z.lb → SyM W Z' c (asks s j nm) (k + 1) → Mv w0 Z W Z' → W.cell? ⟨Z.lb, 2 * i, none⟩ = some (.int .i64 nm) ∧ ∃ b off m d, W.cell? ⟨Z.lb, 2 * i + 1, none⟩ = some (.slice (some ⟨b, off, none⟩) (m + 1) d) ∧ W.frozen? ⟨Z.lb, 2 * i + 1, none⟩ = false ∧ m + 1 ≤ d ∧ (d = 1 ∨ d ≠ 1) ∧ ∀ so, so = (if d = 1 then some ⟨b, off, none⟩ else some ⟨b, off + 1, none⟩) → ∃ Z2, Z2.sb = Z.sb ∧ SyM (W.setCell ⟨Z.lb, 2 * i + 1, none⟩ (.slice so m (d - 1))) Z2 c (lan c T s i).2 (k + 1) ∧ Mv w0 Z (W.setCell ⟨Z.lb, 2 * i + 1, none⟩ (.slice so m (d - 1))) Z2) := by
      intro W Z' e1 e2 hW hM
      obtain ⟨a1, a2, a3, a4⟩ := hW.lanCell hi
      have hr := hW.rows (2 + i)
      have hRR : (asks s j nm).R (2 + i) = (j : Int) :: r := by
        show upd s.R (18 + j) _ (2 + i) = _
        rw [upd_other _ _ (by omega), hR]
      rw [hRR] at hr
      obtain ⟨b, off, e3, _, hcp2, hn3, hK⟩ := hr.first
      have hfit := hr.fit
      refine ⟨by rw [← e2, a1, hnm]; rfl, b, off, (Z'.q (2 + i)).n - 1, (Z'.q (2 + i)).c, ?_, by rw [← e2]; exact a4, by omega, Decidable.em _, ?_⟩
      · rw [← e2, a2]
        show some (Value.slice _ _ _) = _
        rw [e3, show (Z'.q (2 + i)).n - 1 + 1 = (Z'.q (2 + i)).n by omega]
      · intro so hso
        obtain ⟨k1, k2⟩ := hK so hso
        obtain ⟨r1, r2, r3⟩ := hW.rowL (wb := W) hi ⟨so, (Z'.q (2 + i)).n - 1, (Z'.q (2 + i)).c - 1⟩ r (Fr.refl _ _) k1 (Or.inl k2)
        rw [e2] at r1 r2
        refine ⟨Z'.put (2 + i) ⟨so, (Z'.q (2 + i)).n - 1, (Z'.q (2 + i)).c - 1⟩, e1, ?_, hM.trans ⟨r2, r3, rfl, rfl, rfl, rfl⟩⟩
        rw [HO.out]
        exact r1
    clear h h0 hb0 hl0 hlt hF0 HW0 hc hk hrm hR hr0 hlo hni hi6 hn1 hcc hnm hcp
    go_enter Tryz.func146, Tryz.ntmps146
    go_upto_region 1 with fail
    rw [HW0'.out, HRB.out]
    go_wp2_with fail
    refine Calls.mono HC.out ?_
    rintro e w1 ⟨Z1, rfl, hS1, hM1, z1, z2, z3⟩
    obtain ⟨f1, b, off, m, d, f2, f3, f4, f5, f6⟩ := H1.out w1 Z1 z1 z2 hS1 hM1
    clear hS1 hM1 z1 z2 z3 HC H1 l1 l2 hcell hnn hnn2 hnn3
    rcases f5 with rfl | f5
    · have hm0 : m = 0 := by omega
      subst hm0
      obtain ⟨Z2, j3, j4, j5⟩ := f6 _ (by rw [if_pos rfl])
      have HE : Hid (Z2.sb = Z.sb ∧ SyM _ _ _ _ _ ∧ Mv _ _ _ _) := ⟨j3, j4, j5⟩
      have HB := HBox.out _ _ j5
      clear j3 j4 j5 f6
      go_wp2_with (refine wpList_storeEv rfl _ _ rfl rb 0 5 nm (j : Int) 0 0 rfl rfl 0 0 0 0 0 0 HB ?_; intro w6 hw6 hf6)
      refine bodyPost_ret (results_c_row rfl _ _ _ rb _ rfl (load_evt hw6.out)) rfl ?_
      obtain ⟨m1, m2⟩ := HFin.out _ _ _ _ _ HE.out.2.2 hf6 HE.out.2.1
      exact ⟨Z2, by rw [HO.out]; rfl, m1, m2, HE.out.1⟩
    · obtain ⟨Z2, j3, j4, j5⟩ := f6 _ (by rw [if_neg f5])
      have HE : Hid (Z2.sb = Z.sb ∧ SyM _ _ _ _ _ ∧ Mv _ _ _ _) := ⟨j3, j4, j5⟩
      have HB := HBox.out _ _ j5
      clear j3 j4 j5 f6
      go_wp2_with (refine wpList_storeEv rfl _ _ rfl rb 0 5 nm (j : Int) 0 0 rfl rfl 0 0 0 0 0 0 HB ?_; intro w6 hw6 hf6)
      refine bodyPost_ret (results_c_row rfl _ _ _ rb _ rfl (load_evt hw6.out)) rfl ?_
      obtain ⟨m1, m2⟩ := HFin.out _ _ _ _ _ HE.out.2.2 hf6 HE.out.2.1
      exact ⟨Z2, by rw [HO.out]; rfl, m1, m2, HE.out.1⟩
  · have HO : Hid (lan c T s i = (Te.no, s)) := by
      unfold lan
      rw [if_neg hni]
      show (match s.R (2 + i) with | q :: r => _ | [] => _) = _
      rw [hR]
      dsimp only
      rw [if_neg (fun e => hrm ⟨hq0, hq1, e⟩)]
    rw [← hnm] at l1
    have hs16 := h.may.2.1
    have HC : Hid (Calls _ _ _ _ _) := ask_no h0 (j : Int) nm ⟨by omega, by omega⟩ hrm
    have HS : Hid (∀ W, Fr [] w0 W → SyM W Z c s k) := fun W hf => h0.quiet hf
    clear h h0 hb0 hl0 hlt hF0 HW0 hc hk hrm hR hr0 hlo hni hi6 hn1 hcc hnm hcp
    go_enter Tryz.func146, Tryz.ntmps146
    go_upto_region 1 with fail
    rw [HW0'.out, HRB.out]
    go_wp2_with fail
    refine Calls.mono HC.out ?_
    rintro e w1 ⟨rfl, hF1⟩
    have HM1 : Hid (Mv w0 Z w1 Z) := Mv.quiet hF1
    have HS1 : Hid (SyM w1 Z c s k) := HS.out w1 hF1
    have HB := HBox.out _ _ HM1.out
    clear hF1 l1 l2 hcell HS
    go_wp2_with (refine wpList_storeEv rfl _ _ rfl rb 0 0 0 0 0 0 rfl rfl 0 0 0 0 0 0 HB ?_; intro w3 hw3 hf3)
    refine bodyPost_ret (results_c_row rfl _ _ _ rb _ rfl (load_evt hw3.out)) rfl ?_
    rw [HO.out]
    obtain ⟨m1, m2⟩ := HFin.out _ _ _ _ _ HM1.out hf3 HS1.out
    exact ⟨Z, rfl, m1.mono (Nat.le_succ k), m2, rfl⟩
end
end Go.Proofs.YtaaghcimfcjehaaGreatDoor
/- A lane's step. Conditions as each names them. -/
namespace Go.Proofs.YtaaghcimfcjehaaGreatDoor
open Go.ChangeShapes Go.WideShapes Go.ChangeAt Go.RowKit Go.Lib Go.Maps
set_option linter.unusedVariables false
set_option linter.unusedSimpArgs false

section
variable {w w' wS : World} {Z : Zs} {c : Cf} {s : Sy} {k : Nat} {ts : List Tm}
set_option maxHeartbeats 8000000 in
set_option maxRecDepth 100000 in
theorem lane_any (h : SyM w Z c s k) (hx : Cx wS w Z ts) (hT : Lk (txs ts)) (hI : Iv c (txs ts) s k) (i : Nat) (hi : i < c.l.toNat) (hk : k ≤ 4194304) :
    Calls Tryz.prog 118 #[.pointer (some ⟨Z.sb, 0, none⟩), .int .i64 ((i : Int) + 1)] w (TaskP w Z c k (lan c (txs ts) s i)) := by
  have hlt := h.lt
  have hl16 := h.may.1
  have hlen := hT.len
  have hi6 : i64 (s.num i) := by
    rcases hI.held i with e | e
    · rw [e]; exact ⟨by omega, by omega⟩
    · exact ⟨by omega, by omega⟩
  have hF0 : Fr [] w (w.alloc (.cells (evA 0 0 0 0 0 0) 62)) := Fr.alloc _ _ _
  have hb0 : (w.alloc (.cells (evA 0 0 0 0 0 0) 62)).heap[w.heap.size]? = some (.cells (evA 0 0 0 0 0 0) 62 (0, 0)) := heap_alloc_new _ _
  have h0 := h.quiet hF0
  have hl0 : w.heap.size < (w.alloc (.cells (evA 0 0 0 0 0 0) 62)).heap.size := by simp
  have hx0 := hx.quiet hF0
  obtain ⟨w0, HW0⟩ : ∃ w0, Hid (w.alloc (.cells (evA 0 0 0 0 0 0) 62) = w0) := ⟨_, rfl⟩
  rw [HW0.out] at hF0 hb0 h0 hl0 hx0
  obtain ⟨rb, HRB⟩ : ∃ rb, Hid (w.heap.size = rb) := ⟨_, rfl⟩
  have hrb : w.heap.size ≤ rb := by rw [HRB.out]; exact Nat.le_refl _
  rw [HRB.out] at hb0 hl0
  have HFin : Hid (∀ W W' Z' s' k', Mv w0 Z W Z' → Fr [rb] W W' → SyM W Z' c s' k' → SyM W' Z' c s' k' ∧ Mv w Z W' Z') := fun W W' Z' s' k' hM hf hS => hM.fin hF0 hrb hl0 hlt hf hS
  have HBox : Hid (∀ W Z', Mv w0 Z W Z' → W.heap[rb]? = some (.cells (evA 0 0 0 0 0 0) 62 (0, 0))) := fun W Z' hM => hM.box hrb hlt hb0
  have HW0' : Hid (w.alloc (.cells #[.int .i64 0, .int .u8 0, .int .i64 0, .int .i64 0, .int .i64 0, .int .i64 0] 62) = w0) := HW0
  have c11 : w0.cell? ⟨Z.sb, 11, none⟩ = some (.slice (some ⟨Z.lb, 0, none⟩) c.l.toNat c.l.toNat) := h0.cell rfl
  have c13 : w0.cell? ⟨Z.sb, 13, none⟩ = some (.map (some Z.ob)) := h0.cell rfl
  obtain ⟨l1, l2', lz, _⟩ := h0.lanCell hi
  have l2 : w0.cell? ⟨Z.lb, 2 * i + 1, none⟩ = some (.slice (Z.q (2 + i)).lo (Z.q (2 + i)).n (Z.q (2 + i)).c) := l2'
  clear l2'
  rw [Nat.mul_comm 2 i] at l1 l2 lz
  have hnl := (h0.rows (2 + i)).len
  obtain ⟨LL, hLL⟩ : ∃ LL, LL = c.l.toNat := ⟨_, rfl⟩
  have hi2 : (i : Int) < (LL : Int) := by omega
  have hL16 : LL ≤ 16 := by omega
  have e1 : (i : Int) + 1 - 1 = (i : Int) := by omega
  by_cases h0i : s.num i = 0
  · have HC : Hid (Calls _ _ _ _ _) := take_any h0 hx0 hT i hi hI.line h0i
    rw [Nat.mul_comm 2 i] at HC
    obtain ⟨r, hr⟩ : ∃ r, r = lan c (txs ts) s i := ⟨_, rfl⟩
    rw [← hr] at HC ⊢
    obtain ⟨⟨ak, an, a3, ac⟩, s'⟩ := r
    rw [h0i] at l1
    rw [← hLL] at c11
    clear h h0 hb0 hl0 hlt hF0 HW0 hx hx0 hT hI hr hnl h0i hi6 hLL c13 l2 lz hi hk hlen
    go_enter Tryz.func118, Tryz.ntmps118
    go_upto_region 1 with fail
    rw [HW0'.out, HRB.out]
    go_wp2_with fail
    refine Calls.mono HC.out ?_
    rintro e w1 ⟨Z1, rfl, hS1, hM1, z1⟩
    have HE : Hid (Z1.sb = Z.sb ∧ SyM _ _ _ _ _ ∧ Mv _ _ _ _) := ⟨z1, hS1, hM1⟩
    have HB := HBox.out _ _ hM1
    clear hS1 hM1 z1 HC c11 l1
    simp only [Te.v, evA]
    go_wp2_with (refine wpList_storeEv rfl _ _ rfl rb 0 ak an a3 ac 0 rfl rfl 0 0 0 0 0 0 HB ?_; intro w3 hw3 hf3)
    refine bodyPost_ret (results_c_row rfl _ _ _ rb _ rfl (load_evt hw3.out)) rfl ?_
    obtain ⟨m1, m2⟩ := HFin.out _ _ _ _ _ HE.out.2.2 hf3 HE.out.2.1
    exact ⟨Z1, rfl, m1, m2, HE.out.1⟩
  have hne : (s.num i == 0) = false := by simpa using h0i
  cases hR : s.R (2 + i) with
  | cons q r =>
    have hqq := hI.left i (by omega) q (by rw [hR]; simp)
    have HC : Hid (Calls _ _ _ _ _) := send_any (T := txs ts) h0 i hi h0i hi6 q r hR hqq.1 hqq.2 (by omega) hI.cnt
    rw [Nat.mul_comm 2 i] at HC
    obtain ⟨rr, hr⟩ : ∃ rr, rr = lan c (txs ts) s i := ⟨_, rfl⟩
    rw [← hr] at HC ⊢
    obtain ⟨⟨ak, an, a3, ac⟩, s'⟩ := rr
    rw [hR] at hnl
    simp only [List.length_cons] at hnl
    obtain ⟨m, hm⟩ : ∃ m, m = (Z.q (2 + i)).n := ⟨_, rfl⟩
    rw [← hm] at l2 hnl
    have hm1 : 0 < m := by omega
    have hm2 : (0 : Int) < (m : Int) := by omega
    rw [← hLL] at c11
    obtain ⟨nm, hnm⟩ : ∃ nm, nm = s.num i := ⟨_, rfl⟩
    rw [← hnm] at l1 h0i hne
    clear h h0 hb0 hl0 hlt hF0 HW0 hx hx0 hT hI hr hnl hi6 hLL c13 lz hi hk hlen hm hR hqq hnm
    go_enter Tryz.func118, Tryz.ntmps118
    go_upto_region 1 with fail
    rw [HW0'.out, HRB.out]
    go_wp2_with fail
    refine Calls.mono HC.out ?_
    rintro e w1 ⟨Z1, rfl, hS1, hM1, z1⟩
    have HE : Hid (Z1.sb = Z.sb ∧ SyM _ _ _ _ _ ∧ Mv _ _ _ _) := ⟨z1, hS1, hM1⟩
    have HB := HBox.out _ _ hM1
    clear hS1 hM1 z1 HC c11 l1 l2
    simp only [Te.v, evA]
    go_wp2_with (refine wpList_storeEv rfl _ _ rfl rb 0 ak an a3 ac 0 rfl rfl 0 0 0 0 0 0 HB ?_; intro w3 hw3 hf3)
    refine bodyPost_ret (results_c_row rfl _ _ _ rb _ rfl (load_evt hw3.out)) rfl ?_
    obtain ⟨m1, m2⟩ := HFin.out _ _ _ _ _ HE.out.2.2 hf3 HE.out.2.1
    exact ⟨Z1, rfl, m1, m2, HE.out.1⟩
  | nil =>
    rw [hR] at hnl
    have hm0 : (Z.q (2 + i)).n = 0 := hnl
    rw [hm0] at l2
    have hlk := h0.lookOut (s.num i) hi6
    by_cases hF : s.F (s.num i) = 0
    · have HO : Hid (lan c (txs ts) s i = (⟨6, s.num i, 0, 0⟩, { s with num := upd s.num i 0, R := upd s.R 1 (s.R 1 ++ [s.num i]) })) := by
        unfold lan
        rw [if_neg h0i]
        show (match s.R (2 + i) with | q :: r => _ | [] => _) = _
        rw [hR]
        dsimp only
        rw [if_pos hF]
      rw [hF] at hlk
      obtain ⟨k1, k2⟩ := h0.setNum hi 0
      rw [Nat.mul_comm 2 i] at k1 k2
      have hp1 : (w0.setCell ⟨Z.lb, i * 2, none⟩ (.int .i64 0)).cell? ⟨Z.sb, 10, none⟩ = some (.slice (Z.q 1).lo (Z.q 1).n (Z.q 1).c) := k1.cell rfl
      have hn1 : (Z.q 1).n ≤ 4194304 := by have := (h0.rows 1).len; have := hI.few1; omega
      obtain ⟨w1, HW1⟩ : ∃ w1, Hid (w0.setCell ⟨Z.lb, i * 2, none⟩ (.int .i64 0) = w1) := ⟨_, rfl⟩
      rw [HW1.out] at k1 k2 hp1
      have HQ : Hid (QR w1 (Z.q 1).lo (Z.q 1).n (Z.q 1).c (s.R 1)) := k1.rows 1
      have H4 : Hid (∀ lo' N' c' W', QR W' lo' N' c' (s.R 1 ++ [s.num i]) → Fr (qb (Z.q 1).lo).toList w1 W' → (qb lo' = qb (Z.q 1).lo ∨ ∃ k, qb lo' = some k ∧ w1.heap.size ≤ k) → W'.cell? ⟨Z.sb, 10, none⟩ = some (.slice (Z.q 1).lo (Z.q 1).n (Z.q 1).c) ∧ W'.frozen? ⟨Z.sb, 10, none⟩ = false ∧ ∃ Z2, Z2.sb = Z.sb ∧ SyM (W'.setCell ⟨Z.sb, 10, none⟩ (.slice lo' N' c')) Z2 c (lan c (txs ts) s i).2 k ∧ Mv w0 Z (W'.setCell ⟨Z.sb, 10, none⟩ (.slice lo' N' c')) Z2) := by
        intro lo' N' c' W' hQ hF' hm
        obtain ⟨m1, m2⟩ := k1.row1 (w1 := W') ⟨lo', N', c'⟩ _ hF' hQ hm
        have hb := hF'.keep k1.box (fun hh => (k1.apa.nR 1 _ (Option.mem_toList.1 hh)).1 (by simp [Zs.six]))
        refine ⟨by rw [cell_of_row _ _ _ _ _ _ hb]; rfl, by simp [World.frozen?, hb], Z.put 1 ⟨lo', N', c'⟩, rfl, ?_, k2.trans m2⟩
        rw [HO.out]
        exact m1
      have HOk : Hid (lan c (txs ts) s i = (⟨6, s.num i, 0, 0⟩, (lan c (txs ts) s i).2)) := by show _ = _; rw [HO.out]
      obtain ⟨lo, hlo⟩ : ∃ lo, lo = (Z.q 1).lo := ⟨_, rfl⟩
      obtain ⟨m, hm⟩ : ∃ m, m = (Z.q 1).n := ⟨_, rfl⟩
      obtain ⟨cl, hcl⟩ : ∃ cl, cl = (Z.q 1).c := ⟨_, rfl⟩
      rw [← hlo, ← hm, ← hcl] at HQ H4 hp1
      rw [← hm] at hn1
      obtain ⟨nm, hnm⟩ : ∃ nm, nm = s.num i := ⟨_, rfl⟩
      rw [← hnm] at l1 h0i hne HOk H4 hlk
      rw [← hLL] at c11
      obtain ⟨r, hr⟩ : ∃ r, r = (lan c (txs ts) s i).2 := ⟨_, rfl⟩
      rw [← hr] at HOk H4
      clear h h0 hb0 hl0 hlt hF0 HW0 hx hx0 hT hI hr hnl hi6 hLL hi hk hlen hm hR hnm hF k1 k2 hlo hcl HO hm0
      go_enter Tryz.func118, Tryz.ntmps118
      go_upto_region 1 with fail
      rw [HW0'.out, HRB.out]
      go_upto_region 9 with fail
      rw [HW1.out]
      clear c11 c13 l1 l2 lz hlk HW1
      go_wp2_with (first
        | (at_builtin; refine wpList_appQ1 w1 rfl _ _ rfl lo m cl (s.R 1) nm rfl HQ.out (by omega) rfl ?_; intro lo' c' w4 hQ4 hF4 hm4; obtain ⟨j1, j2, Z2, j3, j4, j5⟩ := H4.out lo' _ c' w4 hQ4 hF4 hm4; have HE : Hid (Z2.sb = Z.sb ∧ SyM _ _ _ _ _ ∧ Mv _ _ _ _) := ⟨j3, j4, j5⟩; have HB := HBox.out _ _ j5; clear j3 j4 j5 hQ4 hF4 hm4)
        | (refine wpList_storeEv rfl _ _ rfl rb 0 6 nm 0 0 0 rfl rfl 0 0 0 0 0 0 HB ?_; intro w6 hw6 hf6))
      refine bodyPost_ret (results_c_row rfl _ _ _ rb _ rfl (load_evt hw6.out)) rfl ?_
      obtain ⟨m1, m2⟩ := HFin.out _ _ _ _ _ HE.out.2.2 hf6 HE.out.2.1
      rw [HOk.out]
      exact ⟨Z2, rfl, m1.mono (Nat.le_succ k), m2, HE.out.1⟩
    · have HO : Hid (lan c (txs ts) s i = (Te.no, s)) := by
        unfold lan
        rw [if_neg h0i]
        show (match s.R (2 + i) with | q :: r => _ | [] => _) = _
        rw [hR]
        dsimp only
        rw [if_neg hF]
      have HS : Hid (SyM w0 Z c s k) := h0
      have hFe : (s.F (s.num i) == 0) = false := by simpa using hF
      obtain ⟨nm, hnm⟩ : ∃ nm, nm = s.num i := ⟨_, rfl⟩
      rw [← hnm] at l1 h0i hne hlk hFe
      obtain ⟨Fn, hFn⟩ : ∃ Fn, Fn = s.F nm := ⟨_, rfl⟩
      rw [← hFn] at hlk hFe
      rw [← hLL] at c11
      clear h h0 hb0 hl0 hlt hF0 HW0 hx hx0 hT hI hnl hi6 hLL hi hk hlen hR hF hm0 hnm hFn
      go_enter Tryz.func118, Tryz.ntmps118
      go_upto_region 1 with fail
      rw [HW0'.out, HRB.out]
      have HB := HBox.out _ _ (Mv.refl w0 Z)
      go_wp2_with (refine wpList_storeEv rfl _ _ rfl rb 0 0 0 0 0 0 rfl rfl 0 0 0 0 0 0 HB ?_; intro w3 hw3 hf3)
      refine bodyPost_ret (results_c_row rfl _ _ _ rb _ rfl (load_evt hw3.out)) rfl ?_
      rw [HO.out]
      obtain ⟨m1, m2⟩ := HFin.out _ _ _ _ _ (Mv.refl w0 Z) hf3 HS.out
      exact ⟨Z, rfl, m1.mono (Nat.le_succ k), m2, rfl⟩
end
end Go.Proofs.YtaaghcimfcjehaaGreatDoor
