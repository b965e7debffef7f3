/- The records of some bytes, told one by one: the contract of the iterator that records makes, for whatever loop body. Conditions as it names them. -/
import Derived.Test.YtaefninikmaiiaaGreatDoorRec6
import Derived.RangeFuncNested
import Derived.RangeFuncBound
import Derived.RangeFuncCalls
import Derived.RangeFuncLeaves
import Derived.Shelf.Abstract
import Derived.Shelf.RegionOpen
import Derived.OwnWalkIn
import Derived.TacticsInMore
import Derived.LoopNIn
import Derived.LoopIn
import Derived.Deep.RegionHeld3
namespace Go.Proofs.YtaefninikmaiiaaGreatDoor
open Go.ChangeShapes Go.WideShapes Go.ChangeAt Go.RowKit Go.Lib
set_option linter.unusedVariables false
attribute [local go_sem] Oper.semAt_some

/-- A reader's struct lies there. -/
def RBox (w : World) (g : Nat) : Prop := ∃ cs f, w.heap[g]? = some (.cells cs 213 f)
theorem Rd.rbox {w : World} {g r : Nat} {xs : List Nat} {er : Nat} {ao : Option Addr} {cap : Nat} (h : Rd w g r xs er ao cap) : RBox w g := ⟨_, _, h.box⟩
/-- What a told record is as a value. -/
def toldV (n : Int) (ao : Option Addr) (L cap en : Nat) (c : Nat) : Value := .agg #[.int .i64 n, .slice ao L cap, .int .i64 (en : Int), .int .i64 (c : Int)]

/-- How many bytes are ahead of the reader at g. -/
def leftOf (w : World) (g : Nat) : Nat := match w.cell? ⟨g, 1, none⟩ with | some (.slice _ n _) => n | _ => 0
theorem Rd.left {w : World} {g r : Nat} {xs : List Nat} {er : Nat} {ao : Option Addr} {cap : Nat} (h : Rd w g r xs er ao cap) : leftOf w g = xs.length := by
  unfold leftOf
  rw [h.c1]
theorem Rds.at_err {k : Nat} {ys vs : List Nat} {rs : List Tx} {c c1 : Nat} (h : Rds k ys rs vs c) (h0 : ys ≠ []) (h1 : recF ys = .error c1) : rs = [] ∧ vs = ys ∧ c = c1 := by
  cases rs with
  | nil =>
    obtain ⟨rfl, h⟩ := h
    rcases h with ⟨g, _⟩ | ⟨_, g⟩ | ⟨_, _, t, r, g, _⟩
    · exact absurd g h0
    · rw [h1] at g; cases g; exact ⟨rfl, rfl, rfl⟩
    · rw [h1] at g; cases g
  | cons t r =>
    obtain ⟨zs, _, g, _⟩ := h
    rw [h1] at g; cases g
theorem Rds.at_ok {k : Nat} {ys zs vs : List Nat} {rs : List Tx} {c : Nat} {t : Tx} (h : Rds k ys rs vs c) (h0 : ys ≠ []) (h1 : recF ys = .ok (t, zs)) : (t.n = (k : Int) ∧ ∃ rs', rs = t :: rs' ∧ Rds (k + 1) zs rs' vs c) ∨ (t.n ≠ (k : Int) ∧ rs = [] ∧ vs = ys ∧ c = 6) := by
  cases rs with
  | nil =>
    obtain ⟨rfl, h⟩ := h
    rcases h with ⟨g, _⟩ | ⟨_, g⟩ | ⟨_, g0, t', r, g, g2⟩
    · exact absurd g h0
    · rw [h1] at g; cases g
    · rw [h1] at g; cases g; exact Or.inr ⟨g2, rfl, rfl, g0⟩
  | cons t' r =>
    obtain ⟨zs', _, g, g2, g3⟩ := h
    rw [h1] at g; cases g
    exact Or.inl ⟨g2, r, rfl, g3⟩
/-- What was taken, told: nothing, and why; or a transaction, and where its writes lie. -/
def Took (w0 : World) (ys : List Nat) (c : Nat) (n : Int) (so : Option Addr) (C : Nat) (zs : List Nat) (er : Nat) (w : World) : Prop :=
  (c ≠ 0 ∧ recF ys = .error c ∧ n = 0 ∧ so = none ∧ C = 0) ∨
  (c = 0 ∧ ∃ (k N : Nat) (ws : List Wt), n = (N : Int) ∧ so = some ⟨k, 0, none⟩ ∧ C = ws.length ∧ w0.heap.size ≤ k ∧ w.heap[k]? = some (.cells (wtsC ws).toArray 124 (0, 0)) ∧ recF ys = .ok (⟨(N : Int), ws⟩, zs) ∧ er = 0 ∧ zs.length < ys.length)
theorem Took.keep {w0 w w' : World} {ys zs : List Nat} {c C er : Nat} {n : Int} {so : Option Addr} (h : Took w0 ys c n so C zs er w) (hf : Fr [] w w') : Took w0 ys c n so C zs er w' := by
  rcases h with h | ⟨h, k, N, ws, h1, h2, h3, h4, h5, h6⟩
  · exact Or.inl h
  · exact Or.inr ⟨h, k, N, ws, h1, h2, h3, h4, hf.keep h5 (by simp), h6⟩
theorem took_any (g r : Nat) (ys : List Nat) (ao : Option Addr) (cap : Nat) (w : World) (h : Rd w g r ys 0 ao cap) (hr : r < w.heap.size) :
    ∃ c : Nat, Calls Tryz.prog 140 #[.pointer (some ⟨g, 0, none⟩)] w fun e w' => ∃ n so C zs er ao' cap', e = .returned (.tuple #[.agg #[.int .i64 n, .slice so C C], .int .i64 (c : Int)]) ∧ Took w ys c n so C zs er w' ∧ Rd w' g r zs er ao' cap' ∧ zs.length ≤ ys.length ∧ Fr [g] w w' := by
  rcases takeRec_any g r ys ao cap w h hr with ⟨c, hrec, hE⟩ | ⟨n, ws, zs, hrec, hlt, hO⟩
  · refine ⟨c, hE.calls.mono ?_⟩
    rintro e w' ⟨rfl, zs, er, ao', cap', hR, hl, hF⟩
    exact ⟨0, none, 0, zs, er, ao', cap', rfl, Or.inl ⟨recF_code (fun _ _ => decT_code) hrec, hrec, rfl, rfl, rfl⟩, hR, hl, hF⟩
  · refine ⟨0, hO.calls.mono ?_⟩
    rintro e w' ⟨k, C, rfl, hk, hC, hrow, ao', cap', hR, hF⟩
    exact ⟨n, some ⟨k, 0, none⟩, C, zs, 0, ao', cap', rfl, Or.inr ⟨rfl, k, n, ws, rfl, rfl, hC, hk, hrow, hrec, rfl, hlt⟩, hR, by omega, hF⟩
theorem Rd.same {w w' : World} {g r : Nat} {xs : List Nat} {er : Nat} {ao : Option Addr} {cap : Nat} (h : Rd w g r xs er ao cap) (hg : w'.heap[g]? = w.heap[g]?) (hr : w'.heap[r]? = w.heap[r]?) (hs : w.heap.size ≤ w'.heap.size) : Rd w' g r xs er ao cap := by
  refine { h with box := hg.trans h.box, sl := { h.sl with lies := fun h0 => ?_, blk := by have := h.sl.blk; omega } }
  obtain ⟨off, e, hc⟩ := h.sl.lies h0
  exact ⟨off, e, fun j hj => (World.cell?_of_block hr).trans (hc j hj)⟩
/-- Where the iterator has ended: all that is told was told; and why it ended. -/
def RecEnd (J : Nat → List Tm → Nat → World → Prop) (Jx : Nat → List Tm → Nat → Nat → World → Prop) (xs vs : List Nat) (ls : List Tx) (c : Nat) (W' : World) : Prop :=
  ∃ s ds good, txs ds = ls ∧ good + vs.length = xs.length ∧ ((c = 0 ∧ J s ds good W') ∨ (c ≠ 0 ∧ Jx s ds good c W'))
set_option maxHeartbeats 8000000 in
set_option maxRecDepth 100000 in
theorem rec1_in (m l bb : Nat) (ao : Option Addr) (L cap : Nat) (xs vs : List Nat) (ls : List Tx) (c : Nat) (W : World) (J : Nat → List Tm → Nat → World → Prop) (Jx : Nat → List Tm → Nat → Nat → World → Prop)
    (hbb : Bv W bb 26 (.slice ao L cap)) (hA : BArg W ao L cap xs) (hlen : xs.length < 2^40) (hR : Rds 1 xs ls vs c) (h0 : ∀ s, W.heap.size ≤ s → J s [] 0 W)
    (hJ0 : ∀ s ds good w w', J s ds good w → Fr [] w w' → J s ds good w') (hJ : ∀ s ds good w w' g, J s ds good w → RBox w g → W.heap.size ≤ g → Fr [g] w w' → J s ds good w')
    (hYg : ∀ (s : Nat) (ds : List Tm) (good : Nat) (w : World) (n k C en : Nat) (ws : List Wt), J s ds good w → W.heap.size ≤ s → s ≤ w.heap.size → okT (n : Int) ws → n = ds.length + 1 → C = ws.length → W.heap.size ≤ k → w.heap[k]? = some (.cells (wtsC ws).toArray 124 (0, 0)) → en < 2^41 → ds.length < 2^41 → (∃ w0, J s ds good w0 ∧ w0.heap.size ≤ k) →
      YieldAt Fence.wide m Tryz.prog l #[.agg #[.int .i64 (n : Int), .slice (some ⟨k, 0, none⟩) C C, .int .i64 (en : Int), .int .i64 0]] w fun e w' => e = .returned (.bool true) ∧ J s (ds ++ [⟨(n : Int), some ⟨k, 0, none⟩, C, C, ws⟩]) en w' ∧ w.heap.size ≤ w'.heap.size ∧ ∀ k, (W.heap.size ≤ k ∧ k < s) ∨ k = bb → w'.heap[k]? = w.heap[k]?)
    (hYo : ∀ (s : Nat) (ds : List Tm) (good : Nat) (w : World) (n k C en : Nat) (ws : List Wt), J s ds good w → W.heap.size ≤ s → s ≤ w.heap.size → okT (n : Int) ws → n ≠ ds.length + 1 → C = ws.length → W.heap.size ≤ k → w.heap[k]? = some (.cells (wtsC ws).toArray 124 (0, 0)) → en < 2^41 → ds.length < 2^41 →
      YieldAt Fence.wide m Tryz.prog l #[.agg #[.int .i64 (n : Int), .slice (some ⟨k, 0, none⟩) C C, .int .i64 (en : Int), .int .i64 0]] w fun e w' => e = .returned (.bool false) ∧ Jx s ds good 6 w')
    (hYe : ∀ (s : Nat) (ds : List Tm) (good : Nat) (w : World) (c en : Nat), J s ds good w → c ≠ 0 → en < 2^41 →
      YieldAt Fence.wide m Tryz.prog l #[.agg #[.int .i64 0, .slice none 0 0, .int .i64 (en : Int), .int .i64 (c : Int)]] w fun e w' => e = .returned (.bool false) ∧ Jx s ds good c w') :
    CallsIn Fence.wide (m + 1) Tryz.prog 137 #[.func (.yield l) #[] #[], .pointer (some ⟨bb, 0, none⟩)] W fun e W' => (∃ v, e = .returned v) ∧ RecEnd J Jx xs vs ls c W' := by
  have HR : Hid (Rds 1 xs ls vs c) := hR
  have HL : Hid (L = xs.length) := hA.len
  have hlow := hA.low
  have hbc := hbb.c
  clear hR
  refine callsIn_of_wp Tryz.func137 rfl trivial ?_ rfl
  simp only [Tryz.ntmps137, List.size_toArray, List.length_cons, List.length_nil, Nat.reduceAdd, Nat.reduceSub, Array.replicate_succ, Array.replicate_zero, List.push_toArray, List.append_toArray, List.nil_append, List.cons_append]
  gi_wp2_with fail
  refine ⟨trivial, (callsIn_wide.2 (newReader_any ao L cap xs _ HL.out (fun h1 => hA.src h1) hlow (by omega))).mono ?_⟩
  rintro e w1 ⟨g, rfl, hg, hR1, hF1⟩
  obtain ⟨s, hs⟩ : ∃ s, s = w1.heap.size := ⟨_, rfl⟩
  have hJ1 : J s [] 0 w1 := hJ0 s [] 0 W w1 (h0 s (by have := hF1.size; omega)) hF1
  have hgs : g < s := by rw [hs]; exact hR1.lt
  have hWs : W.heap.size < s := by omega
  have hb1 := hbb.keep hF1 (by simp)
  have hs1 : s ≤ w1.heap.size := by omega
  obtain ⟨r, hr⟩ : ∃ r, r = W.heap.size := ⟨_, rfl⟩
  obtain ⟨ao1, hao1⟩ : ∃ a, a = some (⟨W.heap.size, 0, none⟩ : Addr) := ⟨_, rfl⟩
  obtain ⟨cap1, hcap1⟩ : ∃ a, a = xs.length := ⟨_, rfl⟩
  have hRd1 : Rd w1 g r xs 0 ao1 cap1 := by rw [hr, hao1, hcap1]; exact hR1
  have hrs : W.heap.size ≤ r ∧ r < s := by omega
  have hbW := hbb.lt
  clear hR1 hao1 hcap1 hs hr hbc hF1 hbb
  gi_wp2_with fail
  gi_loopw [] (fun wr => ∃ (ds : List Tm) (good : Nat) (rs : List Tx) (ys : List Nat) (ao' : Option Addr) (cap' : Nat), Hid (ls = txs ds ++ rs) ∧ Hid (Rds (ds.length + 1) ys rs vs c) ∧ Hid (good + ys.length = xs.length ∧ ds.length ≤ good) ∧ Rd wr g r ys 0 ao' cap' ∧ J s ds good wr ∧ s ≤ wr.heap.size ∧ Bv wr bb 26 (.slice ao L cap)) (fun wr => leftOf wr g)
  case atStart => exact ⟨[], 0, ls, xs, ao1, cap1, rfl, HR.out, ⟨by omega, Nat.le_refl _⟩, hRd1, hJ1, hs1, hb1⟩
  case round =>
    obtain ⟨ds, good, rs, ys, ao', cap', HS, HD, HG, hRd, hJr, hsr, hbr⟩ := hrel
    obtain ⟨M, hM⟩ : ∃ M, M = ys.length := ⟨_, rfl⟩
    have HM : Hid (M = ys.length) := hM
    have hl1 := left_any g r ys 0 ao' cap' wr hRd
    rw [← hM] at hl1
    have hMx : M ≤ xs.length := by have := HG.out.1; omega
    clear hM
    by_cases hy : 0 < M
    · have hne : ys ≠ [] := by intro h1; have := HM.out; rw [h1] at this; simp at this; omega
      obtain ⟨c', hT⟩ := took_any g r ys ao' cap' wr hRd (by omega)
      gi_wp2_with fail
      refine ⟨trivial, (callsIn_wide.2 hl1).mono ?_⟩
      rintro e w2 ⟨rfl, rfl⟩
      gi_wp2_with fail
      refine ⟨trivial, (callsIn_wide.2 hT).mono ?_⟩
      rintro e w2 ⟨n, so, C, zs, er, ao2, cap2, rfl, hK2, hR2, hl2, hF2⟩
      have hJ2 : J s ds good w2 := hJ s ds good wr w2 g hJr hRd.rbox (by omega) hF2
      have hb2 := hbr.keep hF2 (by simp; omega)
      have hs2 : s ≤ w2.heap.size := by have := hF2.size; omega
      have hF3 : Fr [] w2 (w2.alloc (.cells #[.int .i64 n, .slice so C C] 63)) := Fr.alloc _ _ _
      have hT3 : B2 (w2.alloc (.cells #[.int .i64 n, .slice so C C] 63)) w2.heap.size (.int .i64 n) (.slice so C C) := ⟨heap_alloc_new _ _⟩
      gi_wp2_with fail
      obtain ⟨w3, HW3⟩ : ∃ w3, Hid (w2.alloc (.cells #[.int .i64 n, .slice so C C] 63) = w3) := ⟨_, rfl⟩
      rw [HW3.out] at hF3 hT3 ⊢
      obtain ⟨b3, hb3⟩ : ∃ b3, b3 = w2.heap.size := ⟨_, rfl⟩
      rw [← hb3] at hT3 ⊢
      have HB3 : Hid (b3 = w2.heap.size) := hb3
      clear hb3
      have hK3 := hK2.keep hF3
      have hJ3 : J s ds good w3 := hJ0 s ds good w2 w3 hJ2 hF3
      have hbb3 := hb2.keep hF3 (by simp)
      have hR3 := hR2.keep hF3 (by simp) (by simp)
      obtain ⟨x0, x1, y0⟩ : _ ∧ _ ∧ _ := ⟨hT3.c0, hT3.c1, hbb3.c⟩
      have hz0 : w3.drew.heap.size = w3.heap.size := rfl
      have hF4 : Fr [] w3 (w3.drew.alloc (.cells #[.int .i64 0, .slice none 0 0, .int .i64 0, .int .i64 0] 100)) := (Fr.drew [] w3).then (Fr.alloc _ _ _)
      have hT4 := hT3.keep hF4
      have hbb4 := hbb3.keep hF4 (by simp)
      have hR4 := hR3.keep hF4 (by simp) (by simp)
      have hRd3 : Rd w3.drew g r zs er ao2 cap2 := hR3.keep (Fr.drew [] w3) (by simp) (by simp)
      obtain ⟨q0, q1, p0⟩ : _ ∧ _ ∧ _ := ⟨hT4.c0, hT4.c1, hbb4.c⟩
      obtain ⟨Z, hZ⟩ : ∃ Z, Z = zs.length := ⟨_, rfl⟩
      have hlA := left_any g r zs er ao2 cap2 _ hRd3
      have hlC : ∀ Zz, Calls Tryz.prog 139 #[.pointer (some ⟨g, 0, none⟩)] (w3.alloc (.cells Zz 100)).drew fun e w' => e = .returned (.int .i64 (zs.length : Nat)) ∧ (w3.alloc (.cells Zz 100)).drew = w' := fun Zz => left_any g r zs er ao2 cap2 _ (hR3.keep ((Fr.alloc [] w3 _).then (Fr.drew [] _)) (by simp) (by simp))
      rw [← hZ] at hlA hlC
      have hZl : Z ≤ L := by have := HL.out; have := HM.out; omega
      have HZ : Hid (Z = zs.length) := hZ
      clear hZ
      have hLm : L < 1099511627776 := by have := HL.out; omega
      obtain ⟨x0', x1', y0'⟩ : w3.drew.cell? ⟨b3, 0, none⟩ = some (.int .i64 n) ∧ w3.drew.cell? ⟨b3, 1, none⟩ = some (.slice so C C) ∧ w3.drew.cell? ⟨bb, 0, none⟩ = some (.slice ao L cap) := ⟨x0, x1, y0⟩
      have hzB : ∀ Zz, Fr [] w3 (w3.alloc (.cells Zz 100)).drew := fun Zz => (Fr.alloc [] w3 _).then (Fr.drew [] _)
      refine wpIn_wide.2 ?_
      go_region_held3 (fun W => W.cell? ⟨b3, 0, none⟩ = some (.int .i64 n) ∧ W.cell? ⟨b3, 1, none⟩ = some (.slice so C C) ∧ W.cell? ⟨bb, 0, none⟩ = some (.slice ao L cap)) (go_keep)
        (first
          | (with_reducible refine hlA.mono ?_; rintro e w9 ⟨rfl, rfl⟩)
          | (with_reducible refine (hlC _).mono ?_; rintro e w9 ⟨rfl, rfl⟩))
      all_goals (
        have hwr : IntKind.i64.wrap ((L : Int) - (Z : Int)) = ((L - Z : Nat) : Int) := by
          rw [IntKind.wrap_i64]
          omega
        rw [hwr]
        obtain ⟨en, hen⟩ : ∃ en : Nat, en = L - Z := ⟨_, rfl⟩
        rw [← hen]
        have HEN : Hid (en = L - Z) := hen
        have henl : en < 2 ^ 41 := by omega
        clear hen hwr
        have hF5 : Fr [] w3 (w3.alloc (.cells #[.int .i64 n, .slice so C C, .int .i64 (en : Int), .int .i64 (c' : Int)] 100)).drew := (Fr.alloc [] w3 _).then (Fr.drew [] _)
        have hrow5 : (w3.alloc (.cells #[.int .i64 n, .slice so C C, .int .i64 (en : Int), .int .i64 (c' : Int)] 100)).drew.heap[w3.heap.size]? = some (.cells #[.int .i64 n, .slice so C C, .int .i64 (en : Int), .int .i64 (c' : Int)] 100 (0, 0)) := heap_alloc_new w3 _
        obtain ⟨w5, HW5⟩ : ∃ w5, Hid ((w3.alloc (.cells #[.int .i64 n, .slice so C C, .int .i64 (en : Int), .int .i64 (c' : Int)] 100)).drew = w5) := ⟨_, rfl⟩
        rw [HW5.out] at hF5 hrow5 ⊢
        obtain ⟨b5, hb5⟩ : ∃ b5, b5 = w3.heap.size := ⟨_, rfl⟩
        rw [← hb5] at hrow5 ⊢
        clear hb5
        have f0 : w5.cell? ⟨b5, 0, none⟩ = some (.int .i64 n) := by rw [cell_of_row _ _ _ _ _ _ hrow5]; rfl
        have f1 : w5.cell? ⟨b5, 1, none⟩ = some (.slice so C C) := by rw [cell_of_row _ _ _ _ _ _ hrow5]; rfl
        have f2 : w5.cell? ⟨b5, 2, none⟩ = some (.int .i64 (en : Int)) := by rw [cell_of_row _ _ _ _ _ _ hrow5]; rfl
        have f3 : w5.cell? ⟨b5, 3, none⟩ = some (.int .i64 (c' : Int)) := by rw [cell_of_row _ _ _ _ _ _ hrow5]; rfl
        have hK5 := hK3.keep hF5
        have hJ5 : J s ds good w5 := hJ0 s ds good w3 w5 hJ3 hF5
        have hbb5 := hbb3.keep hF5 (by simp)
        have hR5 := hR3.keep hF5 (by simp) (by simp)
        have hs5 : s ≤ w5.heap.size := by have := hF3.size; have := hF5.size; omega
        clear hlA hlC hzB x0 x1 y0 x0' x1' y0' q0 q1 p0 hT3 hT4 hbb3 hbb4 hR3 hR4 hRd3 hF4 hF5 hF3 hrow5 hK2 hK3 hJ2 hJ3 hb2 hR2 hz0 hl1 hT
        rcases hK5 with ⟨hc0, hrec, rfl, rfl, rfl⟩ | ⟨rfl, k, N, ws, rfl, rfl, hC, hk, hrow, hrec, rfl, hlt⟩
        · obtain ⟨rfl, rfl, rfl⟩ := Rds.at_err HD.out hne hrec
          obtain ⟨fn, tmps, assign, body, hy1, hRo⟩ := hYe s ds good w5 c en hJ5 hc0 henl
          have HC0 : Hid (c ≠ 0) := hc0
          clear hc0 hrec
          gi_wp2_with fail
          refine hRo.mono ?_
          rintro e W6 ⟨rfl, hJx6⟩
          gi_wp2
          refine bodyPost_ret (results_none rfl _ _ _) rfl ?_
          exact ⟨⟨_, rfl⟩, s, ds, good, by rw [HS.out, List.append_nil], HG.out.1, Or.inr ⟨HC0.out, hJx6⟩⟩
        · have hok : okT (N : Int) ws := (recF_inv hRd.sl.low hrec).2
          have hz0 : ((0 : Nat) : Int) = 0 := rfl
          rw [hz0] at f3 ⊢
          have hdl : ds.length < 2 ^ 41 := by have := HG.out; omega
          rcases Rds.at_ok HD.out hne hrec with ⟨hn, rs', rfl, hD'⟩ | ⟨hn, rfl, rfl, rfl⟩
          · have hN : N = ds.length + 1 := by simp only at hn; omega
            obtain ⟨fn, tmps, assign, body, hy1, hRo⟩ := hYg s ds good w5 N k C en ws hJ5 (by omega) hs5 hok hN hC (by omega) hrow henl hdl ⟨wr, hJr, hk⟩
            have HD' : Hid (Rds (ds.length + 1 + 1) zs rs' vs c) := hD'
            have HLT : Hid (zs.length < ys.length) := hlt
            clear hD' hrec hn hN hok hlt hz0 hdl hC
            gi_wp2_with fail
            refine hRo.mono ?_
            rintro e W6 ⟨rfl, hJ6, hsz6, hk6⟩
            have hR6 := hR5.same (hk6 g (Or.inl ⟨by omega, hgs⟩)) (hk6 r (Or.inl hrs)) hsz6
            have hb6 : Bv W6 bb 26 (.slice ao L cap) := ⟨(hk6 bb (Or.inr rfl)).trans hbb5.box⟩
            clear hk6 hRo hy1
            gi_wp2
            go_roundw
            case rel =>
              refine ⟨_, en, rs', zs, ao2, cap2, ?_, ?_, ?_, hR6, hJ6, by omega, hb6⟩
              · show ls = _
                rw [HS.out, txs_append, List.append_assoc]
                rfl
              · show Rds _ _ _ _ _
                rw [List.length_append]
                exact HD'.out
              · show _ ∧ _
                have := HG.out
                have := HLT.out
                have := HL.out
                have := HZ.out
                have := HEN.out
                rw [List.length_append, List.length_singleton]
                omega
            case measure => rw [hR6.left, hRd.left]; exact HLT.out
          · have hN : N ≠ ds.length + 1 := by simp only at hn; omega
            obtain ⟨fn, tmps, assign, body, hy1, hRo⟩ := hYo s ds good w5 N k C en ws hJ5 (by omega) hs5 hok hN hC (by omega) hrow henl hdl
            clear hrec hn hN hok hlt hz0 hdl hC
            gi_wp2_with fail
            refine hRo.mono ?_
            rintro e W6 ⟨rfl, hJx6⟩
            gi_wp2
            refine bodyPost_ret (results_none rfl _ _ _) rfl ?_
            exact ⟨⟨_, rfl⟩, s, ds, good, by rw [HS.out, List.append_nil], HG.out.1, Or.inr ⟨by decide, hJx6⟩⟩)
    · have hy0 : ys = [] := List.eq_nil_of_length_eq_zero (by have := HM.out; omega)
      have hD := HD.out
      rw [hy0] at hD
      obtain ⟨rfl, rfl, rfl⟩ := Rds.nil hD
      have hM0 : M = 0 := by omega
      subst hM0
      have hz0 : ((0 : Nat) : Int) = 0 := rfl
      rw [hz0] at hl1
      clear hD hz0
      gi_wp2_with fail
      refine ⟨trivial, (callsIn_wide.2 hl1).mono ?_⟩
      rintro e w2 ⟨rfl, rfl⟩
      gi_wp2
      go_end0
      refine ⟨⟨_, rfl⟩, s, ds, good, by rw [HS.out, List.append_nil], ?_, Or.inl ⟨rfl, hJr⟩⟩
      have := HG.out.1
      rw [hy0] at this
      exact this
end Go.Proofs.YtaefninikmaiiaaGreatDoor
