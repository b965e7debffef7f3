/- The document's answer: does a transaction write a key, are two neighbours. Conditions as each names them. -/
import Derived.Test.YtfminnmfdogopaaChd7
namespace Go.Proofs.Ytfminnmfdogopaa
open Go.ChangeShapes Go.WideShapes Go.ChangeAt Go.RowKit Go.Lib Go.Maps
set_option linter.unusedVariables false
set_option linter.unusedSimpArgs false

set_option maxHeartbeats 4000000 in
set_option maxRecDepth 100000 in
theorem zwrites_any (n : Int) (xo : Option Addr) (M cm : Nat) (ws : List Wt) (key : ByteArray) (B : Bool) (w : World) (h : WRs w xo ws) (hM : M = ws.length) (hB : B = true ↔ ∃ x ∈ ws, x.key = key) :
    Calls Try.prog 43 #[.agg #[.int .i64 n, .slice xo M cm], .string key] w fun e w' => e = .returned (.bool B) ∧ Fr [] w w' := by
  have HM : Hid (M = ws.length) := hM
  have HB : Hid (B = true ↔ ∃ x ∈ ws, x.key = key) := hB
  have hMm : M ≤ 140737488355328 := by have := h.few; omega
  obtain ⟨w0, HW0⟩ : ∃ w0, Hid (w.alloc (.cells #[.int .i64 n, .slice xo M cm] 51) = w0) := ⟨_, rfl⟩
  have hF0 : Fr [] w w0 := by rw [← HW0.out]; exact Fr.alloc [] w _
  have hb0 : w0.heap[w.heap.size]? = some (.cells #[.int .i64 n, .slice xo M cm] 51 (0, 0)) := by rw [← HW0.out]; exact heap_alloc_new w _
  have c1 : w0.cell? ⟨w.heap.size, 1, none⟩ = some (.slice xo M cm) := by rw [cell_of_row _ _ _ _ _ _ hb0]; rfl
  have h0 := h.keep hF0
  clear hM hB h
  go_enter Try.func43, Try.ntmps43
  go_upto_region 1 with fail
  rw [HW0.out]
  go_wp2_with fail
  go_loop [5] (fun ii => ∃ (i : Nat), ii = .int .i64 i ∧ i ≤ M ∧ Hid (∀ j, j < i → (ws.getD j Wt.zero).key ≠ key)) (fun ii => M - (intOf ii).toNat)
  case atStart => exact ⟨0, rfl, Nat.zero_le _, fun j hj => by omega⟩
  case round =>
    obtain ⟨i, rfl, hiM, HE⟩ := hrel
    by_cases hi : i < M
    · have hi' : i < ws.length := by rw [← HM.out]; exact hi
      obtain ⟨b2, o2, e2, _, hc2⟩ := h0.lies (by omega)
      obtain ⟨d0, d1, d2⟩ := hc2 i hi'
      have HMem : Hid (ws.getD i Wt.zero ∈ ws) := wgetD_mem ws i hi'
      obtain ⟨y, hyy⟩ : ∃ y, y = ws.getD i Wt.zero := ⟨_, rfl⟩
      rw [← hyy] at d0 d1 d2
      have HY : Hid (y = ws.getD i Wt.zero) := hyy
      clear hyy hc2
      obtain ⟨k2, v2, p2⟩ := y
      simp only at d0 d1 d2
      subst e2
      by_cases he : k2 = key
      · have heq : (k2.toList == key.toList) = true := by rw [he]; simp
        have hBt : B = true := HB.out.2 ⟨_, HMem.out, by rw [← HY.out]; exact he⟩
        subst hBt
        go_wp2
        go_ret
        exact ⟨rfl, hF0⟩
      · have heq : (k2.toList == key.toList) = false := by
          rw [beq_eq_false_iff_ne]
          exact fun h => he ((tl_inj _ _).1 h)
        have HE2 : Hid (∀ j, j < i + 1 → (ws.getD j Wt.zero).key ≠ key) := by
          intro j hj
          by_cases hji : j = i
          · subst hji; rw [← HY.out]; exact he
          · exact HE.out j (by omega)
        go_wp2
        go_round
        case rel => exact ⟨i + 1, by simp, by omega, HE2⟩
        case measure => simp [intOf]; omega
    · have hBf : B = false := by
        cases hb : B with
        | false => rfl
        | true =>
          exfalso
          obtain ⟨x, hx, e⟩ := HB.out.1 hb
          obtain ⟨j, hj, rfl⟩ := List.getElem_of_mem hx
          have := HE.out j (by have := HM.out; omega)
          simp only [List.getD, List.getElem?_eq_getElem hj, Option.getD_some] at this
          exact this e
      subst hBf
      go_wp2
      go_ret
      exact ⟨rfl, hF0⟩
set_option maxHeartbeats 8000000 in
set_option maxRecDepth 100000 in
theorem zNeigh_any (n m : Int) (xo yo : Option Addr) (M cm P cp : Nat) (ws us : List Wt) (B : Bool) (w : World) (h : WRs w xo ws) (hM : M = ws.length) (k : WRs w yo us) (hP : P = us.length) (hB : B = true ↔ ∃ x ∈ ws, ∃ y ∈ us, y.key = x.key) :
    Calls Try.prog 47 #[.agg #[.int .i64 n, .slice xo M cm], .agg #[.int .i64 m, .slice yo P cp]] w fun e w' => e = .returned (.bool B) ∧ Fr [] w w' := by
  have HM : Hid (M = ws.length) := hM
  have HP : Hid (P = us.length) := hP
  have HB : Hid (B = true ↔ ∃ x ∈ ws, ∃ y ∈ us, y.key = x.key) := hB
  have hMm : M ≤ 140737488355328 := by have := h.few; omega
  obtain ⟨w0, HW0⟩ : ∃ w0, Hid ((w.alloc (.cells #[.int .i64 n, .slice xo M cm] 51)).alloc (.cells #[.int .i64 m, .slice yo P cp] 51) = w0) := ⟨_, rfl⟩
  have hF0 : Fr [] w w0 := by rw [← HW0.out]; exact (Fr.alloc [] w _).then (Fr.alloc [] _ _)
  have hb0 : w0.heap[w.heap.size]? = some (.cells #[.int .i64 n, .slice xo M cm] 51 (0, 0)) := by rw [← HW0.out]; exact (Fr.alloc [] _ _).keep (heap_alloc_new w _) (by simp)
  have hb1 : w0.heap[w.heap.size + 1]? = some (.cells #[.int .i64 m, .slice yo P cp] 51 (0, 0)) := by
    rw [← HW0.out]
    have := heap_alloc_new (w.alloc (.cells #[.int .i64 n, .slice xo M cm] 51)) (.cells #[.int .i64 m, .slice yo P cp] 51)
    simpa using this
  have HCe : Hid (∀ W, Fr [] w0 W → W.cell? ⟨w.heap.size, 1, none⟩ = some (.slice xo M cm) ∧ W.cell? ⟨w.heap.size + 1, 0, none⟩ = some (.int .i64 m) ∧ W.cell? ⟨w.heap.size + 1, 1, none⟩ = some (.slice yo P cp)) := fun W hf => by
    have e0 := hf.keep hb0 (by simp)
    have e1 := hf.keep hb1 (by simp)
    exact ⟨by rw [cell_of_row _ _ _ _ _ _ e0]; rfl, by rw [cell_of_row _ _ _ _ _ _ e1]; rfl, by rw [cell_of_row _ _ _ _ _ _ e1]; rfl⟩
  have Hh : Hid (∀ W, Fr [] w0 W → WRs W xo ws) := fun W hf => h.keep (hF0.then hf)
  have Hk : Hid (∀ W, Fr [] w0 W → WRs W yo us) := fun W hf => k.keep (hF0.then hf)
  clear hM hB h hP k hb0 hb1
  go_enter Try.func47, Try.ntmps47
  go_upto_region 1 with fail
  rw [HW0.out]
  go_wp2_with fail
  go_loopw [5] (fun ii wr => ∃ (i : Nat), ii = .int .i64 i ∧ i ≤ M ∧ Hid (∀ j, j < i → ¬ ∃ y ∈ us, y.key = (ws.getD j Wt.zero).key) ∧ Fr [] w0 wr) (fun ii _ => M - (intOf ii).toNat)
  case atStart => exact ⟨0, rfl, Nat.zero_le _, fun j hj => by omega, Fr.refl _ _⟩
  case round =>
    obtain ⟨i, rfl, hiM, HE, hFr⟩ := hrel
    obtain ⟨q0, q1, q2⟩ := HCe.out _ hFr
    by_cases hi : i < M
    · have hi' : i < ws.length := by rw [← HM.out]; exact hi
      obtain ⟨b2, o2, e2, hb2, hc2⟩ := (Hh.out _ hFr).lies (by omega)
      obtain ⟨d0, _, _⟩ := hc2 i hi'
      have HMem : Hid (ws.getD i Wt.zero ∈ ws) := wgetD_mem ws i hi'
      obtain ⟨y, hyy⟩ : ∃ y, y = ws.getD i Wt.zero := ⟨_, rfl⟩
      rw [← hyy] at d0
      have HY : Hid (y = ws.getD i Wt.zero) := hyy
      clear hyy hc2
      obtain ⟨k2, v2, p2⟩ := y
      simp only at d0
      obtain ⟨T, hT⟩ : ∃ T : Bool, T = true ↔ ∃ y ∈ us, y.key = k2 := by
        by_cases h : ∃ y ∈ us, y.key = k2
        · exact ⟨true, by simp [h]⟩
        · exact ⟨false, ⟨fun h' => Bool.noConfusion h', fun h' => absurd h' h⟩⟩
      have HT : Hid (T = true ↔ ∃ y ∈ us, y.key = k2) := hT
      have HCo : Hid (∀ W, Fr [] w0 W → Calls Try.prog 43 #[.agg #[.int .i64 m, .slice yo P cp], .string k2] W fun e w' => e = .returned (.bool T) ∧ Fr [] W w') := fun W hf => zwrites_any m yo P cp us k2 T W (Hk.out _ hf) HP.out hT
      obtain ⟨z0, z1, z2⟩ := HCe.out _ (hFr.then (Fr.drew [] wr))
      have z3 : wr.drew.cell? ⟨b2, o2 + i * 3, none⟩ = some (.string k2) := d0
      have hq2 : b2 < wr.drew.heap.size := hb2
      clear hT
      subst e2
      go_upto_region 4 with fail
      go_region_held3 (fun W => W.cell? ⟨w.heap.size, 1, none⟩ = some (.slice (some ⟨b2, o2, none⟩) M cm) ∧ W.cell? ⟨w.heap.size + 1, 0, none⟩ = some (.int .i64 m) ∧ W.cell? ⟨w.heap.size + 1, 1, none⟩ = some (.slice yo P cp) ∧ W.cell? ⟨b2, o2 + i * 3, none⟩ = some (.string k2)) (go_keep)
        (first
        | (go_at_call 43; with_reducible refine Calls.mono (HCo.out _ (by first | exact hFr.then (Fr.drew [] _) | exact hFr)) ?_; rintro e w2 ⟨rfl, hF2⟩; obtain ⟨j0, j1, j2⟩ := HCe.out _ (hFr.then ((Fr.drew [] wr).then hF2)); have j3 := (World.cell?_of_block (hF2.block b2 hq2 (by simp))).trans z3))
      have hG2 := hFr.then ((Fr.drew [] wr).then hF2)
      clear HCo hF2 z0 z1 z2 z3 j0 j1 j2 j3 q0 q1 q2 d0
      cases T with
      | true =>
        have hBt : B = true := HB.out.2 (by obtain ⟨y, hy, e⟩ := HT.out.1 rfl; exact ⟨_, HMem.out, y, hy, by rw [← HY.out]; exact e⟩)
        subst hBt
        go_wp2
        go_ret
        exact ⟨rfl, hF0.then hG2⟩
      | false =>
        have HE2 : Hid (∀ j, j < i + 1 → ¬ ∃ y ∈ us, y.key = (ws.getD j Wt.zero).key) := by
          intro j hj
          by_cases hji : j = i
          · subst hji
            rw [← HY.out]
            intro h
            have := HT.out.2 h
            cases this
          · exact HE.out j (by omega)
        go_wp2
        go_roundw
        case rel => exact ⟨i + 1, by simp, by omega, HE2, hG2⟩
        case measure => simp [intOf]; omega
    · have hBf : B = false := by
        cases hb : B with
        | false => rfl
        | true =>
          exfalso
          obtain ⟨x, hx, y, hy, e⟩ := HB.out.1 hb
          obtain ⟨j, hj, rfl⟩ := List.getElem_of_mem hx
          have := HE.out j (by have := HM.out; omega)
          simp only [List.getD, List.getElem?_eq_getElem hj, Option.getD_some] at this
          exact this ⟨y, hy, e⟩
      subst hBf
      go_wp2
      go_ret
      exact ⟨rfl, hF0.then hFr⟩

def ints (rs : List Nat) : List Value := rs.map fun (r : Nat) => Value.int .i64 (r : Int)
theorem ints_length (rs : List Nat) : (ints rs).length = rs.length := by simp [ints]
theorem ints_append (a b : List Nat) : ints (a ++ b) = ints a ++ ints b := by simp [ints]
theorem ints_get (rs : List Nat) (k : Nat) (h : k < rs.length) : (ints rs)[k]? = some (.int .i64 ((rs.getD k 0 : Nat) : Int)) := by simp [ints, List.getD, h]
theorem Try.infoI7 : (Try.prog.info? 3).map (fun i => (i.zero, i.size, i.bytes)) = some (some (.int .i64 0), 1, 8) := by kernel_rfl
theorem Try.undIs7 : Try.prog.underlying 60 = some (.slice 3) := by kernel_rfl
/-- What the document's Chained holds: those to whom a chain leads, in order. -/
structure Zs (l : List Tx) (i n : Nat) (rs : List Nat) (q : Nat) : Prop where
  mem : ∀ m, m ∈ rs ↔ m < n ∧ Rch l i m
  last : rs.getLast? = some q
  lt : q < n
  hit : q + 1 = n ↔ Rch l i (n - 1)
theorem Zs.len {l : List Tx} {i n q : Nat} {rs : List Nat} (h : Zs l i n rs q) : 0 < rs.length := by
  have := h.last
  cases rs with
  | nil => simp at this
  | cons a r => simp
theorem Zs.start (l : List Tx) (i : Nat) : Zs l i (i + 1) [i] i := by
  refine ⟨fun m => ?_, rfl, by omega, by simp; exact Rch.base⟩
  simp only [List.mem_singleton]
  exact ⟨fun h => by subst h; exact ⟨by omega, Rch.base⟩, fun h => by have := h.2.ge; have := h.1; omega⟩
theorem Zs.add {l : List Tx} {i n q : Nat} {rs : List Nat} (h : Zs l i n rs q) (hr : Rch l i n) : Zs l i (n + 1) (rs ++ [n]) n := by
  refine ⟨fun m => ?_, by simp, by omega, by simp; exact hr⟩
  rw [List.mem_append, h.mem, List.mem_singleton]
  constructor
  · rintro (⟨h1, h2⟩ | rfl)
    · exact ⟨by omega, h2⟩
    · exact ⟨by omega, hr⟩
  · rintro ⟨h1, h2⟩
    by_cases e : m = n
    · exact Or.inr e
    · exact Or.inl ⟨by omega, h2⟩
theorem Zs.skip {l : List Tx} {i n q : Nat} {rs : List Nat} (h : Zs l i n rs q) (hr : ¬ Rch l i n) : Zs l i (n + 1) rs q := by
  have hlt := h.lt
  refine ⟨fun m => ?_, h.last, by omega, by simp; exact ⟨fun e => by omega, fun h => absurd h hr⟩⟩
  rw [h.mem]
  constructor
  · rintro ⟨h1, h2⟩
    exact ⟨by omega, h2⟩
  · rintro ⟨h1, h2⟩
    by_cases e : m = n
    · subst e; exact absurd h2 hr
    · exact ⟨by omega, h2⟩
theorem zs_get {rs : List Nat} {k : Nat} (h : k < rs.length) : rs.getD k 0 ∈ rs := by simp [List.getD, h]

set_option maxHeartbeats 16000000 in
set_option maxRecDepth 100000 in
theorem zChained_main (ao : Option Addr) (L cap I J0 : Nat) (ts : List Tm) (R : Bool) (w : World) (hT : TRs w ao ts) (hLe : L = ts.length) (hok : okL 1 (txs ts)) (hI1 : 1 ≤ I) (hIJ : I < J0) (hJL : J0 ≤ L) (hR : R = true ↔ Rch (txs ts) I J0) :
    Calls Try.prog 20 #[.slice ao L cap, .int .i64 (I : Int), .int .i64 (J0 : Int)] w fun e w' => e = .returned (.tuple #[.bool R, .int .i64 0]) ∧ Fr [] w w' := by
  have HL : Hid (L = ts.length) := hLe
  have HK : Hid (okL 1 (txs ts)) := hok
  have hL2 : L ≤ 65536 := by have := okL_few hok; rw [txs_length] at this; omega
  have HR : Hid (R = true ↔ Rch (txs ts) I J0) := hR
  have HI : Hid (∀ W, Fr [] w W → TRs W ao ts) := fun W hf => hT.keep hf
  obtain ⟨ab, aoff, ea, _, _⟩ := hT.lies (by omega)
  subst ea
  have HAt : Hid (∀ W, Fr [] w W → ∀ k, k < L → TAt W ab (aoff + k * 2) (ts.getD k Tm.zero) ∧ (ts.getD k Tm.zero).at W ∧ ab < W.heap.size) := fun W hf k hk => by
    have ht := HI.out W hf
    have hk' : k < ts.length := by rw [← HL.out]; exact hk
    obtain ⟨b', o', e', hb, hc⟩ := ht.lies (by omega)
    cases e'
    exact ⟨hc k hk', ht.each _ (tgetD_mem ts k hk'), hb⟩
  obtain ⟨iI, hiI, hzI, hsI, hbI⟩ := info_parts Try.infoI7
  clear hLe hok hR hT
  go_enter Try.func20, Try.ntmps20
  go_wp2_with fail
  refine (zcheck_any _ L cap 0 ts _ (HI.out _ (Fr.refl _ _)) HL.out (okL_bad HK.out)).mono ?_
  rintro e w1 ⟨rfl, hF1⟩
  have hb1 : ¬ ((I : Int) < 1) := by omega
  have hb2 : ¬ ((J0 : Int) ≤ (I : Int)) := by omega
  have hb3 : ¬ ((L : Int) < (J0 : Int)) := by omega
  obtain ⟨w2, HW2⟩ : ∃ w2, Hid (w1.alloc (.cells #[.int .i64 (I : Int)] 3) = w2) := ⟨_, rfl⟩
  obtain ⟨g0, HG0⟩ : ∃ g0, Hid (g0 = w1.heap.size) := ⟨_, rfl⟩
  have hF2 : Fr [] w1 w2 := by rw [← HW2.out]; exact Fr.alloc [] w1 _
  have hO2 : w2.ownsRow 0 3 1 (.slice (some ⟨g0, 0, none⟩) 1 1) 1 (ints [I]) := by
    refine ⟨rfl, .inr ⟨g0, 1, #[.int .i64 (I : Int)], rfl, Nat.zero_le _, by rw [← HW2.out, HG0.out]; exact heap_alloc_new w1 _, Nat.le_refl _, by decide, rfl, rfl⟩⟩
  have hG2 := hF1.then hF2
  have hg0 : w.heap.size ≤ g0 := by rw [HG0.out]; exact hF1.size
  go_upto_region 7 with fail
  rw [HW2.out, ← HG0.out]
  clear hF1 hF2 HW2
  go_wp2_with fail
  have hd1 : decide ((I : Int) < 1) = false := by simp; omega
  have hd2 : decide (J0 ≤ I) = false := by simp; omega
  have hd3 : decide (L < J0) = false := by simp; omega
  simp only [hd1, hd2, hd3, Bool.or_self]
  go_loopw [9, 10] (fun vv ii wr => ∃ (n N rc q : Nat) (ro : Option Addr) (rs : List Nat), vv = .slice ro N rc ∧ ii = .int .i64 ((n : Int) + 1) ∧ I ≤ n ∧ n ≤ J0 ∧ Hid (N = rs.length) ∧ N ≤ n ∧ Hid (Zs (txs ts) I (n + 1) rs q) ∧ Hid (wr.ownsRow 0 3 1 (.slice ro N rc) N (ints rs)) ∧ (∀ k, (Value.slice ro N rc).ownBlock = some k → w.heap.size ≤ k) ∧ Fr [] w wr) (fun _ ii _ => J0 + 1 - (intOf ii).toNat)
  case atStart => exact ⟨I, 1, 1, I, some ⟨g0, 0, none⟩, [I], rfl, by simp, Nat.le_refl _, by omega, rfl, by omega, Zs.start _ _, hO2, by intro k hk; simp [Value.ownBlock] at hk; omega, hG2⟩
  case round =>
    obtain ⟨n, N, rc, q, ro, rs, rfl, rfl, hIn, hnJ, HNl, hNn, HZ, HO, hnw, hFr⟩ := hrel
    have hN0 : 0 < N := by rw [HNl.out]; exact HZ.out.len
    have HOw := HO.out
    obtain ⟨g, gc, hgv, hgc⟩ : ∃ g c, Value.slice ro N rc = .slice (some ⟨g, 0, none⟩) N c ∧ N ≤ c := by
      rcases HOw.2 with ⟨_, hh⟩ | ⟨g', cap', cur, hh, _, _, hn', _⟩
      · omega
      · exact ⟨g', cap', hh, hn'⟩
    cases hgv
    have hgw : w.heap.size ≤ g := hnw g rfl
    have hglt : g < wr.heap.size := (HOw.lt g rfl).2
    have HRow : Hid (∀ W, Fr [] wr W → W.ownsRow 0 3 1 (.slice (some ⟨g, 0, none⟩) N rc) N (ints rs)) := fun W hf => owns_keep HO.out hf (by simp)
    have HCell : Hid (∀ W, Fr [] wr W → ∀ k, k < N → W.cell? ⟨g, k, none⟩ = some (.int .i64 ((rs.getD k 0 : Nat) : Int))) := fun W hf k hk => by
      rw [(HRow.out W hf).cellAt k (by omega), ints_get rs k (by rw [← HNl.out]; exact hk)]
    clear HOw hnw
    by_cases hnj : n < J0
    · have hle1 : (n : Int) + 1 ≤ (J0 : Int) := by omega
      obtain ⟨wo, hwo⟩ : ∃ wo, wo = wr := ⟨_, rfl⟩
      rw [← hwo] at HRow HCell hglt hFr
      have HNL : n < L := by omega
      go_wp2_with fail
      go_loopw [9, 11] (fun vv kk wx => ∃ (k : Nat), vv = .slice (some ⟨g, 0, none⟩) N rc ∧ kk = .int .i64 k ∧ k ≤ N ∧ Hid (∀ a, a < k → ¬ Nbr (txs ts) (rs.getD a 0) (n + 1)) ∧ Fr [] wo wx) (fun _ kk _ => N - (intOf kk).toNat)
      case atStart => exact ⟨0, rfl, rfl, Nat.zero_le _, fun a ha => by omega, by rw [hwo]; exact Fr.refl _ _⟩
      case round =>
        obtain ⟨k, rfl, rfl, hkN, HE, hFx⟩ := hrel
        have hG := hFr.then hFx
        by_cases hk : k < N
        · have ck := HCell.out _ hFx k hk
          have hmr := (HZ.out.mem (rs.getD k 0)).1 (zs_get (by rw [← HNl.out]; exact hk))
          have hge := hmr.2.ge
          obtain ⟨r, hr⟩ : ∃ r, rs.getD k 0 = r + 1 := ⟨rs.getD k 0 - 1, by omega⟩
          have HRk : Hid (rs.getD k 0 = r + 1) := hr
          rw [hr] at ck hmr hge
          have hrL : r < L := by have := hmr.1; omega
          obtain ⟨⟨a0, a1⟩, hatA, habA⟩ := HAt.out _ hG r hrL
          obtain ⟨⟨b0, b1⟩, hatB, _⟩ := HAt.out _ hG n HNL
          have HWa : Hid (∀ s, Wrt (txs ts) (r + 1) s ↔ ∃ x ∈ (ts.getD r Tm.zero).ws, x.key = s) := fun s => by unfold Wrt; rw [Nat.add_sub_cancel, txs_getD]; rfl
          have HWb : Hid (∀ s, Wrt (txs ts) (n + 1) s ↔ ∃ x ∈ (ts.getD n Tm.zero).ws, x.key = s) := fun s => by unfold Wrt; rw [Nat.add_sub_cancel, txs_getD]; rfl
          obtain ⟨x, hxx⟩ : ∃ x, x = ts.getD r Tm.zero := ⟨_, rfl⟩
          obtain ⟨y, hyy⟩ : ∃ y, y = ts.getD n Tm.zero := ⟨_, rfl⟩
          rw [← hxx] at a0 a1 hatA HWa
          rw [← hyy] at b0 b1 hatB HWb
          clear hxx hyy
          obtain ⟨n1, xo, M, cm, ws⟩ := x
          obtain ⟨n2, yo, P, cp, us⟩ := y
          simp only at a0 a1 b0 b1
          obtain ⟨T, hT⟩ : ∃ T : Bool, T = true ↔ ∃ x ∈ ws, ∃ y ∈ us, y.key = x.key := by
            by_cases h : ∃ x ∈ ws, ∃ y ∈ us, y.key = x.key
            · exact ⟨true, by simp [h]⟩
            · exact ⟨false, ⟨fun h' => Bool.noConfusion h', fun h' => absurd h' h⟩⟩
          have HTN : Hid (T = true ↔ Nbr (txs ts) (r + 1) (n + 1)) := by
            show _ ↔ _
            rw [hT]
            constructor
            · rintro ⟨x, hx, y, hy, e⟩
              exact ⟨x.key, (HWa.out _).2 ⟨x, hx, rfl⟩, (HWb.out _).2 ⟨y, hy, e⟩⟩
            · rintro ⟨s, h1, h2⟩
              obtain ⟨x, hx, e1⟩ := (HWa.out _).1 h1
              obtain ⟨y, hy, e2⟩ := (HWb.out _).1 h2
              exact ⟨x, hx, y, hy, by rw [e1, e2]⟩
          have hA : TArg wr n1 xo M cm ws := hatA
          have hB : TArg wr n2 yo P cp us := hatB
          have HCo : Hid (∀ W, Fr [] wr W → Calls Try.prog 47 #[.agg #[.int .i64 n1, .slice xo M cm], .agg #[.int .i64 n2, .slice yo P cp]] W fun e w' => e = .returned (.bool T) ∧ Fr [] W w') := fun W hf => zNeigh_any n1 n2 xo yo M cm P cp ws us T W (hA.rs.keep hf) hA.len (hB.rs.keep hf) hB.len hT
          have HCe : Hid (∀ W, Fr [] wr W → W.cell? ⟨g, k, none⟩ = some (.int .i64 ((r + 1 : Nat) : Int)) ∧ W.cell? ⟨ab, aoff + r * 2, none⟩ = some (.int .i64 n1) ∧ W.cell? ⟨ab, aoff + r * 2 + 1, none⟩ = some (.slice xo M cm) ∧ W.cell? ⟨ab, aoff + n * 2, none⟩ = some (.int .i64 n2) ∧ W.cell? ⟨ab, aoff + n * 2 + 1, none⟩ = some (.slice yo P cp)) := fun W hf => by
            have e1 : ∀ o, W.cell? ⟨ab, o, none⟩ = wr.cell? ⟨ab, o, none⟩ := fun o => World.cell?_of_block (hf.block ab habA (by simp))
            have h1 := HCell.out _ (hFx.then hf) k hk
            rw [HRk.out] at h1
            exact ⟨h1, (e1 _).trans a0, (e1 _).trans a1, (e1 _).trans b0, (e1 _).trans b1⟩
          obtain ⟨z0, z1, z2, z3, z4⟩ := HCe.out _ (Fr.drew [] wr)
          have HRr : Hid (Rch (txs ts) I (r + 1) ∧ r + 1 < n + 1) := ⟨hmr.2, hmr.1⟩
          have hki : (k : Int) < (N : Int) := by omega
          have hrli : (r : Int) < (L : Int) := by omega
          have hnli : (n : Int) < (L : Int) := by omega
          clear hT hatA hatB hA hB a0 a1 b0 b1 ck hmr hr
          go_upto_region 13 with fail
          have hwr : IntKind.i64.wrap (r : Int) = (r : Int) := by simp [IntKind.wrap, IntKind.bits, IntKind.signed]; omega
          have hwn : IntKind.i64.wrap (n : Int) = (n : Int) := by simp [IntKind.wrap, IntKind.bits, IntKind.signed]; omega
          go_region_held3 (fun W => W.cell? ⟨g, k, none⟩ = some (.int .i64 ((r : Int) + 1)) ∧ W.cell? ⟨ab, aoff + r * 2, none⟩ = some (.int .i64 n1) ∧ W.cell? ⟨ab, aoff + r * 2 + 1, none⟩ = some (.slice xo M cm) ∧ W.cell? ⟨ab, aoff + n * 2, none⟩ = some (.int .i64 n2) ∧ W.cell? ⟨ab, aoff + n * 2 + 1, none⟩ = some (.slice yo P cp)) (go_keep)
            (first
            | (go_at_call 47; with_reducible refine Calls.mono (HCo.out _ (by first | exact Fr.drew [] _ | exact Fr.refl _ _)) ?_; rintro e w5 ⟨rfl, hF5⟩; obtain ⟨j0, j1, j2, j3, j4⟩ := HCe.out _ ((Fr.drew [] wr).then hF5)))
          have hG5 := hG.then ((Fr.drew [] wr).then hF5)
          have hX5 := hFx.then ((Fr.drew [] wr).then hF5)
          clear HCo HCe hF5 z0 z1 z2 z3 z4 j0 j1 j2 j3 j4 hwr hwn
          cases T with
          | true =>
            have hRn : Rch (txs ts) I (n + 1) := Rch.step HRr.out.1 HRr.out.2 (HTN.out.1 rfl)
            have HZ2 : Hid (Zs (txs ts) I (n + 1 + 1) (rs ++ [n + 1]) (n + 1)) := HZ.out.add hRn
            have HOw := HRow.out _ hX5
            have HEi : Hid (ints rs ++ [.int .i64 ((n : Int) + 1)] = ints (rs ++ [n + 1])) := by
              show _ = _
              rw [ints_append]
              simp [ints]
            clear hRn
            go_wp2_with (at_builtin; refine wpList_app1 _ rfl (.tmp 59) (.tmp 61) 60 rfl 3 iI (.int .i64 0) 1 8 Try.undIs7 hiI hzI hsI hbI rfl (by decide) _ N _ rfl (HOw.alloc _) ⟨w5.heap.size, 0, none⟩ 1 [.int .i64 ((n : Int) + 1)] rfl rfl ?c1 ?c2 ?c3 ?c4 ?_)
            case c2 => rfl
            case c3 => omega
            case c4 => unfold maxLen; omega
            intro g' cap' w6 hown hgrow hmov
            rw [HEi.out] at hown
            have hF6 : Fr [g] w5 w6 := ((Fr.alloc [] w5 _).mono (by simp)).then (Fr.grown (S := [g]) hgrow (by intro k hk _; simp [Value.ownBlock] at hk; subst hk; simp))
            have hG6 : Fr [] w w6 := hG5.on hF6 (by intro x hx; simp at hx; omega)
            have hnw : ∀ k, (Value.slice (some ⟨g', 0, none⟩) (N + 1) cap').ownBlock = some k → w.heap.size ≤ k := hmov.lt (by have := hG5.size; simp; omega) (by intro k hk; simp [Value.ownBlock] at hk; omega)
            have HO6 : Hid (w6.ownsRow 0 3 1 (.slice (some ⟨g', 0, none⟩) (N + 1) cap') (N + 1) (ints (rs ++ [n + 1]))) := hown
            have HN6 : Hid (N + 1 = (rs ++ [n + 1]).length) := by show _ = _; rw [List.length_append, ← HNl.out]; rfl
            clear hown hgrow hmov hF6 HOw
            go_wp2
            go_roundw
            case rel => exact ⟨n + 1, N + 1, cap', n + 1, some ⟨g', 0, none⟩, rs ++ [n + 1], rfl, by simp, by omega, by omega, HN6, by omega, HZ2, HO6, hnw, hG6⟩
            case measure => simp [intOf]; omega
          | false =>
            have HE2 : Hid (∀ a, a < k + 1 → ¬ Nbr (txs ts) (rs.getD a 0) (n + 1)) := by
              intro a ha
              by_cases hak : a = k
              · subst hak
                rw [HRk.out]
                intro h
                have := HTN.out.2 h
                cases this
              · exact HE.out a (by omega)
            go_wp2
            go_roundw
            case rel => exact ⟨k + 1, rfl, by simp, by omega, HE2, hX5⟩
            case measure => simp [intOf]; omega
        · have hno : ¬ Rch (txs ts) I (n + 1) := by
            intro h
            obtain ⟨m, h1, h2, h3⟩ := h.inv (by omega)
            have hm := (HZ.out.mem m).2 ⟨h2, h1⟩
            obtain ⟨a, ha, e⟩ := List.getElem_of_mem hm
            have := HE.out a (by have := HNl.out; omega)
            simp only [List.getD, List.getElem?_eq_getElem ha, Option.getD_some] at this
            rw [e] at this
            exact this h3
          have HZ2 : Hid (Zs (txs ts) I (n + 1 + 1) rs q) := HZ.out.skip hno
          have HO6 : Hid (wr.ownsRow 0 3 1 (.slice (some ⟨g, 0, none⟩) N rc) N (ints rs)) := HRow.out _ hFx
          clear hno
          go_wp2
          go_roundw
          case rel => exact ⟨n + 1, N, rc, q, some ⟨g, 0, none⟩, rs, rfl, by simp, by omega, by omega, HNl, by omega, HZ2, HO6, by intro k hk; simp [Value.ownBlock] at hk; omega, hG⟩
          case measure => simp [intOf]; omega
    · obtain rfl : n = J0 := by omega
      obtain ⟨N', rfl⟩ : ∃ N', N = N' + 1 := ⟨N - 1, by omega⟩
      have cq := HCell.out _ (Fr.refl _ _) N' (by omega)
      have hq : rs.getD N' 0 = q := by
        have h1 := HZ.out.last
        rw [List.getLast?_eq_getElem?, ← HNl.out, Nat.add_sub_cancel] at h1
        rw [List.getD, h1]
        rfl
      rw [hq] at cq
      have hRq : R = ((q : Int) == (n : Int)) := by
        rw [Bool.eq_iff_iff, HR.out]
        have := HZ.out.hit
        rw [Nat.add_sub_cancel] at this
        rw [← this, beq_iff_eq]
        omega
      have HRq : Hid (R = ((q : Int) == (n : Int))) := hRq
      have hwN : IntKind.i64.wrap (N' : Int) = (N' : Int) := by simp [IntKind.wrap, IntKind.bits, IntKind.signed]; omega
      have hgt : ¬ ((n : Int) + 1 ≤ (n : Int)) := by omega
      clear hq hRq
      go_wp2
      go_ret2
      exact ⟨by rw [HRq.out]; rfl, hFr⟩

set_option maxHeartbeats 4000000 in
set_option maxRecDepth 100000 in
theorem zChained_any (ao : Option Addr) (L cap : Nat) (i j : Int) (c : Nat) (R : Bool) (ts : List Tm) (w : World) (hT : TRs w ao ts) (hLe : L = ts.length) (hi0 : -9223372036854775808 ≤ i) (hi1 : i ≤ 9223372036854775807) (hj0 : -9223372036854775808 ≤ j) (hj1 : j ≤ 9223372036854775807) (h : ChTold (txs ts) i j R c) :
    Calls Try.prog 20 #[.slice ao L cap, .int .i64 i, .int .i64 j] w fun e w' => e = .returned (.tuple #[.bool R, .int .i64 (c : Int)]) ∧ Fr [] w w' := by
  have HL : Hid (L = ts.length) := hLe
  rcases h with ⟨hb, h0, rfl⟩ | ⟨hok, hb, rfl, rfl⟩ | ⟨hok, hb, rfl, hR⟩
  · have HB : Hid (Bad 1 (txs ts) c) := hb
    have hcb : ((c : Int) != 0) = true := by rw [bne_iff_ne]; omega
    clear hb h0 hLe
    go_enter Try.func20, Try.ntmps20
    go_wp2_with fail
    refine (zcheck_any ao L cap c ts _ hT HL.out HB.out).mono ?_
    rintro e w1 ⟨rfl, hF1⟩
    go_wp2
    go_ret2
    exact ⟨rfl, hF1⟩
  · have HK : Hid (okL 1 (txs ts)) := hok
    have hL2 : L ≤ 65536 := by have := okL_few hok; rw [txs_length] at this; omega
    rw [txs_length, ← hLe] at hb
    clear hok hLe
    by_cases h1 : i < 1
    · have h1' : decide (i < 1) = true := by simpa using h1
      go_enter Try.func20, Try.ntmps20
      go_wp2_with fail
      refine (zcheck_any ao L cap 0 ts _ hT HL.out (okL_bad HK.out)).mono ?_
      rintro e w1 ⟨rfl, hF1⟩
      go_wp2
      go_ret2
      exact ⟨rfl, hF1⟩
    · by_cases h2 : j ≤ i
      · have h2' : decide (j ≤ i) = true := by simpa using h2
        go_enter Try.func20, Try.ntmps20
        go_wp2_with fail
        refine (zcheck_any ao L cap 0 ts _ hT HL.out (okL_bad HK.out)).mono ?_
        rintro e w1 ⟨rfl, hF1⟩
        go_wp2
        go_ret2
        exact ⟨rfl, hF1⟩
      · have h3 : (L : Int) < j := by
          by_cases h3 : (L : Int) < j
          · exact h3
          · exact absurd ⟨by omega, by omega, by omega⟩ hb
        go_enter Try.func20, Try.ntmps20
        go_wp2_with fail
        refine (zcheck_any ao L cap 0 ts _ hT HL.out (okL_bad HK.out)).mono ?_
        rintro e w1 ⟨rfl, hF1⟩
        go_wp2
        go_ret2
        exact ⟨rfl, hF1⟩
  · rw [txs_length, ← hLe] at hb
    obtain ⟨I, rfl⟩ : ∃ I : Nat, i = (I : Int) := ⟨i.toNat, by omega⟩
    obtain ⟨J0, rfl⟩ : ∃ J0 : Nat, j = (J0 : Int) := ⟨j.toNat, by omega⟩
    rw [Int.toNat_natCast, Int.toNat_natCast] at hR
    exact zChained_main ao L cap I J0 ts R w hT hLe hok (by omega) (by omega) (by omega) hR
end Go.Proofs.Ytfminnmfdogopaa
