/- Texts of this claim laid together, one behind the other: contracts and plain lemmas; conditions as each names them. -/
import Derived.Test.YtpdkdgmaofhlkaaGreatDoorGp28
import Derived.Test.YtpdkdgmaofhlkaaGreatDoorGp27
/- slices.Concat of rows of keys with their versions. Conditions as each names them. -/
namespace Go.Proofs.YtpdkdgmaofhlkaaGreatDoor
open Go.ChangeShapes Go.WideShapes Go.ChangeAt Go.RowKit Go.Lib
set_option linter.unusedVariables false
set_option linter.unusedSimpArgs false
/-- A row as it lies in a list of rows. -/
structure ElH where
  ro : Option Addr
  L : Nat
  rc : Nat
  xs : List Hd
def ElH.v (e : ElH) : Value := .slice e.ro e.L e.rc
def ElH.zero : ElH := ⟨none, 0, 0, []⟩
/-- All that the rows have, one row behind the other. -/
def flaH (es : List ElH) : List Hd := es.flatMap ElH.xs
theorem elgetH (es : List ElH) (i : Nat) (h : i < es.length) : es.getD i ElH.zero ∈ es := by simp [List.getD, h]
theorem flaH_snoc (es : List ElH) (i : Nat) (h : i < es.length) : flaH (es.take (i + 1)) = flaH (es.take i) ++ (es.getD i ElH.zero).xs := by
  unfold flaH
  rw [List.take_add_one, List.flatMap_append]
  simp [List.getD, h]
theorem flaH_app (es : List ElH) (e : ElH) : flaH (es ++ [e]) = flaH es ++ e.xs := by simp [flaH]
/-- The slice at ao is of rows that can be read. -/
structure LLH (w : World) (ao : Option Addr) (es : List ElH) : Prop where
  lies : 0 < es.length → ∃ b, ao = some ⟨b, 0, none⟩ ∧ b < w.heap.size ∧ ∀ i, i < es.length → w.cell? ⟨b, i, none⟩ = some (es.getD i ElH.zero).v
  each : ∀ e ∈ es, RrH w e.ro e.xs ∧ e.L = e.xs.length ∧ e.L ≤ 4194304
  few : es.length ≤ 17
theorem LLH.keep {w w' : World} {ao : Option Addr} {es : List ElH} (h : LLH w ao es) (hf : Fr [] w w') : LLH w' ao es := by
  refine ⟨fun h0 => ?_, fun e he => ⟨(h.each e he).1.keep hf, (h.each e he).2⟩, h.few⟩
  obtain ⟨b, e, hb, hc⟩ := h.lies h0
  exact ⟨b, e, Nat.lt_of_lt_of_le hb hf.size, fun i hi => (World.cell?_of_block (hf.block b hb (by simp))).trans (hc i hi)⟩
set_option maxRecDepth 100000 in
theorem LLH.bound {w : World} {ao : Option Addr} {es : List ElH} (h : LLH w ao es) (i : Nat) : (flaH (es.take i)).length ≤ i * 4194304 := by
  induction i with
  | zero => simp [flaH]
  | succ i ih =>
    by_cases hi : i < es.length
    · rw [flaH_snoc es i hi, List.length_append, Nat.succ_mul]
      have h1 := (h.each _ (elgetH es i hi)).2.1
      have h2 := (h.each _ (elgetH es i hi)).2.2
      rw [← h1]
      exact Nat.add_le_add ih h2
    · rw [List.take_of_length_le (by omega)] at ih ⊢
      rw [Nat.succ_mul]
      exact Nat.le_trans ih (Nat.le_add_right _ _)
theorem growH_gen (n : Nat) (w : World) (hb : n ≤ 2199023255552) :
    Calls Tryz.prog 120 #[.slice none 0 0, .int .i64 (n : Int)] w fun e w' => ∃ ro cap, e = .returned (.slice ro 0 cap) ∧ w'.ownsRow w.heap.size 97 2 (.slice ro 0 cap) 0 [] ∧ Fr [] w w' := by
  rcases Nat.eq_zero_or_pos n with rfl | hn
  · refine (growH_none w).mono ?_
    rintro e w' ⟨rfl, hf⟩
    exact ⟨none, 0, rfl, ⟨rfl, .inl ⟨rfl, rfl⟩⟩, hf⟩
  · refine (growH_any n w hn hb).mono ?_
    rintro e w' ⟨cap, rfl, ho, hf⟩
    exact ⟨_, cap, rfl, ho, hf⟩
set_option maxHeartbeats 4000000 in
set_option maxRecDepth 100000 in
theorem concatH_any (ao : Option Addr) (N cap : Nat) (es : List ElH) (w : World) (h : LLH w ao es) (hN : N = es.length) :
    Calls Tryz.prog 112 #[.slice ao N cap] w fun e w' => ∃ ro M rc, e = .returned (.slice ro M rc) ∧ M = (flaH es).length ∧ w'.ownsRow w.heap.size 97 2 (.slice ro M rc) M (hdsC (flaH es)) ∧ Fr [] w w' := by
  have hN17 : N ≤ 17 := by have := h.few; omega
  have HN : Hid (N = es.length) := hN
  have HB : Hid (∀ i, (flaH (es.take i)).length ≤ i * 4194304) := fun i => h.bound i
  have HX : Hid (∀ W i, Fr [] w W → i < N → ∃ b ro L rc xs, ao = some ⟨b, 0, none⟩ ∧ W.cell? ⟨b, i, none⟩ = some (.slice ro L rc) ∧ RrH W ro xs ∧ L = xs.length ∧ L ≤ 4194304 ∧ flaH (es.take (i + 1)) = flaH (es.take i) ++ xs) := fun W i hf hi => by
    have hi' : i < es.length := by rw [← hN]; exact hi
    have hk := h.keep hf
    obtain ⟨b, e, _, hc⟩ := hk.lies (by omega)
    exact ⟨b, _, _, _, _, e, hc i hi', (hk.each _ (elgetH es i hi')).1, (hk.each _ (elgetH es i hi')).2.1, (hk.each _ (elgetH es i hi')).2.2, flaH_snoc es i hi'⟩
  have HG : Hid (∀ n : Nat, n ≤ 71303168 → Calls Tryz.prog 120 #[.slice none 0 0, .int .i64 (n : Int)] w fun e w' => ∃ ro cap, e = .returned (.slice ro 0 cap) ∧ w'.ownsRow w.heap.size 97 2 (.slice ro 0 cap) 0 [] ∧ Fr [] w w') := fun n hn => growH_gen n w (by omega)
  have HE : Hid (es.take N = es) := by show _ = _; rw [hN]; exact List.take_length
  clear h hN
  go_enter Tryz.func112, Tryz.ntmps112
  go_wp2_with fail
  go_loopw [11, 3] (fun ii ss wr => ∃ (i n : Nat), ii = .int .i64 i ∧ ss = .int .i64 n ∧ i ≤ N ∧ n ≤ 71303168 ∧ Hid (n = (flaH (es.take i)).length) ∧ w = wr) (fun ii _ _ => N - (RowKit.intOf ii).toNat)
  case atStart => exact ⟨0, 0, rfl, by first | rfl | simp, Nat.zero_le _, by omega, rfl, rfl⟩
  case round =>
    obtain ⟨i, n, rfl, rfl, hiN, hn, HSz, rfl⟩ := hrel
    by_cases hi : i < N
    · obtain ⟨b, ro, L, rc, xs, rfl, hc, hR, hL, hLm, hfl⟩ := HX.out w i (Fr.refl _ _) hi
      have HS2 : Hid (n + L = (flaH (es.take (i + 1))).length) := by show _ = _; rw [hfl, List.length_append, ← HSz.out, ← hL]
      have hb2 : n + L ≤ 71303168 := by have h1 := HB.out (i + 1); have h2 := HS2.out; omega
      have hnn : ¬ ((n : Int) + (L : Int) < 0) := by omega
      clear hR hL hfl HSz
      go_wp2
      go_roundw
      case rel => exact ⟨i + 1, n + L, by simp, by simp, by omega, hb2, HS2, by first | trivial | rfl⟩
      case measure => simp [RowKit.intOf]; omega
    · have HSz2 : Hid (n = (flaH es).length) := by show _ = _; rw [HSz.out, show i = N by omega, HE.out]
      clear HSz
      go_wp2_with fail
      refine (HG.out n hn).mono ?_
      rintro e w1 ⟨ro1, cap1, rfl, hO1, hF1⟩
      have HO1 : Hid (w1.ownsRow w.heap.size 97 2 (.slice ro1 0 cap1) 0 [] ∧ Fr [] w w1) := ⟨hO1, hF1⟩
      clear hO1 hF1 HG
      go_wp2_with fail
      go_loopw [27, 6] (fun ii ss wr => ∃ (k m : Nat) (bo : Option Addr) (bc : Nat), ii = .int .i64 k ∧ ss = .slice bo m bc ∧ k ≤ N ∧ Hid (m = (flaH (es.take k)).length ∧ wr.ownsRow w.heap.size 97 2 (.slice bo m bc) m (hdsC (flaH (es.take k))) ∧ Fr [] w wr)) (fun ii _ _ => N - (RowKit.intOf ii).toNat)
      case atStart => exact ⟨0, 0, ro1, cap1, by first | rfl | simp, rfl, Nat.zero_le _, rfl, by rw [List.take_zero]; exact HO1.out.1, HO1.out.2⟩
      case round =>
        clear HO1
        obtain ⟨k, m, bo, bc, rfl, rfl, hkN, HO⟩ := hrel
        by_cases hk : k < N
        · obtain ⟨b, ro, L, rc, xs, rfl, hc, hR, hL, hLm, hfl⟩ := HX.out wr k HO.out.2.2 hk
          have HR : Hid (RrH wr ro xs ∧ L = xs.length ∧ flaH (es.take (k + 1)) = flaH (es.take k) ++ xs) := ⟨hR, hL, hfl⟩
          have HM : Hid ((flaH (es.take k)).length + L < 2199023255552) := by have h1 := HB.out k; show _ < _; omega
          clear hR hL hfl
          go_wp2_with (at_builtin; refine wpList_appH _ rfl _ _ rfl w.heap.size (.slice bo m bc) (flaH (es.take k)) rfl (by rw [← HO.out.1]; exact HO.out.2.1) ro L rc xs rfl HR.out.1 HR.out.2.1 HM.out HO.out.2.2.size ?_
                       intro bo1 n1 cap1 w2 hn1 hO2 hf2
                       have HO2 : Hid (n1 = (flaH (es.take (k + 1))).length ∧ w2.ownsRow w.heap.size 97 2 (.slice bo1 n1 cap1) n1 (hdsC (flaH (es.take (k + 1)))) ∧ Fr [] w w2) := ⟨by rw [HR.out.2.2]; exact hn1, by rw [HR.out.2.2]; exact hO2, HO.out.2.2.on hf2 (own_blocksH HO.out.2.1)⟩
                       clear hO2 hf2 hn1
                       go_frame)
          go_roundw
          case rel => exact ⟨k + 1, n1, bo1, cap1, by simp, rfl, by omega, HO2⟩
          case measure => simp [RowKit.intOf]; omega
        · have HO3 : Hid (m = (flaH es).length ∧ wr.ownsRow w.heap.size 97 2 (.slice bo m bc) m (hdsC (flaH es)) ∧ Fr [] w wr) := by
            have h := HO.out
            rw [show k = N by omega, HE.out] at h
            exact h
          clear HO
          go_wp2
          go_ret
          exact ⟨bo, m, bc, rfl, HO3.out⟩
end Go.Proofs.YtpdkdgmaofhlkaaGreatDoor
/- keys with their versions of several rows in the order of their keys: together. Conditions as each names them. -/
namespace Go.Proofs.YtpdkdgmaofhlkaaGreatDoor
open Go.ChangeShapes Go.WideShapes Go.ChangeAt Go.RowKit Go.Lib Go.Sort Go.Shelf
set_option linter.unusedVariables false
set_option linter.unusedSimpArgs false

def cfH (x y : Hd) : Int := Lib.compareBytes x.key.data.toList y.key.data.toList
theorem ltOf_cfH : ltOf cfH = ltB Hd.key := by
  funext x y
  unfold ltOf cfH ltB
  rw [ByteArray.toList_eq, ByteArray.toList_eq]
  have h := bl_cmp x.key.data.toList y.key.data.toList
  cases hb : Op.bytesLess x.key.data.toList y.key.data.toList with
  | true => simpa using h.2 hb
  | false =>
    rw [hb] at h
    simpa using h
theorem twoH (x : Hd) : ∃ a b, hdC x = [a, b] := ⟨_, _, rfl⟩
theorem oneH (x : Hd) : ∀ v ∈ hdC x, v.oneCell' = true := fun v hv => hdsC_oneCell [x] v (by simpa [hdsC] using hv)
theorem keyH_any (x : Hd) (W : World) : Calls Tryz.prog 75 #[.agg (hdC x).toArray] W fun e w' => e = .returned (.string x.key) ∧ ∃ q os', w' = grow (W.drewN q) os' := by
  obtain ⟨k, vo, L, c, vs⟩ := x
  simp only [hdC]
  go_enter Tryz.func75, Tryz.ntmps75
  go_wp2
  go_ret
  exact ⟨rfl, 0, _, by rw [alloc_eq_grow]; rfl⟩
set_option maxHeartbeats 1000000 in
theorem cmpH_any (x y : Hd) (kb : Nat) (W : World) (hlt : kb < W.heap.size) (hk : W.cell? ⟨kb, 0, none⟩ = some (.func (.func 75) #[] #[])) : Calls Tryz.prog 114 #[.agg (hdC x).toArray, .agg (hdC y).toArray, .pointer (some ⟨kb, 0, none⟩)] W fun e w' => e = .returned (.int .i64 (cfH x y)) ∧ ∃ q os', w' = grow (W.drewN q) os' := by
  have mixed : Tryz.prog.follows .mixedOrders = true := by kernel_rfl
  obtain ⟨W2, HW2⟩ : ∃ W2, Hid ((W.alloc (.cells (hdC x).toArray 97)).alloc (.cells (hdC y).toArray 97) = W2) := ⟨_, rfl⟩
  have hA : Fr [] W W2 := by rw [← HW2.out]; exact (Fr.alloc [] W _).then (Fr.alloc [] _ _)
  have hb0 : W2.heap[W.heap.size]? = some (.cells (hdC x).toArray 97 (0, 0)) := by rw [← HW2.out]; exact (Fr.alloc [] _ _).keep (heap_alloc_new W _) (by simp)
  have hb1 : W2.heap[W.heap.size + 1]? = some (.cells (hdC y).toArray 97 (0, 0)) := by
    rw [← HW2.out]
    have := heap_alloc_new (W.alloc (.cells (hdC x).toArray 97)) (.cells (hdC y).toArray 97)
    simpa using this
  have HG : Hid (∃ os', W2 = grow W os') := by
    rw [← HW2.out]
    exact ⟨_, by rw [alloc_eq_grow, alloc_eq_grow, grow_grow]⟩
  have k0 : ∀ n os, (grow (W2.drewN n) os).cell? ⟨kb, 0, none⟩ = some (.func (.func 75) #[] #[]) := fun n os => cell_grown (Nat.lt_of_lt_of_le hlt hA.size) ((World.cell?_of_block (hA.block kb hlt (by simp))).trans hk) n os
  have hs0 : W.heap.size < W2.heap.size := lt_of_block hb0
  have hs1 : W.heap.size + 1 < W2.heap.size := lt_of_block hb1
  have HC : Hid (∀ a b W', Calls Tryz.prog 111 #[.string a, .string b] W' fun e w' => e = .returned (.int .i64 (Lib.compareBytes a.data.toList b.data.toList)) ∧ ∃ q os', w' = grow (W'.drewN q) os') := fun a b W' => (scmp_any a b W').mono (by rintro e w' ⟨rfl, rfl⟩; exact ⟨rfl, 0, #[], by rw [grow_empty]; rfl⟩)
  have HX : Hid (∀ W', Calls Tryz.prog 75 #[.agg (hdC x).toArray] W' fun e w' => e = .returned (.string x.key) ∧ ∃ q os', w' = grow (W'.drewN q) os') := fun W' => keyH_any x W'
  have HY : Hid (∀ W', Calls Tryz.prog 75 #[.agg (hdC y).toArray] W' fun e w' => e = .returned (.string y.key) ∧ ∃ q os', w' = grow (W'.drewN q) os') := fun W' => keyH_any y W'
  obtain ⟨r, hr⟩ : ∃ r, r = cfH x y := ⟨_, rfl⟩
  have HC2 : Hid (∀ W', Calls Tryz.prog 111 #[.string x.key, .string y.key] W' fun e w' => e = .returned (.int .i64 r) ∧ ∃ q os', w' = grow (W'.drewN q) os') := fun W' => by rw [hr]; exact HC.out _ _ W'
  rw [← hr]
  clear hr HC
  obtain ⟨k, vo, L, c, vs⟩ := x
  obtain ⟨k2, vo2, L2, c2, vs2⟩ := y
  simp only [hdC] at hb0 hb1 HX HY HC2 HW2 ⊢
  have a0 : ∀ n os, (grow (W2.drewN n) os).cell? ⟨W.heap.size, 0, none⟩ = some (.string k) := fun n os => cell_grown hs0 (by rw [cell_of_row _ _ _ _ _ _ hb0]; rfl) n os
  have a1 : ∀ n os, (grow (W2.drewN n) os).cell? ⟨W.heap.size, 1, none⟩ = some (.slice vo L c) := fun n os => cell_grown hs0 (by rw [cell_of_row _ _ _ _ _ _ hb0]; rfl) n os
  have b0 : ∀ n os, (grow (W2.drewN n) os).cell? ⟨W.heap.size + 1, 0, none⟩ = some (.string k2) := fun n os => cell_grown hs1 (by rw [cell_of_row _ _ _ _ _ _ hb1]; rfl) n os
  have b1 : ∀ n os, (grow (W2.drewN n) os).cell? ⟨W.heap.size + 1, 1, none⟩ = some (.slice vo2 L2 c2) := fun n os => cell_grown hs1 (by rw [cell_of_row _ _ _ _ _ _ hb1]; rfl) n os
  clear hb0 hb1 hA hk
  go_enter Tryz.func114, Tryz.ntmps114
  go_upto_region 1 with fail
  rw [HW2.out]
  go_quiet_grown (first | (go_at_call 111; with_reducible exact Calls.grown_of (HC2.out _)) | (go_at_call 75; first | with_reducible exact Calls.grown_of (HX.out _) | with_reducible exact Calls.grown_of (HY.out _)))
  go_wp2
  go_ret
  obtain ⟨os', hos⟩ := HG.out
  refine ⟨rfl, nq, os' ++ osq, ?_⟩
  rw [hos]
  show grow (grow (W.drewN nq) os') osq = _
  rw [grow_grow]
set_option maxHeartbeats 1000000 in
theorem sortH_any (base : Nat) (ro : Option Addr) (M cap kb : Nat) (ps : List Hd) (w : World) (hrow : w.ownsRow base 97 2 (.slice ro M cap) M (hdsC ps)) (hM : M = ps.length) (hlen : M < 1099511627776) (hlt : kb < w.heap.size) (hk : w.cell? ⟨kb, 0, none⟩ = some (.func (.func 75) #[] #[])) (hne : ∀ a, ro = some a → kb ≠ a.block) :
    Calls Tryz.prog 113 #[.slice ro M cap, .func (.func 114) #[] #[.pointer (some ⟨kb, 0, none⟩)]] w fun e w' => e = .returned (.tuple #[]) ∧ w'.ownsRow base 97 2 (.slice ro M cap) M (hdsC (sortB Hd.key ps)) ∧ Fr (Value.slice ro M cap).ownBlock.toList w w' := by
  subst hM
  rcases Nat.eq_zero_or_pos ps.length with h0 | h0
  · have e0 : ps = [] := List.eq_nil_of_length_eq_zero h0
    subst e0
    refine (SoH.sortSt_none ro cap _ w).mono ?_
    rintro e w' ⟨rfl, rfl⟩
    exact ⟨rfl, hrow, Fr.refl _ _⟩
  · obtain ⟨g, rfl, hg⟩ := own_some hrow h0
    rw [hdsC_flat] at hrow
    have hrow' := hrow
    obtain ⟨hl, hr⟩ := hrow'
    rcases hr with ⟨hh, _⟩ | ⟨g', cap', cur, hh, hbase, hb, h1, h2, h3, h4⟩
    · cases hh
    cases hh
    have hkg : kb ≠ g := hne _ rfl
    have eg : ∀ args w, (callFunc 114 args).run Tryz.prog w = .ok (.enter 114 args) w := enters_of Tryz.func114 (by kernel_rfl) rfl
    have hcmp : CmpLays Tryz.prog 114 #[.pointer (some ⟨kb, 0, none⟩)] hdC 2 cfH g 0 ps.toArray.size w := fun m os dk _ x y => cmpH_any x y kb _ (Nat.lt_of_lt_of_le hlt (size_sortWorldK_c hdC 2 w g 0 m dk os)) (cell_sorted hdC dk hkg hk hlt)
    have hO : KO (ltOf cfH) (fun x : Hd => x.key.toList) := by rw [ltOf_cfH]; exact koB Hd.key
    have R : RowK hdC 2 w g 0 ps.toArray := ⟨fun x => rfl, oneH, holds_is hdC twoH hb h4, lt_of_block hb⟩
    have hcon := SoH.sortSt_any hdC cfH (fun x : Hd => x.key.toList) hO 114 #[.pointer (some ⟨kb, 0, none⟩)] g 0 cap ps.toArray w eg hcmp R (by simpa using hlen)
    have hsz : ps.toArray.size = ps.length := by simp
    rw [hsz] at hcon
    refine hcon.mono ?_
    rintro e w' ⟨rfl, d', hz, hs, ht, hS⟩
    rw [ltOf_cfH] at hs
    have hd := sorted_is Hd.key (d := ps.toArray) (d' := d') (by rw [hsz]; exact hz) (by rw [hsz]; exact hs) (by rw [hsz]; exact ht)
    obtain ⟨q1, q2⟩ := row_sorted hdC twoH hrow (qs := sortB Hd.key ps) (by simpa using hd) hz hS
    exact ⟨rfl, by rw [hdsC_flat]; exact q1, q2.mono (by intro x hx _; simpa [Value.ownBlock] using hx)⟩
set_option maxHeartbeats 1000000 in
theorem togH_any (ao : Option Addr) (N cap : Nat) (es : List ElH) (w : World) (h : LLH w ao es) (hN : N = es.length) :
    Calls Tryz.prog 74 #[.func (.func 75) #[] #[], .slice ao N cap] w fun e w' => ∃ ro M rc, e = .returned (.slice ro M rc) ∧ M = (flaH es).length ∧ w'.ownsRow w.heap.size 97 2 (.slice ro M rc) M (hdsC (sortB Hd.key (flaH es))) ∧ Fr [] w w' := by
  obtain ⟨W, HW⟩ : ∃ W, Hid (w.alloc (.cells #[.func (.func 75) #[] #[]] 110) = W) := ⟨_, rfl⟩
  have hA : Fr [] w W := by rw [← HW.out]; exact Fr.alloc [] w _
  have hb : W.heap[w.heap.size]? = some (.cells #[.func (.func 75) #[] #[]] 110 (0, 0)) := by rw [← HW.out]; exact heap_alloc_new w _
  have HC : Hid (Calls _ _ _ _ _) := concatH_any ao N cap es W (h.keep hA) hN
  have HM : Hid ((flaH es).length < 1099511627776) := by
    have h1 := h.bound es.length
    have h2 := h.few
    rw [List.take_length] at h1
    show _ < _
    omega
  have HS : Hid (∀ (w1 : World) (ro : Option Addr) (M rc : Nat), M = (flaH es).length → w1.ownsRow W.heap.size 97 2 (.slice ro M rc) M (hdsC (flaH es)) → Fr [] W w1 → Calls Tryz.prog 113 #[.slice ro M rc, .func (.func 114) #[] #[.pointer (some ⟨w.heap.size, 0, none⟩)]] w1 fun e w' => e = .returned (.tuple #[]) ∧ w'.ownsRow w.heap.size 97 2 (.slice ro M rc) M (hdsC (sortB Hd.key (flaH es))) ∧ Fr [] w w') := fun w1 ro M rc h1 h2 h3 => by
    have hb1 := h3.keep hb (by simp)
    have hlt : w.heap.size < W.heap.size := lt_of_block hb
    refine (sortH_any W.heap.size ro M rc w.heap.size (flaH es) w1 h2 h1 (by rw [h1]; exact HM.out) (lt_of_block hb1) (by rw [cell_of_row _ _ _ _ _ _ hb1]; rfl) ?_).mono ?_
    · intro a ha
      obtain ⟨q1, _⟩ := owns_cells h2 (k := a.block) (by rw [ha]; rfl)
      omega
    · rintro e w' ⟨rfl, h4, h5⟩
      exact ⟨rfl, own_base h4 hA.size, (hA.then h3).on h5 (fun x hx => Nat.le_trans hA.size (own_blocksH h2 x hx))⟩
  clear h hN hb hA
  go_enter Tryz.func74, Tryz.ntmps74
  go_upto_region 1 with fail
  rw [HW.out]
  go_wp2_with fail
  refine Calls.mono HC.out ?_
  rintro e w1 ⟨ro, M, rc, rfl, hMM, hO, hF⟩
  have HSq : Hid (Calls _ _ _ _ _) := HS.out w1 ro M rc hMM hO hF
  have HMM : Hid (M = (flaH es).length) := hMM
  clear hMM hO hF HC HS
  go_wp2_with fail
  refine Calls.mono HSq.out ?_
  rintro e w2 ⟨rfl, hq⟩
  have HQ : Hid (_ ∧ _) := hq
  clear hq HSq
  go_wp2
  go_ret
  exact ⟨ro, M, rc, rfl, HMM.out, HQ.out⟩
end Go.Proofs.YtpdkdgmaofhlkaaGreatDoor
/- The document's way to lay one of keys with their versions into its place. Conditions as each names them. -/
namespace Go.Proofs.YtpdkdgmaofhlkaaGreatDoor
open Go.ChangeShapes Go.WideShapes Go.ChangeAt Go.RowKit Go.Lib Go.Sort
set_option linter.unusedVariables false
set_option linter.unusedSimpArgs false
/-- One more, behind a row of one's own. -/
theorem wpList_oneH (w0 w : World) {ops : Array Oper} {rest : List Oper} {o : Oper} {a : Act} {Q : Exit → Act → World → Prop} (hgd : o.guard = none) (s x : Operand)
    (ho : o.op = .call { callee := .builtin .append, args := #[s, x], argTypes := #[51, 51] })
    (so : Option Addr) (N c : Nat) (hs : List Hd) (hsv : a.eval s = .slice so N c) (hK : w.ownsRow w0.heap.size 97 2 (.slice so N c) N (hdsC hs)) (hN : N < 1099511627776) (h0 : w0.heap.size ≤ w.heap.size) (p : Hd) (hx : a.eval x = .slice (some ⟨w.heap.size, 0, none⟩) 1 1)
    (h : ∀ so' c' w', w'.ownsRow w0.heap.size 97 2 (.slice so' (N + 1) c') (N + 1) (hdsC (hs ++ [p])) → Fr (Value.slice so N c).ownBlock.toList w w' → wpList Tryz.prog ops Q rest (a.put o.dst (.slice so' (N + 1) c')) w') : wpList Tryz.prog ops Q (o :: rest) a (w.alloc (.cells #[.string p.key, .slice p.vo p.L p.cap] 97)) := by
  obtain ⟨i0, hi, hz0, hz1, hz2⟩ := infoKH_parts
  have hmx : 1099511627777 ≤ maxLen := by unfold maxLen; omega
  refine wpList_append_own (w.alloc (.cells #[.string p.key, .slice p.vo p.L p.cap] 97)) hgd s x 51 ho w0.heap.size 97 i0 _ 2 40 Tryz.undKH hi hz0 hz1 hz2 rfl (by decide) (.slice so N c) N (hdsC hs) hsv (owns_keepB hK (Fr.alloc [] w _) (by simp)) ⟨w.heap.size, 0, none⟩ 1 1 (hdC p) hx rfl ?_ (oneH p) (by omega) (by omega) (by simp; omega) ?_
  · intro j u hu
    have hr := heap_alloc_new w (.cells #[.string p.key, .slice p.vo p.L p.cap] 97)
    rw [Addr.add_lit, cell_of_row _ _ _ _ _ _ hr, Nat.zero_add]
    simpa [hdC] using hu
  · intro v' w' hown' hg' _
    obtain ⟨bo, cap', rfl⟩ : ∃ bo cap', v' = .slice bo (N + 1) cap' := by
      rcases hown'.2 with ⟨_, h1⟩ | ⟨g, cap, _, rfl, _⟩
      · omega
      · exact ⟨_, cap, rfl⟩
    refine h bo cap' w' ?_ (((Fr.alloc [] w _).mono (by intro y hy _; simp at hy)).then (Fr.grown hg' (fun y hy _ => Option.mem_toList.2 hy)))
    rw [hdsC_append]
    have : hdsC [p] = hdC p := by simp [hdsC]
    rw [this]
    exact hown'
/-- What the loop keeps. -/
structure InsIH (W0 wr : World) (bo : Option Addr) (n bc : Nat) (x : Hd) (ls os : List Hd) (d : Bool) (i : Nat) : Prop where
  len : n = os.length
  own : wr.ownsRow W0.heap.size 97 2 (.slice bo n bc) n (hdsC os)
  ins : InsP (ltB Hd.key) x ls os d i
  fr : Fr [] W0 wr
theorem InsIH.keep {W0 wr w2 : World} {bo : Option Addr} {n bc : Nat} {x : Hd} {ls os : List Hd} {d : Bool} {i : Nat} (h : InsIH W0 wr bo n bc x ls os d i) (hf : Fr [] wr w2) : InsIH W0 w2 bo n bc x ls os d i := ⟨h.len, owns_keepB h.own hf (by simp), h.ins, h.fr.then hf⟩
end Go.Proofs.YtpdkdgmaofhlkaaGreatDoor
/- Are entries, keys with their versions, answers the same: what is the same is told as such. Conditions as each names them. -/
namespace Go.Proofs.YtpdkdgmaofhlkaaGreatDoor
open Go.ChangeShapes Go.WideShapes Go.ChangeAt Go.RowKit Go.Lib
set_option linter.unusedVariables false
set_option linter.unusedSimpArgs false

theorem RrE_at {w : World} {ao : Option Addr} {xs : List Ey} (h : RrE w ao xs) (i : Nat) (hi : i < xs.length) : ∃ b off, ao = some ⟨b, off, none⟩ ∧ b < w.heap.size ∧ w.cell? ⟨b, off + i * 2, none⟩ = some (.string (xs.getD i Ey.zero).key) ∧ w.cell? ⟨b, off + i * 2 + 1, none⟩ = some (.string (xs.getD i Ey.zero).val) := by
  obtain ⟨b, off, e, hb, h0⟩ := h (i * 2) _ (eysC_get xs i 0 hi (by omega))
  obtain ⟨b', off', e', _, h1⟩ := h (i * 2 + 1) _ (eysC_get xs i 1 hi (by omega))
  rw [e] at e'
  cases e'
  exact ⟨b, off, e, hb, h0, h1⟩
theorem RrH_lies {w : World} {ao : Option Addr} {hs : List Hd} (h : RrH w ao hs) (h0 : 0 < hs.length) : ∃ b off, ao = some ⟨b, off, none⟩ ∧ b < w.heap.size ∧ ∀ i, i < hs.length → w.cell? ⟨b, off + i * 2, none⟩ = some (.string (hs.getD i Hd.zero).key) ∧ w.cell? ⟨b, off + i * 2 + 1, none⟩ = some (.slice (hs.getD i Hd.zero).vo (hs.getD i Hd.zero).L (hs.getD i Hd.zero).cap) := by
  obtain ⟨b, off, e, hb, _⟩ := h 0 _ (hdsC_at hs 0 0 h0 (by omega))
  refine ⟨b, off, e, hb, fun i hi => ?_⟩
  obtain ⟨b1, o1, e1, _, h1⟩ := h (i * 2) _ (hdsC_at hs i 0 hi (by omega))
  obtain ⟨b2, o2, e2, _, h2⟩ := h (i * 2 + 1) _ (hdsC_at hs i 1 hi (by omega))
  rw [e] at e1 e2
  cases e1
  cases e2
  exact ⟨h1, h2⟩
/-- A key's versions can be read. -/
structure HEc (w : World) (h : Hd) : Prop where
  rs : VRs w h.vo h.vs
  len : h.L = h.vs.length
theorem HEc.keep {w w' : World} {h : Hd} (x : HEc w h) (hf : Fr [] w w') : HEc w' h := ⟨x.rs.keep hf, x.len⟩
/-- Keys with their versions that can be read. -/
structure RdH (w : World) (ao : Option Addr) (hs : List Hd) : Prop where
  rr : RrH w ao hs
  each : ∀ h ∈ hs, HEc w h
theorem RdH.keep {w w' : World} {ao : Option Addr} {hs : List Hd} (h : RdH w ao hs) (hf : Fr [] w w') : RdH w' ao hs := ⟨h.rr.keep hf, fun x hx => (h.each x hx).keep hf⟩
theorem vsame_upto (xs ys : List Vn) (hl : xs.length = ys.length) (h : ∀ j, j < xs.length → xs.getD j Vn.zero = ys.getD j Vn.zero) : xs = ys := by
  apply List.ext_getElem hl
  intro i h1 h2
  have := h i h1
  simpa [List.getD, h1, h2] using this
end Go.Proofs.YtpdkdgmaofhlkaaGreatDoor
