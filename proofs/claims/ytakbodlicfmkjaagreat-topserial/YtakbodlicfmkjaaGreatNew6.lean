/- A source of records is made: contracts of there and New. Conditions as each names them. -/
import Derived.Test.YtakbodlicfmkjaaGreatSrc6
namespace Go.Proofs.YtakbodlicfmkjaaGreat.F
open Go.ChangeShapes Go.WideShapes Go.ChangeAt Go.RowKit Go.Lib
set_option linter.unusedVariables false

/-- Numbers qs cells. -/
def ints (xs : List Nat) : List Value := xs.map fun (x : Nat) => Value.int .i64 (x : Int)
theorem ints_length (xs : List Nat) : (ints xs).length = xs.length := by simp [ints]
theorem ints_append (xs ys : List Nat) : ints (xs ++ ys) = ints xs ++ ints ys := by simp [ints]
theorem ints_get (xs : List Nat) (j : Nat) (h : j < xs.length) : (ints xs)[j]? = some (.int .i64 ((xs.getD j 0 : Nat) : Int)) := by simp [ints, List.getD, h]
theorem ints_oneCell (xs : List Nat) : ∀ u ∈ ints xs, u.oneCell' = true := by
  intro u hu
  obtain ⟨_, _, rfl⟩ := List.mem_map.1 hu
  rfl
/-- A source: its struct lies in block g, its log in lb, the numbers asked are qs. -/
structure Src (w0 w : World) (g lb L : Nat) (ts : List Tm) (v : Value) (qs : List Nat) : Prop where
  box : w.heap[g]? = some (.cells #[.bool true, .slice (some ⟨lb, 0, none⟩) L L, v] 91 (0, 0))
  log : w.heap[lb]? = some (.cells (tmsC ts).toArray 59 (0, 0))
  len : L = ts.length
  few : L ≤ 65536
  each : ∀ t ∈ ts, Tnew w0 w t
  row : w.ownsRow 0 3 1 v qs.length (ints qs)
  gn : w0.heap.size ≤ g
  ln : w0.heap.size ≤ lb
  rn : ∀ k, v.ownBlock = some k → w0.heap.size ≤ k
section
variable {w0 w w' : World} {g lb L : Nat} {ts : List Tm} {v : Value} {qs : List Nat}
theorem Src.lt (h : Src w0 w g lb L ts v qs) : g < w.heap.size := lt_of_block h.box
theorem Src.c0 (h : Src w0 w g lb L ts v qs) : w.cell? ⟨g, 0, none⟩ = some (.bool true) := by simp [World.cell?, h.box]
theorem Src.c1 (h : Src w0 w g lb L ts v qs) : w.cell? ⟨g, 1, none⟩ = some (.slice (some ⟨lb, 0, none⟩) L L) := by simp [World.cell?, h.box]
theorem Src.c2 (h : Src w0 w g lb L ts v qs) : w.cell? ⟨g, 2, none⟩ = some v := by simp [World.cell?, h.box]
theorem Src.f2 (h : Src w0 w g lb L ts v qs) : w.frozen? ⟨g, 2, none⟩ = false := by simp [World.frozen?, h.box]
theorem Src.rowNe (h : Src w0 w g lb L ts v qs) {x : Nat} (hx : v.ownBlock = some x) : ∃ cur, w.heap[x]? = some (.cells cur 3 (0, 0)) := by
  rcases h.row.2 with ⟨rfl, _⟩ | ⟨g', cap, cur, rfl, _, hgg, _⟩
  · simp [Value.ownBlock] at hx
  · simp [Value.ownBlock] at hx
    subst hx
    exact ⟨cur, hgg⟩
theorem Src.keep (h : Src w0 w g lb L ts v qs) (hf : Fr [] w w') : Src w0 w' g lb L ts v qs :=
  ⟨hf.keep h.box (by simp), hf.keep h.log (by simp), h.len, h.few, fun t ht => (h.each t ht).keepS hf (by simp), owns_keep h.row hf (by simp), h.gn, h.ln, h.rn⟩
theorem Src.trs (h : Src w0 w g lb L ts v qs) : TRs w (some ⟨lb, 0, none⟩) ts :=
  TRs.of_row (rest := []) (t := 59) (f := (0, 0)) (by rw [List.append_nil]; exact h.log) (by have := h.len; have := h.few; omega) (fun t ht => (h.each t ht).at)
theorem sThere_any (h : Src w0 w g lb L ts v qs) : Calls Tryz.prog 88 #[.pointer (some ⟨g, 0, none⟩)] w fun e w' => e = .returned (.bool true) ∧ w = w' := by
  have c0 := h.c0
  go_enter Tryz.func88, Tryz.ntmps88
  go_wp2
  go_ret
  exact ⟨rfl, rfl⟩
set_option maxHeartbeats 2000000 in
theorem sLast_any (h : Src w0 w g lb L ts v qs) : Calls Tryz.prog 66 #[.pointer (some ⟨g, 0, none⟩)] w fun e w' => e = .returned (.int .i64 (L : Int)) ∧ w = w' := by
  have c1 := h.c1
  go_enter Tryz.func66, Tryz.ntmps66
  go_wp2_with fail
  refine (sThere_any h).mono ?_
  rintro e w1 ⟨rfl, rfl⟩
  go_wp2
  go_ret
  exact ⟨rfl, rfl⟩
end
/-- A row of transactions, some of them laid. -/
structure Wt2 (w : World) (k : Nat) (ds : List Tm) (R : List Value) : Prop where
  box : w.heap[k]? = some (.cells (tmsC ds ++ R).toArray 59 (0, 0))
theorem Wt2.keep {S : List Nat} {w w' : World} {k : Nat} {ds : List Tm} {R : List Value} (h : Wt2 w k ds R) (hf : Fr S w w') (hn : k ∉ S) : Wt2 w' k ds R := ⟨hf.keep h.box hn⟩
theorem Wt2.lt {w : World} {k : Nat} {ds : List Tm} {R : List Value} (h : Wt2 w k ds R) : k < w.heap.size := lt_of_block h.box
theorem Wt2.cell {w : World} {k : Nat} {ds : List Tm} {a b : Value} {R : List Value} (h : Wt2 w k ds (a :: b :: R)) :
    w.cell? ⟨k, ds.length * 2, none⟩ = some a ∧ w.cell? ⟨k, ds.length * 2 + 1, none⟩ = some b := by
  refine ⟨?_, ?_⟩ <;> (rw [cell_of_row _ _ _ _ _ _ h.box]; simp only [List.getElem?_toArray]; rw [List.getElem?_append_right (by rw [tmsC_length]; omega), tmsC_length])
  · simp
  · rw [show ds.length * 2 + 1 - ds.length * 2 = 1 by omega]; rfl
theorem Wt2.free {w : World} {k : Nat} {ds : List Tm} {R : List Value} (h : Wt2 w k ds R) (j : Nat) : w.frozen? ⟨k, j, none⟩ = false := by simp [World.frozen?, h.box]
theorem set2 (xs R : List Value) (a b x y : Value) (n : Nat) (hn : xs.length = n) : ((xs ++ a :: b :: R).set n x).set (n + 1) y = xs ++ x :: y :: R := by
  subst hn
  rw [List.set_append_right _ _ (by omega), List.set_append_right _ _ (by omega)]
  simp
theorem Wt2.put {w : World} {k : Nat} {ds : List Tm} {a b : Value} {R : List Value} (h : Wt2 w k ds (a :: b :: R)) (t : Tm) :
    Wt2 ((w.setCell ⟨k, ds.length * 2, none⟩ (.int .i64 t.n)).setCell ⟨k, ds.length * 2 + 1, none⟩ (.slice t.ao t.L t.cap)) k (ds ++ [t]) R := by
  refine ⟨?_⟩
  rw [row_setCell _ (row_setCell _ h.box)]
  congr 2
  apply Array.toList_inj.1
  simp only [Array.toList_setIfInBounds]
  rw [set2 (tmsC ds) R a b _ _ _ (tmsC_length ds), tmsC_append]
  simp [tmsC, tmC]
theorem made_row2 {w' : World} {b C : Nat} {ys : List Value} (h : w'.ownsRow 0 59 2 (.slice (some ⟨b, 0, none⟩) C C) C ys) : ∃ R : List Value, R.length = C * 2 ∧ Wt2 w' b [] R := by
  rcases h.2 with ⟨hh, _⟩ | ⟨g', cap', cur, hh, hb, hg, hnc, hcm, hcs, ht⟩
  · cases hh
  · cases hh
    exact ⟨cur.toList, by simpa using hcs, ⟨by simpa [tmsC] using hg⟩⟩
theorem more2 {R : List Value} {m : Nat} (h : R.length = (m + 1) * 2) : ∃ a b S, R = a :: b :: S ∧ S.length = m * 2 := by
  match R, h with
  | a :: b :: S, h => exact ⟨a, b, S, rfl, by simp at h; omega⟩
  | [], h => simp at h
  | [_], h => simp at h; omega
theorem _root_.Go.Proofs.YtakbodlicfmkjaaGreat.Fr.at2 (w : World) (k a b : Nat) (x y : Value) : Fr [k] w ((w.setCell ⟨k, a, none⟩ x).setCell ⟨k, b, none⟩ y) :=
  (Fr.set w ⟨k, a, none⟩ x (by simp)).then (Fr.set _ ⟨k, b, none⟩ y (by simp))

set_option maxHeartbeats 4000000 in
set_option maxRecDepth 100000 in
theorem new_no (ao : Option Addr) (L cap c : Nat) (ts : List Tm) (w : World) (hT : TRs w ao ts) (hL : L = ts.length) (hc : Bad 1 (txs ts) c) (hc0 : c ≠ 0) :
    Calls Tryz.prog 14 #[.slice ao L cap] w fun e w' => e = .returned (.tuple #[.pointer none, .int .i64 (c : Int)]) ∧ Fr [] w w' := by
  have HC : Hid (Bad 1 (txs ts) c) := hc
  have HL : Hid (L = ts.length) := hL
  have hcb : ((c : Int) != 0) = true := by rw [bne_iff_ne]; omega
  clear hc hL hc0
  go_enter Tryz.func14, Tryz.ntmps14
  go_wp2_with fail
  refine (lcheck_any ao L cap c ts _ hT HL.out HC.out).mono ?_
  rintro e w1 ⟨rfl, hF1⟩
  go_wp2
  go_ret2
  exact ⟨rfl, hF1⟩

set_option maxHeartbeats 8000000 in
set_option maxRecDepth 100000 in
theorem new_ok (ao : Option Addr) (L cap : Nat) (ts : List Tm) (w : World) (hT : TRs w ao ts) (hL : L = ts.length) (hok : okL 1 (txs ts)) :
    Calls Tryz.prog 14 #[.slice ao L cap] w fun e w' => ∃ g lb ds, e = .returned (.tuple #[.pointer (some ⟨g, 0, none⟩), .int .i64 0]) ∧ Src w w' g lb L ds (.slice none 0 0) [] ∧ txs ds = txs ts ∧ Fr [] w w' := by
  have HK : Hid (okL 1 (txs ts)) := hok
  have HL : Hid (L = ts.length) := hL
  have hL2 : L ≤ 65536 := by have := okL_few hok; rw [txs_length] at this; omega
  obtain ⟨iT, hiT, hzT, hsT, hbT⟩ := info_parts Tryz.infoT
  clear hok hL
  go_enter Tryz.func14, Tryz.ntmps14
  go_wp2_with fail
  refine (lcheck_any ao L cap 0 ts _ hT HL.out (okL_bad HK.out)).mono ?_
  rintro e w1 ⟨rfl, hF1⟩
  go_wp2_with (at_make; refine wpList_make_full _ rfl (.tmp 14) (.tmp 14) 24 rfl 0 59 iT _ 2 Tryz.undTs hiT hzT hsT .i64 .i64 L L L rfl rfl rfl rfl ?b2 ?b3 ?b4 ?_)
  case b2 => rw [hbT]; omega
  case b3 => unfold maxLen; omega
  case b4 => exact Nat.zero_le _
  intro w2 hown hgrow
  obtain ⟨R0, hR0, hW0⟩ := made_row2 hown
  have hF2 : Fr [] w1 w2 := Fr.grown (S := []) hgrow (by simp)
  obtain ⟨k, hk⟩ : ∃ k, k = w1.heap.size := ⟨_, rfl⟩
  have hkw : w.heap.size ≤ k := by have := hF1.size; omega
  rw [← hk] at hW0 ⊢
  have hG2 := hF1.then hF2
  clear hown hgrow hF1 hF2 hk
  go_wp2_with fail
  go_loopw [18] (fun ii wr => ∃ (i : Nat) (ds : List Tm) (R : List Value), ii = .int .i64 i ∧ i ≤ L ∧ Hid (ds.length = i) ∧ Hid (R.length = (L - i) * 2) ∧ Hid (txs ds = (txs ts).take i) ∧ (∀ t ∈ ds, Tnew w wr t) ∧ Wt2 wr k ds R ∧ Fr [] w wr) (fun ii _ => L - (intOf ii).toNat)
  case atStart => exact ⟨0, [], R0, rfl, Nat.zero_le _, rfl, hR0, rfl, by simp, hW0, hG2⟩
  case round =>
    obtain ⟨i, ds, R, rfl, hiL, HI, HRl, HTX, hEa, hWr, hFr⟩ := hrel
    by_cases hi : i < L
    · obtain ⟨m, hm⟩ : ∃ m, L - i = m + 1 := ⟨L - i - 1, by omega⟩
      obtain ⟨a, b, S, rfl, hS⟩ := more2 (hm ▸ HRl.out)
      have hi' : i < ts.length := by rw [← HL.out]; exact hi
      obtain ⟨bb, off, rfl, _, hc⟩ := (hT.keep hFr).lies (by omega)
      have hx := hc i hi'
      have hat := (hT.keep hFr).each _ (tgetD_mem ts i hi')
      have hokx := (okL_get HK.out i (by rw [txs_length]; exact hi')).1
      rw [txs_getD] at hokx
      have HTX2 : Hid (txs ds ++ [(ts.getD i Tm.zero).tx] = (txs ts).take (i + 1)) := by
        show _ = _
        rw [txs_take, ttake_snoc ts i hi', txs_append, HTX.out, txs_take]
        rfl
      obtain ⟨x, hxx⟩ : ∃ x, x = ts.getD i Tm.zero := ⟨_, rfl⟩
      rw [← hxx] at hx hat hokx HTX2
      clear hxx hc
      obtain ⟨n, xo, M, cm, ws⟩ := x
      obtain ⟨c0, c1⟩ := hx
      simp only at c0 c1
      have hF3 : Fr [] wr (wr.alloc (.cells #[.int .i64 n, .slice xo M cm] 59)) := Fr.alloc _ _ _
      have hat3 : TArg (wr.alloc (.cells #[.int .i64 n, .slice xo M cm] 59)) n xo M cm ws := TArg.keep hat hF3
      have HOK : Hid (okT n ws) := hokx
      have HM : Hid (M = ws.length) := hat3.len
      have hM32 : M ≤ 32 := by have := hokx.2.2.1; have := hat3.len; simp only [Tm.tx] at *; omega
      clear hokx hat
      go_wp2_with fail
      refine (copied_any n xo M cm ws _ hat3 hM32).mono ?_
      rintro e w4 ⟨kk, rfl, hkk, hrow4, hF4⟩
      have hG4 := hF3.then hF4
      have hW4 := hWr.keep hG4 (by simp)
      obtain ⟨q0, q1⟩ := hW4.cell
      have p0 := hW4.free (ds.length * 2)
      have p1 := hW4.free (ds.length * 2 + 1)
      rw [HI.out] at q0 q1 p0 p1
      have hW5 := hW4.put ⟨n, some ⟨kk, 0, none⟩, M, M, ws⟩
      rw [HI.out] at hW5
      have hF5 := Fr.at2 w4 k (i * 2) (i * 2 + 1) (.int .i64 n) (.slice (some ⟨kk, 0, none⟩) M M)
      have hkkk : kk ∉ [k] := by
        have := hWr.lt
        have := hF3.size
        simp
        omega
      have HN : Hid (_ ∧ _ ∧ _) := ⟨fun t (ht : t ∈ ds ++ [(⟨n, some ⟨kk, 0, none⟩, M, M, ws⟩ : Tm)]) => (by
        rcases List.mem_append.1 ht with h1 | h1
        · refine ((hEa t h1).keepS hG4 (by simp)).keepS hF5 (fun j hj hh => ?_)
          simp only [List.mem_singleton] at hh
          subst hh
          rw [hW4.box] at hj
          simp at hj
        · simp only [List.mem_singleton] at h1
          subst h1
          exact ⟨kk, rfl, rfl, HM.out, by have := hFr.size; have := hF3.size; omega, hF5.keep hrow4 hkkk, HOK.out⟩ : Tnew w _ t), hW5, (hFr.then hG4).on hF5 (by intro x hx; simp at hx; omega)⟩
      clear hW4 hW5 hF5 hG4 hF4 hF3 hrow4 hat3 hWr hEa hFr
      go_wp2
      go_roundw
      case rel => exact ⟨i + 1, _, S, by simp, by omega, by show _ = _; simp [HI.out], by show _ = _; rw [hS]; congr 1; omega, by show _ = _; rw [txs_append]; exact HTX2.out, HN.out.1, HN.out.2.1, HN.out.2.2⟩
      case measure => simp [intOf]; omega
    · have hLi : L - i = 0 := by omega
      have hR0' : R = [] := List.eq_nil_of_length_eq_zero (by rw [HRl.out, hLi])
      subst hR0'
      have HT2 : Hid (txs ds = txs ts) := by show _ = _; rw [HTX.out, List.take_of_length_le (by rw [txs_length, ← HL.out]; omega)]
      have HDL : Hid (L = ds.length) := by show _ = _; have := congrArg List.length HT2.out; rw [txs_length, txs_length] at this; have := HL.out; omega
      have hFz : Fr [] wr (wr.alloc (.cells #[.bool true, .slice (some ⟨k, 0, none⟩) L L, .slice none 0 0] 91)) := Fr.alloc _ _ _
      have hklt := hWr.lt
      have HE : Hid (Src w (wr.alloc (.cells #[.bool true, .slice (some ⟨k, 0, none⟩) L L, .slice none 0 0] 91)) wr.heap.size k L ds (.slice none 0 0) [] ∧ Fr [] w (wr.alloc (.cells #[.bool true, .slice (some ⟨k, 0, none⟩) L L, .slice none 0 0] 91))) :=
        ⟨⟨heap_alloc_new _ _, by have := (hWr.keep hFz (by simp)).box; rw [List.append_nil] at this; exact this, HDL.out, hL2, fun t ht => (hEa t ht).keepS hFz (by simp), ⟨rfl, .inl ⟨rfl, rfl⟩⟩, hFr.size, hkw, fun j hj => by simp [Value.ownBlock] at hj⟩, hFr.then hFz⟩
      clear hFz hWr hEa hFr
      go_wp2
      go_ret2
      exact ⟨_, k, ds, rfl, HE.out.1, HT2.out, HE.out.2⟩
end Go.Proofs.YtakbodlicfmkjaaGreat.F
