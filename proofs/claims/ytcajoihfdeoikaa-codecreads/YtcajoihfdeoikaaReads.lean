/- The walk of the law CodecReads. Conditions: how the two arguments lie in memory. -/
import Derived.Test.YtcajoihfdeoikaaInv
import Derived.Deep.CutRange
import Derived.Deep.RegionHeld3
import Derived.Deep.LoopGhost
namespace Go.Proofs.Ytcajoihfdeoikaa.codecReads
open Go.ChangeShapes Go.WideShapes Go.ChangeAt Go.RowKit Go.Lib
set_option linter.unusedVariables false

theorem row_pre {w : World} {b : Nat} {xs ys : List Nat} (h : w.heap[b]? = some (.cells (bts (xs ++ ys)).toArray 5 (0, 0))) : ∀ j u, (bts xs)[j]? = some u → w.cell? ((⟨b, 0, none⟩ : Addr).add j) = some u := by
  intro j u hj
  have hlt := (List.getElem?_eq_some_iff.1 hj).1
  exact row_src h j u (by rw [bts_append, List.getElem?_append_left hlt]; exact hj)
theorem rs_pre {w : World} {b : Nat} {xs ys : List Nat} (h : w.heap[b]? = some (.cells (bts (xs ++ ys)).toArray 5 (0, 0))) (hl : xs.length < 2^40) : Rs w (some ⟨b, 0, none⟩) xs :=
  ⟨fun _ => ⟨b, 0, rfl, fun j hj => by
    have := row_pre h j _ (bts_get xs j hj)
    rw [Addr.add_lit] at this
    exact this⟩, by omega⟩
theorem cell_some {w : World} {b : Nat} {cur : Array Value} {t : TypeId} (h : w.heap[b]? = some (.cells cur t (0, 0))) (i : Nat) (hi : i < cur.size) : ∃ v, w.cell? ⟨b, i, none⟩ = some v := ⟨cur[i], by rw [cell_of_row _ _ _ _ _ _ h]; simp [hi]⟩
theorem row_set {w : World} {b : Nat} {cur : Array Value} {t : TypeId} (h : w.heap[b]? = some (.cells cur t (0, 0))) (i : Nat) (v : Value) : (w.setCell ⟨b, i, none⟩ v).heap[b]? = some (.cells (cur.setIfInBounds i v) t (0, 0)) := by
  have hlt := lt_of_block h
  have h' : w.heap[b] = .cells cur t (0, 0) := by simpa [Array.getElem?_eq_getElem hlt] using h
  show (w.heap.modify b _)[b]? = _
  rw [Array.getElem?_eq_getElem (by simpa using hlt), Array.getElem_modify_self, h']
  rfl

/-- takesOut's contract, kept from the walk. -/
def TkO (po : Option Addr) (k n wd ms : Int) (tx : ByteArray) (w : World) : Prop := Calls Try.prog 13 #[.pointer po, (.agg #[.bool true, (.slice none 0 0), .int .i64 0, .int .i64 0]), .agg #[.int .u8 k, .int .u64 n, .int .i64 wd, .string tx, .int .i64 ms]] w fun e w' => e = .returned (.tuple #[(.agg #[.bool true, (.slice none 0 0), .int .i64 0, .int .i64 0]), .bool true]) ∧ Fr [] w w'
theorem TkO.calls {po : Option Addr} {k n wd ms : Int} {tx : ByteArray} {w : World} (h : TkO po k n wd ms tx w) : Calls Try.prog 13 #[.pointer po, (.agg #[.bool true, (.slice none 0 0), .int .i64 0, .int .i64 0]), .agg #[.int .u8 k, .int .u64 n, .int .i64 wd, .string tx, .int .i64 ms]] w fun e w' => e = .returned (.tuple #[(.agg #[.bool true, (.slice none 0 0), .int .i64 0, .int .i64 0]), .bool true]) ∧ Fr [] w w' := h
theorem tkO (po : Option Addr) (k n wd ms : Int) (tx : ByteArray) (w : World) (h : Out w po) : TkO po k n wd ms tx w := (takesOut po k n wd ms tx w h).mono (fun e w' ⟨h1, _, h2⟩ => ⟨h1, h2⟩)

theorem inv_put {w wx : World} {gr r t L bx : Nat} {xs : List Nat} {p er px ex : Nat} (h : Inv w wx gr r t L bx xs p er px ex) (p1 e1 : Nat) : Inv w ((((wx.setCell ⟨bx, 0, none⟩ (.bool false)).setCell ⟨bx, 1, none⟩ (.slice (some ⟨t, 0, none⟩) L (L + 1))).setCell ⟨bx, 2, none⟩ (.int .i64 (p1 : Int))).setCell ⟨bx, 3, none⟩ (.int .i64 (e1 : Int))) gr r t L bx xs p er p1 e1 := by
  obtain ⟨ao, cap, hr⟩ := h.rd
  have h1 := h.g1
  have h2 := h.g2
  have h3 := h.g3
  have h5 := h.g5
  have hf := Fr.sets4 wx bx (.bool false) (.slice (some ⟨t, 0, none⟩) L (L + 1)) (.int .i64 (p1 : Int)) (.int .i64 (e1 : Int))
  exact ⟨⟨ao, cap, hr.keep hf (by simp; omega) (by simp; omega)⟩, sets4_bx h.box _ _ _ _, h.gone.keep hf (by simp), hf.keep h.row (by simp; omega), h.fr.on hf (fun x hx => by simp at hx; omega), h1, h2, h3, h.g4, h5⟩
/-- What the two readers say, left of what is ahead and how it went. -/
structure Four (gr t L p e lv ev : Nat) (W : World) : Prop where
  left : AnsF 14 #[.pointer (some ⟨gr, 0, none⟩)] W (.int .i64 (lv : Int))
  xleft : AnsF 15 #[(.agg #[.bool false, .slice (some ⟨t, 0, none⟩) L (L + 1), .int .i64 (p : Int), .int .i64 (e : Int)])] W (.int .i64 (lv : Int))
  rend : AnsF 16 #[.pointer (some ⟨gr, 0, none⟩)] W (.int .i64 (ev : Int))
  xend : AnsF 17 #[(.agg #[.bool false, .slice (some ⟨t, 0, none⟩) L (L + 1), .int .i64 (p : Int), .int .i64 (e : Int)])] W (.int .i64 (ev : Int))
theorem four_inv {w W : World} {gr r t L bx : Nat} {xs : List Nat} {p e px ex lv ev : Nat} (h : Inv w W gr r t L bx xs p e px ex) (hL : L = xs.length) (hl : L < 2^40) (hp : p ≤ L) (hlv : lv = L - p) (hev : ev = endOf e lv) : Four gr t L p e lv ev W := by
  obtain ⟨ao, cap, hr⟩ := h.rd
  have hd : (xs.drop p).length = lv := by rw [List.length_drop, hlv, hL]
  refine ⟨(left_any gr r _ e ao cap W hr).mono ?_, ?_, (end_any gr r _ e ao cap W hr).mono ?_, ?_⟩
  · rintro _ _ ⟨rfl, rfl⟩
    exact ⟨by rw [hd], Fr.refl _ _⟩
  · rw [hlv]
    exact xLeft_any _ L _ p e W (by omega) hp
  · rintro _ _ ⟨rfl, rfl⟩
    exact ⟨by rw [hd, hev], Fr.refl _ _⟩
  · rw [hev, hlv]
    exact xEnd_any _ L _ p e W (by omega) hp

structure Zs (bz : Nat) (W : World) : Prop where
  nl : AnsF 14 #[.pointer none] W (.int .i64 0)
  ne : AnsF 16 #[.pointer none] W (.int .i64 2)
  zl : AnsF 14 #[.pointer (some ⟨bz, 0, none⟩)] W (.int .i64 0)
  ze : AnsF 16 #[.pointer (some ⟨bz, 0, none⟩)] W (.int .i64 2)
theorem ansF_of {f : Nat} {args : Array Value} {w : World} {v : Value} (h : Ans f args w v) : AnsF f args w v := h.calls.mono (fun e w' ⟨h1, q, h2⟩ => ⟨h1, h2 ▸ Fr.drewN [] w q⟩)
theorem zs_of {bz : Nat} {W : World} (h : W.heap[bz]? = some (.cells #[.bool false, .slice none 0 0, .int .i64 0] 39 (0, 0))) : Zs bz W :=
  ⟨ansF_of (rLeft_out _ _ (Or.inl rfl)), ansF_of (rEnd_out _ _ (Or.inl rfl)), ansF_of (rLeft_out _ _ (Or.inr ⟨_, rfl, h⟩)), ansF_of (rEnd_out _ _ (Or.inr ⟨_, rfl, h⟩))⟩

set_option maxHeartbeats 4000000 in
set_option maxRecDepth 100000 in
theorem walk_big (ao so : Option Addr) (L cap M sc : Nat) (xs : List Nat) (os : List OpV) (w : World) (h : BArg w ao L cap xs) (hs : SArg w so M sc os) (hbig : 1048576 < total os ∨ 1048576 < L) :
    Calls Try.prog 3 #[.slice ao L cap, .slice so M sc] w fun e w' => e = .returned (.bool true) ∧ Fr [] w w' := by
  go_enter Try.func3, Try.ntmps3
  go_wp2_with fail
  refine (script_any so M sc os _ hs).mono ?_
  rintro e w2 ⟨rfl, rfl⟩
  by_cases hT : 1048576 < total os
  · rw [show decide (1048576 < total os) = true by simpa using hT]
    clear hT hbig
    go_wp2
    go_ret
    exact ⟨rfl, Fr.refl _ _⟩
  · have hL : 1048576 < L := by rcases hbig with hh | hh <;> omega
    rw [show decide (1048576 < total os) = false by simpa using hT]
    clear hT hbig
    go_wp2_with fail
    refine (beyond_any w.heap.size L _ h.most (cell_of_row _ _ _ _ _ _ (heap_alloc_new w _))).mono ?_
    rintro e w3 ⟨rfl, rfl⟩
    rw [show decide (1048576 < L) = true by simpa using hL]
    go_wp2
    go_ret
    exact ⟨rfl, Fr.alloc [] w _⟩

set_option maxHeartbeats 16000000 in
set_option maxRecDepth 100000 in
theorem walk (ao so : Option Addr) (L cap M sc : Nat) (xs : List Nat) (os : List OpV) (w : World) (h : BArg w ao L cap xs) (hs : SArg w so M sc os) (hT : total os ≤ 1048576) (hL : L ≤ 1048576) :
    Calls Try.prog 3 #[.slice ao L cap, .slice so M sc] w fun e w' => e = .returned (.bool true) ∧ Fr [] w w' := by
  have HL : Hid (L = xs.length) := h.len
  have hSm := hs.most
  go_enter Try.func3, Try.ntmps3
  go_wp2_with fail
  refine (script_any so M sc os _ hs).mono ?_
  rintro e w1 ⟨rfl, rfl⟩
  rw [show decide (1048576 < total os) = false by simpa using hT]
  go_wp2_with fail
  refine (beyond_any w.heap.size L _ h.most (cell_of_row _ _ _ _ _ _ (heap_alloc_new w _))).mono ?_
  rintro e w1 ⟨rfl, rfl⟩
  rw [show decide (1048576 < L) = false by simpa using hL]
  have hF1 := Fr.alloc [] w (.cells #[.int .i64 (L : Int)] 3)
  have h1 := h.keep hF1
  obtain ⟨w1, hw1⟩ : ∃ w1, w1 = w.alloc (.cells #[.int .i64 (L : Int)] 3) := ⟨_, rfl⟩
  rw [← hw1] at hF1 h1 ⊢
  clear hw1 hT
  go_wp2_with fail
  refine (twin_any ao L cap xs _ h1 (by omega)).mono ?_
  rintro e w2 ⟨t1, rfl, ht1, hrow1, hF2⟩
  have h02 := hF1.then hF2
  have ht1w : w.heap.size ≤ t1 := by have := hF1.size; omega
  clear h1 hF1 hF2 ht1
  go_wp2_with fail
  refine (newReader_any _ L (L + 1) xs _ HL.out (fun _ => ⟨_, rfl, row_pre hrow1⟩) h.low (by rw [← HL.out]; omega)).mono ?_
  rintro e w3 ⟨gr, rfl, hgr, hR3, hF3⟩
  have h03 := h02.then hF3
  have hrow3 := hF3.keep hrow1 (by simp)
  have ht1lt := lt_of_block hrow1
  obtain ⟨r, hrw, hrg, hrt, hR3⟩ : ∃ r, w.heap.size ≤ r ∧ r < gr ∧ t1 < r ∧ Rd w3 gr r xs 0 (some ⟨r, 0, none⟩) xs.length := ⟨w2.heap.size, h02.size, hgr, ht1lt, hR3⟩
  clear hF3 hrow1 hgr ht1lt h02
  go_wp2_with fail
  refine (leftBytes_any t1 ao L cap xs _ (h.keep h03) (by omega) hrow3).mono ?_
  rintro e w4 ⟨rfl, q4, rfl⟩
  have hR4 := hR3.keep (Fr.drewN [] w3 q4) (by simp) (by simp)
  have h04 := h03.then (Fr.drewN [] w3 q4)
  have hrow4 : Hid ((w3.drewN q4).heap[t1]? = some (.cells (bts (xs ++ [77])).toArray 5 (0, 0))) := hrow3
  obtain ⟨w4, hw4⟩ : ∃ w4, w4 = w3.drewN q4 := ⟨_, rfl⟩
  rw [← hw4] at hR4 h04 hrow4 ⊢
  clear hw4 hR3 h03 hrow3
  go_wp2_with fail
  go_loopw [7] (fun ii wr => ∃ (i : Nat) (cur : Array Value), ii = .int .i64 i ∧ i ≤ L ∧ Fr [t1] w4 wr ∧ Hid (wr.heap[t1]? = some (.cells cur 5 (0, 0))) ∧ cur.size = L + 1) (fun ii _ => L - (intOf ii).toNat)
  case atStart => exact ⟨0, _, rfl, Nat.zero_le _, Fr.refl _ _, hrow4, by simp [bts_length, HL.out]⟩
  case round =>
    obtain ⟨i, cur, rfl, hi, hFi, hcur, hcs⟩ := hrel
    by_cases hiL : i < L
    · obtain ⟨v, hv⟩ := cell_some hcur.out i (by omega)
      have hf : wr.frozen? ⟨t1, i, none⟩ = false := by simp [World.frozen?, hcur.out]
      have hset : Hid ((wr.setCell ⟨t1, i, none⟩ (.int .u8 238)).heap[t1]? = some (.cells (cur.setIfInBounds i (.int .u8 238)) 5 (0, 0))) := row_set hcur.out i _
      have hFi' : Fr [t1] w4 (wr.setCell ⟨t1, i, none⟩ (.int .u8 238)) := hFi.then (Fr.set _ _ _ (by simp))
      have hcs' : (cur.setIfInBounds i (.int .u8 238)).size = L + 1 := by simp [hcs]
      have HCS : Hid ((cur.setIfInBounds i (.int .u8 238)).size = L + 1) := hcs'
      clear hcs' hcs
      go_wp2
      go_roundw
      case rel => exact ⟨i + 1, _, by simp, by omega, hFi', hset, HCS.out⟩
      case measure => simp [intOf]; omega
    · have hiL' : L ≤ i := by omega
      have hR5 := hR4.keep hFi (by simp; omega) (by simp; omega)
      have h05 : Fr [] w wr := h04.on hFi (by intro x hx; simp at hx; omega)
      clear hcur hcs hFi hR4 h04 hrow4
      go_wp2_with fail
      refine (twin_any ao L cap xs _ (h.keep h05) (by omega)).mono ?_
      rintro e w6 ⟨t2, rfl, ht2, hrow6, hF6⟩
      have h06 := h05.then hF6
      have hR6 := hR5.keep hF6 (by simp) (by simp)
      have hgt2 : gr < t2 := by have := hR5.lt; omega
      have HRow6 : Hid (w6.heap[t2]? = some (.cells (bts (xs ++ [77])).toArray 5 (0, 0))) := hrow6
      clear hR5 h05 hF6 hrow6
      go_wp2_with fail
      have B7 : Bx ((w6.alloc (.cells #[.bool false, .slice (some ⟨t2, 0, none⟩) L (L + 1), .int .i64 0, .int .i64 0] 32)).alloc (.cells #[.bool true, .slice none 0 0, .int .i64 0, .int .i64 0] 32)) w6.heap.size false (.slice (some ⟨t2, 0, none⟩) L (L + 1)) 0 0 := ⟨(Below.heap_alloc _ _ _ (by simp)).trans (heap_alloc_new w6 _)⟩
      have G7 : Bx ((w6.alloc (.cells #[.bool false, .slice (some ⟨t2, 0, none⟩) L (L + 1), .int .i64 0, .int .i64 0] 32)).alloc (.cells #[.bool true, .slice none 0 0, .int .i64 0, .int .i64 0] 32)) (w6.heap.size + 1) true (.slice none 0 0) 0 0 := ⟨by simpa using heap_alloc_new (w6.alloc (.cells #[.bool false, .slice (some ⟨t2, 0, none⟩) L (L + 1), .int .i64 0, .int .i64 0] 32)) (.cells #[.bool true, .slice none 0 0, .int .i64 0, .int .i64 0] 32)⟩
      have hF7 := (Fr.alloc [] w6 (.cells #[.bool false, .slice (some ⟨t2, 0, none⟩) L (L + 1), .int .i64 0, .int .i64 0] 32)).then (Fr.alloc [] _ (.cells #[.bool true, .slice none 0 0, .int .i64 0, .int .i64 0] 32))
      have hR7 := hR6.keep hF7 (by simp) (by simp)
      have h07 := h06.then hF7
      have HRow7 := HRow6.out
      have HRow7 : Hid (((w6.alloc (.cells #[.bool false, .slice (some ⟨t2, 0, none⟩) L (L + 1), .int .i64 0, .int .i64 0] 32)).alloc (.cells #[.bool true, .slice none 0 0, .int .i64 0, .int .i64 0] 32)).heap[t2]? = some (.cells (bts (xs ++ [77])).toArray 5 (0, 0))) := hF7.keep HRow6.out (by simp)
      have ht26 := lt_of_block HRow6.out
      have hgr6 := hR6.lt
      obtain ⟨w7, hw7⟩ : ∃ w7, w7 = ((w6.alloc (.cells #[.bool false, .slice (some ⟨t2, 0, none⟩) L (L + 1), .int .i64 0, .int .i64 0] 32)).alloc (.cells #[.bool true, .slice none 0 0, .int .i64 0, .int .i64 0] 32)) := ⟨_, rfl⟩
      rw [← hw7] at B7 G7 hR7 h07 HRow7 ⊢
      obtain ⟨bx, hbx⟩ : ∃ bx, bx = w6.heap.size := ⟨_, rfl⟩
      have hbxw : w.heap.size ≤ bx := by have := h06.size; omega
      rw [← hbx] at B7 G7 ht26 hgr6 ⊢
      clear hbx hw7 hF7 h06 hR6 HRow6
      have hI7 : Inv w w7 gr r t2 L bx xs 0 0 0 0 := ⟨⟨_, _, hR7⟩, B7, G7, HRow7.out, h07, hgr6, hrg, ht26, by omega, by omega⟩
      clear hR7 B7 G7 HRow7 h07
      go_loopg [11] M (fun kk ii wr => ∃ (i p er : Nat), ii = .int .i64 i ∧ i ≤ M ∧ p ≤ L ∧ Inv w wr gr r t2 L bx xs p er p er ∧ kk + i = M)
      case atStart => exact ⟨0, 0, 0, rfl, Nat.zero_le _, Nat.zero_le _, hI7, by omega⟩
      case round =>
        obtain ⟨i, p, er, rfl, hi, hp, hI, hkk⟩ := hrel
        clear hI7
        by_cases hiM : i < M
        · obtain ⟨sb, soff, e, hsb, hcells⟩ := hs.lies (by omega)
          subst e
          obtain ⟨v, hv⟩ : ∃ v, v = os.getD i OpV.zero := ⟨_, rfl⟩
          have hok := hs.each v (by rw [hv]; exact getD_mem os i (by rw [← hs.len]; exact hiM))
          have hO := hcells i hiM
          rw [← hv] at hO
          have hm0 := hok.m0
          have hm1 := hok.m1
          obtain ⟨k, n, wd, tx, ms⟩ := v
          simp only at hm0 hm1
          have HO : Hid (∀ W, Fr [] w W → OpAt W sb (soff + i * 5) ⟨k, n, wd, tx, ms⟩) := by
            intro W hf
            have hk : ∀ o, W.cell? ⟨sb, o, none⟩ = w.cell? ⟨sb, o, none⟩ := fun o => World.cell?_of_block (hf.block sb hsb (by simp))
            exact ⟨(hk _).trans hO.c0, (hk _).trans hO.c1, (hk _).trans hO.c2, (hk _).trans hO.c3, (hk _).trans hO.c4⟩
          clear hO hok hcells hv
          have hbw := hI.lt
          have HTk : Hid (∀ W q1 q2, Inv w W gr r t2 L bx xs p er q1 q2 → TkA gr r t2 L p er xs k n wd ms tx W) := fun W q1 q2 hW => by
            obtain ⟨aoR, capR, hR⟩ := hW.rd
            exact takesLive gr r t2 L p er xs aoR capR k n wd ms tx W hm0 hm1 hR hW.row h.low HL.out (by omega) hp
          have hI0 := hI.step (Fr.drew [] wr) (by simp)
          have hI1 := hI.step ((Fr.alloc [] wr (.cells #[.bool false, .slice none 0 0, .int .i64 0, .int .i64 0] 32)).then (Fr.drew [] _)) (by simp)
          have T0 := HTk.out _ _ _ hI0
          have T1 := HTk.out _ _ _ hI1
          have hne9 : wr.heap.size ∉ [gr] := by have := hI.g1; simp; omega
          have O8 := HO.out _ hI.fr
          have c0 := O8.c0
          have c1 := O8.c1
          have c2 := O8.c2
          have c3 := O8.c3
          have c4 := O8.c4
          simp only at c0 c1 c2 c3 c4
          have x0 := hI.box.c0
          have x1 := hI.box.c1
          have x2 := hI.box.c2
          have x3 := hI.box.c3
          have hsbw : sb < wr.heap.size := by have := hI.fr.size; omega
          have hbxw2 : bx < wr.heap.size := by omega
          have m1 : bx ≠ wr.heap.size := by omega
          have m2 : sb ≠ wr.heap.size := by omega
          have m3 : wr.heap.size ≠ bx := by omega
          have m4 : wr.heap.size ≠ sb := by omega
          go_upto_region 17 with fail
          go_cut [12, 13] from 48 to 109 (fun s12 s13 wx => ∃ (bn p1 e1 : Nat), s12 = .pointer (some ⟨bn, 0, none⟩) ∧ s13 = .bool true ∧ p1 ≤ L ∧ bx + 1 < bn ∧ Inv w wx gr r t2 L bx xs p1 e1 p er ∧ Bx wx bn false (.slice (some ⟨t2, 0, none⟩) L (L + 1)) p1 e1)
          case first =>
            first
              | go_loud (go_region_held3 (fun W => W.cell? ⟨bx, 0, none⟩ = some (.bool false) ∧ W.cell? ⟨bx, 1, none⟩ = some (.slice (some ⟨t2, 0, none⟩) L (L + 1)) ∧ W.cell? ⟨bx, 2, none⟩ = some (.int .i64 p) ∧ W.cell? ⟨bx, 3, none⟩ = some (.int .i64 er) ∧ W.cell? ⟨sb, soff + i * 5, none⟩ = some (.int .u8 k) ∧ W.cell? ⟨sb, soff + i * 5 + 1, none⟩ = some (.int .u64 n) ∧ W.cell? ⟨sb, soff + i * 5 + 2, none⟩ = some (.int .i64 wd) ∧ W.cell? ⟨sb, soff + i * 5 + 3, none⟩ = some (.string tx) ∧ W.cell? ⟨sb, soff + i * 5 + 4, none⟩ = some (.int .i64 ms)) (go_keep)
                  (first
                  | (go_at_call 13; refine T0.calls.mono ?_; rintro e w9 ⟨p1, e1, rfl, hp1, hR9, hF9⟩; have hI9 := hI0.took hR9 hF9; have O9 := HO.out _ hI9.fr; have k0 := hI9.box.c0; have k1 := hI9.box.c1; have k2 := hI9.box.c2; have k3 := hI9.box.c3; have k4 := O9.c0; have k5 := O9.c1; have k6 := O9.c2; have k7 := O9.c3; have k8 := O9.c4; simp only at k4 k5 k6 k7 k8; have hl9 := hI9.lt; have hs9 : sb < w9.heap.size := (by have := hI9.fr.size; omega); have n1 : bx ≠ w9.heap.size := (by omega); have n2 : sb ≠ w9.heap.size := (by omega); have n3 : w9.heap.size ≠ bx := (by omega); have n4 : w9.heap.size ≠ sb := (by omega); have n5 : bx < w9.heap.size := (by omega))
                  | (go_at_call 13; refine T1.calls.mono ?_; rintro e w9 ⟨p1, e1, rfl, hp1, hR9, hF9⟩; have hI9 := hI1.took hR9 hF9; have O9 := HO.out _ hI9.fr; have k0 := hI9.box.c0; have k1 := hI9.box.c1; have k2 := hI9.box.c2; have k3 := hI9.box.c3; have k4 := O9.c0; have k5 := O9.c1; have k6 := O9.c2; have k7 := O9.c3; have k8 := O9.c4; simp only at k4 k5 k6 k7 k8; have hl9 := hI9.lt; have hs9 : sb < w9.heap.size := (by have := hI9.fr.size; omega); have n1 : bx ≠ w9.heap.size := (by omega); have n2 : sb ≠ w9.heap.size := (by omega); have n3 : w9.heap.size ≠ bx := (by omega); have n4 : w9.heap.size ≠ sb := (by omega); have n5 : bx < w9.heap.size := (by omega); have yB : Bx w9 wr.heap.size false (.slice none 0 0) 0 0 := ⟨hF9.keep (b := wr.heap.size) (heap_alloc_new wr _) hne9⟩; have y0 := yB.c0; have y1 := yB.c1; have y2 := yB.c2; have y3 := yB.c3; have yf0 := yB.f 0; have yf1 := yB.f 1; have yf2 := yB.f 2; have yf3 := yB.f 3)))
              | fail
            all_goals (go_wp2_with fail; go_meet)
            · exact ⟨_, p1, e1, rfl, rfl, hp1, by omega, (meetA hI9).1, (meetA hI9).2⟩
            · exact ⟨_, p1, e1, rfl, rfl, hp1, by omega, (meetB hI9 yB (by omega) _ _ _ _).1, (meetB hI9 yB (by omega) _ _ _ _).2⟩
          case rest =>
            obtain ⟨bn, p1, e1, rfl, rfl, hp1, hbn, hJ, hB⟩ := hcut
            clear hI hI0 hI1 T0 T1 c0 c1 c2 c3 c4 x0 x1 x2 x3 O8 hsbw hbxw2 m1 m2 m3 m4 hne9 hbw HTk
            have hbw := hJ.lt
            have hbnw := hB.lt
            have hI0 := hJ.step (Fr.drew [] wc) (by simp)
            have hI1 := hJ.step ((Fr.alloc [] wc (.cells #[.bool false, .slice none 0 0, .int .i64 0, .int .i64 0] 32)).then (Fr.drew [] _)) (by simp)
            have hB0 := hB.keep (Fr.drew [] wc) (by simp)
            have hB1 := hB.keep ((Fr.alloc [] wc (.cells #[.bool false, .slice none 0 0, .int .i64 0, .int .i64 0] 32)).then (Fr.drew [] _)) (by simp)
            have T0 := tkO none k n wd ms tx wc.drew (Or.inl rfl)
            have T1 := tkO none k n wd ms tx (wc.alloc (.cells #[.bool false, .slice none 0 0, .int .i64 0, .int .i64 0] 32)).drew (Or.inl rfl)
            have O8 := HO.out _ hJ.fr
            have c0 := O8.c0
            have c1 := O8.c1
            have c2 := O8.c2
            have c3 := O8.c3
            have c4 := O8.c4
            simp only at c0 c1 c2 c3 c4
            have x0 := hJ.gone.c0
            have x1 := hJ.gone.c1
            have x2 := hJ.gone.c2
            have x3 := hJ.gone.c3
            have hsbw : sb < wc.heap.size := by have := hJ.fr.size; omega
            have m1 : bx + 1 ≠ wc.heap.size := by omega
            have m2 : sb ≠ wc.heap.size := by omega
            have m3 : wc.heap.size ≠ bx + 1 := by omega
            have m4 : wc.heap.size ≠ sb := by omega
            go_upto_region 18 with fail
            go_cut [14, 15] from 48 to 109 (fun _ s15 wx => s15 = .bool true ∧ Inv w wx gr r t2 L bx xs p1 e1 p er ∧ Bx wx bn false (.slice (some ⟨t2, 0, none⟩) L (L + 1)) p1 e1)
            case first =>
              first
                | go_loud (go_region_held3 (fun W => W.cell? ⟨bx + 1, 0, none⟩ = some (.bool true) ∧ W.cell? ⟨bx + 1, 1, none⟩ = some (.slice none 0 0) ∧ W.cell? ⟨bx + 1, 2, none⟩ = some (.int .i64 0) ∧ W.cell? ⟨bx + 1, 3, none⟩ = some (.int .i64 0) ∧ W.cell? ⟨sb, soff + i * 5, none⟩ = some (.int .u8 k) ∧ W.cell? ⟨sb, soff + i * 5 + 1, none⟩ = some (.int .u64 n) ∧ W.cell? ⟨sb, soff + i * 5 + 2, none⟩ = some (.int .i64 wd) ∧ W.cell? ⟨sb, soff + i * 5 + 3, none⟩ = some (.string tx) ∧ W.cell? ⟨sb, soff + i * 5 + 4, none⟩ = some (.int .i64 ms)) (go_keep)
                    (first
                    | (go_at_call 13; refine T0.calls.mono ?_; rintro e w9 ⟨rfl, hF9⟩; have hI9 := hI0.step hF9 (by simp); have O9 := HO.out _ hI9.fr; have k0 := hI9.gone.c0; have k1 := hI9.gone.c1; have k2 := hI9.gone.c2; have k3 := hI9.gone.c3; have k4 := O9.c0; have k5 := O9.c1; have k6 := O9.c2; have k7 := O9.c3; have k8 := O9.c4; simp only at k4 k5 k6 k7 k8; have hl9 := hI9.lt; have hs9 : sb < w9.heap.size := (by have := hI9.fr.size; omega); have n1 : bx + 1 ≠ w9.heap.size := (by omega); have n2 : sb ≠ w9.heap.size := (by omega); have n3 : w9.heap.size ≠ bx + 1 := (by omega); have n4 : w9.heap.size ≠ sb := (by omega); have n5 : bx + 1 < w9.heap.size := (by omega); have hB9 := hB0.keep hF9 (by simp))
                    | (go_at_call 13; refine T1.calls.mono ?_; rintro e w9 ⟨rfl, hF9⟩; have hI9 := hI1.step hF9 (by simp); have O9 := HO.out _ hI9.fr; have k0 := hI9.gone.c0; have k1 := hI9.gone.c1; have k2 := hI9.gone.c2; have k3 := hI9.gone.c3; have k4 := O9.c0; have k5 := O9.c1; have k6 := O9.c2; have k7 := O9.c3; have k8 := O9.c4; simp only at k4 k5 k6 k7 k8; have hl9 := hI9.lt; have hs9 : sb < w9.heap.size := (by have := hI9.fr.size; omega); have n1 : bx + 1 ≠ w9.heap.size := (by omega); have n2 : sb ≠ w9.heap.size := (by omega); have n3 : w9.heap.size ≠ bx + 1 := (by omega); have n4 : w9.heap.size ≠ sb := (by omega); have n5 : bx + 1 < w9.heap.size := (by omega); have hB9 := hB1.keep hF9 (by simp); have yB : Bx w9 (wc.heap.size) false (.slice none 0 0) 0 0 := ⟨hF9.keep (b := wc.heap.size) (heap_alloc_new wc _) (by simp)⟩; have y0 := yB.c0; have y1 := yB.c1; have y2 := yB.c2; have y3 := yB.c3; have yf0 := yB.f 0; have yf1 := yB.f 1; have yf2 := yB.f 2; have yf3 := yB.f 3)))
                | fail
              all_goals (go_wp2_with fail; go_meet)
              · exact ⟨rfl, hI9.step (Fr.alloc [] w9 _) (by simp), hB9.keep (Fr.alloc [] w9 _) (by simp)⟩
              · exact ⟨rfl, hI9.step (Fr.sets4 _ _ _ _ _ _) (by intro x hx; simp at hx; omega), hB9.keep (Fr.sets4 _ _ _ _ _ _) (by simp; omega)⟩
            case rest =>
              obtain ⟨rfl, hJ2, hB2⟩ := hcut
              clear hJ hB hI0 hI1 hB0 hB1 T0 T1 c0 c1 c2 c3 c4 x0 x1 x2 x3 O8 hsbw m1 m2 m3 m4 hbw hbnw
              obtain ⟨wq, hwq⟩ : ∃ wq, wq = wc := ⟨_, rfl⟩
              rw [← hwq] at hJ2 hB2 ⊢
              clear hwq
              have hbw := hJ2.lt
              have hbnw := hB2.lt
              have fA := (Fr.alloc [] wq (.cells #[.bool false, .slice none 0 0, .int .i64 0] 39)).then (Fr.drew [] _)
              have fB := ((Fr.alloc [] wq (.cells #[.bool false, .slice none 0 0, .int .i64 0] 39)).then (Fr.alloc [] _ (.cells #[.bool false, .slice none 0 0, .int .i64 0, .int .i64 0] 32))).then (Fr.drew [] _)
              have fC := ((Fr.alloc [] wq (.cells #[.bool false, .slice none 0 0, .int .i64 0, .int .i64 0] 32)).then (Fr.alloc [] _ (.cells #[.bool false, .slice none 0 0, .int .i64 0] 39))).then (Fr.drew [] _)
              have rA : (wq.alloc (.cells #[.bool false, .slice none 0 0, .int .i64 0] 39)).drew.heap[wq.heap.size]? = some (.cells #[.bool false, .slice none 0 0, .int .i64 0] 39 (0, 0)) := heap_alloc_new wq _
              have rB : ((wq.alloc (.cells #[.bool false, .slice none 0 0, .int .i64 0] 39)).alloc (.cells #[.bool false, .slice none 0 0, .int .i64 0, .int .i64 0] 32)).drew.heap[wq.heap.size]? = some (.cells #[.bool false, .slice none 0 0, .int .i64 0] 39 (0, 0)) := ((Fr.alloc [] (wq.alloc (.cells #[.bool false, .slice none 0 0, .int .i64 0] 39)) (.cells #[.bool false, .slice none 0 0, .int .i64 0, .int .i64 0] 32)).then (Fr.drew [] _)).keep (heap_alloc_new wq _) (by simp)
              have xB : ((wq.alloc (.cells #[.bool false, .slice none 0 0, .int .i64 0] 39)).alloc (.cells #[.bool false, .slice none 0 0, .int .i64 0, .int .i64 0] 32)).drew.heap[wq.heap.size + 1]? = some (.cells #[.bool false, .slice none 0 0, .int .i64 0, .int .i64 0] 32 (0, 0)) := by
                have := heap_alloc_new (wq.alloc (.cells #[.bool false, .slice none 0 0, .int .i64 0] 39)) (.cells #[.bool false, .slice none 0 0, .int .i64 0, .int .i64 0] 32)
                rw [show (wq.alloc (.cells #[.bool false, .slice none 0 0, .int .i64 0] 39)).heap.size = wq.heap.size + 1 by simp] at this
                exact this
              have rC : ((wq.alloc (.cells #[.bool false, .slice none 0 0, .int .i64 0, .int .i64 0] 32)).alloc (.cells #[.bool false, .slice none 0 0, .int .i64 0] 39)).drew.heap[wq.heap.size + 1]? = some (.cells #[.bool false, .slice none 0 0, .int .i64 0] 39 (0, 0)) := by
                have := heap_alloc_new (wq.alloc (.cells #[.bool false, .slice none 0 0, .int .i64 0, .int .i64 0] 32)) (.cells #[.bool false, .slice none 0 0, .int .i64 0] 39)
                rw [show (wq.alloc (.cells #[.bool false, .slice none 0 0, .int .i64 0, .int .i64 0] 32)).heap.size = wq.heap.size + 1 by simp] at this
                exact this
              have xC : ((wq.alloc (.cells #[.bool false, .slice none 0 0, .int .i64 0, .int .i64 0] 32)).alloc (.cells #[.bool false, .slice none 0 0, .int .i64 0] 39)).drew.heap[wq.heap.size]? = some (.cells #[.bool false, .slice none 0 0, .int .i64 0, .int .i64 0] 32 (0, 0)) := ((Fr.alloc [] (wq.alloc (.cells #[.bool false, .slice none 0 0, .int .i64 0, .int .i64 0] 32)) (.cells #[.bool false, .slice none 0 0, .int .i64 0] 39)).then (Fr.drew [] _)).keep (heap_alloc_new wq _) (by simp)
              have hIA := hJ2.step fA (by simp)
              have hIB := hJ2.step fB (by simp)
              have hIC := hJ2.step fC (by simp)
              have hBA := hB2.keep fA (by simp)
              have hBB := hB2.keep fB (by simp)
              have hBC := hB2.keep fC (by simp)
              have TA := tkO (some ⟨wq.heap.size, 0, none⟩) k n wd ms tx _ (Or.inr ⟨_, rfl, rA⟩)
              have TB := tkO (some ⟨wq.heap.size, 0, none⟩) k n wd ms tx _ (Or.inr ⟨_, rfl, rB⟩)
              have TC := tkO (some ⟨wq.heap.size + 1, 0, none⟩) k n wd ms tx _ (Or.inr ⟨_, rfl, rC⟩)
              obtain ⟨wA, HA⟩ : ∃ wA, Hid ((wq.alloc (.cells #[.bool false, .slice none 0 0, .int .i64 0] 39)).drew = wA) := ⟨_, rfl⟩
              obtain ⟨wB, HB⟩ : ∃ wB, Hid (((wq.alloc (.cells #[.bool false, .slice none 0 0, .int .i64 0] 39)).alloc (.cells #[.bool false, .slice none 0 0, .int .i64 0, .int .i64 0] 32)).drew = wB) := ⟨_, rfl⟩
              obtain ⟨wC, HC⟩ : ∃ wC, Hid (((wq.alloc (.cells #[.bool false, .slice none 0 0, .int .i64 0, .int .i64 0] 32)).alloc (.cells #[.bool false, .slice none 0 0, .int .i64 0] 39)).drew = wC) := ⟨_, rfl⟩
              rw [HA.out] at hIA hBA TA
              rw [HB.out] at hIB hBB TB xB
              rw [HC.out] at hIC hBC TC xC
              have XB : Hid (wB.heap[wq.heap.size + 1]? = some (.cells #[.bool false, .slice none 0 0, .int .i64 0, .int .i64 0] 32 (0, 0))) := xB
              have XC : Hid (wC.heap[wq.heap.size]? = some (.cells #[.bool false, .slice none 0 0, .int .i64 0, .int .i64 0] 32 (0, 0))) := xC
              clear rA rB rC xB xC fA fB fC
              have O8 := HO.out _ hJ2.fr
              have c0 := O8.c0
              have c1 := O8.c1
              have c2 := O8.c2
              have c3 := O8.c3
              have c4 := O8.c4
              simp only at c0 c1 c2 c3 c4
              have x0 := hJ2.gone.c0
              have x1 := hJ2.gone.c1
              have x2 := hJ2.gone.c2
              have x3 := hJ2.gone.c3
              have hsbw : sb < wq.heap.size := by have := hJ2.fr.size; omega
              have m1 : bx + 1 ≠ wq.heap.size := by omega
              have m2 : sb ≠ wq.heap.size := by omega
              have m3 : wq.heap.size ≠ bx + 1 := by omega
              have m4 : wq.heap.size ≠ sb := by omega
              have m5 : bx + 1 ≠ wq.heap.size + 1 := by omega
              have m6 : sb ≠ wq.heap.size + 1 := by omega
              have m7 : wq.heap.size + 1 ≠ bx + 1 := by omega
              have m8 : wq.heap.size + 1 ≠ sb := by omega
              have m9 : bx ≠ wq.heap.size := by omega
              have m10 : wq.heap.size ≠ bx := by omega
              go_upto_region 19 with fail
              go_cut [16, 17] from 48 to 109 (fun _ s17 wx => s17 = .bool true ∧ Inv w wx gr r t2 L bx xs p1 e1 p er ∧ Bx wx bn false (.slice (some ⟨t2, 0, none⟩) L (L + 1)) p1 e1)
              case first =>
                first
                  | go_loud (go_region_held3 (fun W => W.cell? ⟨bx + 1, 0, none⟩ = some (.bool true) ∧ W.cell? ⟨bx + 1, 1, none⟩ = some (.slice none 0 0) ∧ W.cell? ⟨bx + 1, 2, none⟩ = some (.int .i64 0) ∧ W.cell? ⟨bx + 1, 3, none⟩ = some (.int .i64 0) ∧ W.cell? ⟨sb, soff + i * 5, none⟩ = some (.int .u8 k) ∧ W.cell? ⟨sb, soff + i * 5 + 1, none⟩ = some (.int .u64 n) ∧ W.cell? ⟨sb, soff + i * 5 + 2, none⟩ = some (.int .i64 wd) ∧ W.cell? ⟨sb, soff + i * 5 + 3, none⟩ = some (.string tx) ∧ W.cell? ⟨sb, soff + i * 5 + 4, none⟩ = some (.int .i64 ms)) (go_keep)
                      (first
                      | (go_at_call 13; rw [HA.out]; refine TA.calls.mono ?_; rintro e w9 ⟨rfl, hF9⟩; have hI9 := hIA.step hF9 (by simp); have O9 := HO.out _ hI9.fr; have k0 := hI9.gone.c0; have k1 := hI9.gone.c1; have k2 := hI9.gone.c2; have k3 := hI9.gone.c3; have k4 := O9.c0; have k5 := O9.c1; have k6 := O9.c2; have k7 := O9.c3; have k8 := O9.c4; simp only at k4 k5 k6 k7 k8; have hl9 := hI9.lt; have hs9 : sb < w9.heap.size := (by have := hI9.fr.size; omega); have n1 : bx + 1 ≠ w9.heap.size := (by omega); have n2 : sb ≠ w9.heap.size := (by omega); have n3 : w9.heap.size ≠ bx + 1 := (by omega); have n4 : w9.heap.size ≠ sb := (by omega); have n5 : bx + 1 < w9.heap.size := (by omega); have hB9 := hBA.keep hF9 (by simp))
                      | (go_at_call 13; rw [HB.out]; refine TB.calls.mono ?_; rintro e w9 ⟨rfl, hF9⟩; have hI9 := hIB.step hF9 (by simp); have O9 := HO.out _ hI9.fr; have k0 := hI9.gone.c0; have k1 := hI9.gone.c1; have k2 := hI9.gone.c2; have k3 := hI9.gone.c3; have k4 := O9.c0; have k5 := O9.c1; have k6 := O9.c2; have k7 := O9.c3; have k8 := O9.c4; simp only at k4 k5 k6 k7 k8; have hl9 := hI9.lt; have hs9 : sb < w9.heap.size := (by have := hI9.fr.size; omega); have n1 : bx + 1 ≠ w9.heap.size := (by omega); have n2 : sb ≠ w9.heap.size := (by omega); have n3 : w9.heap.size ≠ bx + 1 := (by omega); have n4 : w9.heap.size ≠ sb := (by omega); have n5 : bx + 1 < w9.heap.size := (by omega); have hB9 := hBB.keep hF9 (by simp); have yB : Bx w9 (wq.heap.size + 1) false (.slice none 0 0) 0 0 := ⟨hF9.keep (b := wq.heap.size + 1) XB.out (by simp)⟩; have y0 := yB.c0; have y1 := yB.c1; have y2 := yB.c2; have y3 := yB.c3; have yf0 := yB.f 0; have yf1 := yB.f 1; have yf2 := yB.f 2; have yf3 := yB.f 3)
                      | (go_at_call 13; rw [HC.out]; refine TC.calls.mono ?_; rintro e w9 ⟨rfl, hF9⟩; have hI9 := hIC.step hF9 (by simp); have O9 := HO.out _ hI9.fr; have k0 := hI9.gone.c0; have k1 := hI9.gone.c1; have k2 := hI9.gone.c2; have k3 := hI9.gone.c3; have k4 := O9.c0; have k5 := O9.c1; have k6 := O9.c2; have k7 := O9.c3; have k8 := O9.c4; simp only at k4 k5 k6 k7 k8; have hl9 := hI9.lt; have hs9 : sb < w9.heap.size := (by have := hI9.fr.size; omega); have n1 : bx + 1 ≠ w9.heap.size := (by omega); have n2 : sb ≠ w9.heap.size := (by omega); have n3 : w9.heap.size ≠ bx + 1 := (by omega); have n4 : w9.heap.size ≠ sb := (by omega); have n5 : bx + 1 < w9.heap.size := (by omega); have hB9 := hBC.keep hF9 (by simp); have yB : Bx w9 (wq.heap.size) false (.slice none 0 0) 0 0 := ⟨hF9.keep (b := wq.heap.size) XC.out (by simp)⟩; have y0 := yB.c0; have y1 := yB.c1; have y2 := yB.c2; have y3 := yB.c3; have yf0 := yB.f 0; have yf1 := yB.f 1; have yf2 := yB.f 2; have yf3 := yB.f 3)))
                  | fail
                all_goals (go_wp2_with fail; go_meet)
                all_goals first
                  | exact ⟨rfl, hI9.step (Fr.alloc [] w9 _) (by simp), hB9.keep (Fr.alloc [] w9 _) (by simp)⟩
                  | exact ⟨rfl, hI9.step (Fr.sets4 _ _ _ _ _ _) (by intro x hx; simp at hx; omega), hB9.keep (Fr.sets4 _ _ _ _ _ _) (by simp; omega)⟩
              case rest =>
                obtain ⟨rfl, hJ, hB⟩ := hcut
                clear hJ2 hB2 hIA hIB hIC hBA hBB hBC TA TB TC XB XC HA HB HC c0 c1 c2 c3 c4 x0 x1 x2 x3 O8 hsbw m1 m2 m3 m4 m5 m6 m7 m8 m9 m10 hbw hbnw HO
                have y0 := hB.c0
                have y1 := hB.c1
                have y2 := hB.c2
                have y3 := hB.c3
                have x0 := hJ.box.c0
                have x1 := hJ.box.c1
                have x2 := hJ.box.c2
                have x3 := hJ.box.c3
                have xf0 := hJ.box.f 0
                have xf1 := hJ.box.f 1
                have xf2 := hJ.box.f 2
                have xf3 := hJ.box.f 3
                go_upto_region 21 with fail
                have hJz := inv_put hJ p1 e1
                obtain ⟨wz, hwz⟩ : ∃ wz, wz = ((((wc.setCell ⟨bx, 0, none⟩ (.bool false)).setCell ⟨bx, 1, none⟩ (.slice (some ⟨t2, 0, none⟩) L (L + 1))).setCell ⟨bx, 2, none⟩ (.int .i64 (p1 : Int))).setCell ⟨bx, 3, none⟩ (.int .i64 (e1 : Int))) := ⟨_, rfl⟩
                rw [← hwz] at hJz ⊢
                clear hwz y0 y1 y2 y3 x0 x1 x2 x3 xf0 xf1 xf2 xf3 hB hJ
                obtain ⟨lv, hlv⟩ : ∃ lv : Nat, lv = L - p1 := ⟨_, rfl⟩
                obtain ⟨ev, hev⟩ : ∃ ev : Nat, ev = endOf e1 lv := ⟨_, rfl⟩
                have HF : Hid (∀ W, Inv w W gr r t2 L bx xs p1 e1 p1 e1 → Four gr t2 L p1 e1 lv ev W) := fun W hW => four_inv hW HL.out (by omega) hp1 hlv hev
                clear hlv hev
                have hI0 := hJz.step (Fr.drew [] wz) (by simp)
                have F0 := HF.out _ hI0
                have x0 := hJz.box.c0
                have x1 := hJz.box.c1
                have x2 := hJz.box.c2
                have x3 := hJz.box.c3
                go_cut [109] from 48 to 108 (fun s109 wx => s109 = .bool false ∧ Inv w wx gr r t2 L bx xs p1 e1 p1 e1)
                case first =>
                  first
                    | go_loud (go_region_held3 (fun W => W.cell? ⟨bx, 0, none⟩ = some (.bool false) ∧ W.cell? ⟨bx, 1, none⟩ = some (.slice (some ⟨t2, 0, none⟩) L (L + 1)) ∧ W.cell? ⟨bx, 2, none⟩ = some (.int .i64 p1) ∧ W.cell? ⟨bx, 3, none⟩ = some (.int .i64 e1)) (go_keep)
                        (first
                        | (go_at_call 17; with_reducible refine FC.xend.calls.mono ?_; rintro e wD ⟨rfl, hFD⟩; have hID := hIC.step hFD (by simp); have k0 := hID.box.c0; have k1 := hID.box.c1; have k2 := hID.box.c2; have k3 := hID.box.c3)
                        | (go_at_call 16; with_reducible refine FB.rend.calls.mono ?_; rintro e wC ⟨rfl, hFC⟩; have hIC := hIB.step hFC (by simp); have FC := HF.out _ hIC; have k0 := hIC.box.c0; have k1 := hIC.box.c1; have k2 := hIC.box.c2; have k3 := hIC.box.c3)
                        | (go_at_call 15; with_reducible refine F9.xleft.calls.mono ?_; rintro e wB ⟨rfl, hFB⟩; have hIB := hI9.step hFB (by simp); have FB := HF.out _ hIB; have k0 := hIB.box.c0; have k1 := hIB.box.c1; have k2 := hIB.box.c2; have k3 := hIB.box.c3)
                        | (go_at_call 14; with_reducible refine F0.left.calls.mono ?_; rintro e w9 ⟨rfl, hF9⟩; have hI9 := hI0.step hF9 (by simp); have F9 := HF.out _ hI9; have k0 := hI9.box.c0; have k1 := hI9.box.c1; have k2 := hI9.box.c2; have k3 := hI9.box.c3)))
                    | fail
                  all_goals (go_wp2_with fail; go_meet)
                  · exact ⟨by simp, hID⟩
                case rest =>
                  obtain ⟨rfl, hJ⟩ := hcut
                  clear hJz hI0 F0 x0 x1 x2 x3 HF
                  go_wp2
                  go_roundg (M - (i + 1))
                  case rel => exact ⟨i + 1, p1, e1, by simp, by omega, hp1, hJ, by omega⟩
                  case measure => omega
        · have hiM' : M ≤ i := by omega
          have hIz := hI.step (Fr.alloc [] wr (.cells #[.bool false, .slice none 0 0, .int .i64 0] 39)) (by simp)
          have rz : (wr.alloc (.cells #[.bool false, .slice none 0 0, .int .i64 0] 39)).heap[wr.heap.size]? = some (.cells #[.bool false, .slice none 0 0, .int .i64 0] 39 (0, 0)) := heap_alloc_new wr _
          go_upto_region 24 with fail
          obtain ⟨wz, hwz⟩ : ∃ wz, wz = wr.alloc (.cells #[.bool false, .slice none 0 0, .int .i64 0] 39) := ⟨_, rfl⟩
          obtain ⟨bz, hbz⟩ : ∃ bz, bz = wr.heap.size := ⟨_, rfl⟩
          rw [← hwz, ← hbz] at rz
          rw [← hwz] at hIz
          rw [← hwz, ← hbz]
          clear hwz hbz
          have HZ : Hid (∀ W, Fr [] wz W → Zs bz W) := fun W hf => zs_of (hf.keep rz (by simp))
          obtain ⟨lv, hlv⟩ : ∃ lv : Nat, lv = L - p := ⟨_, rfl⟩
          obtain ⟨ev, hev⟩ : ∃ ev : Nat, ev = endOf er lv := ⟨_, rfl⟩
          have HF : Hid (∀ W, Inv w W gr r t2 L bx xs p er p er → Four gr t2 L p er lv ev W) := fun W hW => four_inv hW HL.out (by omega) hp hlv hev
          clear hlv hev rz hI
          have q0 := Fr.drew [] wz
          have hI0 := hIz.step q0 (by simp)
          have F0 := HF.out _ hI0
          have Z0 := HZ.out _ q0
          have x0 := hIz.box.c0
          have x1 := hIz.box.c1
          have x2 := hIz.box.c2
          have x3 := hIz.box.c3
          first
            | go_loud (go_region_held3 (fun W => W.cell? ⟨bx, 0, none⟩ = some (.bool false) ∧ W.cell? ⟨bx, 1, none⟩ = some (.slice (some ⟨t2, 0, none⟩) L (L + 1)) ∧ W.cell? ⟨bx, 2, none⟩ = some (.int .i64 p) ∧ W.cell? ⟨bx, 3, none⟩ = some (.int .i64 er)) (go_keep)
                (first
                | (go_at_call 16; with_reducible refine Z7.ze.calls.mono ?_; rintro e v8 ⟨rfl, hF8⟩; have q8 := q7.then hF8; have hI8 := hI7.step hF8 (by simp); have F8 := HF.out _ hI8; have Z8 := HZ.out _ q8; have k0 := hI8.box.c0; have k1 := hI8.box.c1; have k2 := hI8.box.c2; have k3 := hI8.box.c3)
                | (go_at_call 14; with_reducible refine Z6.zl.calls.mono ?_; rintro e v7 ⟨rfl, hF7⟩; have q7 := q6.then hF7; have hI7 := hI6.step hF7 (by simp); have F7 := HF.out _ hI7; have Z7 := HZ.out _ q7; have k0 := hI7.box.c0; have k1 := hI7.box.c1; have k2 := hI7.box.c2; have k3 := hI7.box.c3)
                | (go_at_call 16; with_reducible refine Z5.ne.calls.mono ?_; rintro e v6 ⟨rfl, hF6⟩; have q6 := q5.then hF6; have hI6 := hI5.step hF6 (by simp); have F6 := HF.out _ hI6; have Z6 := HZ.out _ q6; have k0 := hI6.box.c0; have k1 := hI6.box.c1; have k2 := hI6.box.c2; have k3 := hI6.box.c3)
                | (go_at_call 14; with_reducible refine Z4.nl.calls.mono ?_; rintro e v5 ⟨rfl, hF5⟩; have q5 := q4.then hF5; have hI5 := hI4.step hF5 (by simp); have F5 := HF.out _ hI5; have Z5 := HZ.out _ q5; have k0 := hI5.box.c0; have k1 := hI5.box.c1; have k2 := hI5.box.c2; have k3 := hI5.box.c3)
                | (go_at_call 17; with_reducible refine F3.xend.calls.mono ?_; rintro e v4 ⟨rfl, hF4⟩; have q4 := q3.then hF4; have hI4 := hI3.step hF4 (by simp); have F4 := HF.out _ hI4; have Z4 := HZ.out _ q4; have k0 := hI4.box.c0; have k1 := hI4.box.c1; have k2 := hI4.box.c2; have k3 := hI4.box.c3)
                | (go_at_call 16; with_reducible refine F2.rend.calls.mono ?_; rintro e v3 ⟨rfl, hF3⟩; have q3 := q2.then hF3; have hI3 := hI2.step hF3 (by simp); have F3 := HF.out _ hI3; have Z3 := HZ.out _ q3; have k0 := hI3.box.c0; have k1 := hI3.box.c1; have k2 := hI3.box.c2; have k3 := hI3.box.c3)
                | (go_at_call 15; with_reducible refine F1.xleft.calls.mono ?_; rintro e v2 ⟨rfl, hF2⟩; have q2 := q1.then hF2; have hI2 := hI1.step hF2 (by simp); have F2 := HF.out _ hI2; have Z2 := HZ.out _ q2; have k0 := hI2.box.c0; have k1 := hI2.box.c1; have k2 := hI2.box.c2; have k3 := hI2.box.c3)
                | (go_at_call 14; with_reducible refine F0.left.calls.mono ?_; rintro e v1 ⟨rfl, hF1⟩; have q1 := q0.then hF1; have hI1 := hI0.step hF1 (by simp); have F1 := HF.out _ hI1; have Z1 := HZ.out _ q1; have k0 := hI1.box.c0; have k1 := hI1.box.c1; have k2 := hI1.box.c2; have k3 := hI1.box.c3)))
            | fail
          go_wp2
          go_ret
          exact ⟨rfl, hI8.fr⟩
end Go.Proofs.Ytcajoihfdeoikaa.codecReads
