/- Texts of this claim laid together, one behind the other: contracts and plain lemmas; conditions as each names them. -/
import Derived.Test.YtldghdbfhikcoaaGreatDoorGp17
import Derived.Test.YtldghdbfhikcoaaGreatDoorGp42
import Derived.Test.YtldghdbfhikcoaaGreatDoorGp50
/- Are keys with their versions the same: contracts of SameHeld and SameHelds. Conditions as each names them. -/
namespace Go.Proofs.YtldghdbfhikcoaaGreatDoor
open Go.ChangeShapes Go.WideShapes Go.ChangeAt Go.RowKit Go.Lib Go.Maps
set_option linter.unusedVariables false
set_option linter.unusedSimpArgs false

set_option maxHeartbeats 4000000 in
set_option maxRecDepth 100000 in
theorem sameHeld_any (key : ByteArray) (vo vo' : Option Addr) (L c c' : Nat) (vs : List Vn) (w : World) (h1 : VRs w vo vs) (h2 : VRs w vo' vs) (hL : L = vs.length) :
    Calls Tryz.prog 148 #[.agg #[.string key, .slice vo L c], .agg #[.string key, .slice vo' L c']] w fun e w' => e = .returned (.bool true) ∧ Fr [] w w' := by
  have HV : Hid (∀ W, Fr [] w W → Calls Tryz.prog 172 #[.slice vo L c, .slice vo' L c'] W fun e w' => e = .returned (.bool true) ∧ Fr [] W w') := fun W hf => sameVs_any vo vo' L L c c' true vs vs W (h1.keep hf) (h2.keep hf) hL hL ⟨fun _ => rfl, fun _ => rfl⟩
  have HFr : Hid (Fr [] w ((w.alloc (.cells #[.string key, .slice vo L c] 73)).alloc (.cells #[.string key, .slice vo' L c'] 73))) := (Fr.alloc [] _ _).then (Fr.alloc [] _ _)
  have HC : Hid (Calls _ _ _ _ _) := HV.out _ HFr.out
  clear h1 h2 hL HV
  go_enter Tryz.func148, Tryz.ntmps148
  go_wp2_with fail
  refine Calls.mono HC.out ?_
  rintro e w1 ⟨rfl, hF1⟩
  go_wp2
  go_ret
  exact ⟨rfl, HFr.out.then hF1⟩
def hkv (h : Hd) : ByteArray × List Vn := (h.key, h.vs)
set_option maxHeartbeats 4000000 in
set_option maxRecDepth 100000 in
theorem sameHelds_any (ro ro' : Option Addr) (N rc rc' : Nat) (hs hs' : List Hd) (w : World) (h1 : HRs w ro hs) (h2 : HRs w ro' hs') (hN : N = hs.length) (he : hs.map hkv = hs'.map hkv) :
    Calls Tryz.prog 91 #[.slice ro N rc, .slice ro' N rc'] w fun e w' => e = .returned (.bool true) ∧ Fr [] w w' := by
  have hl : hs.length = hs'.length := by have := congrArg List.length he; simpa using this
  have HN : Hid (N = hs.length ∧ N = hs'.length) := ⟨hN, by omega⟩
  have hNf : N ≤ 3518437208882 := by rw [hN]; exact h1.few
  have HE : Hid (∀ W, Fr [] w W → HRs W ro hs ∧ HRs W ro' hs') := fun W hf => ⟨h1.keep hf, h2.keep hf⟩
  have HEq : Hid (∀ i, i < N → hkv (hs.getD i Hd.zero) = hkv (hs'.getD i Hd.zero)) := fun i hi => by
    have e1 : (hs.map hkv)[i]? = (hs'.map hkv)[i]? := by rw [he]
    simp only [List.getElem?_map, List.getElem?_eq_getElem (show i < hs.length by omega), List.getElem?_eq_getElem (show i < hs'.length by omega), Option.map_some, Option.some.injEq] at e1
    simpa [List.getD, show i < hs.length by omega, show i < hs'.length by omega] using e1
  clear hN h1 h2 he hl
  go_enter Tryz.func91, Tryz.ntmps91
  go_wp2_with fail
  go_loopw [5] (fun ii wr => ∃ (i : Nat), ii = .int .i64 i ∧ i ≤ N ∧ Hid (Fr [] w wr)) (fun ii _ => N - (RowKit.intOf ii).toNat)
  case atStart => exact ⟨0, rfl, Nat.zero_le _, Fr.refl _ _⟩
  case round =>
    obtain ⟨i, rfl, hiN, HF⟩ := hrel
    by_cases hi : i < N
    · have hi1 : i < hs.length := by rw [← HN.out.1]; exact hi
      have hi2 : i < hs'.length := by rw [← HN.out.2]; exact hi
      obtain ⟨r1, r2⟩ := HE.out _ HF.out
      obtain ⟨g, off, rfl, _, hat⟩ := r1.lies (by omega)
      obtain ⟨g', off', rfl, _, hat'⟩ := r2.lies (by omega)
      obtain ⟨d0, d1⟩ := hat i hi1
      obtain ⟨d2, d3⟩ := hat' i hi2
      have HEa : Hid (∀ W, Fr [] w W → HEach W (hs.getD i Hd.zero) ∧ HEach W (hs'.getD i Hd.zero)) := fun W hf => ⟨(HE.out W hf).1.each _ (hgetD_mem hs i hi1), (HE.out W hf).2.each _ (hgetD_mem hs' i hi2)⟩
      have heq := HEq.out i hi
      obtain ⟨x, hx⟩ : ∃ x, x = hs.getD i Hd.zero := ⟨_, rfl⟩
      obtain ⟨y, hy⟩ : ∃ y, y = hs'.getD i Hd.zero := ⟨_, rfl⟩
      rw [← hx] at d0 d1 HEa heq
      rw [← hy] at d2 d3 HEa heq
      clear hx hy hat hat' r1 r2
      obtain ⟨k1, vo1, L1, c1, vs1⟩ := x
      obtain ⟨k2, vo2, L2, c2, vs2⟩ := y
      simp only [hkv, Prod.mk.injEq] at heq
      obtain ⟨rfl, rfl⟩ := heq
      have hLL : L1 = L2 := by
        have := (HEa.out wr HF.out).1.len
        have := (HEa.out wr HF.out).2.len
        simp only at *
        omega
      subst hLL
      simp only at d0 d1 d2 d3
      have HS : Hid (∀ W, Fr [] wr W → Calls Tryz.prog 148 #[.agg #[.string k1, .slice vo1 L1 c1], .agg #[.string k1, .slice vo2 L1 c2]] W fun e w' => e = .returned (.bool true) ∧ (w'.cell? ⟨g, off + i * 2, none⟩ = some (.string k1) ∧ w'.cell? ⟨g, off + i * 2 + 1, none⟩ = some (.slice vo1 L1 c1) ∧ w'.cell? ⟨g', off' + i * 2, none⟩ = some (.string k1) ∧ w'.cell? ⟨g', off' + i * 2 + 1, none⟩ = some (.slice vo2 L1 c2)) ∧ Fr [] w w') := by
        intro W hW
        have hFW := HF.out.then hW
        refine (sameHeld_any k1 vo1 vo2 L1 c1 c2 vs1 W (HEa.out W hFW).1.rs (HEa.out W hFW).2.rs (HEa.out W hFW).1.len).mono ?_
        rintro e w' ⟨rfl, hf⟩
        have hG := hW.then hf
        have hb : ∀ {q o : Nat} {v : Value}, wr.cell? ⟨q, o, none⟩ = some v → w'.cell? ⟨q, o, none⟩ = some v := fun {q o v} hc => far_cell hG hc (World.block_lt_of_cell? wr ⟨q, o, none⟩ (by rw [hc])) (by simp)
        exact ⟨rfl, ⟨hb d0, hb d1, hb d2, hb d3⟩, hFW.then hf⟩
      go_wp2_with fail
      go_region_held3 (fun W => W.cell? ⟨g, off + i * 2, none⟩ = some (.string k1) ∧ W.cell? ⟨g, off + i * 2 + 1, none⟩ = some (.slice vo1 L1 c1) ∧ W.cell? ⟨g', off' + i * 2, none⟩ = some (.string k1) ∧ W.cell? ⟨g', off' + i * 2 + 1, none⟩ = some (.slice vo2 L1 c2)) (go_keep)
        (first | (go_at_call 148; with_reducible refine (HS.out _ (Fr.drew _ _)).mono ?_; rintro e w2 ⟨rfl, ⟨j0, j1, j2, j3⟩, hF2⟩))
      have HF2 : Hid (Fr [] w w2) := hF2
      clear hF2
      go_wp2_with fail
      go_roundw
      case rel => exact ⟨i + 1, by simp, by omega, HF2⟩
      case measure => simp [RowKit.intOf]; omega
    · go_wp2
      go_ret
      exact ⟨rfl, HF.out⟩
end Go.Proofs.YtldghdbfhikcoaaGreatDoor
/- The statements' helpers SameInts, SameSaved. Conditions as each names them. -/
namespace Go.Proofs.YtldghdbfhikcoaaGreatDoor
open Go.ChangeShapes Go.WideShapes Go.ChangeAt Go.RowKit Go.Lib
set_option linter.unusedVariables false
set_option linter.unusedSimpArgs false

set_option maxHeartbeats 2000000 in
set_option maxRecDepth 100000 in
theorem sameI17 (a b : Option Addr) (L ca cb : Nat) (xs : List Int) (w : World) (ha : IRs w a xs) (hb : IRs w b xs) (hL : L = xs.length) (hLl : L < 2 ^ 40) :
    Calls Tryz.prog 90 #[.slice a L ca, .slice b L cb] w fun e w' => e = .returned (.bool true) ∧ Fr [] w w' := by
  have HL : Hid (L = xs.length) := hL
  have hne : ((L : Int) != L) = false := by simp
  clear hL
  by_cases h0 : 0 < L
  · obtain ⟨ba, oa, rfl, _, hca⟩ := ha.lies (by rw [← HL.out]; exact h0)
    obtain ⟨bb, ob, rfl, _, hcb⟩ := hb.lies (by rw [← HL.out]; exact h0)
    rw [← HL.out] at hca hcb
    go_enter Tryz.func90, Tryz.ntmps90
    go_wp2_with fail
    go_loopw [5] (fun ii wr => ∃ (i q : Nat), ii = .int .i64 i ∧ i ≤ L ∧ wr = w.drewN q) (fun ii _ => L - (RowKit.intOf ii).toNat)
    case atStart => exact ⟨0, 0, rfl, Nat.zero_le _, rfl⟩
    case round =>
      obtain ⟨i, q, rfl, hiL, rfl⟩ := hrel
      by_cases hi : i < L
      · have hx := hca i hi
        have hy := hcb i hi
        obtain ⟨x, hxx⟩ : ∃ x, x = xs.getD i 0 := ⟨_, rfl⟩
        rw [← hxx] at hx hy
        clear hxx hca hcb
        have hb1 : (x != x) = false := by simp
        go_wp2_with fail
        go_quiet (fail)
        go_wp2
        go_roundw
        case rel => exact ⟨i + 1, q + nq, by simp, by omega, by simp⟩
        case measure => simp [RowKit.intOf]; omega
      · go_wp2
        go_ret
        exact ⟨rfl, Fr.drewN _ _ _⟩
  · obtain rfl : L = 0 := by omega
    go_enter Tryz.func90, Tryz.ntmps90
    go_wp2_with fail
    refine wp_loop_rounds 1 ?_
    rw [rounds_succ]
    go_wp2
    go_ret
    exact ⟨rfl, Fr.refl _ _⟩
set_option maxHeartbeats 4000000 in
set_option maxRecDepth 100000 in
theorem sameSv_any (w : World) (m : Int) (bo ho bo' ho' : Option Addr) (Lb cb Lh ch cb' ch' : Nat) (bs : List Int) (hs hs' : List Hd) (hI : IRs w bo bs) (hI' : IRs w bo' bs) (hLb : Lb = bs.length) (hH : HRs w ho hs) (hH' : HRs w ho' hs') (hLh : Lh = hs.length) (he : hs.map Hd.kv = hs'.map Hd.kv) (hl : Lb < 2^40) :
    Calls Tryz.prog 21 #[.agg #[.int .i64 m, .slice bo Lb cb, .slice ho Lh ch], .agg #[.int .i64 m, .slice bo' Lb cb', .slice ho' Lh ch']] w fun e w' => e = .returned (.bool true) ∧ Fr [] w w' := by
  have HE : Hid (∀ W, Fr [] w W → Calls Tryz.prog 90 #[.slice bo Lb cb, .slice bo' Lb cb'] W fun e w' => e = .returned (.bool true) ∧ Fr [] W w') := fun W hW => (sameI17 bo bo' Lb cb cb' bs W (hI.keep hW) (hI'.keep hW) hLb hl).mono (fun e w' h => h)
  have HH : Hid (∀ W, Fr [] w W → Calls Tryz.prog 91 #[.slice ho Lh ch, .slice ho' Lh ch'] W fun e w' => e = .returned (.bool true) ∧ Fr [] W w') := fun W hW => sameHelds_any ho ho' Lh ch ch' hs hs' W (hH.keep hW) (hH'.keep hW) hLh he
  clear hI hH hI' hH' hLb hLh he
  obtain ⟨W0, HW0⟩ : ∃ W0, Hid (((w.alloc (.cells #[.int .i64 m, .slice bo Lb cb, .slice ho Lh ch] 25)).alloc (.cells #[.int .i64 m, .slice bo' Lb cb', .slice ho' Lh ch'] 25)) = W0) := ⟨_, rfl⟩
  have h1 : W0.heap[w.heap.size]? = some (.cells #[.int .i64 m, .slice bo Lb cb, .slice ho Lh ch] 25 (0, 0)) := by
    rw [← HW0.out]; exact (Fr.alloc [] _ _).keep (heap_alloc_new w _) (by simp)
  have h2 : W0.heap[w.heap.size + 1]? = some (.cells #[.int .i64 m, .slice bo' Lb cb', .slice ho' Lh ch'] 25 (0, 0)) := by
    rw [← HW0.out]
    have := heap_alloc_new (w.alloc (.cells #[.int .i64 m, .slice bo Lb cb, .slice ho Lh ch] 25)) (.cells #[.int .i64 m, .slice bo' Lb cb', .slice ho' Lh ch'] 25)
    simpa using this
  have HC : Hid (∀ W, Fr [] W0 W → W.heap[w.heap.size]? = some (.cells #[.int .i64 m, .slice bo Lb cb, .slice ho Lh ch] 25 (0, 0)) ∧ W.heap[w.heap.size + 1]? = some (.cells #[.int .i64 m, .slice bo' Lb cb', .slice ho' Lh ch'] 25 (0, 0))) := fun W hW => ⟨hW.keep h1 (by simp), hW.keep h2 (by simp)⟩
  have HF0 : Hid (Fr [] w W0) := by rw [← HW0.out]; exact (Fr.alloc [] w _).then (Fr.alloc [] _ _)
  clear h1 h2
  go_enter Tryz.func21, Tryz.ntmps21
  go_upto_region 1 with fail
  rw [HW0.out]
  obtain ⟨q1, q2⟩ := HC.out W0 (Fr.refl _ _)
  obtain ⟨a0, a1, a2⟩ := sv_cells q1
  obtain ⟨b0, b1, b2⟩ := sv_cells q2
  clear q1 q2 HW0
  go_wp2_with fail
  refine (HE.out _ HF0.out).mono ?_
  rintro e' w1 ⟨rfl, hf1⟩
  have HF1 : Hid (Fr [] W0 w1) := hf1
  obtain ⟨q1, q2⟩ := HC.out w1 hf1
  clear a0 a1 a2 b0 b1 b2 hf1
  obtain ⟨a0, a1, a2⟩ := sv_cells q1
  obtain ⟨b0, b1, b2⟩ := sv_cells q2
  clear q1 q2
  go_wp2_with fail
  refine (HH.out _ (HF0.out.then HF1.out)).mono ?_
  rintro e' w2 ⟨rfl, hf2⟩
  have HF2 : Hid (Fr [] W0 w2) := HF1.out.then hf2
  clear a0 a1 a2 b0 b1 b2 hf2
  go_wp2
  go_ret
  exact ⟨by simp, HF0.out.then HF2.out⟩
end Go.Proofs.YtldghdbfhikcoaaGreatDoor
/- The walk of the law DumpEncodes. Conditions: its argument lies as it came in; the library's table of powers lies as the program lays it. -/
namespace Go.Proofs.YtldghdbfhikcoaaGreatDoor
open BigFrame Go.ChangeShapes Go.WideShapes Go.ChangeAt Go.RowKit Go.Lib Go.Maps
set_option linter.unusedVariables false
set_option linter.unusedSimpArgs false

/-- The Book of the law: it is told the twin and both rows of bytes, and looks. -/
theorem book18 {wS w w0 : World} {m : Int} {bs : List Int} {hs : List Hd} {bb bh Lb Lh N : Nat} {ks : List Nat} {a1 a2 : Option Addr} {c1 c2 : Nat} {ys : List Nat} {wx wy : World} {bo ho : Option Addr}
    (hTw : TwS wS w bs hs bb bh ks) (hS : Fr [] wS w) (hLb : Lb = bs.length) (hLh : Lh = hs.length) (hb1 : Lb < 2^21) (hh1 : Lh < 2^21) (hfew : Few hs) (hH : HRs wx ho hs)
    (h1 : w.ownsRow 0 5 1 (.slice a1 N c1) N (bts ys)) (h2 : w.ownsRow 0 5 1 (.slice a2 N c2) N (bts ys)) (hN : N < 2^30)
    (hap : ∀ k, (Value.slice a1 N c1).ownBlock = some k → (Value.slice a2 N c2).ownBlock ≠ some k) (hn1 : ∀ k, (Value.slice a1 N c1).ownBlock = some k → wS.heap.size ≤ k) (hn2 : ∀ k, (Value.slice a2 N c2).ownBlock = some k → wS.heap.size ≤ k) (ht : Bq.Tab wS) :
    Calls Tryz.prog 15 #[.pointer (some ⟨w.heap.size, 0, none⟩), .agg #[.int .i64 m, .slice (some ⟨bb, 0, none⟩) Lb (Lb + 1), .slice (some ⟨bh, 0, none⟩) Lh (Lh + 1)]] (w.alloc (.cells Bq.newBk 48)) fun e w1 => e = .returned (.tuple #[]) ∧
      Calls Tryz.prog 16 #[.pointer (some ⟨w.heap.size, 0, none⟩), .slice a1 N c1] w1 fun e w2 => e = .returned (.tuple #[]) ∧
        Calls Tryz.prog 16 #[.pointer (some ⟨w.heap.size, 0, none⟩), .slice a2 N c2] w2 fun e w3 => e = .returned (.tuple #[]) ∧
          Calls Tryz.prog 17 #[.pointer (some ⟨w.heap.size, 0, none⟩)] w3 fun e w4 => e = .returned (.bool true) ∧ Fr [] wS w4 := by
  obtain ⟨wa, hwa⟩ : ∃ wa, wa = w.alloc (.cells Bq.newBk 48) := ⟨_, rfl⟩
  have hF0 : Fr [] w wa := by rw [hwa]; exact Fr.alloc _ _ _
  have hB := Bq.B4.new (w0 := w) (w := wa) (bk := w.heap.size) (by rw [hwa]; exact heap_alloc_new w _) (Nat.le_refl _)
  have hTa := hTw.keep hF0
  have hD := twins_dts hTa.rh hTa.tw hLh (by omega) hfew (fun t htm => (hH.each t htm).len)
  rw [← hwa]
  have hlt1 : ∀ k, (Value.slice a1 N c1).ownBlock = some k → k < w.heap.size := fun k hk => (h1.lt k hk).2
  have hlt2 : ∀ k, (Value.slice a2 N c2).ownBlock = some k → k < w.heap.size := fun k hk => (h2.lt k hk).2
  refine (Bq.saved_tell hB m _ _ Lb (Lb + 1) Lh (Lh + 1) _ ⟨Lb, intsT bs, Bq.Cut.of (hTa.iown hLb hb1), by omega⟩ (by simp [Bq.lbs]) hD (by simp [Bq.lbs]) (by simp [Bq.lbs]) (by omega)).mono ?_
  rintro e w1 ⟨rfl, rI', rT', rW', hB1, hF1, hM1, hM2, hM3⟩
  refine ⟨rfl, ?_⟩
  have hF1' : Fr [w.heap.size] wa w1 := by simpa [Value.ownBlock] using hF1
  have hsa : w.heap.size < wa.heap.size := by rw [hwa]; simp
  have h1a : w1.ownsRow 0 5 1 (.slice a1 N c1) N (bts ys) := owns_keep (owns_keep h1 hF0 (by simp)) hF1' (fun k hk hm => by simp at hm; have := hlt1 k hk; omega)
  have h2a : w1.ownsRow 0 5 1 (.slice a2 N c2) N (bts ys) := owns_keep (owns_keep h2 hF0 (by simp)) hF1' (fun k hk hm => by simp at hm; have := hlt2 k hk; omega)
  refine (Bq.bytes_any hB1 a1 N c1 ⟨N, bts ys, Bq.Cut.of h1a, by omega⟩ (by simp [Bq.lbs]) (by omega)).mono ?_
  rintro e w2 ⟨rfl, rB', hB2, hF2, hM4⟩
  refine ⟨rfl, ?_⟩
  have hF2' : Fr [w.heap.size] w1 w2 := by simpa [Value.ownBlock] using hF2
  have h2b : w2.ownsRow 0 5 1 (.slice a2 N c2) N (bts ys) := owns_keep h2a hF2' (fun k hk hm => by simp at hm; have := hlt2 k hk; omega)
  have hs1 := hF1.size
  have hs2 := hF2.size
  refine (Bq.bytes_any hB2 a2 N c2 ⟨N, bts ys, Bq.Cut.of h2b, by omega⟩ (fun k hk hm => ?_) (by omega)).mono ?_
  · rcases Bq.lbs_snoc hm with q | q
    · simp [Bq.lbs] at q
    · exact hap k q hk
  rintro e w3 ⟨rfl, rB2, hB3, hF3, hM5⟩
  refine ⟨rfl, ?_⟩
  have hSz : wS.heap.size ≤ w.heap.size := hS.size
  have hMB : Moved wa.heap.size (.slice none 0 0) rB2 := (Bq.moved_weak hM4 hs1).trans (Bq.moved_weak hM5 (by omega)) (Nat.le_refl _)
  have hrB : ∀ k, rB'.ownBlock = some k → w.heap.size ≤ k := fun k hk => by
    rcases Bq.moved_of hM4 hk with q | q
    · simp [Value.ownBlock] at q
    · omega
  have hF3' : Fr [] wS w3 := ((hS.then hF0).on hF1' (fun j hj => by simp at hj; omega)).then (Fr.refl _ _) |>.on hF2' (fun j hj => by simp at hj; omega) |>.on hF3 (fun j hj => by
    rcases List.mem_cons.1 hj with rfl | hj
    · exact hSz
    · have := hrB j (by simpa using hj); omega)
  obtain ⟨cs, hX, _⟩ := hB3.box
  have hown : ∀ j ∈ Bq.kbs w.heap.size rB2 rI' rW' rT' ([] ++ [⟨.slice a1 N c1, .slice none 0 0, 0 + 1 + Lh + 1 + 1⟩] ++ [⟨.slice a2 N c2, .slice none 0 0, 0 + 1 + Lh + 1 + 1 + 1⟩]) ([] ++ [⟨.slice (some ⟨bb, 0, none⟩) Lb (Lb + 1), .slice none 0 0, 0 + 1⟩]) ([] ++ [⟨.slice (some ⟨bh, 0, none⟩) Lh (Lh + 1), .slice none 0 0, 0 + 1 + Lh + 1⟩]) ([] ++ Bq.held (0 + 1) (dsOf (twTs hs ks))), wS.heap.size ≤ j := fun j hj => by
    have hnew : ∀ {v : Value}, Moved wa.heap.size (.slice none 0 0) v → v.ownBlock = some j → wS.heap.size ≤ j := fun hM hk => by
      rcases Bq.moved_of hM hk with q | q
      · simp [Value.ownBlock] at q
      · omega
    rcases Bq.mem_kbs.1 hj with q | (q | q) | (q | q) | (q | q) | (q | q)
    · omega
    · exact hnew hMB q
    · rcases Bq.lbs_snoc q with q2 | q2
      · rcases Bq.lbs_snoc q2 with q3 | q3
        · simp [Bq.lbs] at q3
        · exact hn1 j q3
      · exact hn2 j q2
    · exact hnew hM1 q
    · rcases Bq.lbs_snoc q with q2 | q2
      · simp [Bq.lbs] at q2
      · simp [Value.ownBlock] at q2
        have := hTw.nb
        omega
    · exact hnew hM3 q
    · rcases Bq.lbs_snoc q with q2 | q2
      · simp [Bq.lbs] at q2
      · simp [Value.ownBlock] at q2
        have := hTw.nh
        omega
    · exact hnew hM2 q
    · rw [List.nil_append] at q
      obtain ⟨i, d, hd, hk⟩ := Bq.mem_held q
      obtain ⟨x, hx, rfl⟩ := dsOf_get hd
      obtain ⟨t, k, ht2, hk2, rfl⟩ := twTs_get hx
      simp [twT, Value.ownBlock] at hk
      subst hk
      exact hTw.tw.new k (List.mem_of_getElem? hk2)
  have hglt := ht.lt
  refine (Bq.apart4_any w.heap.size cs _ _ _ _ _ _ _ _ w3 hX hB3.sB hB3.sI hB3.sW hB3.sT (ht.keep hF3' (by simp)) (fun hm => ?_)).mono ?_
  · have := hown Bq.gTab (List.mem_cons_of_mem _ hm)
    omega
  · rintro e w4 ⟨rfl, hF4⟩
    exact ⟨rfl, hF3'.on hF4 (fun j hj => hown j (List.mem_cons_of_mem _ hj))⟩
end Go.Proofs.YtldghdbfhikcoaaGreatDoor
