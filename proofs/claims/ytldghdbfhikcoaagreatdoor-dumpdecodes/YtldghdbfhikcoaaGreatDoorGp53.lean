/- Texts of this claim laid together, one behind the other: contracts and plain lemmas; conditions as each names them. -/
import Derived.Test.YtldghdbfhikcoaaGreatDoorGp51
import Derived.Test.YtldghdbfhikcoaaGreatDoorGp52
import Derived.Test.YtldghdbfhikcoaaGreatDoorGp23
import Derived.Test.YtldghdbfhikcoaaGreatDoorGp28
/- The law DumpDecodes answers true. Conditions: its argument lies as it came in; the library's table of powers lies as the program lays it. -/
namespace Go.Proofs.YtldghdbfhikcoaaGreatDoor
open BigFrame Go.ChangeShapes Go.WideShapes Go.ChangeAt Go.RowKit Go.Lib Go.Maps
set_option linter.unusedVariables false
set_option linter.unusedSimpArgs false

theorem HOut.dts {V w : World} {ro : Option Addr} {N rc : Nat} {hs : List Hd} (h : HOut V w ro N rc hs) (hr : ∀ x ∈ hs, x.vs.length ≤ 131072) (hN : N < 2097152) : Bq.Dts w ro N rc (dsOf hs) := by
  refine ⟨by rw [dsOf_C]; exact Bq.own_base8 h.row, by rw [h.len]; simp [dsOf], hN, fun i d hd => ?_, fun i j a b ha hb hij k hka hkb => ?_⟩
  · obtain ⟨x, hx, rfl⟩ := dsOf_get hd
    have hm := List.mem_of_getElem? hx
    obtain ⟨n, vs, h1, h2⟩ := Bq.P0.of_out (n := 0) (h.each x hm) (by have := (h.each x hm).len; have := hr x hm; omega)
    exact ⟨n, vs, h1, h2⟩
  · obtain ⟨x, hx, rfl⟩ := dsOf_get ha
    obtain ⟨y, hy, rfl⟩ := dsOf_get hb
    obtain ⟨p, hp, e1⟩ := own_blk9 hka
    obtain ⟨q, hq, e2⟩ := own_blk9 hkb
    have hil := (List.getElem?_eq_some_iff.1 hx).1
    have hjl := (List.getElem?_eq_some_iff.1 hy).1
    have hxe := (List.getElem?_eq_some_iff.1 hx).2
    have hye := (List.getElem?_eq_some_iff.1 hy).2
    rcases Nat.lt_or_gt_of_ne hij with hlt | hlt
    · have := List.pairwise_iff_getElem.1 h.apart i j hil hjl hlt
      rw [hxe, hye] at this
      exact this p q hp hq (e1.trans e2.symm)
    · have := List.pairwise_iff_getElem.1 h.apart j i hjl hil hlt
      rw [hxe, hye] at this
      exact this q p hq hp (e2.trans e1.symm)
/-- What Decode answers of such bytes. -/
def AnsD (xs : List Nat) (c : Nat) (m : Int) (bs : List Int) (ps : List Kv) : Prop := (c ≠ 0 ∧ DeT xs c ∧ m = 0 ∧ bs = [] ∧ ps = []) ∨ (c = 0 ∧ dS xs = .ok (⟨m, bs, ps⟩, []) ∧ OkS m bs ps)
theorem DeT.uniq {xs : List Nat} {c d : Nat} (h : DeT xs c) (k : DeT xs d) : c = d := by
  rcases h with h | ⟨rfl, s, r, h, hr⟩ | ⟨rfl, s, h, hn⟩ <;> rcases k with k | ⟨rfl, s', r', k, kr⟩ | ⟨rfl, s', k, kn⟩
  · rw [h] at k; simpa using k
  · rw [h] at k; cases k
  · rw [h] at k; cases k
  · rw [h] at k; cases k
  · rfl
  · rw [h] at k
    simp only [Except.ok.injEq, Prod.mk.injEq] at k
    rw [k.2] at hr
    simp at hr
  · rw [h] at k; cases k
  · rw [h] at k
    simp only [Except.ok.injEq, Prod.mk.injEq] at k
    rw [← k.2] at kr
    simp at kr
  · rfl
theorem DeT.no {xs : List Nat} {c : Nat} {s : Sd} (h : DeT xs c) (k : dS xs = .ok (s, [])) (ho : OkS s.m s.bs s.ps) : False := by
  rcases h with h | ⟨rfl, s', r, h, hr⟩ | ⟨rfl, s', h, hn⟩
  · rw [h] at k; cases k
  · rw [h] at k
    simp only [Except.ok.injEq, Prod.mk.injEq] at k
    rw [k.2] at hr
    simp at hr
  · rw [h] at k
    simp only [Except.ok.injEq, Prod.mk.injEq] at k
    rw [k.1] at hn
    exact hn ho
theorem AnsD.uniq {xs : List Nat} {c d : Nat} {m n : Int} {bs cs : List Int} {ps qs : List Kv} (h : AnsD xs c m bs ps) (k : AnsD xs d n cs qs) : c = d ∧ m = n ∧ bs = cs ∧ ps = qs := by
  rcases h with ⟨h1, h2, rfl, rfl, rfl⟩ | ⟨rfl, h2, h3⟩ <;> rcases k with ⟨k1, k2, rfl, rfl, rfl⟩ | ⟨rfl, k2, k3⟩
  · exact ⟨h2.uniq k2, rfl, rfl, rfl⟩
  · exact (h2.no k2 k3).elim
  · exact (k2.no h2 h3).elim
  · rw [h2] at k2
    simp only [Except.ok.injEq, Prod.mk.injEq, Sd.mk.injEq] at k2
    exact ⟨rfl, k2.1.1, k2.1.2.1, k2.1.2.2⟩
/-- Both ways by one word. -/
theorem DeP.one {xs : List Nat} {w w' : World} {e : Ending} (h : DeP xs w e w') (hb : ∀ y ∈ xs, y < 256) : ∃ (c : Nat) (m : Int) (bo : Option Addr) (Lb cb : Nat) (ho : Option Addr) (Lh ch : Nat) (bs : List Int) (hs : List Hd), e = .returned (.tuple #[.agg #[.int .i64 m, .slice bo Lb cb, .slice ho Lh ch], .int .i64 (c : Int)]) ∧ AnsD xs c m bs (hs.map Hd.kv) ∧ Lb ≤ 65536 ∧ Lh ≤ 65536 ∧ (∀ p ∈ hs.map Hd.kv, limK p) ∧ IOw w.heap.size w' bo Lb cb bs ∧ HOut w w' ho Lh ch hs ∧ Fr [] w w' := by
  rcases h with ⟨c, h1, h2, rfl, h3⟩ | ⟨m, bo, Lb, cb, ho, Lh, ch, bs, hs, h1, h2, h3, h4, rfl, h5, h6, h7⟩
  · exact ⟨c, 0, none, 0, 0, none, 0, 0, [], [], rfl, Or.inl ⟨h2, h1, rfl, rfl, rfl⟩, by omega, by omega, by simp, IOw.nil _ _, ⟨rfl, ⟨rfl, .inl ⟨rfl, rfl⟩⟩, by simp, List.Pairwise.nil⟩, h3⟩
  · exact ⟨0, m, bo, Lb, cb, ho, Lh, ch, bs, hs, rfl, Or.inr ⟨rfl, h1, h2⟩, h3, h4, dS_lim hb h1, h5, h6, h7⟩
theorem twin_owns18 {w : World} {b L : Nat} {xs : List Nat} (h : w.heap[b]? = some (.cells (bts (xs ++ [77])).toArray 5 (0, 0))) (hL : L = xs.length) (hm : L < 2^40) : w.ownsRow 0 5 1 (.slice (some ⟨b, 0, none⟩) L (L + 1)) L (bts xs) := by
  refine ⟨by rw [bts_length, hL, Nat.mul_one], .inr ⟨b, L + 1, (bts (xs ++ [77])).toArray, rfl, Nat.zero_le _, h, by omega, by simp only [maxLen]; omega, by simp [bts_length]; omega, ?_⟩⟩
  simp only [bts_append]
  rw [List.take_append_of_le_length (by rw [bts_length]; omega), List.take_of_length_le (by rw [bts_length]; omega)]
theorem twin_barg18 {w : World} {b L : Nat} {xs : List Nat} (h : w.heap[b]? = some (.cells (bts (xs ++ [77])).toArray 5 (0, 0))) (hL : L = xs.length) (hm : L < 2^40) (hb : ∀ x ∈ xs, x < 256) : BArg w (some ⟨b, 0, none⟩) L (L + 1) xs := by
  have hR := own_rs (twin_owns18 h hL hm) hL (by omega)
  refine ⟨hL, hb, by omega, by omega, fun h0 => ?_⟩
  obtain ⟨b', off, e, hc⟩ := hR.lies (by omega)
  cases e
  exact ⟨_, _, rfl, lt_of_block h, fun j hj => hc j (by omega)⟩
/-- The Book of the law: it is told the twin and the answer, and looks. -/
theorem book18d {wS w wd : World} {m : Int} {bs : List Int} {hs : List Hd} {Lb Lh cb ch L tb : Nat} {bo ho : Option Addr} {xs : List Nat}
    (hS : Fr [] wS w) (hd : wS.heap.size ≤ wd.heap.size) (h1 : w.ownsRow 0 5 1 (.slice (some ⟨tb, 0, none⟩) L (L + 1)) L (bts xs)) (ht1 : wS.heap.size ≤ tb) (hL : L < 2^30) (hO : IOw wd.heap.size w bo Lb cb bs) (hH : HOut wd w ho Lh ch hs) (hb1 : Lb ≤ 65536) (hh1 : Lh ≤ 65536) (hlim : ∀ p ∈ hs.map Hd.kv, limK p) (ht : Bq.Tab wS) :
    Calls Tryz.prog 16 #[.pointer (some ⟨w.heap.size, 0, none⟩), .slice (some ⟨tb, 0, none⟩) L (L + 1)] (w.alloc (.cells Bq.newBk 48)) fun e w1 => e = .returned (.tuple #[]) ∧ (∀ q v, q < w.heap.size → w.cell? ⟨q, v, none⟩ = w1.cell? ⟨q, v, none⟩) ∧
      Calls Tryz.prog 15 #[.pointer (some ⟨w.heap.size, 0, none⟩), .agg #[.int .i64 m, .slice bo Lb cb, .slice ho Lh ch]] w1 fun e w2 => e = .returned (.tuple #[]) ∧
        Calls Tryz.prog 17 #[.pointer (some ⟨w.heap.size, 0, none⟩)] w2 fun e w4 => e = .returned (.bool true) ∧ Fr [] wS w4 := by
  obtain ⟨wa, hwa⟩ : ∃ wa, wa = w.alloc (.cells Bq.newBk 48) := ⟨_, rfl⟩
  have hF0 : Fr [] w wa := by rw [hwa]; exact Fr.alloc _ _ _
  have hB := Bq.B4.new (w0 := w) (w := wa) (bk := w.heap.size) (by rw [hwa]; exact heap_alloc_new w _) (Nat.le_refl _)
  rw [← hwa]
  have htl : tb < w.heap.size := (h1.lt tb rfl).2
  have h1a := owns_keep h1 hF0 (by simp)
  refine (Bq.bytes_any hB _ L (L + 1) ⟨L, bts xs, Bq.Cut.of h1a, by omega⟩ (by simp [Bq.lbs]) (by omega)).mono ?_
  rintro e w1 ⟨rfl, rB', hB1, hF1, hM1⟩
  have hF1' : Fr [w.heap.size] wa w1 := by simpa [Value.ownBlock] using hF1
  refine ⟨rfl, fun q v hq => ?_, ?_⟩
  · exact ((World.cell?_of_block (hF1'.block q (Nat.lt_of_lt_of_le hq hF0.size) (by simp; omega))).trans (World.cell?_of_block (hF0.block q hq (by simp)))).symm
  have hsa : w.heap.size < wa.heap.size := by rw [hwa]; simp
  have hO1 : IOw wd.heap.size w1 bo Lb cb bs := (hO.keepS hF0 (by simp)).keepS hF1' (fun k hk hm => by
    obtain ⟨_, cur, hc⟩ := owns_cells hO.row hk
    have := lt_of_block hc
    simp at hm
    omega)
  have hH1 : HOut wd w1 ho Lh ch hs := (hH.keep hF0).keepS hF1' (fun k hk hm => by
    obtain ⟨_, cur, hc⟩ := owns_cells hH.row hk
    have := lt_of_block hc
    simp at hm
    omega) (fun q cur hq hm => by
    simp at hm
    subst hm
    obtain ⟨cs, hX, _⟩ := hB.box
    rw [hX.box] at hq
    simp at hq)
  have hDt := hH1.dts (fun x hx => by have := (hlim _ (List.mem_map.2 ⟨x, hx, rfl⟩)).2.1; simp only [Hd.kv] at this; omega) (by omega)
  have hs1 := hF1.size
  refine (Bq.saved_tell hB1 m _ _ Lb cb Lh ch _ ⟨Lb, ints bs, Bq.Cut.of (Bq.own_base8 hO1.row), by omega⟩ (by simp [Bq.lbs]) hDt (by simp [Bq.lbs]) (by simp [Bq.lbs]) (by omega)).mono ?_
  rintro e w2 ⟨rfl, rI', rT', rW', hB2, hF2, hM2, hM3, hM4⟩
  refine ⟨rfl, ?_⟩
  have hSz : wS.heap.size ≤ w.heap.size := hS.size
  have hF2' : Fr [w.heap.size] w1 w2 := by simpa [Value.ownBlock] using hF2
  have hF3' : Fr [] wS w2 := ((hS.then hF0).on hF1' (fun j hj => by simp at hj; omega)).on hF2' (fun j hj => by simp at hj; omega)
  obtain ⟨cs, hX, _⟩ := hB2.box
  have hown : ∀ j ∈ Bq.kbs w.heap.size rB' rI' rW' rT' ([] ++ [⟨.slice (some ⟨tb, 0, none⟩) L (L + 1), .slice none 0 0, 0 + 1⟩]) ([] ++ [⟨.slice bo Lb cb, .slice none 0 0, 0 + 1 + 1⟩]) ([] ++ [⟨.slice ho Lh ch, .slice none 0 0, 0 + 1 + 1 + Lh + 1⟩]) ([] ++ Bq.held (0 + 1 + 1) (dsOf hs)), wS.heap.size ≤ j := fun j hj => by
    have hnew : ∀ {v : Value} {n : Nat}, Moved n (.slice none 0 0) v → w.heap.size ≤ n → v.ownBlock = some j → wS.heap.size ≤ j := fun hM hn hk => by
      rcases Bq.moved_of hM hk with q | q
      · simp [Value.ownBlock] at q
      · omega
    rcases Bq.mem_kbs.1 hj with q | (q | q) | (q | q) | (q | q) | (q | q)
    · omega
    · exact hnew hM1 (by omega) q
    · rcases Bq.lbs_snoc q with q2 | q2
      · simp [Bq.lbs] at q2
      · simp [Value.ownBlock] at q2
        omega
    · exact hnew hM2 (by omega) q
    · rcases Bq.lbs_snoc q with q2 | q2
      · simp [Bq.lbs] at q2
      · have := (owns_cells hO1.row q2).1
        omega
    · exact hnew hM4 (by omega) q
    · rcases Bq.lbs_snoc q with q2 | q2
      · simp [Bq.lbs] at q2
      · have := (owns_cells hH1.row q2).1
        omega
    · exact hnew hM3 (by omega) q
    · rw [List.nil_append] at q
      obtain ⟨i, d, hdd, hk⟩ := Bq.mem_held q
      obtain ⟨x, hx, rfl⟩ := dsOf_get hdd
      obtain ⟨p, hp, e1⟩ := own_blk9 hk
      have := ((hH1.each x (List.mem_of_getElem? hx)).block p hp).1
      omega
  have hglt := ht.lt
  refine (Bq.apart4_any w.heap.size cs _ _ _ _ _ _ _ _ w2 hX hB2.sB hB2.sI hB2.sW hB2.sT (ht.keep hF3' (by simp)) (fun hm => ?_)).mono ?_
  · have := hown Bq.gTab (List.mem_cons_of_mem _ hm)
    omega
  · rintro e w4 ⟨rfl, hF4⟩
    exact ⟨rfl, hF3'.on hF4 (fun j hj => hown j (List.mem_cons_of_mem _ hj))⟩
end Go.Proofs.YtldghdbfhikcoaaGreatDoor
/- The walk of the law DumpDecodes. Conditions: its argument lies as it came in; the library's table of powers lies as the program lays it. -/
namespace Go.Proofs.YtldghdbfhikcoaaGreatDoor
open BigFrame Go.ChangeShapes Go.WideShapes Go.ChangeAt Go.RowKit Go.Lib Go.Maps
set_option linter.unusedVariables false
set_option linter.unusedSimpArgs false

set_option maxHeartbeats 16000000 in
set_option maxRecDepth 100000 in
theorem dumpd (ao : Option Addr) (L cap : Nat) (xs : List Nat) (w : World) (hA : BArg w ao L cap xs) (htab : Bq.Tab w) :
    Calls Tryz.prog 4 #[.slice ao L cap] w fun e w' => e = .returned (.bool true) ∧ Fr [] w w' := by
  have hmost := hA.most
  have HTab : Hid (Bq.Tab w) := htab
  have HA : Hid (∀ W, Fr [] w W → BArg W ao L cap xs) := fun W hf => hA.keep hf
  obtain ⟨w1, HW1⟩ : ∃ w1, Hid (w.alloc (.cells #[.int .i64 (L : Int)] 3) = w1) := ⟨_, rfl⟩
  have HF1 : Hid (Fr [] w w1) := by show Fr [] w w1; rw [← HW1.out]; exact Fr.alloc [] _ _
  have HBe : Hid (Calls _ _ _ _ _) := beyond_any w.heap.size L w1 (by omega) (by rw [← HW1.out]; exact cell_new1 w _ _)
  clear hA htab
  go_enter Tryz.func4, Tryz.ntmps4
  go_wp2_with fail
  rw [HW1.out]
  refine Calls.mono HBe.out ?_
  rintro e w5 ⟨rfl, rfl⟩
  clear HW1 HBe
  by_cases hbig : 1048576 < L
  · rw [show decide (1048576 < L) = true by simpa using hbig]
    clear hbig
    go_wp2
    go_ret
    exact ⟨rfl, HF1.out⟩
  · rw [show decide (1048576 < L) = false by simpa using hbig]
    have hL1 : L ≤ 1048576 := by omega
    have HTw : Hid (Calls _ _ _ _ _) := twin_any ao L cap xs w1 (HA.out _ HF1.out) (by omega)
    have HLen : Hid (L = xs.length ∧ ∀ x ∈ xs, x < 256) := ⟨(HA.out _ HF1.out).len, (HA.out _ HF1.out).low⟩
    clear hbig
    go_wp2_with fail
    refine Calls.mono HTw.out ?_
    rintro e w2 ⟨tb, rfl, htb, hrow, hF2⟩
    have HR2 : Hid (∀ W, Fr [] w2 W → W.heap[tb]? = some (.cells (bts (xs ++ [77])).toArray 5 (0, 0))) := fun W hf => hf.keep hrow (by simp)
    have HF2 : Hid (Fr [] w1 w2 ∧ w1.heap.size ≤ tb) := ⟨hF2, htb⟩
    have HDe : Hid (Calls _ _ _ _ _) := ddecode_any (some ⟨tb, 0, none⟩) L (L + 1) xs w2 (twin_barg18 hrow HLen.out.1 (by omega) HLen.out.2) HLen.out.1 (by have := HLen.out.1; omega)
    clear HTw htb hrow hF2
    go_wp2_with fail
    refine Calls.mono HDe.out ?_
    rintro e w3 hP
    obtain ⟨c, m, bo, Lb, cb, ho, Lh, ch, bs, hs, rfl, hAn, hLb, hLh, hlim, hO3, hH3, hF3⟩ := hP.one HLen.out.2
    have HAn : Hid (AnsD xs c m bs (hs.map Hd.kv)) := hAn
    have HLim : Hid (∀ p ∈ hs.map Hd.kv, limK p) := hlim
    obtain ⟨w4, HW4⟩ : ∃ w4, Hid (w3.alloc (.cells #[.int .i64 m, .slice bo Lb cb, .slice ho Lh ch] 25) = w4) := ⟨_, rfl⟩
    have hF4 : Fr [] w3 w4 := by rw [← HW4.out]; exact Fr.alloc _ _ _
    have hb4 : w4.heap[w3.heap.size]? = some (.cells #[.int .i64 m, .slice bo Lb cb, .slice ho Lh ch] 25 (0, 0)) := by rw [← HW4.out]; exact heap_alloc_new w3 _
    obtain ⟨sA, hsA⟩ : ∃ sA, sA = w3.heap.size := ⟨_, rfl⟩
    rw [← hsA] at hb4
    have HF4 : Hid (Fr [] w2 w4) := hF3.then hF4
    have HS4 : Hid (∀ W, Fr [] w4 W → W.heap[sA]? = some (.cells #[.int .i64 m, .slice bo Lb cb, .slice ho Lh ch] 25 (0, 0)) ∧ IOw w2.heap.size W bo Lb cb bs ∧ HOut w2 W ho Lh ch hs) := fun W hf => ⟨hf.keep hb4 (by simp), (hO3.keepS hF4 (by simp)).keepS hf (by simp), (hH3.keep hF4).keep hf⟩
    have hFw4 : Fr [] w w4 := HF1.out.then (HF2.out.1.then HF4.out)
    have HYd : Hid (Calls _ _ _ _ _) := ydecode_any ao L cap xs w4 ⟨(HA.out _ hFw4).rs (by omega), HLen.out.2, HLen.out.1, (HA.out _ hFw4).fits⟩
    have HFw4 : Hid (Fr [] w w4) := hFw4
    clear HDe hP hAn hlim hO3 hH3 hF3 hF4 hb4 hFw4
    go_upto_region 5 with fail
    rw [HW4.out]
    rw [← hsA]
    clear HW4 hsA
    go_wp2_with fail
    refine Calls.mono HYd.out ?_
    rintro e w5 hP
    obtain ⟨c', m', bo', Lb', cb', ho', Lh', ch', bs', hs', rfl, hAn', hLb', hLh', hlim', hO5, hH5, hF5⟩ := hP.one HLen.out.2
    obtain ⟨rfl, rfl, rfl, hkv⟩ := HAn.out.uniq hAn'
    have hll : Lb' = Lb := by have h1 := hO5.len; have h2 := (HS4.out _ (Fr.refl _ _)).2.1.len; omega
    subst hll
    have hlh : Lh' = Lh := by
      have h1 := hH5.len
      have h2 := (HS4.out _ (Fr.refl _ _)).2.2.len
      have h3 := congrArg List.length hkv
      simp only [List.length_map] at h3
      omega
    subst hlh
    have HKv : Hid (hs.map Hd.kv = hs'.map Hd.kv) := hkv
    have HLim' : Hid (∀ p ∈ hs'.map Hd.kv, limK p) := hlim'
    obtain ⟨w6, HW6⟩ : ∃ w6, Hid (w5.alloc (.cells #[.int .i64 m, .slice bo' Lb' cb', .slice ho' Lh' ch'] 25) = w6) := ⟨_, rfl⟩
    have hF6 : Fr [] w5 w6 := by rw [← HW6.out]; exact Fr.alloc _ _ _
    have hb6 : w6.heap[w5.heap.size]? = some (.cells #[.int .i64 m, .slice bo' Lb' cb', .slice ho' Lh' ch'] 25 (0, 0)) := by rw [← HW6.out]; exact heap_alloc_new w5 _
    obtain ⟨sB, hsB⟩ : ∃ sB, sB = w5.heap.size := ⟨_, rfl⟩
    rw [← hsB] at hb6
    have HF6 : Hid (Fr [] w4 w6) := hF5.then hF6
    obtain ⟨hbA, hOA, hHA⟩ := HS4.out _ HF6.out
    have HSs : Hid (Calls _ _ _ _ _) := sameSv_any w6 m bo ho bo' ho' Lb' cb Lh' ch cb' ch' bs hs hs' (hOA.irs hLb') ((hO5.keepS hF6 (by simp)).irs hLb') hOA.len (hHA.rsL HLim.out hLh') ((hH5.keep hF6).rsL HLim'.out hLh') hHA.len HKv.out (by omega)
    obtain ⟨a0, a1, a2⟩ := sv_cells hbA
    obtain ⟨b0, b1, b2⟩ := sv_cells hb6
    clear HYd hP hAn' hlim' hO5 hH5 hF5 hF6 hb6 hbA hOA hHA hkv
    go_upto_region 6 with fail
    rw [HW6.out]
    rw [← hsB]
    clear HW6 hsB
    go_wp2_with fail
    refine Calls.mono HSs.out ?_
    rintro e w7 ⟨rfl, hF7⟩
    have HF7 : Hid (Fr [] w4 w7) := HF6.out.then hF7
    have HLf : Hid (Calls _ _ _ _ _) := leftBytes_any tb ao L cap xs w7 (HA.out _ (HFw4.out.then HF7.out)) (by omega) (HR2.out _ (HF4.out.then HF7.out))
    clear HSs hF7 a0 a1 a2 b0 b1 b2
    go_wp2_with fail
    refine Calls.mono HLf.out ?_
    rintro e w8 ⟨rfl, q, rfl⟩
    have HF8 : Hid (Fr [] w4 (w7.drewN q)) := HF7.out.then (Fr.drewN _ _ _)
    obtain ⟨w8, HW8⟩ : ∃ w8, Hid (w7.drewN q = w8) := ⟨_, rfl⟩
    rw [HW8.out] at HF8
    rw [HW8.out]
    clear HW8 HLf HF7 HF6
    obtain ⟨w9, HW9⟩ : ∃ w9, Hid (w8.alloc (.cells Bq.newBk 48) = w9) := ⟨_, rfl⟩
    obtain ⟨hbA, hOA, hHA⟩ := HS4.out _ HF8.out
    have hBk := book18d (m := m) (wS := w1) (w := w8) (wd := w2) (xs := xs) (L := L) (tb := tb) (HF2.out.1.then (HF4.out.then HF8.out)) HF2.out.1.size (twin_owns18 (HR2.out _ (HF4.out.then HF8.out)) HLen.out.1 (by omega)) HF2.out.2 (by omega) hOA hHA hLb' hLh' HLim.out (HTab.out.keep HF1.out (by simp))
    rw [HW9.out] at hBk
    have HBk : Hid (Calls _ _ _ _ _) := hBk
    have HA8 : Hid (sA < w8.heap.size ∧ w8.cell? ⟨sA, 0, none⟩ = some (.int .i64 m) ∧ w8.cell? ⟨sA, 1, none⟩ = some (.slice bo Lb' cb) ∧ w8.cell? ⟨sA, 2, none⟩ = some (.slice ho Lh' ch)) := ⟨lt_of_block hbA, sv_cells hbA⟩
    clear hBk hbA hOA hHA
    go_upto_region 9 with fail
    rw [show w8.alloc (.cells #[.int .i64 0, .slice none 0 0, .slice none 0 0, .slice none 0 0, .slice none 0 0, .slice none 0 0, .slice none 0 0, .slice none 0 0, .slice none 0 0, .slice none 0 0, .slice none 0 0, .slice none 0 0] 48) = w9 from HW9.out]
    clear HW9
    go_wp2_with fail
    refine Calls.mono HBk.out ?_
    rintro e x1 ⟨rfl, hcc, hc1⟩
    have H1 : Hid (Calls _ _ _ _ _) := hc1
    obtain ⟨g0, g1, g2, g3⟩ := HA8.out
    rw [hcc sA _ g0] at g1 g2 g3
    clear hc1 HBk hcc g0
    go_wp2_with fail
    refine Calls.mono H1.out ?_
    rintro e x2 ⟨rfl, hc2⟩
    have H2 : Hid (Calls _ _ _ _ _) := hc2
    clear hc2 H1 g1 g2 g3
    go_wp2_with fail
    refine Calls.mono H2.out ?_
    rintro e x4 ⟨rfl, hF9⟩
    have HFe : Hid (Fr [] w x4) := HF1.out.then hF9
    clear hF9 H2
    go_wp2
    go_ret
    exact ⟨rfl, HFe.out⟩
end Go.Proofs.YtldghdbfhikcoaaGreatDoor
