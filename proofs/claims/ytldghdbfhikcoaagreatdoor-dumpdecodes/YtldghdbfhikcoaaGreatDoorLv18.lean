/- The law DumpDecodes answers true. Conditions: its argument lies as it came in; the library's table of powers lies as the program lays it. -/
import Derived.Test.YtldghdbfhikcoaaGreatDoorYo18
import Derived.Test.YtldghdbfhikcoaaGreatDoorSi18
import Derived.Test.YtldghdbfhikcoaaGreatDoorLw18
import Derived.Test.YtldghdbfhikcoaaGreatDoorTwin
namespace Go.Proofs.YtldghdbfhikcoaaGreatDoor
open BigFrame Go.ChangeShapes Go.WideShapes Go.ChangeAt Go.RowKit Go.Lib Go.Maps
set_option linter.unusedVariables false
set_option linter.unusedSimpArgs false

theorem HOut.dts {V w : World} {ro : Option Addr} {N rc : Nat} {hs : List Hd} (h : HOut V w ro N rc hs) (hr : ∀ x ∈ hs, x.vs.length ≤ 131072) (hN : N < 2097152) : Bq.Dts w ro N rc (dsOf hs) := by
  refine ⟨by rw [dsOf_C]; exact Bq.own_base8 h.row, by rw [h.len]; simp [dsOf], hN, fun i d hd => ?_, fun i j a b ha hb hij k hka hkb => ?_⟩
  · obtain ⟨x, hx, rfl⟩ := dsOf_get hd
    have hm := List.mem_of_getElem? hx
    obtain ⟨n, vs, h1, h2⟩ := Bq.P0.of_out (n := 0) (h.each x hm) (by have := (h.each x hm).len; have := hr x hm; omega)
    exact ⟨n, vs, h1, h2⟩
  · obtain ⟨x, hx, rfl⟩ := dsOf_get ha
    obtain ⟨y, hy, rfl⟩ := dsOf_get hb
    obtain ⟨p, hp, e1⟩ := own_blk9 hka
    obtain ⟨q, hq, e2⟩ := own_blk9 hkb
    have hil := (List.getElem?_eq_some_iff.1 hx).1
    have hjl := (List.getElem?_eq_some_iff.1 hy).1
    have hxe := (List.getElem?_eq_some_iff.1 hx).2
    have hye := (List.getElem?_eq_some_iff.1 hy).2
    rcases Nat.lt_or_gt_of_ne hij with hlt | hlt
    · have := List.pairwise_iff_getElem.1 h.apart i j hil hjl hlt
      rw [hxe, hye] at this
      exact this p q hp hq (e1.trans e2.symm)
    · have := List.pairwise_iff_getElem.1 h.apart j i hjl hil hlt
      rw [hxe, hye] at this
      exact this q p hq hp (e2.trans e1.symm)
/-- What Decode answers of such bytes. -/
def AnsD (xs : List Nat) (c : Nat) (m : Int) (bs : List Int) (ps : List Kv) : Prop := (c ≠ 0 ∧ DeT xs c ∧ m = 0 ∧ bs = [] ∧ ps = []) ∨ (c = 0 ∧ dS xs = .ok (⟨m, bs, ps⟩, []) ∧ OkS m bs ps)
theorem DeT.uniq {xs : List Nat} {c d : Nat} (h : DeT xs c) (k : DeT xs d) : c = d := by
  rcases h with h | ⟨rfl, s, r, h, hr⟩ | ⟨rfl, s, h, hn⟩ <;> rcases k with k | ⟨rfl, s', r', k, kr⟩ | ⟨rfl, s', k, kn⟩
  · rw [h] at k; simpa using k
  · rw [h] at k; cases k
  · rw [h] at k; cases k
  · rw [h] at k; cases k
  · rfl
  · rw [h] at k
    simp only [Except.ok.injEq, Prod.mk.injEq] at k
    rw [k.2] at hr
    simp at hr
  · rw [h] at k; cases k
  · rw [h] at k
    simp only [Except.ok.injEq, Prod.mk.injEq] at k
    rw [← k.2] at kr
    simp at kr
  · rfl
theorem DeT.no {xs : List Nat} {c : Nat} {s : Sd} (h : DeT xs c) (k : dS xs = .ok (s, [])) (ho : OkS s.m s.bs s.ps) : False := by
  rcases h with h | ⟨rfl, s', r, h, hr⟩ | ⟨rfl, s', h, hn⟩
  · rw [h] at k; cases k
  · rw [h] at k
    simp only [Except.ok.injEq, Prod.mk.injEq] at k
    rw [k.2] at hr
    simp at hr
  · rw [h] at k
    simp only [Except.ok.injEq, Prod.mk.injEq] at k
    rw [k.1] at hn
    exact hn ho
theorem AnsD.uniq {xs : List Nat} {c d : Nat} {m n : Int} {bs cs : List Int} {ps qs : List Kv} (h : AnsD xs c m bs ps) (k : AnsD xs d n cs qs) : c = d ∧ m = n ∧ bs = cs ∧ ps = qs := by
  rcases h with ⟨h1, h2, rfl, rfl, rfl⟩ | ⟨rfl, h2, h3⟩ <;> rcases k with ⟨k1, k2, rfl, rfl, rfl⟩ | ⟨rfl, k2, k3⟩
  · exact ⟨h2.uniq k2, rfl, rfl, rfl⟩
  · exact (h2.no k2 k3).elim
  · exact (k2.no h2 h3).elim
  · rw [h2] at k2
    simp only [Except.ok.injEq, Prod.mk.injEq, Sd.mk.injEq] at k2
    exact ⟨rfl, k2.1.1, k2.1.2.1, k2.1.2.2⟩
/-- Both ways by one word. -/
theorem DeP.one {xs : List Nat} {w w' : World} {e : Ending} (h : DeP xs w e w') (hb : ∀ y ∈ xs, y < 256) : ∃ (c : Nat) (m : Int) (bo : Option Addr) (Lb cb : Nat) (ho : Option Addr) (Lh ch : Nat) (bs : List Int) (hs : List Hd), e = .returned (.tuple #[.agg #[.int .i64 m, .slice bo Lb cb, .slice ho Lh ch], .int .i64 (c : Int)]) ∧ AnsD xs c m bs (hs.map Hd.kv) ∧ Lb ≤ 65536 ∧ Lh ≤ 65536 ∧ (∀ p ∈ hs.map Hd.kv, limK p) ∧ IOw w.heap.size w' bo Lb cb bs ∧ HOut w w' ho Lh ch hs ∧ Fr [] w w' := by
  rcases h with ⟨c, h1, h2, rfl, h3⟩ | ⟨m, bo, Lb, cb, ho, Lh, ch, bs, hs, h1, h2, h3, h4, rfl, h5, h6, h7⟩
  · exact ⟨c, 0, none, 0, 0, none, 0, 0, [], [], rfl, Or.inl ⟨h2, h1, rfl, rfl, rfl⟩, by omega, by omega, by simp, IOw.nil _ _, ⟨rfl, ⟨rfl, .inl ⟨rfl, rfl⟩⟩, by simp, List.Pairwise.nil⟩, h3⟩
  · exact ⟨0, m, bo, Lb, cb, ho, Lh, ch, bs, hs, rfl, Or.inr ⟨rfl, h1, h2⟩, h3, h4, dS_lim hb h1, h5, h6, h7⟩
theorem twin_owns18 {w : World} {b L : Nat} {xs : List Nat} (h : w.heap[b]? = some (.cells (bts (xs ++ [77])).toArray 5 (0, 0))) (hL : L = xs.length) (hm : L < 2^40) : w.ownsRow 0 5 1 (.slice (some ⟨b, 0, none⟩) L (L + 1)) L (bts xs) := by
  refine ⟨by rw [bts_length, hL, Nat.mul_one], .inr ⟨b, L + 1, (bts (xs ++ [77])).toArray, rfl, Nat.zero_le _, h, by omega, by simp only [maxLen]; omega, by simp [bts_length]; omega, ?_⟩⟩
  simp only [bts_append]
  rw [List.take_append_of_le_length (by rw [bts_length]; omega), List.take_of_length_le (by rw [bts_length]; omega)]
theorem twin_barg18 {w : World} {b L : Nat} {xs : List Nat} (h : w.heap[b]? = some (.cells (bts (xs ++ [77])).toArray 5 (0, 0))) (hL : L = xs.length) (hm : L < 2^40) (hb : ∀ x ∈ xs, x < 256) : BArg w (some ⟨b, 0, none⟩) L (L + 1) xs := by
  have hR := own_rs (twin_owns18 h hL hm) hL (by omega)
  refine ⟨hL, hb, by omega, by omega, fun h0 => ?_⟩
  obtain ⟨b', off, e, hc⟩ := hR.lies (by omega)
  cases e
  exact ⟨_, _, rfl, lt_of_block h, fun j hj => hc j (by omega)⟩
/-- The Book of the law: it is told the twin and the answer, and looks. -/
theorem book18d {wS w wd : World} {m : Int} {bs : List Int} {hs : List Hd} {Lb Lh cb ch L tb : Nat} {bo ho : Option Addr} {xs : List Nat}
    (hS : Fr [] wS w) (hd : wS.heap.size ≤ wd.heap.size) (h1 : w.ownsRow 0 5 1 (.slice (some ⟨tb, 0, none⟩) L (L + 1)) L (bts xs)) (ht1 : wS.heap.size ≤ tb) (hL : L < 2^30) (hO : IOw wd.heap.size w bo Lb cb bs) (hH : HOut wd w ho Lh ch hs) (hb1 : Lb ≤ 65536) (hh1 : Lh ≤ 65536) (hlim : ∀ p ∈ hs.map Hd.kv, limK p) (ht : Bq.Tab wS) :
    Calls Tryz.prog 16 #[.pointer (some ⟨w.heap.size, 0, none⟩), .slice (some ⟨tb, 0, none⟩) L (L + 1)] (w.alloc (.cells Bq.newBk 48)) fun e w1 => e = .returned (.tuple #[]) ∧ (∀ q v, q < w.heap.size → w.cell? ⟨q, v, none⟩ = w1.cell? ⟨q, v, none⟩) ∧
      Calls Tryz.prog 15 #[.pointer (some ⟨w.heap.size, 0, none⟩), .agg #[.int .i64 m, .slice bo Lb cb, .slice ho Lh ch]] w1 fun e w2 => e = .returned (.tuple #[]) ∧
        Calls Tryz.prog 17 #[.pointer (some ⟨w.heap.size, 0, none⟩)] w2 fun e w4 => e = .returned (.bool true) ∧ Fr [] wS w4 := by
  obtain ⟨wa, hwa⟩ : ∃ wa, wa = w.alloc (.cells Bq.newBk 48) := ⟨_, rfl⟩
  have hF0 : Fr [] w wa := by rw [hwa]; exact Fr.alloc _ _ _
  have hB := Bq.B4.new (w0 := w) (w := wa) (bk := w.heap.size) (by rw [hwa]; exact heap_alloc_new w _) (Nat.le_refl _)
  rw [← hwa]
  have htl : tb < w.heap.size := (h1.lt tb rfl).2
  have h1a := owns_keep h1 hF0 (by simp)
  refine (Bq.bytes_any hB _ L (L + 1) ⟨L, bts xs, Bq.Cut.of h1a, by omega⟩ (by simp [Bq.lbs]) (by omega)).mono ?_
  rintro e w1 ⟨rfl, rB', hB1, hF1, hM1⟩
  have hF1' : Fr [w.heap.size] wa w1 := by simpa [Value.ownBlock] using hF1
  refine ⟨rfl, fun q v hq => ?_, ?_⟩
  · exact ((World.cell?_of_block (hF1'.block q (Nat.lt_of_lt_of_le hq hF0.size) (by simp; omega))).trans (World.cell?_of_block (hF0.block q hq (by simp)))).symm
  have hsa : w.heap.size < wa.heap.size := by rw [hwa]; simp
  have hO1 : IOw wd.heap.size w1 bo Lb cb bs := (hO.keepS hF0 (by simp)).keepS hF1' (fun k hk hm => by
    obtain ⟨_, cur, hc⟩ := owns_cells hO.row hk
    have := lt_of_block hc
    simp at hm
    omega)
  have hH1 : HOut wd w1 ho Lh ch hs := (hH.keep hF0).keepS hF1' (fun k hk hm => by
    obtain ⟨_, cur, hc⟩ := owns_cells hH.row hk
    have := lt_of_block hc
    simp at hm
    omega) (fun q cur hq hm => by
    simp at hm
    subst hm
    obtain ⟨cs, hX, _⟩ := hB.box
    rw [hX.box] at hq
    simp at hq)
  have hDt := hH1.dts (fun x hx => by have := (hlim _ (List.mem_map.2 ⟨x, hx, rfl⟩)).2.1; simp only [Hd.kv] at this; omega) (by omega)
  have hs1 := hF1.size
  refine (Bq.saved_tell hB1 m _ _ Lb cb Lh ch _ ⟨Lb, ints bs, Bq.Cut.of (Bq.own_base8 hO1.row), by omega⟩ (by simp [Bq.lbs]) hDt (by simp [Bq.lbs]) (by simp [Bq.lbs]) (by omega)).mono ?_
  rintro e w2 ⟨rfl, rI', rT', rW', hB2, hF2, hM2, hM3, hM4⟩
  refine ⟨rfl, ?_⟩
  have hSz : wS.heap.size ≤ w.heap.size := hS.size
  have hF2' : Fr [w.heap.size] w1 w2 := by simpa [Value.ownBlock] using hF2
  have hF3' : Fr [] wS w2 := ((hS.then hF0).on hF1' (fun j hj => by simp at hj; omega)).on hF2' (fun j hj => by simp at hj; omega)
  obtain ⟨cs, hX, _⟩ := hB2.box
  have hown : ∀ j ∈ Bq.kbs w.heap.size rB' rI' rW' rT' ([] ++ [⟨.slice (some ⟨tb, 0, none⟩) L (L + 1), .slice none 0 0, 0 + 1⟩]) ([] ++ [⟨.slice bo Lb cb, .slice none 0 0, 0 + 1 + 1⟩]) ([] ++ [⟨.slice ho Lh ch, .slice none 0 0, 0 + 1 + 1 + Lh + 1⟩]) ([] ++ Bq.held (0 + 1 + 1) (dsOf hs)), wS.heap.size ≤ j := fun j hj => by
    have hnew : ∀ {v : Value} {n : Nat}, Moved n (.slice none 0 0) v → w.heap.size ≤ n → v.ownBlock = some j → wS.heap.size ≤ j := fun hM hn hk => by
      rcases Bq.moved_of hM hk with q | q
      · simp [Value.ownBlock] at q
      · omega
    rcases Bq.mem_kbs.1 hj with q | (q | q) | (q | q) | (q | q) | (q | q)
    · omega
    · exact hnew hM1 (by omega) q
    · rcases Bq.lbs_snoc q with q2 | q2
      · simp [Bq.lbs] at q2
      · simp [Value.ownBlock] at q2
        omega
    · exact hnew hM2 (by omega) q
    · rcases Bq.lbs_snoc q with q2 | q2
      · simp [Bq.lbs] at q2
      · have := (owns_cells hO1.row q2).1
        omega
    · exact hnew hM4 (by omega) q
    · rcases Bq.lbs_snoc q with q2 | q2
      · simp [Bq.lbs] at q2
      · have := (owns_cells hH1.row q2).1
        omega
    · exact hnew hM3 (by omega) q
    · rw [List.nil_append] at q
      obtain ⟨i, d, hdd, hk⟩ := Bq.mem_held q
      obtain ⟨x, hx, rfl⟩ := dsOf_get hdd
      obtain ⟨p, hp, e1⟩ := own_blk9 hk
      have := ((hH1.each x (List.mem_of_getElem? hx)).block p hp).1
      omega
  have hglt := ht.lt
  refine (Bq.apart4_any w.heap.size cs _ _ _ _ _ _ _ _ w2 hX hB2.sB hB2.sI hB2.sW hB2.sT (ht.keep hF3' (by simp)) (fun hm => ?_)).mono ?_
  · have := hown Bq.gTab (List.mem_cons_of_mem _ hm)
    omega
  · rintro e w4 ⟨rfl, hF4⟩
    exact ⟨rfl, hF3'.on hF4 (fun j hj => hown j (List.mem_cons_of_mem _ hj))⟩
end Go.Proofs.YtldghdbfhikcoaaGreatDoor
