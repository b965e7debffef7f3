/- Texts of this claim laid together, one behind the other: contracts and plain lemmas; conditions as each names them. -/
import Derived.Test.YtldghdbfhikcoaaGreatDoorGp49
import Derived.Test.YtldghdbfhikcoaaGreatDoorGp51
import Derived.Test.YtldghdbfhikcoaaGreatDoorGp50
import Derived.Test.YtldghdbfhikcoaaGreatDoorGp13
/- The Book of the law DumpSplits; both answers by one word. Conditions as each names them. -/
namespace Go.Proofs.YtldghdbfhikcoaaGreatDoor
open BigFrame Go.ChangeShapes Go.WideShapes Go.ChangeAt Go.RowKit Go.Lib Go.Maps
set_option linter.unusedVariables false
set_option linter.unusedSimpArgs false

theorem book18s {wS w : World} {m : Int} {bs : List Int} {hs : List Hd} {bb bh Lb Lh : Nat} {ks : List Nat} {wx : World} {ho : Option Addr} {lo : Option Addr} {S lc : Nat} {rs : List Lr} (base : Nat)
    (hTw : TwS wS w bs hs bb bh ks) (hS : Fr [] wS w) (hLb : Lb = bs.length) (hLh : Lh = hs.length) (hb1 : Lb < 2^21) (hh1 : Lh ≤ 1048576) (hfew : Few hs) (hH : HRs wx ho hs)
    (hL : Bq.Lss w lo S lc rs) (hbh : bh < base) (hks : ∀ k ∈ ks, k < base) (hSb : wS.heap.size ≤ base)
    (hlr : ∀ j, j < S → ∀ k, (rs.getD j Lr.zero).v.ownBlock = some k → base ≤ k) (hlv : ∀ j, j < S → ∀ x ∈ (rs.getD j Lr.zero).hs, ∀ k, (Value.slice x.vo x.L x.cap).ownBlock = some k → base ≤ k) (hlo : ∀ k, (Value.slice lo S lc).ownBlock = some k → base ≤ k) (ht : Bq.Tab wS) :
    Calls Tryz.prog 15 #[.pointer (some ⟨w.heap.size, 0, none⟩), .agg #[.int .i64 m, .slice (some ⟨bb, 0, none⟩) Lb (Lb + 1), .slice (some ⟨bh, 0, none⟩) Lh (Lh + 1)]] (w.alloc (.cells Bq.newBk 48)) fun e w1 => e = .returned (.tuple #[]) ∧
      Calls Tryz.prog 26 #[.pointer (some ⟨w.heap.size, 0, none⟩), .slice lo S lc] w1 fun e w2 => e = .returned (.tuple #[]) ∧
        Calls Tryz.prog 17 #[.pointer (some ⟨w.heap.size, 0, none⟩)] w2 fun e w4 => e = .returned (.bool true) ∧ Fr [] wS w4 := by
  obtain ⟨wa, hwa⟩ : ∃ wa, wa = w.alloc (.cells Bq.newBk 48) := ⟨_, rfl⟩
  have hF0 : Fr [] w wa := by rw [hwa]; exact Fr.alloc _ _ _
  have hB := Bq.B4.new (w0 := w) (w := wa) (bk := w.heap.size) (by rw [hwa]; exact heap_alloc_new w _) (Nat.le_refl _)
  have hTa := hTw.keep hF0
  have hD := twins_dts hTa.rh hTa.tw hLh (by omega) hfew (fun t htm => (hH.each t htm).len)
  rw [← hwa]
  refine (Bq.saved_tell hB m _ _ Lb (Lb + 1) Lh (Lh + 1) _ ⟨Lb, intsT bs, Bq.Cut.of (hTa.iown hLb hb1), by omega⟩ (by simp [Bq.lbs]) hD (by simp [Bq.lbs]) (by simp [Bq.lbs]) (by omega)).mono ?_
  rintro e w1 ⟨rfl, rI', rT', rW', hB1, hF1, hM1, hM2, hM3⟩
  refine ⟨rfl, ?_⟩
  have hF1' : Fr [w.heap.size] wa w1 := by simpa [Value.ownBlock] using hF1
  have hsa : w.heap.size < wa.heap.size := by rw [hwa]; simp
  have hSz : wS.heap.size ≤ w.heap.size := hS.size
  have hF01 : Fr [] w w1 := hF0.on hF1' (fun j hj => by simp at hj; omega)
  have hTL : Bq.TLi w w1 w.heap.size (.slice none 0 0) rI' [] ([] ++ [⟨.slice (some ⟨bb, 0, none⟩) Lb (Lb + 1), .slice none 0 0, 0 + 1⟩]) (fun k => wS.heap.size ≤ k ∧ k < base) (fun k => wS.heap.size ≤ k ∧ k < base) rs 0 (0 + 1 + Lh + 1) rW' rT' ([] ++ [⟨.slice (some ⟨bh, 0, none⟩) Lh (Lh + 1), .slice none 0 0, 0 + 1 + Lh + 1⟩]) ([] ++ Bq.held (0 + 1) (dsOf (twTs hs ks))) := by
    refine ⟨hB1, hF01, by omega, fun k hk => Or.inl ?_, fun k hk => Or.inl ?_⟩
    · rcases Bq.lbs_snoc hk with q2 | q2
      · simp [Bq.lbs] at q2
      · simp [Value.ownBlock] at q2
        subst q2
        exact ⟨hTw.nh, hbh⟩
    · rw [List.nil_append] at hk
      obtain ⟨i, d, hd, hk⟩ := Bq.mem_held hk
      obtain ⟨x, hx, rfl⟩ := dsOf_get hd
      obtain ⟨t, k, ht2, hk2, rfl⟩ := twTs_get hx
      simp [twT, Value.ownBlock] at hk
      subst hk
      exact ⟨hTw.tw.new k (List.mem_of_getElem? hk2), hks k (List.mem_of_getElem? hk2)⟩
  refine (Bq.heldLists_any lo S lc hTL hL (fun j hj k hk hp => by have := hlr j hj k hk; omega) (fun j hj x hx k hk hp => by have := hlv j hj x hx k hk; omega)).mono ?_
  rintro e w2 ⟨rfl, T2, rW2, rT2, hW2, hT2, rL, w1', hT1, hB5, hF5, hn5⟩
  refine ⟨rfl, ?_⟩
  obtain ⟨cs, hX⟩ := hB5.box
  have hF3 : Fr [] wS w2 := (hS.then hT1.fr).on hF5 (fun j hj => by simp at hj; omega)
  have hsz1 := hT1.fr.size
  have hown : ∀ j ∈ Bq.own5 (.slice none 0 0) rI' rW2 rT2 [] ([] ++ [⟨.slice (some ⟨bb, 0, none⟩) Lb (Lb + 1), .slice none 0 0, 0 + 1⟩]) hW2 hT2 rL ⟨.slice lo S lc, .slice none 0 0, T2 + 1⟩, wS.heap.size ≤ j := fun j hj => by
    rcases List.mem_append.1 hj with h4 | h5
    · rcases (Bq.mem_kbs (bk := w.heap.size)).1 (List.mem_cons_of_mem _ h4) with q | (q | q) | (q | q) | (q | q) | (q | q)
      · omega
      · simp [Value.ownBlock] at q
      · simp [Bq.lbs] at q
      · have := hT1.b4.rIn j q; omega
      · rcases Bq.lbs_snoc q with q2 | q2
        · simp [Bq.lbs] at q2
        · simp [Value.ownBlock] at q2
          have := hTw.nb
          omega
      · have := hT1.b4.rWn j q; omega
      · rcases hT1.w j q with p | ⟨i, hi, p⟩
        · exact p.1
        · have := hlr i hi j p; omega
      · have := hT1.b4.rTn j q; omega
      · rcases hT1.v j q with p | ⟨i, hi, x, hx, p⟩
        · exact p.1
        · have := hlv i hi x hx j p; omega
    · rcases List.mem_append.1 h5 with q | q
      · have := hn5 j (by simpa using q); omega
      · have := hlo j (by simpa [Bq.lbs] using q); omega
  have hglt := ht.lt
  refine (Bq.apart5_any w.heap.size cs _ _ _ _ _ _ _ _ rL _ w2 hX hB5.sB hB5.sI hB5.sW hB5.sT hB5.sL (ht.keep hF3 (by simp)) (fun hm => ?_)).mono ?_
  · have := hown Bq.gTab hm
    omega
  · rintro e w4 ⟨rfl, hF4⟩
    exact ⟨rfl, hF3.on hF4 hown⟩
theorem livK_kv {s n : Int} {hs hs' : List Hd} (h : hs.map Hd.kv = hs'.map Hd.kv) : livK s n hs = livK s n hs' := by
  have key : ∀ l : List Hd, livK s n l = (l.map Hd.kv).filter (fun p => decide (shN13 s p.1 = n)) := fun l => by
    unfold livK
    rw [List.filter_map]
    rfl
  rw [key, key, h]
theorem livK_mem {s n : Int} {hs : List Hd} {p : Kv} (h : p ∈ livK s n hs) : p ∈ hs.map Hd.kv := by
  obtain ⟨x, hx, rfl⟩ := List.mem_map.1 h
  exact List.mem_map.2 ⟨x, (List.mem_filter.1 hx).1, rfl⟩
theorem livK_lo {s n : Int} {hs : List Hd} (h : LoK (hs.map Hd.kv)) : LoK (livK s n hs) := by
  refine ⟨?_, fun p hp => h.2 p (livK_mem hp)⟩
  have e : livK s n hs = (hs.map Hd.kv).filter (fun p => decide (shN13 s p.1 = n)) := by
    unfold livK
    rw [List.filter_map]
    rfl
  rw [e]
  exact h.1.filter _
/-- What both answer: the error, how many lists, what each has. -/
structure AnsP (c : Cf) (m : Int) (bs : List Int) (hs : List Hd) (E : Int) (S : Nat) (f : Nat → List Kv) : Prop where
  no : ¬ c.may → E = 7 ∧ S = 0
  bad : c.may → ¬ OkS m bs (hs.map Hd.kv) → E = 1 ∧ S = 0
  ok : c.may → OkS m bs (hs.map Hd.kv) → E = 0 ∧ c.s = (S : Int) ∧ ∀ j, j < S → f j = livK (S : Int) (j : Int) hs
theorem AnsP.same {c : Cf} {m : Int} {bs : List Int} {hs hs' : List Hd} {E E' : Int} {S S' : Nat} {f f' : Nat → List Kv} (h : AnsP c m bs hs E S f) (k : AnsP c m bs hs' E' S' f') (e : hs.map Hd.kv = hs'.map Hd.kv) : E = E' ∧ S = S' ∧ ∀ j, j < S → f j = f' j := by
  by_cases hm : c.may
  · by_cases ho : OkS m bs (hs.map Hd.kv)
    · obtain ⟨h1, h2, h3⟩ := h.ok hm ho
      obtain ⟨k1, k2, k3⟩ := k.ok hm (by rw [← e]; exact ho)
      have hSS : S = S' := by rw [h2] at k2; omega
      subst hSS
      exact ⟨by rw [h1, k1], rfl, fun j hj => by rw [h3 j hj, k3 j hj, livK_kv e]⟩
    · obtain ⟨h1, h2⟩ := h.bad hm ho
      obtain ⟨k1, k2⟩ := k.bad hm (by rw [← e]; exact ho)
      exact ⟨by rw [h1, k1], by rw [h2, k2], fun j hj => by omega⟩
  · obtain ⟨h1, h2⟩ := h.no hm
    obtain ⟨k1, k2⟩ := k.no hm
    exact ⟨by rw [h1, k1], by rw [h2, k2], fun j hj => by omega⟩
theorem hkv_kv : hkv = Hd.kv := rfl
theorem HOut.new {w w' : World} {ro : Option Addr} {N rc : Nat} {hs : List Hd} (h : HOut w w' ro N rc hs) : (∀ k, (Value.slice ro N rc).ownBlock = some k → w.heap.size ≤ k) ∧ ∀ x ∈ hs, ∀ k, (Value.slice x.vo x.L x.cap).ownBlock = some k → w.heap.size ≤ k := by
  refine ⟨fun k hk => (owns_cells h.row hk).1, fun x hx k hk => ?_⟩
  obtain ⟨p, hp, e1⟩ := own_blk9 hk
  have := ((h.each x hx).block p hp).1
  omega
/-- The program's answer. -/
theorem SpP.one {c : Cf} {m : Int} {bs : List Int} {hs : List Hd} {Lh : Nat} {w w' : World} {e : Ending} (h : SpP c m bs hs Lh w e w') (hf : ∀ x ∈ hs, x.vs.length ≤ 1048576) (hL : Lh ≤ 1048576) : ∃ (E : Int) (lo : Option Addr) (S lc : Nat) (rs : List Lr), e = .returned (.tuple #[.slice lo S lc, .int .i64 E]) ∧ AnsP c m bs hs E S (fun j => (rs.getD j Lr.zero).hs.map Hd.kv) ∧ Bq.Lss w' lo S lc rs ∧ LRs w' lo rs ∧ Fr [] w w' ∧ (∀ j, j < S → ∀ k, (rs.getD j Lr.zero).v.ownBlock = some k → w.heap.size ≤ k) ∧ (∀ j, j < S → ∀ x ∈ (rs.getD j Lr.zero).hs, ∀ k, (Value.slice x.vo x.L x.cap).ownBlock = some k → w.heap.size ≤ k) ∧ (∀ k, (Value.slice lo S lc).ownBlock = some k → w.heap.size ≤ k) := by
  have nil : ∀ W : World, Bq.Lss W none 0 0 [] ∧ LRs W none [] := fun W => ⟨⟨rfl, ⟨rfl, .inl ⟨rfl, rfl⟩⟩, by omega, fun j hj => by omega, fun j k hjk hk => by omega⟩, ⟨fun h => by simp at h, by simp, fun j hj => by simp at hj⟩⟩
  rcases h with ⟨h1, rfl, h3⟩ | ⟨h1, h2, rfl, h3⟩ | ⟨h1, h2, lb, S, rs, hc, hrl, rfl, hI⟩
  · exact ⟨7, none, 0, 0, [], rfl, ⟨fun _ => ⟨rfl, rfl⟩, fun h => absurd h h1, fun h => absurd h h1⟩, (nil w').1, (nil w').2, h3, fun j hj => by omega, fun j hj => by omega, fun k hk => by simp [Value.ownBlock] at hk⟩
  · exact ⟨1, none, 0, 0, [], rfl, ⟨fun h => absurd h1 h, fun _ _ => ⟨rfl, rfl⟩, fun _ h => absurd h h2⟩, (nil w').1, (nil w').2, h3, fun j hj => by omega, fun j hj => by omega, fun k hk => by simp [Value.ownBlock] at hk⟩
  · have hs16 : S ≤ 16 := by have := h1.2.1.2; rw [hc] at this; omega
    obtain ⟨cs, hb, hcs, hcc⟩ := hI.lm.blk
    have hrow : w'.ownsRow 0 23 1 (.slice (some ⟨lb, 0, none⟩) S S) S (rs.map Lr.v) := by
      refine ⟨by simp [hrl], .inr ⟨lb, S, cs, rfl, Nat.zero_le _, hb, Nat.le_refl _, by unfold maxLen; omega, by rw [hcs]; omega, ?_⟩⟩
      refine List.ext_getElem? fun j => ?_
      by_cases hj : j < S
      · rw [List.getElem?_take_of_lt (by omega), Array.getElem?_toList, hcc j (by omega)]
        simp [List.getD, show j < rs.length by omega]
      · rw [List.getElem?_eq_none (by simp; omega), List.getElem?_eq_none (by simp; omega)]
    have hmem : ∀ j, j < S → ∀ x ∈ (rs.getD j Lr.zero).hs, x.kv ∈ hs.map Hd.kv := fun j hj x hx => by
      have h9 := (hI.each j (by omega)).2.1
      exact livK_mem (s := (S : Int)) (n := (j : Int)) (by rw [← h9]; exact List.mem_map.2 ⟨x, hx, rfl⟩)
    refine ⟨0, some ⟨lb, 0, none⟩, S, S, rs, rfl, ⟨fun h => absurd h1 h, fun _ h => absurd h2 h, fun _ _ => ⟨rfl, hc, fun j hj => (hI.each j (by omega)).2.1⟩⟩, ⟨hrl.symm, hrow, hs16, fun j hj => ?_, fun j k hjk hk => hI.far j k hjk (by omega)⟩, ⟨fun _ => ⟨lb, 0, rfl, lt_of_block hb, fun j hj => ?_⟩, by omega, fun j hj => ?_⟩, hI.fr, fun j hj => ?_, fun j hj => ?_, fun k hk => ?_⟩
    · have h8 := hI.each j (by omega)
      refine ⟨h8.1.dtsN (fun x hx => ?_) (by omega), by omega⟩
      obtain ⟨y, hy, hyx⟩ := List.mem_map.1 (hmem j hj x hx)
      have := hf y hy
      rw [show x.vs = y.vs from (congrArg Prod.snd hyx).symm]
      exact this
    · rw [Nat.zero_add]
      exact hI.lm.at j hj
    · have h8 := hI.each j hj
      refine ⟨h8.1.rs ?_ (by omega), h8.1.len⟩
      rw [LoOk_iff, h8.2.1]
      exact livK_lo h2.lo
    · exact (hI.each j (by omega)).1.new.1
    · exact (hI.each j (by omega)).1.new.2
    · simp [Value.ownBlock] at hk
      have := hI.nb
      omega
/-- The document's answer. -/
theorem SqP.one {c : Cf} {m : Int} {bs : List Int} {hs : List Hd} {Lh : Nat} {w w' : World} {e : Ending} (h : SqP c m bs hs Lh w e w') (hL : Lh ≤ 1048576) : ∃ (E : Int) (lo : Option Addr) (S lc : Nat) (rs : List Lr), e = .returned (.tuple #[.slice lo S lc, .int .i64 E]) ∧ AnsP c m bs hs E S (fun j => (rs.getD j Lr.zero).hs.map Hd.kv) ∧ LRs w' lo rs ∧ S = rs.length ∧ Fr [] w w' := by
  have nil : ∀ W : World, LRs W none [] := fun W => ⟨fun h => by simp at h, by simp, fun j hj => by simp at hj⟩
  rcases h with ⟨h1, rfl, h3⟩ | ⟨h1, h2, rfl, h3⟩ | ⟨h1, h2, so, S, oc, rs, hc, rfl, hI⟩
  · exact ⟨7, none, 0, 0, [], rfl, ⟨fun _ => ⟨rfl, rfl⟩, fun h => absurd h h1, fun h => absurd h h1⟩, nil w', rfl, h3⟩
  · exact ⟨1, none, 0, 0, [], rfl, ⟨fun h => absurd h1 h, fun _ _ => ⟨rfl, rfl⟩, fun _ h => absurd h h2⟩, nil w', rfl, h3⟩
  · have hs16 : S ≤ 16 := by have := h1.2.1.2; rw [hc] at this; omega
    refine ⟨0, so, S, oc, rs, rfl, ⟨fun h => absurd h1 h, fun _ h => absurd h2 h, fun _ _ => ⟨rfl, hc, fun j hj => (hI.each j hj).2.1⟩⟩, ⟨fun h0 => ?_, by have := hI.len; omega, fun j hj => ?_⟩, hI.len, hI.fr⟩
    · have hl := hI.len
      rcases hI.row.2 with ⟨_, hh⟩ | ⟨g, cap, cur, hv, _, hg, _, _, _, ht⟩
      · omega
      · cases hv
        refine ⟨g, 0, rfl, lt_of_block hg, fun j hj => ?_⟩
        rw [cell_of_row _ _ _ _ _ _ hg, Nat.zero_add, ← Array.getElem?_toList]
        have hx : (rs.map Lr.v)[j]? = some (rs.getD j Lr.zero).v := by simp [List.getD, hj]
        rw [← hx, ← ht, List.getElem?_take_of_lt (by omega)]
    · have hl := hI.len
      have h8 := hI.each j (by omega)
      refine ⟨h8.1.rs ?_ (by omega), h8.1.len⟩
      rw [LoOk_iff, h8.2.1]
      exact livK_lo h2.lo
end Go.Proofs.YtldghdbfhikcoaaGreatDoor
/- The law DumpSplits answers true. Conditions: its arguments lie as they came in; the library's table of powers lies as the program lays it. -/
namespace Go.Proofs.YtldghdbfhikcoaaGreatDoor
open BigFrame Go.ChangeShapes Go.WideShapes Go.ChangeAt Go.RowKit Go.Lib Go.Maps
set_option linter.unusedVariables false
set_option linter.unusedSimpArgs false

set_option maxHeartbeats 16000000 in
set_option maxRecDepth 100000 in
theorem dumps (l s x q m : Int) (bo : Option Addr) (Lb cb : Nat) (bs : List Int) (ho : Option Addr) (Lh ch : Nat) (hs : List Hd) (w : World) (hCf : Cf.ok ⟨l, s, x, q⟩) (hm : -9223372036854775808 ≤ m ∧ m ≤ 9223372036854775807) (hI : IRs w bo bs) (hLb : Lb = bs.length) (hH : HRs w ho hs) (hLh : Lh = hs.length) (htab : Bq.Tab w) :
    Calls Tryz.prog 5 #[.agg #[.int .i64 l, .int .i64 s, .int .i64 x, .int .i64 q], .agg #[.int .i64 m, .slice bo Lb cb, .slice ho Lh ch]] w fun e w' => e = .returned (.bool true) ∧ Fr [] w w' := by
  have HLh : Hid (Lh = hs.length) := hLh
  have HLb : Hid (Lb = bs.length) := hLb
  obtain ⟨w1, HW1⟩ : ∃ w1, Hid ((w.alloc (.cells #[.int .i64 l, .int .i64 s, .int .i64 x, .int .i64 q] 58)).alloc (.cells #[.int .i64 m, .slice bo Lb cb, .slice ho Lh ch] 25) = w1) := ⟨_, rfl⟩
  have hF1 : Fr [] w w1 := by rw [← HW1.out]; exact (Fr.alloc [] w _).then (Fr.alloc [] _ _)
  have e1 : (w.alloc (.cells #[.int .i64 l, .int .i64 s, .int .i64 x, .int .i64 q] 58)).heap.size = w.heap.size + 1 := by simp
  have hC1 : CfM w1 w.heap.size l s x q := by rw [← HW1.out]; exact (CfM.new _ _ _ _ _ _).keep (Fr.alloc [] _ _)
  have hb1 : w1.heap[w.heap.size + 1]? = some (.cells #[.int .i64 m, .slice bo Lb cb, .slice ho Lh ch] 25 (0, 0)) := by rw [← HW1.out, ← e1]; exact heap_alloc_new _ _
  have HC1 : Hid (∀ W, Fr [] w1 W → CfM W w.heap.size l s x q) := fun W hf => hC1.keep hf
  have HBx : Hid (∀ W, Fr [] w1 W → W.cell? ⟨w.heap.size + 1, 0, none⟩ = some (.int .i64 m) ∧ W.cell? ⟨w.heap.size + 1, 1, none⟩ = some (.slice bo Lb cb) ∧ W.cell? ⟨w.heap.size + 1, 2, none⟩ = some (.slice ho Lh ch)) := fun W hf => sv_cells (hf.keep hb1 (by simp))
  have HH : Hid (∀ W, Fr [] w1 W → HRs W ho hs ∧ IRs W bo bs) := fun W hf => ⟨hH.keep (hF1.then hf), hI.keep (hF1.then hf)⟩
  have HF1 : Hid (Fr [] w w1) := hF1
  have HTab : Hid (Bq.Tab w) := htab
  obtain ⟨k0, k1, k2⟩ := HBx.out _ (Fr.refl _ _)
  obtain ⟨_, f0, f1, f2, f3⟩ := HC1.out _ (Fr.refl _ _)
  obtain ⟨A, hA⟩ : ∃ A, A = w.heap.size := ⟨_, rfl⟩
  have HSz : Hid (Calls _ _ _ _ _) := savedSize_any m bo ho Lb cb Lh ch bs hs w1 (HH.out _ (Fr.refl _ _)).2 hLb (HH.out _ (Fr.refl _ _)).1 hLh
  clear hI hH hLb hLh hb1 hF1 htab hC1 e1
  go_enter Tryz.func5, Tryz.ntmps5
  go_upto_region 1 with fail
  rw [HW1.out]
  rw [← hA] at HBx HC1 k0 k1 k2 f0 f1 f2 f3 ⊢
  clear HW1 hA
  go_wp2_with fail
  refine Calls.mono HSz.out ?_
  rintro e w3 ⟨S, rfl, hS, hSx, hF3⟩
  obtain ⟨w4, HW4⟩ : ∃ w4, Hid (w3.alloc (.cells #[.int .i64 (S : Int)] 3) = w4) := ⟨_, rfl⟩
  have HF4 : Hid (Fr [] w1 w4) := by show Fr [] w1 w4; rw [← HW4.out]; exact hF3.then (Fr.alloc [] _ _)
  have HBe : Hid (Calls _ _ _ _ _) := beyond_any w3.heap.size S w4 (by omega) (by rw [← HW4.out]; exact cell_new1 w3 _ _)
  have HSx : Hid (S ≤ 1048576 → S = bs.length + szKs (hs.map Hd.kv)) := hSx
  clear hF3 HSz hSx
  go_wp2_with fail
  rw [HW4.out]
  refine Calls.mono HBe.out ?_
  rintro e w5 ⟨rfl, rfl⟩
  clear HW4 HBe
  obtain ⟨k0, k1, k2⟩ := HBx.out _ HF4.out
  by_cases hbig : 1048576 < S
  · rw [show decide (1048576 < S) = true by simpa using hbig]
    clear hbig
    go_wp2
    go_ret
    exact ⟨rfl, HF1.out.then HF4.out⟩
  · rw [show decide (1048576 < S) = false by simpa using hbig]
    have hz : bs.length + szKs (hs.map Hd.kv) ≤ 1048576 := by have := HSx.out (by omega); omega
    obtain ⟨hf1, hf2⟩ := szKs_few (hs := hs) (by omega)
    have hLh1 : Lh ≤ 1048576 := by have := HLh.out; omega
    have hLb1 : Lb < 2^21 := by have := HLb.out; omega
    have HFv : Hid (∀ y ∈ hs, y.vs.length ≤ 1048576) := hf2
    have HFew : Hid (Few hs) := fun t ht => by
      have h1 := hf2 t ht
      have h2 := ((HH.out _ (Fr.refl _ _)).1.each t ht).len
      omega
    have HTw : Hid (Calls _ _ _ _ _) := twinSv_any (w := w4) m bo ho Lb cb Lh ch bs hs (HH.out _ HF4.out).2 HLb.out (HH.out _ HF4.out).1 HLh.out (by omega) HFew.out
    clear hbig hz hf1 hf2 HSx hS
    go_wp2_with fail
    refine Calls.mono HTw.out ?_
    rintro e w5 ⟨bb, bh, ks, rfl, hTw, hF5⟩
    obtain ⟨w6, HW6⟩ : ∃ w6, Hid (w5.alloc (.cells #[.int .i64 m, .slice (some ⟨bb, 0, none⟩) Lb (Lb + 1), .slice (some ⟨bh, 0, none⟩) Lh (Lh + 1)] 25) = w6) := ⟨_, rfl⟩
    have hF6 : Fr [] w5 w6 := by rw [← HW6.out]; exact Fr.alloc [] w5 _
    have hb6 : w6.heap[w5.heap.size]? = some (.cells #[.int .i64 m, .slice (some ⟨bb, 0, none⟩) Lb (Lb + 1), .slice (some ⟨bh, 0, none⟩) Lh (Lh + 1)] 25 (0, 0)) := by rw [← HW6.out]; exact heap_alloc_new w5 _
    have HB6 : Hid (∀ W, Fr [] w6 W → W.cell? ⟨w5.heap.size, 0, none⟩ = some (.int .i64 m) ∧ W.cell? ⟨w5.heap.size, 1, none⟩ = some (.slice (some ⟨bb, 0, none⟩) Lb (Lb + 1)) ∧ W.cell? ⟨w5.heap.size, 2, none⟩ = some (.slice (some ⟨bh, 0, none⟩) Lh (Lh + 1))) := fun W hf => sv_cells (hf.keep hb6 (by simp))
    have HT6 : Hid (∀ W, Fr [] w6 W → TwS w4 W bs hs bb bh ks ∧ IRs W (some ⟨bb, 0, none⟩) bs ∧ HRs W (some ⟨bh, 0, none⟩) (twTs hs ks)) := fun W hf => by
      have h := hTw.keep (hF6.then hf)
      exact ⟨h, h.irs (HH.out _ HF4.out).2, h.hrs (HH.out _ HF4.out).1⟩
    have HLk : Hid (Lh = (twTs hs ks).length ∧ (twTs hs ks).map Hd.kv = hs.map Hd.kv) := ⟨by rw [twTs_length hs ks hTw.tw.len]; exact HLh.out, hTw.kv⟩
    have HF6 : Hid (Fr [] w4 w6) := hF5.then hF6
    have HBas : Hid (bh < w6.heap.size ∧ (∀ k ∈ ks, k < w6.heap.size) ∧ w4.heap.size ≤ w6.heap.size) := ⟨lt_of_block (HT6.out _ (Fr.refl _ _)).1.rh, (HT6.out _ (Fr.refl _ _)).1.tw.lt, HF6.out.size⟩
    have HFt : Hid (∀ y ∈ twTs hs ks, y.vs.length ≤ 1048576) := fun y hy => by
      have h1 : y.kv ∈ hs.map Hd.kv := by rw [← HLk.out.2]; exact List.mem_map.2 ⟨y, hy, rfl⟩
      obtain ⟨z, hz, hzy⟩ := List.mem_map.1 h1
      rw [show y.vs = z.vs from (congrArg Prod.snd hzy).symm]
      exact HFv.out z hz
    obtain ⟨k0, k1, k2⟩ := HBx.out _ (HF4.out.then HF6.out)
    obtain ⟨_, f0, f1, f2, f3⟩ := HC1.out _ (HF4.out.then HF6.out)
    obtain ⟨j0, j1, j2⟩ := HB6.out _ (Fr.refl _ _)
    obtain ⟨B, hB⟩ : ∃ B, B = w5.heap.size := ⟨_, rfl⟩
    have HE1 : Hid (Calls _ _ _ _ _) := split_any l s x q m (some ⟨bb, 0, none⟩) (some ⟨bh, 0, none⟩) Lb (Lb + 1) Lh (Lh + 1) bs (twTs hs ks) w6 (HT6.out _ (Fr.refl _ _)).2.1 HLb.out (HT6.out _ (Fr.refl _ _)).2.2 HLk.out.1
    clear HTw hF5 hF6 hb6 hTw
    go_upto_region 4 with fail
    rw [HW6.out]
    rw [← hB] at HB6 j0 j1 j2 ⊢
    clear HW6 hB
    go_wp2_with fail
    refine Calls.mono HE1.out ?_
    intro e w7 hp1
    obtain ⟨E, lo, S1, lc, rs, rfl, hA1, hLs, hLr, hF7, hn1, hn2, hn3⟩ := hp1.one HFt.out hLh1
    have HF7 : Hid (Fr [] w6 w7) := hF7
    have HA1 : Hid (AnsP ⟨l, s, x, q⟩ m bs (twTs hs ks) E S1 (fun j => (rs.getD j Lr.zero).hs.map Hd.kv)) := hA1
    have HLs : Hid (∀ W, Fr [] w7 W → Bq.Lss W lo S1 lc rs ∧ LRs W lo rs) := fun W hf => ⟨hLs.keep hf, hLr.keep hf⟩
    have HNw : Hid ((∀ j, j < S1 → ∀ k, (rs.getD j Lr.zero).v.ownBlock = some k → w6.heap.size ≤ k) ∧ (∀ j, j < S1 → ∀ x ∈ (rs.getD j Lr.zero).hs, ∀ k, (Value.slice x.vo x.L x.cap).ownBlock = some k → w6.heap.size ≤ k) ∧ (∀ k, (Value.slice lo S1 lc).ownBlock = some k → w6.heap.size ≤ k)) := ⟨hn1, hn2, hn3⟩
    obtain ⟨k0, k1, k2⟩ := HBx.out _ (HF4.out.then (HF6.out.then hF7))
    obtain ⟨_, f0, f1, f2, f3⟩ := HC1.out _ (HF4.out.then (HF6.out.then hF7))
    obtain ⟨j0, j1, j2⟩ := HB6.out _ hF7
    have HE2 : Hid (Calls _ _ _ _ _) := ywsplit_any l s x q m bo ho Lb cb Lh ch bs hs w7 (HH.out _ (HF4.out.then (HF6.out.then hF7))).2 HLb.out (HH.out _ (HF4.out.then (HF6.out.then hF7))).1 HLh.out
    clear HE1 hp1 hA1 hLs hLr hn1 hn2 hn3 hF7
    go_wp2_with fail
    refine Calls.mono HE2.out ?_
    intro e w9 hp2
    obtain ⟨E2, so, S2, oc, qs, rfl, hA2, hLq, hSq, hF9⟩ := hp2.one hLh1
    obtain ⟨eE, eS, eF⟩ := HA1.out.same hA2 HLk.out.2
    subst eE
    subst eS
    have HF69 : Hid (Fr [] w6 w9) := HF7.out.then hF9
    have HF79 : Hid (Fr [] w7 w9) := hF9
    have HSS : Hid (S1 = qs.length ∧ ∀ j, j < S1 → (rs.getD j Lr.zero).hs.map hkv = (qs.getD j Lr.zero).hs.map hkv) := ⟨hSq, eF⟩
    have HLq : Hid (∀ W, Fr [] w9 W → LRs W so qs) := fun W hf => hLq.keep hf
    clear HE2 hp2 hA2 hLq hSq eF hF9
    have hee : (E != E) = false := by simp
    have HC1' : Hid (Calls _ _ _ _ _) := sameHL_any lo so S1 lc oc rs qs w9 (HLs.out _ HF79.out).2 (HLq.out _ (Fr.refl _ _)) (HLs.out _ HF79.out).1.len HSS.out.1 HSS.out.2
    clear k0 k1 k2 j0 j1 j2 f0 f1 f2 f3
    go_wp2_with fail
    refine Calls.mono HC1'.out ?_
    rintro e wa ⟨rfl, hFa⟩
    have HFa : Hid (Fr [] w9 wa) := hFa
    obtain ⟨k0, k1, k2⟩ := HBx.out _ (HF4.out.then (HF6.out.then (HF69.out.then hFa)))
    obtain ⟨j0, j1, j2⟩ := HB6.out _ (HF69.out.then hFa)
    have HC5 : Hid (Calls _ _ _ _ _) := leftSv_any (w0 := w4) m bo ho Lb cb Lh ch bs hs bb bh ks (HH.out _ (HF4.out.then (HF6.out.then (HF69.out.then hFa)))).2 HLb.out (HH.out _ (HF4.out.then (HF6.out.then (HF69.out.then hFa)))).1 HLh.out (by omega) HFew.out (HT6.out _ (HF69.out.then hFa)).1
    clear HC1' hFa
    go_wp2_with fail
    refine Calls.mono HC5.out ?_
    rintro e wb ⟨rfl, hFb0⟩
    have hFb : Fr [] w9 wb := HFa.out.then hFb0
    clear HC5 k0 k1 k2 j0 j1 j2 hFb0
    have HFb : Hid (Fr [] w6 wb) := HF69.out.then hFb
    obtain ⟨wc, HWc⟩ : ∃ wc, Hid (wb.alloc (.cells Bq.newBk 48) = wc) := ⟨_, rfl⟩
    have hFc : Fr [] wb wc := by rw [← HWc.out]; exact Fr.alloc _ _ _
    obtain ⟨j0, j1, j2⟩ := HB6.out _ (HFb.out.then hFc)
    have hBk := book18s (m := m) (wS := w4) (w := wb) (Lb := Lb) (Lh := Lh) (ho := ho) (wx := w4) (lo := lo) (S := S1) (lc := lc) (rs := rs) w6.heap.size (HT6.out _ HFb.out).1 (HF6.out.then HFb.out) HLb.out HLh.out hLb1 hLh1 HFew.out (HH.out _ HF4.out).1 (HLs.out _ (HF79.out.then hFb)).1 HBas.out.1 HBas.out.2.1 HBas.out.2.2 HNw.out.1 HNw.out.2.1 HNw.out.2.2 (HTab.out.keep (HF1.out.then HF4.out) (by simp))
    rw [HWc.out] at hBk
    have HBk : Hid (Calls _ _ _ _ _) := hBk
    clear hBk hFb hFc
    go_upto_region 9 with fail
    rw [show wb.alloc (.cells #[.int .i64 0, .slice none 0 0, .slice none 0 0, .slice none 0 0, .slice none 0 0, .slice none 0 0, .slice none 0 0, .slice none 0 0, .slice none 0 0, .slice none 0 0, .slice none 0 0, .slice none 0 0] 48) = wc from HWc.out]
    clear HWc
    go_wp2_with fail
    refine Calls.mono HBk.out ?_
    rintro e x1 ⟨rfl, hc1⟩
    have H1 : Hid (Calls _ _ _ _ _) := hc1
    clear hc1 HBk j0 j1 j2
    go_wp2_with fail
    refine Calls.mono H1.out ?_
    rintro e x2 ⟨rfl, hc2⟩
    have H2 : Hid (Calls _ _ _ _ _) := hc2
    clear hc2 H1
    go_wp2_with fail
    refine Calls.mono H2.out ?_
    rintro e x4 ⟨rfl, hF9⟩
    have HFe : Hid (Fr [] w x4) := HF1.out.then (HF4.out.then hF9)
    clear hF9 H2
    go_wp2
    go_ret
    exact ⟨rfl, HFe.out⟩
end Go.Proofs.YtldghdbfhikcoaaGreatDoor
