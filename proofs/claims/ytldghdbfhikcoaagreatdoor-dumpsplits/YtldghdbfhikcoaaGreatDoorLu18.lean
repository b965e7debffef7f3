/- The Book of the law DumpSplits; both answers by one word. Conditions as each names them. -/
import Derived.Test.YtldghdbfhikcoaaGreatDoorLt18
import Derived.Test.YtldghdbfhikcoaaGreatDoorYq18
import Derived.Test.YtldghdbfhikcoaaGreatDoorSg18
namespace Go.Proofs.YtldghdbfhikcoaaGreatDoor
open BigFrame Go.ChangeShapes Go.WideShapes Go.ChangeAt Go.RowKit Go.Lib Go.Maps
set_option linter.unusedVariables false
set_option linter.unusedSimpArgs false

theorem book18s {wS w : World} {m : Int} {bs : List Int} {hs : List Hd} {bb bh Lb Lh : Nat} {ks : List Nat} {wx : World} {ho : Option Addr} {lo : Option Addr} {S lc : Nat} {rs : List Lr} (base : Nat)
    (hTw : TwS wS w bs hs bb bh ks) (hS : Fr [] wS w) (hLb : Lb = bs.length) (hLh : Lh = hs.length) (hb1 : Lb < 2^21) (hh1 : Lh ≤ 1048576) (hfew : Few hs) (hH : HRs wx ho hs)
    (hL : Bq.Lss w lo S lc rs) (hbh : bh < base) (hks : ∀ k ∈ ks, k < base) (hSb : wS.heap.size ≤ base)
    (hlr : ∀ j, j < S → ∀ k, (rs.getD j Lr.zero).v.ownBlock = some k → base ≤ k) (hlv : ∀ j, j < S → ∀ x ∈ (rs.getD j Lr.zero).hs, ∀ k, (Value.slice x.vo x.L x.cap).ownBlock = some k → base ≤ k) (hlo : ∀ k, (Value.slice lo S lc).ownBlock = some k → base ≤ k) (ht : Bq.Tab wS) :
    Calls Tryz.prog 15 #[.pointer (some ⟨w.heap.size, 0, none⟩), .agg #[.int .i64 m, .slice (some ⟨bb, 0, none⟩) Lb (Lb + 1), .slice (some ⟨bh, 0, none⟩) Lh (Lh + 1)]] (w.alloc (.cells Bq.newBk 48)) fun e w1 => e = .returned (.tuple #[]) ∧
      Calls Tryz.prog 26 #[.pointer (some ⟨w.heap.size, 0, none⟩), .slice lo S lc] w1 fun e w2 => e = .returned (.tuple #[]) ∧
        Calls Tryz.prog 17 #[.pointer (some ⟨w.heap.size, 0, none⟩)] w2 fun e w4 => e = .returned (.bool true) ∧ Fr [] wS w4 := by
  obtain ⟨wa, hwa⟩ : ∃ wa, wa = w.alloc (.cells Bq.newBk 48) := ⟨_, rfl⟩
  have hF0 : Fr [] w wa := by rw [hwa]; exact Fr.alloc _ _ _
  have hB := Bq.B4.new (w0 := w) (w := wa) (bk := w.heap.size) (by rw [hwa]; exact heap_alloc_new w _) (Nat.le_refl _)
  have hTa := hTw.keep hF0
  have hD := twins_dts hTa.rh hTa.tw hLh (by omega) hfew (fun t htm => (hH.each t htm).len)
  rw [← hwa]
  refine (Bq.saved_tell hB m _ _ Lb (Lb + 1) Lh (Lh + 1) _ ⟨Lb, intsT bs, Bq.Cut.of (hTa.iown hLb hb1), by omega⟩ (by simp [Bq.lbs]) hD (by simp [Bq.lbs]) (by simp [Bq.lbs]) (by omega)).mono ?_
  rintro e w1 ⟨rfl, rI', rT', rW', hB1, hF1, hM1, hM2, hM3⟩
  refine ⟨rfl, ?_⟩
  have hF1' : Fr [w.heap.size] wa w1 := by simpa [Value.ownBlock] using hF1
  have hsa : w.heap.size < wa.heap.size := by rw [hwa]; simp
  have hSz : wS.heap.size ≤ w.heap.size := hS.size
  have hF01 : Fr [] w w1 := hF0.on hF1' (fun j hj => by simp at hj; omega)
  have hTL : Bq.TLi w w1 w.heap.size (.slice none 0 0) rI' [] ([] ++ [⟨.slice (some ⟨bb, 0, none⟩) Lb (Lb + 1), .slice none 0 0, 0 + 1⟩]) (fun k => wS.heap.size ≤ k ∧ k < base) (fun k => wS.heap.size ≤ k ∧ k < base) rs 0 (0 + 1 + Lh + 1) rW' rT' ([] ++ [⟨.slice (some ⟨bh, 0, none⟩) Lh (Lh + 1), .slice none 0 0, 0 + 1 + Lh + 1⟩]) ([] ++ Bq.held (0 + 1) (dsOf (twTs hs ks))) := by
    refine ⟨hB1, hF01, by omega, fun k hk => Or.inl ?_, fun k hk => Or.inl ?_⟩
    · rcases Bq.lbs_snoc hk with q2 | q2
      · simp [Bq.lbs] at q2
      · simp [Value.ownBlock] at q2
        subst q2
        exact ⟨hTw.nh, hbh⟩
    · rw [List.nil_append] at hk
      obtain ⟨i, d, hd, hk⟩ := Bq.mem_held hk
      obtain ⟨x, hx, rfl⟩ := dsOf_get hd
      obtain ⟨t, k, ht2, hk2, rfl⟩ := twTs_get hx
      simp [twT, Value.ownBlock] at hk
      subst hk
      exact ⟨hTw.tw.new k (List.mem_of_getElem? hk2), hks k (List.mem_of_getElem? hk2)⟩
  refine (Bq.heldLists_any lo S lc hTL hL (fun j hj k hk hp => by have := hlr j hj k hk; omega) (fun j hj x hx k hk hp => by have := hlv j hj x hx k hk; omega)).mono ?_
  rintro e w2 ⟨rfl, T2, rW2, rT2, hW2, hT2, rL, w1', hT1, hB5, hF5, hn5⟩
  refine ⟨rfl, ?_⟩
  obtain ⟨cs, hX⟩ := hB5.box
  have hF3 : Fr [] wS w2 := (hS.then hT1.fr).on hF5 (fun j hj => by simp at hj; omega)
  have hsz1 := hT1.fr.size
  have hown : ∀ j ∈ Bq.own5 (.slice none 0 0) rI' rW2 rT2 [] ([] ++ [⟨.slice (some ⟨bb, 0, none⟩) Lb (Lb + 1), .slice none 0 0, 0 + 1⟩]) hW2 hT2 rL ⟨.slice lo S lc, .slice none 0 0, T2 + 1⟩, wS.heap.size ≤ j := fun j hj => by
    rcases List.mem_append.1 hj with h4 | h5
    · rcases (Bq.mem_kbs (bk := w.heap.size)).1 (List.mem_cons_of_mem _ h4) with q | (q | q) | (q | q) | (q | q) | (q | q)
      · omega
      · simp [Value.ownBlock] at q
      · simp [Bq.lbs] at q
      · have := hT1.b4.rIn j q; omega
      · rcases Bq.lbs_snoc q with q2 | q2
        · simp [Bq.lbs] at q2
        · simp [Value.ownBlock] at q2
          have := hTw.nb
          omega
      · have := hT1.b4.rWn j q; omega
      · rcases hT1.w j q with p | ⟨i, hi, p⟩
        · exact p.1
        · have := hlr i hi j p; omega
      · have := hT1.b4.rTn j q; omega
      · rcases hT1.v j q with p | ⟨i, hi, x, hx, p⟩
        · exact p.1
        · have := hlv i hi x hx j p; omega
    · rcases List.mem_append.1 h5 with q | q
      · have := hn5 j (by simpa using q); omega
      · have := hlo j (by simpa [Bq.lbs] using q); omega
  have hglt := ht.lt
  refine (Bq.apart5_any w.heap.size cs _ _ _ _ _ _ _ _ rL _ w2 hX hB5.sB hB5.sI hB5.sW hB5.sT hB5.sL (ht.keep hF3 (by simp)) (fun hm => ?_)).mono ?_
  · have := hown Bq.gTab hm
    omega
  · rintro e w4 ⟨rfl, hF4⟩
    exact ⟨rfl, hF3.on hF4 hown⟩
theorem livK_kv {s n : Int} {hs hs' : List Hd} (h : hs.map Hd.kv = hs'.map Hd.kv) : livK s n hs = livK s n hs' := by
  have key : ∀ l : List Hd, livK s n l = (l.map Hd.kv).filter (fun p => decide (shN13 s p.1 = n)) := fun l => by
    unfold livK
    rw [List.filter_map]
    rfl
  rw [key, key, h]
theorem livK_mem {s n : Int} {hs : List Hd} {p : Kv} (h : p ∈ livK s n hs) : p ∈ hs.map Hd.kv := by
  obtain ⟨x, hx, rfl⟩ := List.mem_map.1 h
  exact List.mem_map.2 ⟨x, (List.mem_filter.1 hx).1, rfl⟩
theorem livK_lo {s n : Int} {hs : List Hd} (h : LoK (hs.map Hd.kv)) : LoK (livK s n hs) := by
  refine ⟨?_, fun p hp => h.2 p (livK_mem hp)⟩
  have e : livK s n hs = (hs.map Hd.kv).filter (fun p => decide (shN13 s p.1 = n)) := by
    unfold livK
    rw [List.filter_map]
    rfl
  rw [e]
  exact h.1.filter _
/-- What both answer: the error, how many lists, what each has. -/
structure AnsP (c : Cf) (m : Int) (bs : List Int) (hs : List Hd) (E : Int) (S : Nat) (f : Nat → List Kv) : Prop where
  no : ¬ c.may → E = 7 ∧ S = 0
  bad : c.may → ¬ OkS m bs (hs.map Hd.kv) → E = 1 ∧ S = 0
  ok : c.may → OkS m bs (hs.map Hd.kv) → E = 0 ∧ c.s = (S : Int) ∧ ∀ j, j < S → f j = livK (S : Int) (j : Int) hs
theorem AnsP.same {c : Cf} {m : Int} {bs : List Int} {hs hs' : List Hd} {E E' : Int} {S S' : Nat} {f f' : Nat → List Kv} (h : AnsP c m bs hs E S f) (k : AnsP c m bs hs' E' S' f') (e : hs.map Hd.kv = hs'.map Hd.kv) : E = E' ∧ S = S' ∧ ∀ j, j < S → f j = f' j := by
  by_cases hm : c.may
  · by_cases ho : OkS m bs (hs.map Hd.kv)
    · obtain ⟨h1, h2, h3⟩ := h.ok hm ho
      obtain ⟨k1, k2, k3⟩ := k.ok hm (by rw [← e]; exact ho)
      have hSS : S = S' := by rw [h2] at k2; omega
      subst hSS
      exact ⟨by rw [h1, k1], rfl, fun j hj => by rw [h3 j hj, k3 j hj, livK_kv e]⟩
    · obtain ⟨h1, h2⟩ := h.bad hm ho
      obtain ⟨k1, k2⟩ := k.bad hm (by rw [← e]; exact ho)
      exact ⟨by rw [h1, k1], by rw [h2, k2], fun j hj => by omega⟩
  · obtain ⟨h1, h2⟩ := h.no hm
    obtain ⟨k1, k2⟩ := k.no hm
    exact ⟨by rw [h1, k1], by rw [h2, k2], fun j hj => by omega⟩
theorem hkv_kv : hkv = Hd.kv := rfl
theorem HOut.new {w w' : World} {ro : Option Addr} {N rc : Nat} {hs : List Hd} (h : HOut w w' ro N rc hs) : (∀ k, (Value.slice ro N rc).ownBlock = some k → w.heap.size ≤ k) ∧ ∀ x ∈ hs, ∀ k, (Value.slice x.vo x.L x.cap).ownBlock = some k → w.heap.size ≤ k := by
  refine ⟨fun k hk => (owns_cells h.row hk).1, fun x hx k hk => ?_⟩
  obtain ⟨p, hp, e1⟩ := own_blk9 hk
  have := ((h.each x hx).block p hp).1
  omega
/-- The program's answer. -/
theorem SpP.one {c : Cf} {m : Int} {bs : List Int} {hs : List Hd} {Lh : Nat} {w w' : World} {e : Ending} (h : SpP c m bs hs Lh w e w') (hf : ∀ x ∈ hs, x.vs.length ≤ 1048576) (hL : Lh ≤ 1048576) : ∃ (E : Int) (lo : Option Addr) (S lc : Nat) (rs : List Lr), e = .returned (.tuple #[.slice lo S lc, .int .i64 E]) ∧ AnsP c m bs hs E S (fun j => (rs.getD j Lr.zero).hs.map Hd.kv) ∧ Bq.Lss w' lo S lc rs ∧ LRs w' lo rs ∧ Fr [] w w' ∧ (∀ j, j < S → ∀ k, (rs.getD j Lr.zero).v.ownBlock = some k → w.heap.size ≤ k) ∧ (∀ j, j < S → ∀ x ∈ (rs.getD j Lr.zero).hs, ∀ k, (Value.slice x.vo x.L x.cap).ownBlock = some k → w.heap.size ≤ k) ∧ (∀ k, (Value.slice lo S lc).ownBlock = some k → w.heap.size ≤ k) := by
  have nil : ∀ W : World, Bq.Lss W none 0 0 [] ∧ LRs W none [] := fun W => ⟨⟨rfl, ⟨rfl, .inl ⟨rfl, rfl⟩⟩, by omega, fun j hj => by omega, fun j k hjk hk => by omega⟩, ⟨fun h => by simp at h, by simp, fun j hj => by simp at hj⟩⟩
  rcases h with ⟨h1, rfl, h3⟩ | ⟨h1, h2, rfl, h3⟩ | ⟨h1, h2, lb, S, rs, hc, hrl, rfl, hI⟩
  · exact ⟨7, none, 0, 0, [], rfl, ⟨fun _ => ⟨rfl, rfl⟩, fun h => absurd h h1, fun h => absurd h h1⟩, (nil w').1, (nil w').2, h3, fun j hj => by omega, fun j hj => by omega, fun k hk => by simp [Value.ownBlock] at hk⟩
  · exact ⟨1, none, 0, 0, [], rfl, ⟨fun h => absurd h1 h, fun _ _ => ⟨rfl, rfl⟩, fun _ h => absurd h h2⟩, (nil w').1, (nil w').2, h3, fun j hj => by omega, fun j hj => by omega, fun k hk => by simp [Value.ownBlock] at hk⟩
  · have hs16 : S ≤ 16 := by have := h1.2.1.2; rw [hc] at this; omega
    obtain ⟨cs, hb, hcs, hcc⟩ := hI.lm.blk
    have hrow : w'.ownsRow 0 23 1 (.slice (some ⟨lb, 0, none⟩) S S) S (rs.map Lr.v) := by
      refine ⟨by simp [hrl], .inr ⟨lb, S, cs, rfl, Nat.zero_le _, hb, Nat.le_refl _, by unfold maxLen; omega, by rw [hcs]; omega, ?_⟩⟩
      refine List.ext_getElem? fun j => ?_
      by_cases hj : j < S
      · rw [List.getElem?_take_of_lt (by omega), Array.getElem?_toList, hcc j (by omega)]
        simp [List.getD, show j < rs.length by omega]
      · rw [List.getElem?_eq_none (by simp; omega), List.getElem?_eq_none (by simp; omega)]
    have hmem : ∀ j, j < S → ∀ x ∈ (rs.getD j Lr.zero).hs, x.kv ∈ hs.map Hd.kv := fun j hj x hx => by
      have h9 := (hI.each j (by omega)).2.1
      exact livK_mem (s := (S : Int)) (n := (j : Int)) (by rw [← h9]; exact List.mem_map.2 ⟨x, hx, rfl⟩)
    refine ⟨0, some ⟨lb, 0, none⟩, S, S, rs, rfl, ⟨fun h => absurd h1 h, fun _ h => absurd h2 h, fun _ _ => ⟨rfl, hc, fun j hj => (hI.each j (by omega)).2.1⟩⟩, ⟨hrl.symm, hrow, hs16, fun j hj => ?_, fun j k hjk hk => hI.far j k hjk (by omega)⟩, ⟨fun _ => ⟨lb, 0, rfl, lt_of_block hb, fun j hj => ?_⟩, by omega, fun j hj => ?_⟩, hI.fr, fun j hj => ?_, fun j hj => ?_, fun k hk => ?_⟩
    · have h8 := hI.each j (by omega)
      refine ⟨h8.1.dtsN (fun x hx => ?_) (by omega), by omega⟩
      obtain ⟨y, hy, hyx⟩ := List.mem_map.1 (hmem j hj x hx)
      have := hf y hy
      rw [show x.vs = y.vs from (congrArg Prod.snd hyx).symm]
      exact this
    · rw [Nat.zero_add]
      exact hI.lm.at j hj
    · have h8 := hI.each j hj
      refine ⟨h8.1.rs ?_ (by omega), h8.1.len⟩
      rw [LoOk_iff, h8.2.1]
      exact livK_lo h2.lo
    · exact (hI.each j (by omega)).1.new.1
    · exact (hI.each j (by omega)).1.new.2
    · simp [Value.ownBlock] at hk
      have := hI.nb
      omega
/-- The document's answer. -/
theorem SqP.one {c : Cf} {m : Int} {bs : List Int} {hs : List Hd} {Lh : Nat} {w w' : World} {e : Ending} (h : SqP c m bs hs Lh w e w') (hL : Lh ≤ 1048576) : ∃ (E : Int) (lo : Option Addr) (S lc : Nat) (rs : List Lr), e = .returned (.tuple #[.slice lo S lc, .int .i64 E]) ∧ AnsP c m bs hs E S (fun j => (rs.getD j Lr.zero).hs.map Hd.kv) ∧ LRs w' lo rs ∧ S = rs.length ∧ Fr [] w w' := by
  have nil : ∀ W : World, LRs W none [] := fun W => ⟨fun h => by simp at h, by simp, fun j hj => by simp at hj⟩
  rcases h with ⟨h1, rfl, h3⟩ | ⟨h1, h2, rfl, h3⟩ | ⟨h1, h2, so, S, oc, rs, hc, rfl, hI⟩
  · exact ⟨7, none, 0, 0, [], rfl, ⟨fun _ => ⟨rfl, rfl⟩, fun h => absurd h h1, fun h => absurd h h1⟩, nil w', rfl, h3⟩
  · exact ⟨1, none, 0, 0, [], rfl, ⟨fun h => absurd h1 h, fun _ _ => ⟨rfl, rfl⟩, fun _ h => absurd h h2⟩, nil w', rfl, h3⟩
  · have hs16 : S ≤ 16 := by have := h1.2.1.2; rw [hc] at this; omega
    refine ⟨0, so, S, oc, rs, rfl, ⟨fun h => absurd h1 h, fun _ h => absurd h2 h, fun _ _ => ⟨rfl, hc, fun j hj => (hI.each j hj).2.1⟩⟩, ⟨fun h0 => ?_, by have := hI.len; omega, fun j hj => ?_⟩, hI.len, hI.fr⟩
    · have hl := hI.len
      rcases hI.row.2 with ⟨_, hh⟩ | ⟨g, cap, cur, hv, _, hg, _, _, _, ht⟩
      · omega
      · cases hv
        refine ⟨g, 0, rfl, lt_of_block hg, fun j hj => ?_⟩
        rw [cell_of_row _ _ _ _ _ _ hg, Nat.zero_add, ← Array.getElem?_toList]
        have hx : (rs.map Lr.v)[j]? = some (rs.getD j Lr.zero).v := by simp [List.getD, hj]
        rw [← hx, ← ht, List.getElem?_take_of_lt (by omega)]
    · have hl := hI.len
      have h8 := hI.each j (by omega)
      refine ⟨h8.1.rs ?_ (by omega), h8.1.len⟩
      rw [LoOk_iff, h8.2.1]
      exact livK_lo h2.lo
end Go.Proofs.YtldghdbfhikcoaaGreatDoor
