/- A Book is told lists of keys, and the list of them. Conditions: the lists lie apart, none of them is held yet. -/
import Derived.Test.YtldghdbfhikcoaaGreatDoorTe18
import Derived.Test.YtldghdbfhikcoaaGreatDoorSo18
import Derived.Test.YtldghdbfhikcoaaGreatDoorAp5
import Derived.Test.YtldghdbfhikcoaaGreatDoorKpHeldList
namespace Go.Proofs.YtldghdbfhikcoaaGreatDoor
open BigFrame Go.ChangeShapes Go.WideShapes Go.ChangeAt Go.RowKit Go.Lib Go.Maps
set_option linter.unusedVariables false
set_option linter.unusedSimpArgs false
theorem HOut.dtsN {V w : World} {ro : Option Addr} {N rc : Nat} {hs : List Hd} (h : HOut V w ro N rc hs) (hr : ∀ x ∈ hs, x.vs.length ≤ 1048576) (hN : N < 2097152) : Bq.Dts w ro N rc (dsOf hs) := by
  refine ⟨by rw [dsOf_C]; exact Bq.own_base8 h.row, by rw [h.len]; simp [dsOf], hN, fun i d hd => ?_, fun i j a b ha hb hij k hka hkb => ?_⟩
  · obtain ⟨x, hx, rfl⟩ := dsOf_get hd
    have hm := List.mem_of_getElem? hx
    obtain ⟨n, vs, h1, h2⟩ := Bq.P0.of_out (n := 0) (h.each x hm) (by have := (h.each x hm).len; have := hr x hm; omega)
    exact ⟨n, vs, h1, h2⟩
  · obtain ⟨x, hx, rfl⟩ := dsOf_get ha
    obtain ⟨y, hy, rfl⟩ := dsOf_get hb
    obtain ⟨p, hp, e1⟩ := own_blk9 hka
    obtain ⟨q, hq, e2⟩ := own_blk9 hkb
    have hil := (List.getElem?_eq_some_iff.1 hx).1
    have hjl := (List.getElem?_eq_some_iff.1 hy).1
    have hxe := (List.getElem?_eq_some_iff.1 hx).2
    have hye := (List.getElem?_eq_some_iff.1 hy).2
    rcases Nat.lt_or_gt_of_ne hij with hlt | hlt
    · have := List.pairwise_iff_getElem.1 h.apart i j hil hjl hlt
      rw [hxe, hye] at this
      exact this p q hp hq (e1.trans e2.symm)
    · have := List.pairwise_iff_getElem.1 h.apart j i hjl hil hlt
      rw [hxe, hye] at this
      exact this q p hq hp (e2.trans e1.symm)
namespace Bq
/-- A Book's four kinds and its one list of lists. -/
structure B5 (w : World) (bk : Nat) (rB rI rW rT : Value) (hB hI hW hT : List HB) (rL : Value) (eL : HB) : Prop where
  box : ∃ cs, Bx5 w bk cs
  sB : S0 kByte w bk rB hB
  sI : S0 kInt w bk rI hI
  sW : S0 kHeld w bk rW hW
  sT : S0 kVersion w bk rT hT
  sL : S0 kHL w bk rL [eL]
set_option maxHeartbeats 1000000 in
theorem tellHL {w0 w : World} {bk T : Nat} {rB rI rW rT : Value} {hB hI hW hT : List HB} (h : B4 w0 w bk T rB rI rW rT hB hI hW hT) (ao : Option Addr) (L cap : Nat) (hp : P0 kHL w ⟨.slice ao L cap, .slice none 0 0, T + 1⟩) (hT2 : T < 67108862) :
    Calls Tryz.prog 98 #[.pointer (some ⟨bk, 0, none⟩), .slice ao L cap] w fun e w' => e = .returned (.tuple #[]) ∧ ∃ rL, B5 w' bk rB rI rW rT hB hI hW hT rL ⟨.slice ao L cap, .slice none 0 0, T + 1⟩ ∧ Fr [bk] w w' ∧ (∀ k, rL.ownBlock = some k → w.heap.size ≤ k) := by
  obtain ⟨cs, hX, hc0⟩ := h.box
  have hb := hX.box
  have h9 : cs[9]? = some (.slice none 0 0) := hX.rest 9 (by omega)
  have hS0 : S0 kHL w bk (.slice none 0 0) [] := ⟨⟨⟨cs, hb, h9⟩, World.ownsRow_nil _ _ _ _, by simp, by simp⟩, by simp, fun i j a b ha => by simp at ha, fun j h hh => by simp at hh⟩
  refine (keepHeldList_any bk cs (.slice none 0 0) [] T ao L cap w hb hX.size hc0 h9 (World.ownsRow_nil _ _ _ _) (by simp) (by omega)).mono ?_
  rintro e w' ⟨rfl, rL, hb', hrow', hF', hM'⟩
  have hF1 : Fr (bk :: ([] : List Nat)) w w' := by simpa [Value.ownBlock] using hF'
  have h12 := hX.size
  have hoth : ∀ j, j ≠ 0 → j ≠ 9 → ((cs.setIfInBounds 0 (.int .i64 ((T : Int) + 1))).setIfInBounds 9 rL)[j]? = cs[j]? := by
    intro j h0 h1
    rw [Array.getElem?_setIfInBounds_ne (fun e => h1 e.symm), Array.getElem?_setIfInBounds_ne (fun e => h0 e.symm)]
  have h99 : ((cs.setIfInBounds 0 (.int .i64 ((T : Int) + 1))).setIfInBounds 9 rL)[9]? = some rL := by
    rw [Array.getElem?_setIfInBounds_self]
    simp [h12]
  have key : ∀ {J : Kd} {rv : Value} {hs : List HB}, S0 J w bk rv hs → J.col ≠ 0 → J.col ≠ 9 → S0 J w' bk rv hs := fun {J rv hs} hJ h0 h1 => by
    obtain ⟨cs2, b2, hc2⟩ := hJ.bl.box
    rw [hb] at b2
    simp only [Option.some.injEq, Obj.cells.injEq, and_true] at b2
    subst b2
    exact hJ.beside hb' (by rw [hoth _ h0 h1]; exact hc2) hF1 (Off.nil _ _)
  refine ⟨rfl, rL, ⟨⟨_, hb', by simpa using h12, fun c hc => ?_⟩, key h.sB (by decide) (by decide), key h.sI (by decide) (by decide), key h.sW (by decide) (by decide), key h.sT (by decide) (by decide), ?_⟩, hF1, fun k hk => ?_⟩
  · rw [hoth c (by omega) (by omega)]
    exact hX.rest c (by omega)
  · have := hS0.told (.slice ao L cap) (T + 1) hb' h99 hrow' hF' hp (by omega) (by simp) (by simp [lbs])
    simpa using this
  · rcases moved_of hM' hk with q | q
    · simp [Value.ownBlock] at q
    · exact q
/-- Lists of keys in memory, apart from one another. -/
structure Lss (w : World) (lo : Option Addr) (S lc : Nat) (rs : List Lr) : Prop where
  len : S = rs.length
  row : w.ownsRow 0 23 1 (.slice lo S lc) S (rs.map Lr.v)
  few : S ≤ 16
  each : ∀ j, j < S → Dts w (rs.getD j Lr.zero).ro (rs.getD j Lr.zero).N (rs.getD j Lr.zero).rc (dsOf (rs.getD j Lr.zero).hs) ∧ (rs.getD j Lr.zero).N ≤ 1048576
  far : ∀ j k, j < k → k < S → (rs.getD j Lr.zero).Far (rs.getD k Lr.zero)
theorem Lss.keep {w w' : World} {lo : Option Addr} {S lc : Nat} {rs : List Lr} (h : Lss w lo S lc rs) (hf : Fr [] w w') : Lss w' lo S lc rs :=
  ⟨h.len, owns_keep h.row hf (by simp), h.few, fun j hj => ⟨(h.each j hj).1.keep hf (by simp) (by simp), (h.each j hj).2⟩, h.far⟩
theorem Lss.at {w : World} {lo : Option Addr} {S lc : Nat} {rs : List Lr} (h : Lss w lo S lc rs) (j : Nat) (hj : j < S) : ∃ lb, lo = some ⟨lb, 0, none⟩ ∧ w.cell? ⟨lb, j, none⟩ = some (rs.getD j Lr.zero).v := by
  obtain ⟨g, c, hh, _⟩ := own_form h.row (by omega)
  cases hh
  refine ⟨g, rfl, ?_⟩
  rw [h.row.cellAt j (by omega)]
  have hl := h.len
  simp [List.getD, show j < rs.length by omega]
/-- What a Book has been told of the first i lists. -/
structure TLi (wb wr : World) (bk : Nat) (rB rI : Value) (hB hI : List HB) (PW PT : Nat → Prop) (rs : List Lr) (i : Nat) (T : Nat) (rW rT : Value) (hW hT : List HB) : Prop where
  b4 : B4 wb wr bk T rB rI rW rT hB hI hW hT
  fr : Fr [] wb wr
  t : T ≤ 1048580 + i * 1048577
  w : ∀ k ∈ lbs hW, PW k ∨ ∃ j, j < i ∧ (rs.getD j Lr.zero).v.ownBlock = some k
  v : ∀ k ∈ lbs hT, PT k ∨ ∃ j, j < i ∧ ∃ x ∈ (rs.getD j Lr.zero).hs, (Value.slice x.vo x.L x.cap).ownBlock = some k
theorem dsOf_some {hs : List Hd} {i : Nat} {d : Dt} (h : (dsOf hs)[i]? = some d) : ∃ x ∈ hs, d.2 = .slice x.vo x.L x.cap := by
  obtain ⟨x, hx, rfl⟩ := dsOf_get h
  exact ⟨x, List.mem_of_getElem? hx, rfl⟩
theorem own_ap {a b : Option Addr} {L c M d k : Nat} (h : Apa a b) (ha : (Value.slice a L c).ownBlock = some k) (hb : (Value.slice b M d).ownBlock = some k) : False := by
  obtain ⟨p, hp, e1⟩ := own_blk9 ha
  obtain ⟨q, hq, e2⟩ := own_blk9 hb
  exact h p q hp hq (e1.trans e2.symm)
set_option maxHeartbeats 8000000 in
set_option maxRecDepth 100000 in
theorem heldLists_any {wb w : World} {bk T : Nat} {rB rI rW rT : Value} {hB hI hW hT : List HB} {PW PT : Nat → Prop} {rs : List Lr} (lo : Option Addr) (S lc : Nat) (h : TLi wb w bk rB rI hB hI PW PT rs 0 T rW rT hW hT) (hL : Lss wb lo S lc rs)
    (hnW : ∀ j, j < S → ∀ k, (rs.getD j Lr.zero).v.ownBlock = some k → ¬ PW k) (hnT : ∀ j, j < S → ∀ x ∈ (rs.getD j Lr.zero).hs, ∀ k, (Value.slice x.vo x.L x.cap).ownBlock = some k → ¬ PT k) :
    Calls Tryz.prog 26 #[.pointer (some ⟨bk, 0, none⟩), .slice lo S lc] w fun e w' => e = .returned (.tuple #[]) ∧ ∃ T' rW' rT' hW' hT' rL w1, TLi wb w1 bk rB rI hB hI PW PT rs S T' rW' rT' hW' hT' ∧ B5 w' bk rB rI rW' rT' hB hI hW' hT' rL ⟨.slice lo S lc, .slice none 0 0, T' + 1⟩ ∧ Fr [bk] w1 w' ∧ (∀ k, rL.ownBlock = some k → w1.heap.size ≤ k) := by
  have HH : Hid (TLi wb w bk rB rI hB hI PW PT rs 0 T rW rT hW hT) := h
  have HL : Hid (∀ W, Fr [] wb W → Lss W lo S lc rs) := fun W hf => hL.keep hf
  have hS16 : S ≤ 16 := hL.few
  have HN : Hid ((∀ j, j < S → ∀ k, (rs.getD j Lr.zero).v.ownBlock = some k → ¬ PW k) ∧ (∀ j, j < S → ∀ x ∈ (rs.getD j Lr.zero).hs, ∀ k, (Value.slice x.vo x.L x.cap).ownBlock = some k → ¬ PT k)) := ⟨hnW, hnT⟩
  clear h hL hnW hnT
  go_enter Tryz.func26, Tryz.ntmps26
  go_wp2_with fail
  go_loopw [4] (fun ii wr => ∃ (i T' : Nat) (rW' rT' : Value) (hW' hT' : List HB), ii = .int .i64 i ∧ i ≤ S ∧ Hid (TLi wb wr bk rB rI hB hI PW PT rs i T' rW' rT' hW' hT')) (fun ii _ => S - (RowKit.intOf ii).toNat)
  case atStart => exact ⟨0, T, rW, rT, hW, hT, rfl, Nat.zero_le _, HH⟩
  case round =>
    clear HH
    obtain ⟨i, T', rW', rT', hW', hT', rfl, hiS, HI⟩ := hrel
    by_cases hi : i < S
    · have hlt : (i : Int) < S := by omega
      obtain ⟨lb, rfl, hc⟩ := (HL.out _ HI.out.fr).at i hi
      obtain ⟨hD, hN⟩ := (HL.out _ HI.out.fr).each i hi
      have htb := HI.out.t
      have hC := helds_any HI.out.b4 _ _ _ _ hD (fun q d hd k hk hm => by
        obtain ⟨x, hx, e⟩ := dsOf_some hd
        rw [e] at hk
        rcases HI.out.v k hm with p | ⟨j, hj, y, hy, hyk⟩
        · exact HN.out.2 i hi x hx k hk p
        · exact own_ap (((HL.out _ HI.out.fr).far j i hj hi).2 y hy x hx) hyk hk) (fun k hk hm => by
        rcases HI.out.w k hm with p | ⟨j, hj, hyk⟩
        · exact HN.out.1 i hi k hk p
        · exact own_ap ((HL.out _ HI.out.fr).far j i hj hi).1 hyk hk) (by
        have : i * 1048577 ≤ 15 * 1048577 := Nat.mul_le_mul_right _ (by omega)
        omega)
      have HNx : Hid (∀ rTn rWn w1, B4 wb w1 bk (T' + (rs.getD i Lr.zero).N + 1) rB rI rWn rTn hB hI (hW' ++ [⟨.slice (rs.getD i Lr.zero).ro (rs.getD i Lr.zero).N (rs.getD i Lr.zero).rc, .slice none 0 0, T' + (rs.getD i Lr.zero).N + 1⟩]) (hT' ++ held T' (dsOf (rs.getD i Lr.zero).hs)) → Fr (bk :: (rT'.ownBlock.toList ++ rW'.ownBlock.toList)) wr w1 →
          ∃ (T2 : Nat) (rW2 rT2 : Value) (hW2 hT2 : List HB), Hid (TLi wb w1 bk rB rI hB hI PW PT rs (i + 1) T2 rW2 rT2 hW2 hT2)) := fun rTn rWn w1 hB1 hF1 => by
        refine ⟨_, _, _, _, _, ⟨hB1, HI.out.fr.on hF1 (fun q hq => ?_), ?_, fun k hk => ?_, fun k hk => ?_⟩⟩
        · rcases List.mem_cons.1 hq with rfl | hq
          · exact HI.out.b4.bn
          · rcases List.mem_append.1 hq with hq | hq
            · exact HI.out.b4.rTn q (by simpa using hq)
            · exact HI.out.b4.rWn q (by simpa using hq)
        · rw [Nat.add_mul]
          omega
        · rcases lbs_snoc hk with e | e
          · rcases HI.out.w k e with p | ⟨j, hj, q⟩
            · exact Or.inl p
            · exact Or.inr ⟨j, by omega, q⟩
          · exact Or.inr ⟨i, by omega, e⟩
        · rw [lbs_append] at hk
          rcases List.mem_append.1 hk with e | e
          · rcases HI.out.v k e with p | ⟨j, hj, q⟩
            · exact Or.inl p
            · exact Or.inr ⟨j, by omega, q⟩
          · obtain ⟨q, d, hd, hdk⟩ := mem_held e
            obtain ⟨x, hx, e2⟩ := dsOf_some hd
            rw [e2] at hdk
            exact Or.inr ⟨i, by omega, x, hx, hdk⟩
      obtain ⟨⟨r1, N1, k1, l1⟩, hr1⟩ : ∃ r, r = rs.getD i Lr.zero := ⟨_, rfl⟩
      rw [← hr1] at hc hC HNx
      simp only [Lr.v] at hc
      simp only at hC HNx
      have HC : Hid (Calls _ _ _ _ _) := hC
      clear hD hN hC htb hr1
      go_wp2_with fail
      refine Calls.mono HC.out ?_
      rintro e w1 ⟨rfl, rTn, rWn, hB1, hF1, _, _⟩
      obtain ⟨T2, rW2, rT2, hW2, hT2, HI2⟩ := HNx.out rTn rWn w1 hB1 hF1
      clear hB1 hF1 HC HNx hc HI
      go_wp2_with fail
      go_roundw
      case rel => exact ⟨i + 1, T2, rW2, rT2, hW2, hT2, by simp, by omega, HI2⟩
      case measure => simp [RowKit.intOf]; omega
    · have hlt : ¬ (i : Int) < S := by omega
      have hiS2 : i = S := by omega
      have HI2 : Hid (TLi wb wr bk rB rI hB hI PW PT rs S T' rW' rT' hW' hT') := by rw [← hiS2]; exact HI
      have htb := HI2.out.t
      have hC := tellHL HI2.out.b4 lo S lc ⟨S, rs.map Lr.v, Cut.of (HL.out _ HI2.out.fr).row, by omega⟩ (by
        have : S * 1048577 ≤ 16 * 1048577 := Nat.mul_le_mul_right _ (by omega)
        omega)
      have HC : Hid (Calls _ _ _ _ _) := hC
      clear hC htb hiS2 HI
      go_wp2_with fail
      refine Calls.mono HC.out ?_
      rintro e w2 ⟨rfl, rL, hB5, hF5, hn5⟩
      have HR : Hid (B5 w2 bk rB rI rW' rT' hB hI hW' hT' rL ⟨.slice lo S lc, .slice none 0 0, T' + 1⟩ ∧ Fr [bk] wr w2 ∧ (∀ k, rL.ownBlock = some k → wr.heap.size ≤ k)) := ⟨hB5, hF5, hn5⟩
      clear hB5 hF5 hn5 HC
      go_wp2_with fail
      go_end0
      exact ⟨rfl, T', rW', rT', hW', hT', rL, wr, HI2.out, HR.out⟩
end Bq
end Go.Proofs.YtldghdbfhikcoaaGreatDoor
