/- Texts of this claim laid together, one behind the other: contracts and plain lemmas; conditions as each names them. -/
import Derived.Test.YtldghdbfhikcoaaGreatDoorGp17
import Derived.Test.YtldghdbfhikcoaaGreatDoorGp43
import Derived.Test.YtldghdbfhikcoaaGreatDoorGp45
import Derived.Test.YtldghdbfhikcoaaGreatDoorGp48
import Derived.Test.YtldghdbfhikcoaaGreatDoorGp14
/- What the Book does when it is told one more list (HeldList). Conditions: fewer than 2^26 lists. -/
namespace Go.Proofs.YtldghdbfhikcoaaGreatDoor.Bq
open Go.ChangeShapes Go.WideShapes Go.ChangeAt Go.RowKit Go.Lib
set_option linter.unusedVariables false

theorem Tryz.infoHHeldList : (Tryz.prog.info? 168).map (fun i => (i.zero, i.size, i.bytes)) = some (some (.agg #[.slice none 0 0, .slice none 0 0, .int .i64 0]), 3, 56) := by kernel_rfl
theorem Tryz.undHHeldLists : Tryz.prog.underlying 44 = some (.slice 168) := by kernel_rfl

set_option maxHeartbeats 4000000 in
set_option maxRecDepth 100000 in
theorem keepHeldList_any (bk : Nat) (cs : Array Value) (rv : Value) (hs : List HB) (T : Nat) (ao : Option Addr) (L cap : Nat) (w : World) (hb0 : w.heap[bk]? = some (.cells cs 48 (0, 0))) (h12 : cs.size = 12) (hc0 : cs[0]? = some (.int .i64 (T : Int))) (hc1 : cs[9]? = some rv) (hr0 : w.ownsRow 0 168 3 rv hs.length (rowOf hs)) (hfew : hs.length < 67108864) (hT : T < 134217728) :
    Calls Tryz.prog 98 #[.pointer (some ⟨bk, 0, none⟩), .slice ao L cap] w fun e w' => e = .returned (.tuple #[]) ∧ ∃ rv', w'.heap[bk]? = some (.cells ((cs.setIfInBounds 0 (.int .i64 ((T : Int) + 1))).setIfInBounds 9 rv') 48 (0, 0)) ∧ w'.ownsRow 0 168 3 rv' (hs.length + 1) (rowOf (hs ++ [⟨.slice ao L cap, .slice none 0 0, T + 1⟩])) ∧ Fr (bk :: rv.ownBlock.toList) w w' ∧ Moved w.heap.size rv rv' := by
  obtain ⟨i0, hi, hz0, hz1, hz2⟩ := info_parts Tryz.infoHHeldList
  have c0 : w.cell? ⟨bk, 0, none⟩ = some (.int .i64 (T : Int)) := by rw [cell_of_row _ _ _ _ _ _ hb0, hc0]
  have c1 : w.cell? ⟨bk, 9, none⟩ = some rv := by rw [cell_of_row _ _ _ _ _ _ hb0, hc1]
  have f0 : w.frozen? ⟨bk, 0, none⟩ = false := by simp [World.frozen?, hb0]
  have f1 : w.frozen? ⟨bk, 9, none⟩ = false := by simp [World.frozen?, hb0]
  obtain ⟨N, HN⟩ : ∃ N, Hid (N = hs.length) := ⟨_, rfl⟩
  have hrow := hr0
  rw [← HN.out] at hrow hfew
  have hoth : rv.ownBlock ≠ some bk := by
    intro e
    obtain ⟨cs', hc⟩ := own_type hr0 bk e
    rw [hb0] at hc
    simp at hc
  obtain ⟨rao, rcap, hrv⟩ := own_slice hrow
  subst hrv
  clear hr0
  go_enter Tryz.func98, Tryz.ntmps98
  go_wp2_with fail
  obtain ⟨w1, hw1⟩ : ∃ w1, w1 = w.setCell ⟨bk, 0, none⟩ (.int .i64 ((T : Int) + 1)) := ⟨_, rfl⟩
  rw [← hw1]
  have hF1 : Fr [bk] w w1 := by rw [hw1]; exact Fr.set _ _ _ (by simp)
  have hbox : w1.heap[bk]? = some (.cells (cs.setIfInBounds 0 (.int .i64 ((T : Int) + 1))) 48 (0, 0)) := by rw [hw1, row_setCell _ hb0]
  have hO1 : w1.ownsRow 0 168 3 (.slice rao N rcap) N (rowOf hs) := by rw [hw1]; exact ownsRow_setCell_other hrow hoth _
  have hcs0 : (cs.setIfInBounds 0 (.int .i64 ((T : Int) + 1)))[0]? = some (.int .i64 ((T : Int) + 1)) := by rw [Array.getElem?_setIfInBounds_self]; simp [h12]
  have hcs1 : (cs.setIfInBounds 0 (.int .i64 ((T : Int) + 1)))[9]? = some (.slice rao N rcap) := by rw [Array.getElem?_setIfInBounds_ne (by omega)]; exact hc1
  have d0 : w1.cell? ⟨bk, 0, none⟩ = some (.int .i64 ((T : Int) + 1)) := by rw [cell_of_row _ _ _ _ _ _ hbox, hcs0]
  have d1 : w1.cell? ⟨bk, 9, none⟩ = some (.slice rao N rcap) := by rw [cell_of_row _ _ _ _ _ _ hbox, hcs1]
  have e1 : w1.frozen? ⟨bk, 9, none⟩ = false := by simp [World.frozen?, hbox]
  clear hw1 c0 c1 f0 f1 hrow
  have hFa : Fr [] w1 (w1.alloc (Obj.cells #[.slice ao L cap, .slice none 0 0, .int .i64 ((T : Int) + 1)] 168)).drew := (Fr.alloc [] w1 _).then (Fr.drew [] _)
  have HOa : Hid ((w1.alloc (Obj.cells #[.slice ao L cap, .slice none 0 0, .int .i64 ((T : Int) + 1)] 168)).drew.ownsRow 0 168 3 (.slice rao N rcap) N (rowOf hs)) := owns_keep hO1 hFa (by simp)
  have HNw : Hid (∀ (j : Nat) u, [Value.slice ao L cap, .slice none 0 0, .int .i64 ((T : Int) + 1)][j]? = some u → (w1.alloc (Obj.cells #[.slice ao L cap, .slice none 0 0, .int .i64 ((T : Int) + 1)] 168)).drew.cell? ((⟨w1.heap.size, 0, none⟩ : Addr).add j) = some u) := by
    intro j u hj
    have hn : (w1.alloc (Obj.cells #[.slice ao L cap, .slice none 0 0, .int .i64 ((T : Int) + 1)] 168)).drew.heap[w1.heap.size]? = some (Obj.cells #[.slice ao L cap, .slice none 0 0, .int .i64 ((T : Int) + 1)] 168) := heap_alloc_new w1 _
    rw [show (⟨w1.heap.size, 0, none⟩ : Addr).add j = ⟨w1.heap.size, j, none⟩ from by simp [Addr.add]; omega, cell_of_row _ _ _ _ _ _ hn]
    simpa using hj
  have hboxa := (Fr.alloc [] w1 (Obj.cells #[.slice ao L cap, .slice none 0 0, .int .i64 ((T : Int) + 1)] 168)).keep hbox (by simp)
  have d0a : (w1.alloc (Obj.cells #[.slice ao L cap, .slice none 0 0, .int .i64 ((T : Int) + 1)] 168)).cell? ⟨bk, 0, none⟩ = some (.int .i64 ((T : Int) + 1)) := by rw [cell_of_row _ _ _ _ _ _ hboxa, hcs0]
  have d1a : (w1.alloc (Obj.cells #[.slice ao L cap, .slice none 0 0, .int .i64 ((T : Int) + 1)] 168)).cell? ⟨bk, 9, none⟩ = some (.slice rao N rcap) := by rw [cell_of_row _ _ _ _ _ _ hboxa, hcs1]
  clear hboxa
  have HOne : Hid (∀ u ∈ [Value.slice ao L cap, .slice none 0 0, .int .i64 ((T : Int) + 1)], u.oneCell' = true) := by
    intro u hu
    simp at hu
    rcases hu with rfl | rfl | rfl <;> rfl
  have HK : Hid (∀ (g cap' : Nat) (w' : World), w'.ownsRow 0 168 3 (.slice (some ⟨g, 0, none⟩) (N + 1) cap') (N + 1) (rowOf hs ++ [Value.slice ao L cap, .slice none 0 0, .int .i64 ((T : Int) + 1)]) → Went (w1.alloc (Obj.cells #[.slice ao L cap, .slice none 0 0, .int .i64 ((T : Int) + 1)] 168)).drew (.slice rao N rcap) g w' →
      w'.cell? ⟨bk, 9, none⟩ = some (.slice rao N rcap) ∧ w'.frozen? ⟨bk, 9, none⟩ = false ∧ Hid ((w'.setCell ⟨bk, 9, none⟩ (.slice (some ⟨g, 0, none⟩) (N + 1) cap')).heap[bk]? = some (.cells ((cs.setIfInBounds 0 (.int .i64 ((T : Int) + 1))).setIfInBounds 9 (.slice (some ⟨g, 0, none⟩) (N + 1) cap')) 48 (0, 0)) ∧ (w'.setCell ⟨bk, 9, none⟩ (.slice (some ⟨g, 0, none⟩) (N + 1) cap')).ownsRow 0 168 3 (.slice (some ⟨g, 0, none⟩) (N + 1) cap') (hs.length + 1) (rowOf (hs ++ [⟨.slice ao L cap, .slice none 0 0, T + 1⟩])) ∧ Fr (bk :: (Value.slice rao N rcap).ownBlock.toList) w (w'.setCell ⟨bk, 9, none⟩ (.slice (some ⟨g, 0, none⟩) (N + 1) cap')) ∧ Moved w.heap.size (.slice rao N rcap) (.slice (some ⟨g, 0, none⟩) (N + 1) cap'))) := by
    intro g cap' w' hO hW
    have hFw := hW.fr
    have hF1w : Fr (Value.slice rao N rcap).ownBlock.toList w1 w' := hFa.trans hFw (by simp) (fun x hx _ => hx)
    have hbox' := hF1w.keep hbox (by simpa using hoth)
    refine ⟨by rw [cell_of_row _ _ _ _ _ _ hbox', hcs1], by simp [World.frozen?, hbox'], ?_, ?_, ?_, ?_⟩
    · rw [row_setCell _ hbox']
    · have hne : (Value.slice (some ⟨g, 0, none⟩) (N + 1) cap').ownBlock ≠ some bk := by
        intro e
        obtain ⟨cs', hc⟩ := own_type hO bk e
        rw [hbox'] at hc
        simp at hc
      have e : HB.cells ⟨.slice ao L cap, .slice none 0 0, T + 1⟩ = [.slice ao L cap, .slice none 0 0, .int .i64 ((T : Int) + 1)] := by simp [HB.cells]
      rw [rowOf_snoc, e, ← HN.out]
      exact ownsRow_setCell_other hO hne _
    · refine (hF1.trans (hF1w.trans (U := bk :: (Value.slice rao N rcap).ownBlock.toList) (Fr.set (S := [bk]) w' ⟨bk, 9, none⟩ _ (by simp)) ?_ ?_) ?_ (fun x hx _ => hx))
      · intro x hx _; exact List.mem_cons_of_mem _ hx
      · intro x hx _; simp at hx; simp [hx]
      · intro x hx _; simp at hx; simp [hx]
    · have hs1 := hF1.size
      have hs2 := hFa.size
      exact (Moved.refl w.heap.size _).trans hW.moved (by omega)
  clear hcs0 hcs1
  go_region_law (refine step_app _ rfl (.tmp 15) (.tmp 22) 44 rfl 168 i0 _ 3 56 Tryz.undHHeldLists hi hz0 hz1 hz2 rfl (by omega) (.slice rao N rcap) N (rowOf hs) (by simp [Act.eval]) HOa.out ⟨w1.heap.size, 0, none⟩ 1 [.slice ao L cap, .slice none 0 0, .int .i64 ((T : Int) + 1)] (by simp [Act.eval]) rfl HNw.out HOne.out (by omega) (by simp only [maxLen]; omega) ?_; intro g cap' w' hO2 hW2; obtain ⟨q1, q2, q3⟩ := HK.out g cap' w' hO2 hW2)
  all_goals (go_wp2_with fail; go_end0; exact ⟨rfl, _, q3.out⟩)
end Go.Proofs.YtldghdbfhikcoaaGreatDoor.Bq
/- A Book is told lists of keys, and the list of them. Conditions: the lists lie apart, none of them is held yet. -/
namespace Go.Proofs.YtldghdbfhikcoaaGreatDoor
open BigFrame Go.ChangeShapes Go.WideShapes Go.ChangeAt Go.RowKit Go.Lib Go.Maps
set_option linter.unusedVariables false
set_option linter.unusedSimpArgs false
theorem HOut.dtsN {V w : World} {ro : Option Addr} {N rc : Nat} {hs : List Hd} (h : HOut V w ro N rc hs) (hr : ∀ x ∈ hs, x.vs.length ≤ 1048576) (hN : N < 2097152) : Bq.Dts w ro N rc (dsOf hs) := by
  refine ⟨by rw [dsOf_C]; exact Bq.own_base8 h.row, by rw [h.len]; simp [dsOf], hN, fun i d hd => ?_, fun i j a b ha hb hij k hka hkb => ?_⟩
  · obtain ⟨x, hx, rfl⟩ := dsOf_get hd
    have hm := List.mem_of_getElem? hx
    obtain ⟨n, vs, h1, h2⟩ := Bq.P0.of_out (n := 0) (h.each x hm) (by have := (h.each x hm).len; have := hr x hm; omega)
    exact ⟨n, vs, h1, h2⟩
  · obtain ⟨x, hx, rfl⟩ := dsOf_get ha
    obtain ⟨y, hy, rfl⟩ := dsOf_get hb
    obtain ⟨p, hp, e1⟩ := own_blk9 hka
    obtain ⟨q, hq, e2⟩ := own_blk9 hkb
    have hil := (List.getElem?_eq_some_iff.1 hx).1
    have hjl := (List.getElem?_eq_some_iff.1 hy).1
    have hxe := (List.getElem?_eq_some_iff.1 hx).2
    have hye := (List.getElem?_eq_some_iff.1 hy).2
    rcases Nat.lt_or_gt_of_ne hij with hlt | hlt
    · have := List.pairwise_iff_getElem.1 h.apart i j hil hjl hlt
      rw [hxe, hye] at this
      exact this p q hp hq (e1.trans e2.symm)
    · have := List.pairwise_iff_getElem.1 h.apart j i hjl hil hlt
      rw [hxe, hye] at this
      exact this q p hq hp (e2.trans e1.symm)
namespace Bq
/-- A Book's four kinds and its one list of lists. -/
structure B5 (w : World) (bk : Nat) (rB rI rW rT : Value) (hB hI hW hT : List HB) (rL : Value) (eL : HB) : Prop where
  box : ∃ cs, Bx5 w bk cs
  sB : S0 kByte w bk rB hB
  sI : S0 kInt w bk rI hI
  sW : S0 kHeld w bk rW hW
  sT : S0 kVersion w bk rT hT
  sL : S0 kHL w bk rL [eL]
set_option maxHeartbeats 1000000 in
theorem tellHL {w0 w : World} {bk T : Nat} {rB rI rW rT : Value} {hB hI hW hT : List HB} (h : B4 w0 w bk T rB rI rW rT hB hI hW hT) (ao : Option Addr) (L cap : Nat) (hp : P0 kHL w ⟨.slice ao L cap, .slice none 0 0, T + 1⟩) (hT2 : T < 67108862) :
    Calls Tryz.prog 98 #[.pointer (some ⟨bk, 0, none⟩), .slice ao L cap] w fun e w' => e = .returned (.tuple #[]) ∧ ∃ rL, B5 w' bk rB rI rW rT hB hI hW hT rL ⟨.slice ao L cap, .slice none 0 0, T + 1⟩ ∧ Fr [bk] w w' ∧ (∀ k, rL.ownBlock = some k → w.heap.size ≤ k) := by
  obtain ⟨cs, hX, hc0⟩ := h.box
  have hb := hX.box
  have h9 : cs[9]? = some (.slice none 0 0) := hX.rest 9 (by omega)
  have hS0 : S0 kHL w bk (.slice none 0 0) [] := ⟨⟨⟨cs, hb, h9⟩, World.ownsRow_nil _ _ _ _, by simp, by simp⟩, by simp, fun i j a b ha => by simp at ha, fun j h hh => by simp at hh⟩
  refine (keepHeldList_any bk cs (.slice none 0 0) [] T ao L cap w hb hX.size hc0 h9 (World.ownsRow_nil _ _ _ _) (by simp) (by omega)).mono ?_
  rintro e w' ⟨rfl, rL, hb', hrow', hF', hM'⟩
  have hF1 : Fr (bk :: ([] : List Nat)) w w' := by simpa [Value.ownBlock] using hF'
  have h12 := hX.size
  have hoth : ∀ j, j ≠ 0 → j ≠ 9 → ((cs.setIfInBounds 0 (.int .i64 ((T : Int) + 1))).setIfInBounds 9 rL)[j]? = cs[j]? := by
    intro j h0 h1
    rw [Array.getElem?_setIfInBounds_ne (fun e => h1 e.symm), Array.getElem?_setIfInBounds_ne (fun e => h0 e.symm)]
  have h99 : ((cs.setIfInBounds 0 (.int .i64 ((T : Int) + 1))).setIfInBounds 9 rL)[9]? = some rL := by
    rw [Array.getElem?_setIfInBounds_self]
    simp [h12]
  have key : ∀ {J : Kd} {rv : Value} {hs : List HB}, S0 J w bk rv hs → J.col ≠ 0 → J.col ≠ 9 → S0 J w' bk rv hs := fun {J rv hs} hJ h0 h1 => by
    obtain ⟨cs2, b2, hc2⟩ := hJ.bl.box
    rw [hb] at b2
    simp only [Option.some.injEq, Obj.cells.injEq, and_true] at b2
    subst b2
    exact hJ.beside hb' (by rw [hoth _ h0 h1]; exact hc2) hF1 (Off.nil _ _)
  refine ⟨rfl, rL, ⟨⟨_, hb', by simpa using h12, fun c hc => ?_⟩, key h.sB (by decide) (by decide), key h.sI (by decide) (by decide), key h.sW (by decide) (by decide), key h.sT (by decide) (by decide), ?_⟩, hF1, fun k hk => ?_⟩
  · rw [hoth c (by omega) (by omega)]
    exact hX.rest c (by omega)
  · have := hS0.told (.slice ao L cap) (T + 1) hb' h99 hrow' hF' hp (by omega) (by simp) (by simp [lbs])
    simpa using this
  · rcases moved_of hM' hk with q | q
    · simp [Value.ownBlock] at q
    · exact q
/-- Lists of keys in memory, apart from one another. -/
structure Lss (w : World) (lo : Option Addr) (S lc : Nat) (rs : List Lr) : Prop where
  len : S = rs.length
  row : w.ownsRow 0 23 1 (.slice lo S lc) S (rs.map Lr.v)
  few : S ≤ 16
  each : ∀ j, j < S → Dts w (rs.getD j Lr.zero).ro (rs.getD j Lr.zero).N (rs.getD j Lr.zero).rc (dsOf (rs.getD j Lr.zero).hs) ∧ (rs.getD j Lr.zero).N ≤ 1048576
  far : ∀ j k, j < k → k < S → (rs.getD j Lr.zero).Far (rs.getD k Lr.zero)
theorem Lss.keep {w w' : World} {lo : Option Addr} {S lc : Nat} {rs : List Lr} (h : Lss w lo S lc rs) (hf : Fr [] w w') : Lss w' lo S lc rs :=
  ⟨h.len, owns_keep h.row hf (by simp), h.few, fun j hj => ⟨(h.each j hj).1.keep hf (by simp) (by simp), (h.each j hj).2⟩, h.far⟩
theorem Lss.at {w : World} {lo : Option Addr} {S lc : Nat} {rs : List Lr} (h : Lss w lo S lc rs) (j : Nat) (hj : j < S) : ∃ lb, lo = some ⟨lb, 0, none⟩ ∧ w.cell? ⟨lb, j, none⟩ = some (rs.getD j Lr.zero).v := by
  obtain ⟨g, c, hh, _⟩ := own_form h.row (by omega)
  cases hh
  refine ⟨g, rfl, ?_⟩
  rw [h.row.cellAt j (by omega)]
  have hl := h.len
  simp [List.getD, show j < rs.length by omega]
/-- What a Book has been told of the first i lists. -/
structure TLi (wb wr : World) (bk : Nat) (rB rI : Value) (hB hI : List HB) (PW PT : Nat → Prop) (rs : List Lr) (i : Nat) (T : Nat) (rW rT : Value) (hW hT : List HB) : Prop where
  b4 : B4 wb wr bk T rB rI rW rT hB hI hW hT
  fr : Fr [] wb wr
  t : T ≤ 1048580 + i * 1048577
  w : ∀ k ∈ lbs hW, PW k ∨ ∃ j, j < i ∧ (rs.getD j Lr.zero).v.ownBlock = some k
  v : ∀ k ∈ lbs hT, PT k ∨ ∃ j, j < i ∧ ∃ x ∈ (rs.getD j Lr.zero).hs, (Value.slice x.vo x.L x.cap).ownBlock = some k
theorem dsOf_some {hs : List Hd} {i : Nat} {d : Dt} (h : (dsOf hs)[i]? = some d) : ∃ x ∈ hs, d.2 = .slice x.vo x.L x.cap := by
  obtain ⟨x, hx, rfl⟩ := dsOf_get h
  exact ⟨x, List.mem_of_getElem? hx, rfl⟩
theorem own_ap {a b : Option Addr} {L c M d k : Nat} (h : Apa a b) (ha : (Value.slice a L c).ownBlock = some k) (hb : (Value.slice b M d).ownBlock = some k) : False := by
  obtain ⟨p, hp, e1⟩ := own_blk9 ha
  obtain ⟨q, hq, e2⟩ := own_blk9 hb
  exact h p q hp hq (e1.trans e2.symm)
set_option maxHeartbeats 8000000 in
set_option maxRecDepth 100000 in
theorem heldLists_any {wb w : World} {bk T : Nat} {rB rI rW rT : Value} {hB hI hW hT : List HB} {PW PT : Nat → Prop} {rs : List Lr} (lo : Option Addr) (S lc : Nat) (h : TLi wb w bk rB rI hB hI PW PT rs 0 T rW rT hW hT) (hL : Lss wb lo S lc rs)
    (hnW : ∀ j, j < S → ∀ k, (rs.getD j Lr.zero).v.ownBlock = some k → ¬ PW k) (hnT : ∀ j, j < S → ∀ x ∈ (rs.getD j Lr.zero).hs, ∀ k, (Value.slice x.vo x.L x.cap).ownBlock = some k → ¬ PT k) :
    Calls Tryz.prog 26 #[.pointer (some ⟨bk, 0, none⟩), .slice lo S lc] w fun e w' => e = .returned (.tuple #[]) ∧ ∃ T' rW' rT' hW' hT' rL w1, TLi wb w1 bk rB rI hB hI PW PT rs S T' rW' rT' hW' hT' ∧ B5 w' bk rB rI rW' rT' hB hI hW' hT' rL ⟨.slice lo S lc, .slice none 0 0, T' + 1⟩ ∧ Fr [bk] w1 w' ∧ (∀ k, rL.ownBlock = some k → w1.heap.size ≤ k) := by
  have HH : Hid (TLi wb w bk rB rI hB hI PW PT rs 0 T rW rT hW hT) := h
  have HL : Hid (∀ W, Fr [] wb W → Lss W lo S lc rs) := fun W hf => hL.keep hf
  have hS16 : S ≤ 16 := hL.few
  have HN : Hid ((∀ j, j < S → ∀ k, (rs.getD j Lr.zero).v.ownBlock = some k → ¬ PW k) ∧ (∀ j, j < S → ∀ x ∈ (rs.getD j Lr.zero).hs, ∀ k, (Value.slice x.vo x.L x.cap).ownBlock = some k → ¬ PT k)) := ⟨hnW, hnT⟩
  clear h hL hnW hnT
  go_enter Tryz.func26, Tryz.ntmps26
  go_wp2_with fail
  go_loopw [4] (fun ii wr => ∃ (i T' : Nat) (rW' rT' : Value) (hW' hT' : List HB), ii = .int .i64 i ∧ i ≤ S ∧ Hid (TLi wb wr bk rB rI hB hI PW PT rs i T' rW' rT' hW' hT')) (fun ii _ => S - (RowKit.intOf ii).toNat)
  case atStart => exact ⟨0, T, rW, rT, hW, hT, rfl, Nat.zero_le _, HH⟩
  case round =>
    clear HH
    obtain ⟨i, T', rW', rT', hW', hT', rfl, hiS, HI⟩ := hrel
    by_cases hi : i < S
    · have hlt : (i : Int) < S := by omega
      obtain ⟨lb, rfl, hc⟩ := (HL.out _ HI.out.fr).at i hi
      obtain ⟨hD, hN⟩ := (HL.out _ HI.out.fr).each i hi
      have htb := HI.out.t
      have hC := helds_any HI.out.b4 _ _ _ _ hD (fun q d hd k hk hm => by
        obtain ⟨x, hx, e⟩ := dsOf_some hd
        rw [e] at hk
        rcases HI.out.v k hm with p | ⟨j, hj, y, hy, hyk⟩
        · exact HN.out.2 i hi x hx k hk p
        · exact own_ap (((HL.out _ HI.out.fr).far j i hj hi).2 y hy x hx) hyk hk) (fun k hk hm => by
        rcases HI.out.w k hm with p | ⟨j, hj, hyk⟩
        · exact HN.out.1 i hi k hk p
        · exact own_ap ((HL.out _ HI.out.fr).far j i hj hi).1 hyk hk) (by
        have : i * 1048577 ≤ 15 * 1048577 := Nat.mul_le_mul_right _ (by omega)
        omega)
      have HNx : Hid (∀ rTn rWn w1, B4 wb w1 bk (T' + (rs.getD i Lr.zero).N + 1) rB rI rWn rTn hB hI (hW' ++ [⟨.slice (rs.getD i Lr.zero).ro (rs.getD i Lr.zero).N (rs.getD i Lr.zero).rc, .slice none 0 0, T' + (rs.getD i Lr.zero).N + 1⟩]) (hT' ++ held T' (dsOf (rs.getD i Lr.zero).hs)) → Fr (bk :: (rT'.ownBlock.toList ++ rW'.ownBlock.toList)) wr w1 →
          ∃ (T2 : Nat) (rW2 rT2 : Value) (hW2 hT2 : List HB), Hid (TLi wb w1 bk rB rI hB hI PW PT rs (i + 1) T2 rW2 rT2 hW2 hT2)) := fun rTn rWn w1 hB1 hF1 => by
        refine ⟨_, _, _, _, _, ⟨hB1, HI.out.fr.on hF1 (fun q hq => ?_), ?_, fun k hk => ?_, fun k hk => ?_⟩⟩
        · rcases List.mem_cons.1 hq with rfl | hq
          · exact HI.out.b4.bn
          · rcases List.mem_append.1 hq with hq | hq
            · exact HI.out.b4.rTn q (by simpa using hq)
            · exact HI.out.b4.rWn q (by simpa using hq)
        · rw [Nat.add_mul]
          omega
        · rcases lbs_snoc hk with e | e
          · rcases HI.out.w k e with p | ⟨j, hj, q⟩
            · exact Or.inl p
            · exact Or.inr ⟨j, by omega, q⟩
          · exact Or.inr ⟨i, by omega, e⟩
        · rw [lbs_append] at hk
          rcases List.mem_append.1 hk with e | e
          · rcases HI.out.v k e with p | ⟨j, hj, q⟩
            · exact Or.inl p
            · exact Or.inr ⟨j, by omega, q⟩
          · obtain ⟨q, d, hd, hdk⟩ := mem_held e
            obtain ⟨x, hx, e2⟩ := dsOf_some hd
            rw [e2] at hdk
            exact Or.inr ⟨i, by omega, x, hx, hdk⟩
      obtain ⟨⟨r1, N1, k1, l1⟩, hr1⟩ : ∃ r, r = rs.getD i Lr.zero := ⟨_, rfl⟩
      rw [← hr1] at hc hC HNx
      simp only [Lr.v] at hc
      simp only at hC HNx
      have HC : Hid (Calls _ _ _ _ _) := hC
      clear hD hN hC htb hr1
      go_wp2_with fail
      refine Calls.mono HC.out ?_
      rintro e w1 ⟨rfl, rTn, rWn, hB1, hF1, _, _⟩
      obtain ⟨T2, rW2, rT2, hW2, hT2, HI2⟩ := HNx.out rTn rWn w1 hB1 hF1
      clear hB1 hF1 HC HNx hc HI
      go_wp2_with fail
      go_roundw
      case rel => exact ⟨i + 1, T2, rW2, rT2, hW2, hT2, by simp, by omega, HI2⟩
      case measure => simp [RowKit.intOf]; omega
    · have hlt : ¬ (i : Int) < S := by omega
      have hiS2 : i = S := by omega
      have HI2 : Hid (TLi wb wr bk rB rI hB hI PW PT rs S T' rW' rT' hW' hT') := by rw [← hiS2]; exact HI
      have htb := HI2.out.t
      have hC := tellHL HI2.out.b4 lo S lc ⟨S, rs.map Lr.v, Cut.of (HL.out _ HI2.out.fr).row, by omega⟩ (by
        have : S * 1048577 ≤ 16 * 1048577 := Nat.mul_le_mul_right _ (by omega)
        omega)
      have HC : Hid (Calls _ _ _ _ _) := hC
      clear hC htb hiS2 HI
      go_wp2_with fail
      refine Calls.mono HC.out ?_
      rintro e w2 ⟨rfl, rL, hB5, hF5, hn5⟩
      have HR : Hid (B5 w2 bk rB rI rW' rT' hB hI hW' hT' rL ⟨.slice lo S lc, .slice none 0 0, T' + 1⟩ ∧ Fr [bk] wr w2 ∧ (∀ k, rL.ownBlock = some k → wr.heap.size ≤ k)) := ⟨hB5, hF5, hn5⟩
      clear hB5 hF5 hn5 HC
      go_wp2_with fail
      go_end0
      exact ⟨rfl, T', rW', rT', hW', hT', rL, wr, HI2.out, HR.out⟩
end Bq
end Go.Proofs.YtldghdbfhikcoaaGreatDoor
/- Are keys with their versions the same: contracts of SameHeld and SameHelds. Conditions as each names them. -/
namespace Go.Proofs.YtldghdbfhikcoaaGreatDoor
open Go.ChangeShapes Go.WideShapes Go.ChangeAt Go.RowKit Go.Lib Go.Maps
set_option linter.unusedVariables false
set_option linter.unusedSimpArgs false

set_option maxHeartbeats 4000000 in
set_option maxRecDepth 100000 in
theorem sameHeld_any (key : ByteArray) (vo vo' : Option Addr) (L c c' : Nat) (vs : List Vn) (w : World) (h1 : VRs w vo vs) (h2 : VRs w vo' vs) (hL : L = vs.length) :
    Calls Tryz.prog 148 #[.agg #[.string key, .slice vo L c], .agg #[.string key, .slice vo' L c']] w fun e w' => e = .returned (.bool true) ∧ Fr [] w w' := by
  have HV : Hid (∀ W, Fr [] w W → Calls Tryz.prog 172 #[.slice vo L c, .slice vo' L c'] W fun e w' => e = .returned (.bool true) ∧ Fr [] W w') := fun W hf => sameVs_any vo vo' L L c c' true vs vs W (h1.keep hf) (h2.keep hf) hL hL ⟨fun _ => rfl, fun _ => rfl⟩
  have HFr : Hid (Fr [] w ((w.alloc (.cells #[.string key, .slice vo L c] 73)).alloc (.cells #[.string key, .slice vo' L c'] 73))) := (Fr.alloc [] _ _).then (Fr.alloc [] _ _)
  have HC : Hid (Calls _ _ _ _ _) := HV.out _ HFr.out
  clear h1 h2 hL HV
  go_enter Tryz.func148, Tryz.ntmps148
  go_wp2_with fail
  refine Calls.mono HC.out ?_
  rintro e w1 ⟨rfl, hF1⟩
  go_wp2
  go_ret
  exact ⟨rfl, HFr.out.then hF1⟩
def hkv (h : Hd) : ByteArray × List Vn := (h.key, h.vs)
set_option maxHeartbeats 4000000 in
set_option maxRecDepth 100000 in
theorem sameHelds_any (ro ro' : Option Addr) (N rc rc' : Nat) (hs hs' : List Hd) (w : World) (h1 : HRs w ro hs) (h2 : HRs w ro' hs') (hN : N = hs.length) (he : hs.map hkv = hs'.map hkv) :
    Calls Tryz.prog 91 #[.slice ro N rc, .slice ro' N rc'] w fun e w' => e = .returned (.bool true) ∧ Fr [] w w' := by
  have hl : hs.length = hs'.length := by have := congrArg List.length he; simpa using this
  have HN : Hid (N = hs.length ∧ N = hs'.length) := ⟨hN, by omega⟩
  have hNf : N ≤ 3518437208882 := by rw [hN]; exact h1.few
  have HE : Hid (∀ W, Fr [] w W → HRs W ro hs ∧ HRs W ro' hs') := fun W hf => ⟨h1.keep hf, h2.keep hf⟩
  have HEq : Hid (∀ i, i < N → hkv (hs.getD i Hd.zero) = hkv (hs'.getD i Hd.zero)) := fun i hi => by
    have e1 : (hs.map hkv)[i]? = (hs'.map hkv)[i]? := by rw [he]
    simp only [List.getElem?_map, List.getElem?_eq_getElem (show i < hs.length by omega), List.getElem?_eq_getElem (show i < hs'.length by omega), Option.map_some, Option.some.injEq] at e1
    simpa [List.getD, show i < hs.length by omega, show i < hs'.length by omega] using e1
  clear hN h1 h2 he hl
  go_enter Tryz.func91, Tryz.ntmps91
  go_wp2_with fail
  go_loopw [5] (fun ii wr => ∃ (i : Nat), ii = .int .i64 i ∧ i ≤ N ∧ Hid (Fr [] w wr)) (fun ii _ => N - (RowKit.intOf ii).toNat)
  case atStart => exact ⟨0, rfl, Nat.zero_le _, Fr.refl _ _⟩
  case round =>
    obtain ⟨i, rfl, hiN, HF⟩ := hrel
    by_cases hi : i < N
    · have hi1 : i < hs.length := by rw [← HN.out.1]; exact hi
      have hi2 : i < hs'.length := by rw [← HN.out.2]; exact hi
      obtain ⟨r1, r2⟩ := HE.out _ HF.out
      obtain ⟨g, off, rfl, _, hat⟩ := r1.lies (by omega)
      obtain ⟨g', off', rfl, _, hat'⟩ := r2.lies (by omega)
      obtain ⟨d0, d1⟩ := hat i hi1
      obtain ⟨d2, d3⟩ := hat' i hi2
      have HEa : Hid (∀ W, Fr [] w W → HEach W (hs.getD i Hd.zero) ∧ HEach W (hs'.getD i Hd.zero)) := fun W hf => ⟨(HE.out W hf).1.each _ (hgetD_mem hs i hi1), (HE.out W hf).2.each _ (hgetD_mem hs' i hi2)⟩
      have heq := HEq.out i hi
      obtain ⟨x, hx⟩ : ∃ x, x = hs.getD i Hd.zero := ⟨_, rfl⟩
      obtain ⟨y, hy⟩ : ∃ y, y = hs'.getD i Hd.zero := ⟨_, rfl⟩
      rw [← hx] at d0 d1 HEa heq
      rw [← hy] at d2 d3 HEa heq
      clear hx hy hat hat' r1 r2
      obtain ⟨k1, vo1, L1, c1, vs1⟩ := x
      obtain ⟨k2, vo2, L2, c2, vs2⟩ := y
      simp only [hkv, Prod.mk.injEq] at heq
      obtain ⟨rfl, rfl⟩ := heq
      have hLL : L1 = L2 := by
        have := (HEa.out wr HF.out).1.len
        have := (HEa.out wr HF.out).2.len
        simp only at *
        omega
      subst hLL
      simp only at d0 d1 d2 d3
      have HS : Hid (∀ W, Fr [] wr W → Calls Tryz.prog 148 #[.agg #[.string k1, .slice vo1 L1 c1], .agg #[.string k1, .slice vo2 L1 c2]] W fun e w' => e = .returned (.bool true) ∧ (w'.cell? ⟨g, off + i * 2, none⟩ = some (.string k1) ∧ w'.cell? ⟨g, off + i * 2 + 1, none⟩ = some (.slice vo1 L1 c1) ∧ w'.cell? ⟨g', off' + i * 2, none⟩ = some (.string k1) ∧ w'.cell? ⟨g', off' + i * 2 + 1, none⟩ = some (.slice vo2 L1 c2)) ∧ Fr [] w w') := by
        intro W hW
        have hFW := HF.out.then hW
        refine (sameHeld_any k1 vo1 vo2 L1 c1 c2 vs1 W (HEa.out W hFW).1.rs (HEa.out W hFW).2.rs (HEa.out W hFW).1.len).mono ?_
        rintro e w' ⟨rfl, hf⟩
        have hG := hW.then hf
        have hb : ∀ {q o : Nat} {v : Value}, wr.cell? ⟨q, o, none⟩ = some v → w'.cell? ⟨q, o, none⟩ = some v := fun {q o v} hc => far_cell hG hc (World.block_lt_of_cell? wr ⟨q, o, none⟩ (by rw [hc])) (by simp)
        exact ⟨rfl, ⟨hb d0, hb d1, hb d2, hb d3⟩, hFW.then hf⟩
      go_wp2_with fail
      go_region_held3 (fun W => W.cell? ⟨g, off + i * 2, none⟩ = some (.string k1) ∧ W.cell? ⟨g, off + i * 2 + 1, none⟩ = some (.slice vo1 L1 c1) ∧ W.cell? ⟨g', off' + i * 2, none⟩ = some (.string k1) ∧ W.cell? ⟨g', off' + i * 2 + 1, none⟩ = some (.slice vo2 L1 c2)) (go_keep)
        (first | (go_at_call 148; with_reducible refine (HS.out _ (Fr.drew _ _)).mono ?_; rintro e w2 ⟨rfl, ⟨j0, j1, j2, j3⟩, hF2⟩))
      have HF2 : Hid (Fr [] w w2) := hF2
      clear hF2
      go_wp2_with fail
      go_roundw
      case rel => exact ⟨i + 1, by simp, by omega, HF2⟩
      case measure => simp [RowKit.intOf]; omega
    · go_wp2
      go_ret
      exact ⟨rfl, HF.out⟩
end Go.Proofs.YtldghdbfhikcoaaGreatDoor
