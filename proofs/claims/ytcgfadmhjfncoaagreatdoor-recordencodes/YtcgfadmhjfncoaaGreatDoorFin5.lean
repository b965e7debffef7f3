/- What the Book holds at the end of the law RecordEncodes: no two lists share a block, and all of them were made since the law began. -/
import Derived.Test.YtcgfadmhjfncoaaGreatDoorLaw5
import Derived.Test.YtcgfadmhjfncoaaGreatDoorBkApart
namespace Go.Proofs.YtcgfadmhjfncoaaGreatDoor
open Go.ChangeShapes Go.WideShapes Go.ChangeAt Go.RowKit Go.Lib
set_option linter.unusedVariables false
set_option linter.unusedSimpArgs false

structure Fin5 (w w13 : World) (rv2 : Value) (hs : List HB) (g rc t L : Nat) (ws : List Wt) : Prop where
  p0 : ∀ (j : Nat) (h : HB), hs[j]? = some h → P0 w13 h
  alone : Alone hs
  num : Num 1 hs
  fresh : Fresh hs
  hrow : w13.ownsRow 0 89 3 (.slice (some ⟨g, 0, none⟩) 1 rc) 1 [.slice (some ⟨t, 0, none⟩) L (L + 1), .slice none 0 0, .int .i64 1]
  hl : w13.ownsRow 0 63 3 (.slice (some ⟨t, 0, none⟩) L (L + 1)) L (wtsC ws)
  fr : ∀ w14, Fr (t :: g :: (rv2.ownBlock.toList ++ lbs hs)) w13 w14 → Fr [] w w14

theorem fin5 {w w4 w8 w10 w11 w12 w13 : World} {s5 : Nat} {t L g rc bk N cb1 cb2 : Nat} {b1 b2 : Option Addr} {ws : List Wt} {ys : List Nat} {rv1 rv2 : Value} {hs : List HB} (hhs : hs = [⟨.slice b1 N cb1, .slice none 0 0, 2⟩, ⟨.slice b2 N cb2, .slice none 0 0, 3⟩])
    (h04 : Fr [] w w4) (h48 : Fr [] w4 w8) (h8 : Fr [] w8 w10) (hN : N < 2^40) (hL : L = ws.length) (hLs : L < 2^21) (hwt : w.heap.size ≤ t)
    (hT : w4.heap[t]? = some (.cells (wtsC (ws ++ [spW])).toArray 63 (0, 0)))
    (hO1 : w8.ownsRow 0 5 1 (.slice b1 N cb1) N (bts ys)) (hO2 : w8.ownsRow 0 5 1 (.slice b2 N cb2) N (bts ys))
    (hB1 : ∀ k, (Value.slice b1 N cb1).ownBlock = some k → w4.heap.size ≤ k ∧ k < s5) (hB2 : ∀ k, (Value.slice b2 N cb2).ownBlock = some k → s5 ≤ k) (h5 : w4.heap.size ≤ s5)
    (hbk : w8.heap.size ≤ bk) (hbk2 : bk < w10.heap.size)
    (hg : w10.heap.size ≤ g) (hr11 : w11.ownsRow 0 89 3 (.slice (some ⟨g, 0, none⟩) 1 rc) 1 [.slice (some ⟨t, 0, none⟩) L (L + 1), .slice none 0 0, .int .i64 1])
    (h11 : Fr [bk] w10 w11) (h12 : Fr (bk :: (Value.slice none 0 0).ownBlock.toList) w11 w12) (hM1 : Moved w11.heap.size (.slice none 0 0) rv1)
    (h13 : Fr (bk :: rv1.ownBlock.toList) w12 w13) (hM2 : Moved w12.heap.size rv1 rv2) :
    Fin5 w w13 rv2 hs g rc t L ws := by
  subst hhs
  have e0 : (Value.slice none 0 0).ownBlock.toList = [] := rfl
  rw [e0] at h12
  have s0 := h04.size
  have s1 := h48.size
  have s2 := h8.size
  have s3 := h11.size
  have s4 := h12.size
  have s5' := h13.size
  have htl : t < w4.heap.size := lt_of_block hT
  have hgl : g < w11.heap.size := (hr11.lt g rfl).2
  have hb1l : ∀ k, (Value.slice b1 N cb1).ownBlock = some k → k < w8.heap.size := fun k hk => (hO1.lt k hk).2
  have hb2l : ∀ k, (Value.slice b2 N cb2).ownBlock = some k → k < w8.heap.size := fun k hk => (hO2.lt k hk).2
  have hv1 : ∀ k, rv1.ownBlock = some k → w11.heap.size ≤ k := hM1.lt (Nat.le_refl _) (by intro k hk; simp [Value.ownBlock] at hk)
  have hv2 : ∀ k, rv2.ownBlock = some k → w11.heap.size ≤ k := hM2.lt s4 hv1
  have old : ∀ k, k < w8.heap.size → k ∉ [bk] ∧ k ∉ bk :: rv1.ownBlock.toList := by
    intro k hk
    refine ⟨by simp; omega, ?_⟩
    intro hm
    rcases List.mem_cons.1 hm with h | h
    · omega
    · have := hv1 k (by simpa using h); omega
  have k1 : w13.ownsRow 0 5 1 (.slice b1 N cb1) N (bts ys) :=
    owns_keep (owns_keep (owns_keep (owns_keep hO1 h8 (by simp)) h11 (fun k hk => (old k (hb1l k hk)).1)) h12 (fun k hk => (old k (hb1l k hk)).1)) h13 (fun k hk => (old k (hb1l k hk)).2)
  have k2 : w13.ownsRow 0 5 1 (.slice b2 N cb2) N (bts ys) :=
    owns_keep (owns_keep (owns_keep (owns_keep hO2 h8 (by simp)) h11 (fun k hk => (old k (hb2l k hk)).1)) h12 (fun k hk => (old k (hb2l k hk)).1)) h13 (fun k hk => (old k (hb2l k hk)).2)
  have kr : w13.ownsRow 0 89 3 (.slice (some ⟨g, 0, none⟩) 1 rc) 1 [.slice (some ⟨t, 0, none⟩) L (L + 1), .slice none 0 0, .int .i64 1] := by
    refine owns_keep (owns_keep hr11 h12 ?_) h13 ?_
    · intro k hk; simp [Value.ownBlock] at hk; subst hk; simp; omega
    · intro k hk
      simp [Value.ownBlock] at hk
      subst hk
      intro hm
      rcases List.mem_cons.1 hm with h | h
      · omega
      · have := hv1 g (by simpa using h); omega
  have kt : w13.heap[t]? = some (.cells (wtsC (ws ++ [spW])).toArray 63 (0, 0)) :=
    h13.keep (h12.keep (h11.keep (h8.keep (h48.keep hT (by simp)) (by simp)) (old t (by omega)).1) (old t (by omega)).1) (old t (by omega)).2
  have hF : Fr [] w w13 := by
    refine (((h04.then (h48.then h8)).on h11 (by intro x hx; simp at hx; omega)).on h12 (by intro x hx; simp at hx; omega)).on h13 ?_
    intro x hx
    rcases List.mem_cons.1 hx with h | h
    · omega
    · have := hv1 x (by simpa using h); omega
  refine ⟨?_, ?_, ?_, ?_, kr, twin_owns kt hL hLs, ?_⟩
  · intro j h hj
    match j with
    | 0 => simp at hj; subst hj; exact ⟨N, _, k1, hN⟩
    | 1 => simp at hj; subst hj; exact ⟨N, _, k2, hN⟩
    | j + 2 => simp at hj
  · intro i j a b hi hj hne k hka hkb
    match i, j with
    | 0, 0 => exact hne rfl
    | 1, 1 => exact hne rfl
    | 0, 1 => simp at hi hj; subst hi hj; have := hB1 k hka; have := hB2 k hkb; omega
    | 1, 0 => simp at hi hj; subst hi hj; have := hB1 k hkb; have := hB2 k hka; omega
    | 0, j + 2 => simp at hj
    | 1, j + 2 => simp at hj
    | i + 2, j => simp at hi
  · intro j h hj
    match j with
    | 0 => simp at hj; subst hj; rfl
    | 1 => simp at hj; subst hj; rfl
    | j + 2 => simp at hj
  · intro j h hj
    match j with
    | 0 => simp at hj; subst hj; rfl
    | 1 => simp at hj; subst hj; rfl
    | j + 2 => simp at hj
  · intro w14 h14
    refine hF.on h14 ?_
    intro x hx
    rcases List.mem_cons.1 hx with h | h
    · omega
    rcases List.mem_cons.1 h with h | h
    · omega
    rcases List.mem_append.1 h with h | h
    · have := hv2 x (by simpa using h); omega
    · obtain ⟨b, hb, hk⟩ := mem_lbs.1 h
      simp at hb
      rcases hb with rfl | rfl
      · have := hB1 x hk; omega
      · have := hB2 x hk; omega
end Go.Proofs.YtcgfadmhjfncoaaGreatDoor
