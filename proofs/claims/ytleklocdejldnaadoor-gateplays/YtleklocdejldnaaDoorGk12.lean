/- Both gates beside a Book of numbers: what each call leaves. Conditions as each names them. -/
import Derived.Test.YtleklocdejldnaaDoorGv12
namespace Go.Proofs.YtleklocdejldnaaDoor
open Go.ChangeShapes Go.WideShapes Go.ChangeAt Go.RowKit Go.Lib Go.Maps
set_option linter.unusedVariables false
set_option linter.unusedSimpArgs false

theorem Bq.B2.stay {w0 w w' : World} {bk T : Nat} {rB rI : Value} {hB hI : List Bq.HB} {S : List Nat} (h : Bq.B2 w0 w bk T rB rI hB hI) (hf : Fr S w w') (hS : ∀ k ∈ S, ∃ cs t, w.heap[k]? = some (.cells cs t (0, 0)) ∧ (t = 53 ∨ t = 67)) : Bq.B2 w0 w' bk T rB rI hB hI := by
  obtain ⟨cs, hX, hc⟩ := h.box
  have o1 : Bq.Off Bq.kVersion S w := fun k hk => by
    obtain ⟨c, t, h1, h2⟩ := hS k hk
    refine ⟨c, t, h1, ?_, ?_, ?_⟩ <;> rcases h2 with rfl | rfl <;> decide
  have o2 : Bq.Off Bq.kInt S w := fun k hk => by
    obtain ⟨c, t, h1, h2⟩ := hS k hk
    refine ⟨c, t, h1, ?_, ?_, ?_⟩ <;> rcases h2 with rfl | rfl <;> decide
  exact ⟨⟨cs, hX.keep hf (o2.notB hX.box), hc⟩, h.sB.stay hf o1, h.sI.stay hf o2, h.bn, h.rBn, h.rIn, h.lB, h.lI⟩
/-- Both gates, and a Book beside them. -/
structure Kp (w0 w1 w : World) (p q : Option Addr) (gb ob : List Nat) (bk T : Nat) (lo : Option Addr) (hI : List Bq.HB) (m : Int) (xs : List Int) : Prop where
  pq : Pq w p q gb ob lo m xs
  bo : ∃ rB rI, Bq.B2 w1 w bk T rB rI [] hI
  li : ∀ k ∈ Bq.lbs hI, w0.heap.size ≤ k
  al : ∀ b, qb lo = some b → b ∉ Bq.lbs hI
  fr : Fr [] w0 w
  gn : ∀ k ∈ gb ++ ob, w0.heap.size ≤ k ∧ k < w1.heap.size
  on : w0.heap.size ≤ w1.heap.size
section
variable {w0 w1 w w' : World} {p q : Option Addr} {gb ob : List Nat} {bk T : Nat} {lo : Option Addr} {hI : List Bq.HB} {m : Int} {xs : List Int}
theorem Kp.quiet (h : Kp w0 w1 w p q gb ob bk T lo hI m xs) (hf : Fr [] w w') : Kp w0 w1 w' p q gb ob bk T lo hI m xs := by
  obtain ⟨rB, rI, hb⟩ := h.bo
  exact ⟨h.pq.quiet hf, ⟨rB, rI, hb.keep hf⟩, h.li, h.al, h.fr.then hf, h.gn, h.on⟩
theorem Kp.gty (h : Kp w0 w1 w p q gb ob bk T lo hI m xs) : (∀ k ∈ gb, ∃ cs, w.heap[k]? = some (.cells cs 53 (0, 0))) ∧ (∀ k ∈ ob, ∃ cs, w.heap[k]? = some (.cells cs 67 (0, 0))) := by
  rcases h.pq with ⟨_, _, rfl, rfl, _⟩ | ⟨g, gs, n, c, _, _, rfl, rfl, h1, h2⟩
  · simp
  · exact ⟨fun k hk => by simp at hk; subst hk; exact h1.ty, fun k hk => by simp at hk; subst hk; exact ⟨_, h2.box⟩⟩
theorem kp_tell (h : Kp w0 w1 w p q gb ob bk T lo hI m xs) (ao : Option Addr) (L cap : Nat) (hp : Bq.P0 Bq.kInt w ⟨.slice ao L cap, .slice none 0 0, T + 1⟩) (hal : ∀ k, (Value.slice ao L cap).ownBlock = some k → k ∉ Bq.lbs hI) (hnew : ∀ k, (Value.slice ao L cap).ownBlock = some k → w0.heap.size ≤ k ∧ qb lo ≠ some k) (hT : T < 2097150) :
    Calls Tryd.prog 11 #[.pointer (some ⟨bk, 0, none⟩), .slice ao L cap] w fun e w' => e = .returned (.tuple #[]) ∧ Kp w0 w1 w' p q gb ob bk (T + 1) lo (hI ++ [⟨.slice ao L cap, .slice none 0 0, T + 1⟩]) m xs ∧ ∀ z, ZG w z → ZG w' z := by
  obtain ⟨rB, rI, hb⟩ := h.bo
  refine (Bq.ints_any hb ao L cap hp hal hT).mono ?_
  rintro e w' ⟨rfl, rv', hb', hF, hM⟩
  have hlb : ∀ k, k ∈ Bq.lbs (hI ++ [⟨.slice ao L cap, .slice none 0 0, T + 1⟩]) → k ∈ Bq.lbs hI ∨ (Value.slice ao L cap).ownBlock = some k := fun k hk => by
    obtain ⟨x, hx, hx2⟩ := Bq.mem_lbs.1 hk
    rcases List.mem_append.1 hx with e | e
    · exact Or.inl (Bq.mem_lbs.2 ⟨x, e, hx2⟩)
    · simp at e; subst e; exact Or.inr hx2
  refine ⟨rfl, ⟨h.pq.keep hF (fun k cs hk _ => ?_) (fun b hb2 => ?_), ⟨rB, rv', hb'⟩, fun k hk => ?_, fun b hb2 hk => ?_, h.fr.on hF (fun k hk => ?_), h.gn, h.on⟩, fun z hz => hz.keep hF ?_⟩
  · rcases hk with hk | hk
    · exact hb.spare hk (by decide) (by decide)
    · exact hb.spare hk (by decide) (by decide)
  · obtain ⟨cs, hc⟩ := h.pq.rowT hb2
    exact hb.spare hc (by decide) (by decide)
  · rcases hlb k hk with e | e
    · exact h.li k e
    · exact (hnew k e).1
  · rcases hlb b hk with e | e
    · exact h.al b hb2 e
    · exact (hnew b e).2 hb2
  · rcases List.mem_cons.1 hk with rfl | hk
    · exact Nat.le_trans h.on hb.bn
    · exact Nat.le_trans h.on (hb.rIn k (by simpa using hk))
  · obtain ⟨cs, hc, _⟩ := hz
    exact hb.spare hc (by decide) (by decide)
/-- A row that was made since is told. -/
theorem kp_row (h : Kp w0 w1 w p q gb ob bk T lo hI m xs) (hf : Fr [] w w') {o : Option Addr} {N c : Nat} {ys : List Int} (hO : IOw w.heap.size w' o N c ys) (hN : N ≤ 65536) (hT : T < 2097150) :
    Calls Tryd.prog 11 #[.pointer (some ⟨bk, 0, none⟩), .slice o N c] w' fun e w2 => e = .returned (.tuple #[]) ∧ Kp w0 w1 w2 p q gb ob bk (T + 1) lo (hI ++ [⟨.slice o N c, .slice none 0 0, T + 1⟩]) m xs ∧ ∀ z, ZG w' z → ZG w2 z := by
  refine kp_tell (h.quiet hf) o N c (Bq.P0.ofI hO (by omega)) (fun k hk hm => ?_) (fun k hk => ⟨?_, fun e => ?_⟩) hT
  · obtain ⟨rB, rI, hb⟩ := h.bo
    obtain ⟨cs, hc⟩ := hb.lbsT hm
    have := lt_of_block hc
    have := (hO.blk hk).1
    omega
  · have := (hO.blk hk).1
    have := h.fr.size
    omega
  · have := h.pq.lt e
    have := (hO.blk hk).1
    omega
theorem kp_done (h : Kp w0 w1 w p q gb ob bk T lo hI m xs) (n : Int) : ∃ up er m' xs', Calls Tryd.prog 15 #[.pointer p, .int .i64 n] w fun e wa => e = .returned (.tuple #[.int .i64 up, .int .i64 er]) ∧ Fr [] w0 wa ∧
    Calls Tryd.prog 16 #[.pointer q, .int .i64 n] wa fun e wb => e = .returned (.tuple #[.int .i64 up, .int .i64 er]) ∧ (∃ lo', Kp w0 w1 wb p q gb ob bk T lo' hI m' xs') ∧ ∀ z, w1.heap.size ≤ z → ZG w z → ZG wb z := by
  obtain ⟨up, er, m', xs', hd⟩ := pq_done h.pq n
  refine ⟨up, er, m', xs', hd.mono ?_⟩
  rintro e wa ⟨rfl, hF1, hd2⟩
  have hfa : Fr [] w0 wa := h.fr.on hF1 (fun k hk => (h.gn k (List.mem_append.2 (Or.inl hk))).1)
  refine ⟨rfl, hfa, hd2.mono ?_⟩
  rintro e wb ⟨rfl, hF2, lo', hp', hl⟩
  obtain ⟨rB, rI, hb⟩ := h.bo
  obtain ⟨t1, t2⟩ := h.gty
  have hgo : ∀ k ∈ ob, k ∉ gb := fun k hk hg => by
    obtain ⟨ca, ha⟩ := t1 k hg
    obtain ⟨cb, hb2⟩ := t2 k hk
    exact blk_ne ha hb2 (by decide) rfl
  have hba := hb.stay hF1 (fun k hk => by obtain ⟨c, hc⟩ := t1 k hk; exact ⟨c, _, hc, Or.inl rfl⟩)
  have hbb := hba.stay hF2 (fun k hk => by obtain ⟨c, hc⟩ := t2 k hk; exact ⟨c, _, hF1.keep hc (hgo k hk), Or.inr rfl⟩)
  refine ⟨rfl, ⟨lo', hp', ⟨rB, rI, hbb⟩, h.li, fun b hb2 hm => ?_, hfa.on hF2 (fun k hk => (h.gn k (List.mem_append.2 (Or.inr hk))).1), h.gn, h.on⟩, fun z hz hzg => ?_⟩
  · rcases hl b hb2 with e | e
    · exact h.al b e hm
    · obtain ⟨cs, hc⟩ := hb.lbsT hm
      have := lt_of_block hc
      omega
  · exact (hzg.keep hF1 (fun hm => by have := (h.gn z (List.mem_append.2 (Or.inl hm))).2; omega)).keep hF2 (fun hm => by have := (h.gn z (List.mem_append.2 (Or.inr hm))).2; omega)
theorem kp_apart (h : Kp w0 w1 w p q gb ob bk T lo hI m xs) : Calls Tryd.prog 13 #[.pointer (some ⟨bk, 0, none⟩)] w fun e w' => e = .returned (.bool true) ∧ Pq w' p q gb ob lo m xs ∧ Fr [] w0 w' ∧ (∃ cs, w'.heap[bk]? = some (.cells cs 45 (0, 0)) ∧ cs.size = 12) ∧ ∀ b, qb lo = some b → b < w.heap.size := by
  obtain ⟨rB, rI, hb⟩ := h.bo
  obtain ⟨cs, hX, _⟩ := hb.box
  refine (Bq.apart2_any bk cs rB rI [] hI w hX hb.sB hb.sI).mono ?_
  rintro e w' ⟨rfl, hF⟩
  have hno : ∀ k c t, w.heap[k]? = some (.cells c t (0, 0)) → t ≠ Bq.kVersion.tH → t ≠ Bq.kInt.tH → t ≠ 3 → k ∉ Bq.own2 rB rI [] hI := fun k c t hk h1 h2 h3 => hb.aside hk h1 h2 (fun hm => by
    obtain ⟨cb, hb2⟩ := hb.lbsT hm
    exact blk_ne hk hb2 h3 rfl)
  refine ⟨rfl, h.pq.keep hF (fun k c hk _ => ?_) (fun b hb2 => ?_), h.fr.on hF (fun k hk => ?_), ⟨cs, hF.keep hX.box (hno bk cs _ hX.box (by decide) (by decide) (by decide)), hX.size⟩, fun b hb2 => h.pq.lt hb2⟩
  · rcases hk with hk | hk
    · exact hno k c _ hk (by decide) (by decide) (by decide)
    · exact hno k c _ hk (by decide) (by decide) (by decide)
  · obtain ⟨c, hc⟩ := h.pq.rowT hb2
    exact hb.aside hc (by decide) (by decide) (h.al b hb2)
  · simp only [Bq.own2, List.mem_append, Option.mem_toList] at hk
    rcases hk with (hk | hk) | (hk | hk)
    · exact Nat.le_trans h.on (hb.rBn k hk)
    · simp [Bq.lbs] at hk
    · exact Nat.le_trans h.on (hb.rIn k hk)
    · exact h.li k hk
end
end Go.Proofs.YtleklocdejldnaaDoor
