/- What the law DiskPlays keeps from step to step: the Book and its lists lie apart from the disks. Conditions as each lemma names them. -/
import Derived.Test.YtgoonbikhdbkiaaGreatDoorAskedL
import Derived.Test.YtgoonbikhdbkiaaGreatDoorBkApart
namespace Go.Proofs.YtgoonbikhdbkiaaGreatDoor
open Go.ChangeShapes Go.WideShapes Go.ChangeAt Go.RowKit Go.Lib

set_option maxHeartbeats 1000000 in
theorem rNew_ok (C : Nat) (w : World) (h : C ≤ 16777216) : Calls Tryz.prog 6 #[.int .i64 (C : Int)] w fun e w' => e = .returned (.tuple #[ptr w.heap.size, .int .i64 0]) ∧ Rk w' w.heap.size (.slice none 0 0) (.slice none 0 0) (St.new C) ∧ Fr [] w w' := by
  have h0 : (0 : Int) ≤ C := by omega
  have h1 : (C : Int) ≤ 16777216 := by omega
  go_enter Tryz.func6, Tryz.ntmps6
  go_wp2
  go_ret2
  exact ⟨rfl, ⟨heap_alloc_new w _, own_row_nil _, own_row_nil _, by intro k hk; simp [Value.ownBlock] at hk⟩, Fr.alloc _ _ _⟩
set_option maxHeartbeats 1000000 in
theorem rNew_no (n : Int) (w : World) (h : n < 0 ∨ 16777216 < n) : Calls Tryz.prog 6 #[.int .i64 n] w fun e w' => e = .returned (.tuple #[.pointer none, .int .i64 1]) ∧ w = w' := by
  rcases h with h | h
  · go_enter Tryz.func6, Tryz.ntmps6
    go_wp2
    go_ret2
    exact ⟨rfl, rfl⟩
  · have h0 : 0 ≤ n := by omega
    go_enter Tryz.func6, Tryz.ntmps6
    go_wp2
    go_ret2
    exact ⟨rfl, rfl⟩
/-- Both disks are new. -/
theorem pr_new {w0 w w' : World} {g : Nat} {S : List Nat} {C : Nat} (h : LD w0 w g S (St.new C)) (hC : C ≤ 16777216) (hR : Rk w' w.heap.size (.slice none 0 0) (.slice none 0 0) (St.new C)) (hF : Fr [] w w') : PR w0 w' g w.heap.size S (dOwn w.heap.size (.slice none 0 0) (.slice none 0 0)) (St.new C) (St.new C) := by
  have hS : ∀ k ∈ dOwn w.heap.size (.slice none 0 0) (.slice none 0 0), k = w.heap.size := by
    intro k hk
    rcases mem_dOwn.1 hk with rfl | hk | hk
    · rfl
    · simp [Value.ownBlock] at hk
    · simp [Value.ownBlock] at hk
  have h' := h.quiet hF
  refine ⟨h', ⟨⟨_, _, hR, rfl⟩, ?_, St.new_ok C hC, h'.fr⟩, ?_⟩
  · intro k hk
    rw [hS k hk]
    exact h.fr.size
  · intro k hk hm
    have := h.lt k hk
    rw [hS k hm] at this
    omega

/-- The Book, apart from the blocks S. -/
structure LB (w0 : World) (S : List Nat) (bk : Nat) (rv : Value) (hs : List HB) (w : World) : Prop where
  book : Bk w bk rv hs
  p0 : ∀ (j : Nat) (h : HB), hs[j]? = some h → P0 w h
  alone : Alone hs
  num : Num hs
  fresh : Fresh hs
  newbk : w0.heap.size ≤ bk
  newrv : ∀ k, rv.ownBlock = some k → w0.heap.size ≤ k
  newl : ∀ (j : Nat) (h : HB), hs[j]? = some h → ∀ k, h.l.ownBlock = some k → w0.heap.size ≤ k
  bkS : bk ∉ S
  rvS : ∀ k, rv.ownBlock = some k → k ∉ S
  lS : ∀ (j : Nat) (h : HB), hs[j]? = some h → ∀ k, h.l.ownBlock = some k → k ∉ S
section
variable {w0 w w' : World} {S S' : List Nat} {bk : Nat} {rv : Value} {hs : List HB}
theorem LB.step (h : LB w0 S bk rv hs w) (hT : To S S' w w') : LB w0 S' bk rv hs w' :=
  { h with
    book := h.book.keep hT.fr h.bkS h.rvS
    p0 := fun j b hb => (h.p0 j b hb).keep hT.fr (h.lS j b hb)
    bkS := not_grown hT (lt_of_block h.book.box) h.bkS
    rvS := fun k hk => not_grown hT (h.book.row.lt k hk).2 (h.rvS k hk)
    lS := fun j b hb k hk => by
      obtain ⟨cs, hc⟩ := (h.p0 j b hb).type k hk
      exact not_grown hT (lt_of_block hc) (h.lS j b hb k hk) }
theorem LB.quiet (h : LB w0 S bk rv hs w) (hf : Fr [] w w') : LB w0 S bk rv hs w' := h.step (To.quiet hf)
/-- A list of bytes that is held by nobody yet. -/
structure Lo (w0 w : World) (l : Value) (S : List Nat) (hs : List HB) : Prop where
  own : ∃ n vs, w.ownsRow 0 5 1 l n vs ∧ n < 2^40
  new : ∀ k, l.ownBlock = some k → w0.heap.size ≤ k
  nS : ∀ k, l.ownBlock = some k → k ∉ S
  nhs : ∀ (j : Nat) (h : HB), hs[j]? = some h → ∀ k, l.ownBlock = some k → h.l.ownBlock ≠ some k
theorem Lo.of_new {ao : Option Addr} {n cap : Nat} {xs : List Nat} (h : LB w0 S bk rv hs w) (h0 : Fr [] w0 w) (hS : ∀ k ∈ S, k < w.heap.size) (hl : Fre w w' ao n cap xs) (hn : n < 2^40) : Lo w0 w' (.slice ao n cap) S hs := by
  refine ⟨⟨n, _, hl.own, hn⟩, fun k hk => Nat.le_trans h0.size (hl.new k hk), fun k hk hm => ?_, fun j b hb k hk hk' => ?_⟩
  · have := hS k hm
    have := hl.new k hk
    omega
  · obtain ⟨cs, hc⟩ := (h.p0 j b hb).type k hk'
    have := lt_of_block hc
    have := hl.new k hk
    omega
/-- The Book was told a list. -/
theorem LB.told {rv' l : Value} (h : LB w0 S bk rv hs w) (h0 : Fr [] w0 w) (hS : ∀ k ∈ S, k < w.heap.size) (hl : Lo w0 w l S hs) (hB : Bk w' bk rv' (hs ++ [⟨l, .slice none 0 0, hs.length + 1⟩])) (hF : Fr (bk :: rv.ownBlock.toList) w w') (hM : Moved w.heap.size rv rv') :
    LB w0 S bk rv' (hs ++ [⟨l, .slice none 0 0, hs.length + 1⟩]) w' := by
  have hrt := own_type h.book.row
  have hin : ∀ {b : Nat} {cs : Array Value} {t : TypeId} {f : Nat × Nat}, w.heap[b]? = some (.cells cs t f) → t ≠ 43 → t ≠ 69 → b ∉ bk :: rv.ownBlock.toList := by
    intro b cs t f hb h1 h2 hm
    rcases List.mem_cons.1 hm with hm | hm
    · exact ne_types hb h.book.box h1 hm
    · exact own_not hrt hb h2.symm hm
  have hbyte : ∀ {u : Value}, (∀ k, u.ownBlock = some k → ∃ cs, w.heap[k]? = some (.cells cs 5 (0, 0))) → ∀ k, u.ownBlock = some k → k ∉ bk :: rv.ownBlock.toList := by
    intro u hu k hk
    obtain ⟨cs, hc⟩ := hu k hk
    exact hin hc (by decide) (by decide)
  have hget : ∀ (j : Nat) (b : HB), (hs ++ [⟨l, .slice none 0 0, hs.length + 1⟩])[j]? = some b → hs[j]? = some b ∨ (j = hs.length ∧ b = ⟨l, .slice none 0 0, hs.length + 1⟩) := by
    intro j b hb
    by_cases hj : j < hs.length
    · rw [List.getElem?_append_left hj] at hb
      exact Or.inl hb
    · rw [List.getElem?_append_right (by omega)] at hb
      by_cases hj2 : j = hs.length
      · subst hj2
        simp at hb
        exact Or.inr ⟨rfl, hb.symm⟩
      · rw [List.getElem?_eq_none (by simp; omega)] at hb
        cases hb
  obtain ⟨ln, lvs, hlo, hlf⟩ := hl.own
  refine
    { h with
      book := hB
      p0 := ?_
      alone := ?_
      num := ?_
      fresh := ?_
      newrv := hM.lt h0.size h.newrv
      newl := ?_
      rvS := ?_
      lS := ?_ }
  · intro j b hb
    rcases hget j b hb with hb | ⟨_, rfl⟩
    · exact (h.p0 j b hb).keep hF (hbyte (h.p0 j b hb).type)
    · exact ⟨_, _, owns_keep hlo hF (hbyte (own_type hlo)), hlf⟩
  · intro i j a b hia hjb hij k hka hkb
    rcases hget i a hia with hia | ⟨hi, rfl⟩
    · rcases hget j b hjb with hjb | ⟨hj, rfl⟩
      · exact h.alone i j a b hia hjb hij k hka hkb
      · exact hl.nhs i a hia k hkb hka
    · rcases hget j b hjb with hjb | ⟨hj, rfl⟩
      · exact hl.nhs j b hjb k hka hkb
      · omega
  · intro j b hb
    rcases hget j b hb with hb | ⟨rfl, rfl⟩
    · exact h.num j b hb
    · rfl
  · intro j b hb
    rcases hget j b hb with hb | ⟨rfl, rfl⟩
    · exact h.fresh j b hb
    · rfl
  · intro j b hb
    rcases hget j b hb with hb | ⟨rfl, rfl⟩
    · exact h.newl j b hb
    · exact hl.new
  · intro k hk hm
    rcases hM with hM | ⟨x, hx, hge⟩
    · exact h.rvS k (hM ▸ hk) hm
    · rw [hx] at hk; cases hk
      have := hS k hm
      omega
  · intro j b hb
    rcases hget j b hb with hb | ⟨rfl, rfl⟩
    · exact h.lS j b hb
    · exact hl.nS
theorem LB.bookS (h : LB w0 S bk rv hs w) : ∀ k ∈ bk :: rv.ownBlock.toList, k ∉ S := by
  intro k hk
  rcases List.mem_cons.1 hk with rfl | hk
  · exact h.bkS
  · exact h.rvS k (by simpa using hk)
theorem LB.bookN (h : LB w0 S bk rv hs w) : ∀ k ∈ bk :: rv.ownBlock.toList, w0.heap.size ≤ k := by
  intro k hk
  rcases List.mem_cons.1 hk with rfl | hk
  · exact h.newbk
  · exact h.newrv k (by simpa using hk)
theorem LB.listS (h : LB w0 S bk rv hs w) : ∀ k ∈ rv.ownBlock.toList ++ lbs hs, k ∉ S := by
  intro k hk
  rcases List.mem_append.1 hk with hk | hk
  · exact h.rvS k (by simpa using hk)
  · obtain ⟨b, hb, hbk⟩ := mem_lbs.1 hk
    obtain ⟨j, hj⟩ := List.getElem?_of_mem hb
    exact h.lS j b hj k hbk
theorem LB.listN (h : LB w0 S bk rv hs w) : ∀ k ∈ rv.ownBlock.toList ++ lbs hs, w0.heap.size ≤ k := by
  intro k hk
  rcases List.mem_append.1 hk with hk | hk
  · exact h.newrv k (by simpa using hk)
  · obtain ⟨b, hb, hbk⟩ := mem_lbs.1 hk
    obtain ⟨j, hj⟩ := List.getElem?_of_mem hb
    exact h.newl j b hj k hbk
theorem LB.start (h0 : Fr [] w0 w) (hS : ∀ k ∈ S, k < w.heap.size) (hb : w'.heap[w.heap.size]? = some (.cells #[.int .i64 0, .slice none 0 0, .slice none 0 0, .slice none 0 0, .slice none 0 0, .slice none 0 0, .slice none 0 0, .slice none 0 0, .slice none 0 0, .slice none 0 0, .slice none 0 0, .slice none 0 0] 43 (0, 0))) : LB w0 S w.heap.size (.slice none 0 0) [] w' := by
  refine ⟨⟨hb, World.ownsRow_nil _ _ _ _, by simp⟩, by simp, ?_, ?_, ?_, h0.size, ?_, ?_, ?_, ?_, ?_⟩
  · intro i j a b ha; simp at ha
  · intro j b hb; simp at hb
  · intro j b hb; simp at hb
  · intro k hk; simp [Value.ownBlock] at hk
  · intro j b hb; simp at hb
  · intro hm; have := hS _ hm; omega
  · intro k hk; simp [Value.ownBlock] at hk
  · intro j b hb; simp at hb
end
section
variable {w0 w w' : World} {gd gr : Nat} {SD SR : List Nat} {t : St} {bk : Nat} {rv : Value} {hs : List HB}
theorem PR.lt (h : PR w0 w gd gr SD SR t t) : ∀ k ∈ SD ++ SR, k < w.heap.size := by
  intro k hk
  rcases List.mem_append.1 hk with hk | hk
  · exact h.d.lt k hk
  · exact h.r.lt k hk
theorem PR.keepT {T : List Nat} (h : PR w0 w gd gr SD SR t t) (hf : Fr T w w') (hT : ∀ k ∈ T, k ∉ SD ++ SR) (hN : ∀ k ∈ T, w0.heap.size ≤ k) : PR w0 w' gd gr SD SR t t :=
  h.keepS hf (fun k hk => ⟨fun hm => hT k hk (List.mem_append_left _ hm), fun hm => hT k hk (List.mem_append_right _ hm)⟩) hN
end
end Go.Proofs.YtgoonbikhdbkiaaGreatDoor
