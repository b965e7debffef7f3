/- Texts of this claim laid together, one behind the other: contracts and plain lemmas; conditions as each names them. -/
import Derived.Test.YtpdkdgmaofhlkaaGreatDoorGp25
import Derived.Lib.SliceRun
/- Rows of versions and of keys in memory of their own: VOut, HOut; slices.Clone of versions. Conditions as each names them. -/
namespace Go.Proofs.YtpdkdgmaofhlkaaGreatDoor
open Go.ChangeShapes Go.WideShapes Go.ChangeAt Go.RowKit Go.Lib
set_option linter.unusedVariables false
set_option linter.unusedSimpArgs false
theorem owns_keepB {S : List Nat} {w w' : World} {base : Nat} {e : TypeId} {size : Nat} {v : Value} {n : Nat} {xs : List Value} (h : w.ownsRow base e size v n xs) (hf : Fr S w w') (hn : ∀ k, v.ownBlock = some k → k ∉ S) : w'.ownsRow base e size v n xs := by
  refine ⟨h.1, ?_⟩
  rcases h.2 with h0 | ⟨g, cap, cur, hv, hb, hg, hr⟩
  · exact Or.inl h0
  · exact Or.inr ⟨g, cap, cur, hv, hb, hf.keep hg (hn g (by rw [hv]; rfl)), hr⟩
theorem owns_cells {w : World} {base : Nat} {e : TypeId} {size : Nat} {v : Value} {n : Nat} {xs : List Value} (h : w.ownsRow base e size v n xs) {k : Nat} (hk : v.ownBlock = some k) : base ≤ k ∧ ∃ cur, w.heap[k]? = some (.cells cur e (0, 0)) := by
  rcases h.2 with ⟨rfl, _⟩ | ⟨g, cap, cur, rfl, hb, hg, hr⟩
  · simp [Value.ownBlock] at hk
  · simp [Value.ownBlock] at hk
    subst hk
    exact ⟨hb, cur, hg⟩
theorem box_set {w : World} {b : Nat} {t : TypeId} {v : Value} (h : w.heap[b]? = some (.cells #[v] t (0, 0))) (u : Value) : (w.setCell ⟨b, 0, none⟩ u).heap[b]? = some (.cells #[u] t (0, 0)) := by
  obtain ⟨hlt, hk⟩ := Array.getElem?_eq_some_iff.1 h
  show (w.heap.modify b _)[b]? = _
  rw [Array.getElem?_eq_getElem (by rw [Array.size_modify]; exact hlt), Array.getElem_modify_self, hk]
  rfl
theorem own_base {w : World} {base base' : Nat} {e : TypeId} {size : Nat} {v : Value} {n : Nat} {xs : List Value} (h : w.ownsRow base e size v n xs) (hb : base' ≤ base) : w.ownsRow base' e size v n xs := by
  refine ⟨h.1, ?_⟩
  rcases h.2 with h0 | ⟨g, cap, cur, hv, hg, hr⟩
  · exact Or.inl h0
  · exact Or.inr ⟨g, cap, cur, hv, by omega, hr⟩
theorem Tryz.infoVn : (Tryz.prog.info? 134).map (fun i => (i.zero, i.size, i.bytes)) = some (some (.agg #[.int .i64 0, .string ⟨#[]⟩, .bool false]), 3, 32) := by kernel_rfl
theorem infoVn_parts : ∃ i, Tryz.prog.info? 134 = some i ∧ i.zero = some (.agg #[.int .i64 0, .string ⟨#[]⟩, .bool false]) ∧ i.size = 3 ∧ i.bytes = 32 := by
  have h := Tryz.infoVn
  cases hi : Tryz.prog.info? 134 with
  | none => rw [hi] at h; cases h
  | some i =>
    rw [hi] at h
    simp only [Option.map_some, Option.some.injEq, Prod.mk.injEq] at h
    exact ⟨i, rfl, h.1, h.2.1, h.2.2⟩
/-- A row of versions of one's own, made since a world; its spare room may be cut off. -/
structure VOut (w w' : World) (ro : Option Addr) (N rc : Nat) (vs : List Vn) : Prop where
  own : ∃ rc', rc ≤ rc' ∧ w'.ownsRow w.heap.size 134 3 (.slice ro N rc') N (vnsC vs)
  len : N = vs.length
  cap : N ≤ rc
theorem VOut.later {w w1 w2 : World} {ro : Option Addr} {N rc : Nat} {vs : List Vn} (h : VOut w1 w2 ro N rc vs) (hs : w.heap.size ≤ w1.heap.size) : VOut w w2 ro N rc vs := by
  obtain ⟨rc', hr, ho⟩ := h.own
  refine ⟨⟨rc', hr, ho.1, ?_⟩, h.len, h.cap⟩
  rcases ho.2 with hh | ⟨g, cap, cur, e, hb, hgg, rest⟩
  · exact .inl hh
  · exact .inr ⟨g, cap, cur, e, by omega, hgg, rest⟩
theorem VOut.rs {w w' : World} {ro : Option Addr} {N rc : Nat} {vs : List Vn} (h : VOut w w' ro N rc vs) (hl : vs.length ≤ 4398046511104) (he : ∀ x ∈ vs, VEach x) : VRs w' ro vs := by
  obtain ⟨rc', hr, ho⟩ := h.own
  exact VRs.of_own ho h.len hl he
theorem own_cap {w : World} {base : Nat} {e : TypeId} {size : Nat} {ro : Option Addr} {N rc : Nat} {xs : List Value} (h : w.ownsRow base e size (.slice ro N rc) N xs) : N ≤ rc := by
  rcases h.2 with ⟨hv, hn⟩ | ⟨g, cap, cur, hv, _, _, hnc, _⟩
  · cases hv; omega
  · cases hv; exact hnc
theorem VOut.of {w w' : World} {ro : Option Addr} {N rc : Nat} {vs : List Vn} (h : w'.ownsRow w.heap.size 134 3 (.slice ro N rc) N (vnsC vs)) (hl : N = vs.length) : VOut w w' ro N rc vs := ⟨⟨rc, Nat.le_refl _, h⟩, hl, own_cap h⟩
theorem VOut.blk {w0 w : World} {ro : Option Addr} {N rc : Nat} {qs : List Vn} (h : VOut w0 w ro N rc qs) : ∀ k ∈ (Value.slice ro N rc).ownBlock.toList, w0.heap.size ≤ k ∧ ∃ cur, w.heap[k]? = some (.cells cur 134 (0, 0)) := by
  intro k hk
  obtain ⟨rf, _, hown⟩ := h.own
  rcases hown.2 with ⟨hv, _⟩ | ⟨g, cap, cur, hv, hb, hg, _⟩
  · cases hv; simp [Value.ownBlock] at hk
  · cases hv
    simp [Value.ownBlock] at hk
    subst hk
    exact ⟨hb, cur, hg⟩
theorem VOut.keepS {S : List Nat} {w0 w w' : World} {ro : Option Addr} {N rc : Nat} {qs : List Vn} (h : VOut w0 w ro N rc qs) (hf : Fr S w w') (hn : ∀ k ∈ (Value.slice ro N rc).ownBlock.toList, k ∉ S) : VOut w0 w' ro N rc qs := by
  obtain ⟨rf, hr, hown⟩ := h.own
  refine ⟨⟨rf, hr, hown.1, ?_⟩, h.len, h.cap⟩
  rcases hown.2 with hh | ⟨g, cap, cur, hv, hb, hg, rest⟩
  · exact .inl hh
  · cases hv
    exact .inr ⟨g, rf, cur, rfl, hb, hf.keep hg (hn g (by simp [Value.ownBlock])), rest⟩
set_option maxHeartbeats 2000000 in
set_option maxRecDepth 100000 in
theorem clone_any (ao : Option Addr) (L cap : Nat) (vs : List Vn) (w : World) (hV : VRs w ao vs) (hL : L = vs.length) :
    Calls Tryz.prog 104 #[.slice ao L cap] w fun e w' => ∃ ro rc, e = .returned (.slice ro L rc) ∧ VOut w w' ro L rc vs ∧ Fr [] w w' := by
  have q22 : ∀ (w : World) (a : Option Addr) (n c n' c' : Nat), (binOp .eql 95 (.slice a n c) (.slice none n' c')).run Tryz.prog w = .ok (.bool a.isNone) w := fun w a n c n' c' => Lib.run_eql_slice_nil w _ _ a n c n' c' Tryz.undVns'
  cases ao with
  | none =>
    obtain rfl : L = 0 := by
      rcases Nat.eq_zero_or_pos vs.length with h | h
      · omega
      · obtain ⟨b, off, e, _⟩ := hV.lies h
        cases e
    obtain rfl : vs = [] := List.eq_nil_of_length_eq_zero hL.symm
    clear hV hL
    go_enter Tryz.func104, Tryz.ntmps104
    go_wp2
    go_ret
    exact ⟨none, 0, rfl, VOut.of ⟨rfl, .inl ⟨rfl, rfl⟩⟩ rfl, Fr.refl _ _⟩
  | some a =>
    obtain ⟨i0, hi, hz0, hz1, hz2⟩ := infoVn_parts
    have hc : Hid (∀ j u, (vnsC vs)[j]? = some u → w.cell? (a.add j) = some u) := by
      intro j u hu
      obtain ⟨b, off, e, hc⟩ := hV.cells hu
      cases e
      rw [Addr.add_lit]
      exact hc
    have hf := hV.few
    have HL : Hid (L = vs.length) := hL
    have HF : Hid (vs.length ≤ 4398046511104) := hf
    clear hV hL hf
    go_enter Tryz.func104, Tryz.ntmps104
    go_wp2_with (at_builtin; refine wpList_append_own _ rfl _ _ 95 rfl w.heap.size 134 i0 (.agg #[.int .i64 0, .string ⟨#[]⟩, .bool false]) 3 32 Tryz.undVns' hi hz0 hz1 hz2 rfl (by decide) _ _ _ rfl (World.ownsRow_made w #[] 0 (Nat.le_refl _) (Nat.zero_le _) (by simp)) a L cap (vnsC vs) rfl ?qc1 ?qc2 ?qc3 ?qc4 ?qc5 ?qc6 ?_)
    case qc1 => rw [vnsC_length, HL.out]
    case qc2 =>
      intro j u hj
      exact Lib.cell?_alloc_some _ (hc.out j u hj)
    case qc3 => exact vnsC_oneCell vs
    case qc4 => rw [Nat.zero_add]; have := HL.out; have := HF.out; simp only [maxLen]; omega
    case qc5 => rw [Nat.zero_add]; have := HL.out; have := HF.out; omega
    case qc6 => simp
    intro v' w1 hown hgrow hnil
    obtain ⟨ro, rc, rfl⟩ : ∃ ro rc, v' = .slice ro L rc := by
      rcases hown.2 with ⟨hh, h0⟩ | ⟨g, cap', _, hh, _⟩
      · exact ⟨none, 0, by rw [hh]; have : L = 0 := by omega
                           rw [this]⟩
      · exact ⟨_, cap', by rw [hh]⟩
    have HO : Hid (VOut w w1 ro L rc vs ∧ Fr [] w w1) := ⟨VOut.of (by simpa using hown) HL.out, (Fr.alloc [] w _).on (Fr.grown (S := [w.heap.size]) hgrow (by intro k hk _; simp [Value.ownBlock] at hk; simp [hk])) (by simp)⟩
    clear hown hgrow hnil
    go_wp2
    go_ret
    exact ⟨ro, rc, rfl, HO.out⟩
/-- Two rows share no block. -/
def Apa (a b : Option Addr) : Prop := ∀ p q, a = some p → b = some q → p.block ≠ q.block
/-- Keys with their versions, handed out: a row of its own, each key's versions in a row of their own, made since w. -/
structure HOut (w w' : World) (ro : Option Addr) (N rc : Nat) (hs : List Hd) : Prop where
  len : N = hs.length
  row : w'.ownsRow w.heap.size 97 2 (.slice ro N rc) N (hdsC hs)
  each : ∀ h ∈ hs, VOut w w' h.vo h.L h.cap h.vs
  apart : hs.Pairwise fun a b => Apa a.vo b.vo
theorem HOut.keep {w w1 w2 : World} {ro : Option Addr} {N rc : Nat} {hs : List Hd} (h : HOut w w1 ro N rc hs) (hf : Fr [] w1 w2) : HOut w w2 ro N rc hs := ⟨h.len, owns_keepB h.row hf (by simp), fun x hx => (h.each x hx).keepS hf (by simp), h.apart⟩
theorem VOut.block {w w' : World} {ro : Option Addr} {N rc : Nat} {vs : List Vn} (h : VOut w w' ro N rc vs) (p : Addr) (hp : ro = some p) : w.heap.size ≤ p.block ∧ p.block < w'.heap.size := by
  obtain ⟨rf, _, ho⟩ := h.own
  have e : (Value.slice ro N rf).ownBlock = some p.block := by rw [hp]; rfl
  obtain ⟨h1, cur, h2⟩ := owns_cells ho e
  exact ⟨h1, lt_of_block h2⟩
theorem HOut.newApart {w wr w2 : World} {ro : Option Addr} {N rc : Nat} {hs : List Hd} {vo : Option Addr} {L c : Nat} {vs : List Vn} (h : HOut w wr ro N rc hs) (hV : VOut wr w2 vo L c vs) : ∀ x ∈ hs, Apa x.vo vo := by
  intro x hx p q hp hq e
  have h1 := (h.each x hx).block p hp
  have h2 := hV.block q hq
  omega
theorem HOut.keepS {S : List Nat} {w w1 w2 : World} {ro : Option Addr} {N rc : Nat} {hs : List Hd} (h : HOut w w1 ro N rc hs) (hf : Fr S w1 w2) (hrow : ∀ k, (Value.slice ro N rc).ownBlock = some k → k ∉ S) (hv : ∀ j cur, w1.heap[j]? = some (.cells cur 134 (0, 0)) → j ∉ S) : HOut w w2 ro N rc hs :=
  ⟨h.len, owns_keepB h.row hf hrow, fun x hx => (h.each x hx).keepS hf (fun j hj => by obtain ⟨_, cur, hc⟩ := (h.each x hx).blk j hj; exact hv j cur hc), h.apart⟩
/-- A key and its versions, wherever they lie. -/
def Hd.kv (h : Hd) : ByteArray × List Vn := (h.key, h.vs)
theorem HOut.later {w w1 w2 : World} {ro : Option Addr} {N rc : Nat} {hs : List Hd} (h : HOut w1 w2 ro N rc hs) (hz : w.heap.size ≤ w1.heap.size) : HOut w w2 ro N rc hs := ⟨h.len, own_base h.row hz, fun x hx => (h.each x hx).later hz, h.apart⟩
end Go.Proofs.YtpdkdgmaofhlkaaGreatDoor
/- Rows of keys with their versions read cell by cell; slices.Clone of them. Conditions as each names them. -/
namespace Go.Proofs.YtpdkdgmaofhlkaaGreatDoor
open Go.ChangeShapes Go.WideShapes Go.ChangeAt Go.RowKit Go.Lib
set_option linter.unusedVariables false
set_option linter.unusedSimpArgs false
theorem hdsC_oneCell (a : List Hd) : ∀ u ∈ hdsC a, u.oneCell' = true := by
  intro u hu
  obtain ⟨x, _, h⟩ := List.mem_flatMap.1 hu
  exact hdC_one x u h
theorem hdsC_at (a : List Hd) (j c : Nat) (hj : j < a.length) (hc : c < 2) : (hdsC a)[j * 2 + c]? = (hdC (a.getD j Hd.zero))[c]? := by
  have h := hdsC_get a j hj
  match c, hc with
  | 0, _ => exact h.1
  | 1, _ => exact h.2

theorem Tryz.undKH : Tryz.prog.underlying 51 = some (.slice 97) := by kernel_rfl
theorem Tryz.infoKH : (Tryz.prog.info? 97).map (fun i => (i.zero, i.size, i.bytes)) = some (some (.agg #[.string ⟨#[]⟩, .slice none 0 0]), 2, 40) := by kernel_rfl
theorem infoKH_parts : ∃ i, Tryz.prog.info? 97 = some i ∧ i.zero = some (.agg #[.string ⟨#[]⟩, .slice none 0 0]) ∧ i.size = 2 ∧ i.bytes = 40 := by
  have h := Tryz.infoKH
  cases hi : Tryz.prog.info? 97 with
  | none => rw [hi] at h; cases h
  | some i =>
    rw [hi] at h
    simp only [Option.map_some, Option.some.injEq, Prod.mk.injEq] at h
    exact ⟨i, rfl, h.1, h.2.1, h.2.2⟩
/-- A row's cells can be read. -/
def RrH (w : World) (ao : Option Addr) (xs : List Hd) : Prop := ∀ (j : Nat) (u : Value), (hdsC xs)[j]? = some u → ∃ b off, ao = some ⟨b, off, none⟩ ∧ b < w.heap.size ∧ w.cell? ⟨b, off + j, none⟩ = some u
theorem RrH.nil (w : World) (ao : Option Addr) : RrH w ao [] := fun j u h => by simp [hdsC] at h
theorem RrH.keepS {S : List Nat} {w w' : World} {ao : Option Addr} {xs : List Hd} (h : RrH w ao xs) (hf : Fr S w w') (hn : ∀ a, ao = some a → a.block ∉ S) : RrH w' ao xs := fun j u hu => by
  obtain ⟨b, off, e, hb, hc⟩ := h j u hu
  exact ⟨b, off, e, Nat.lt_of_lt_of_le hb hf.size, (World.cell?_of_block (hf.block b hb (hn _ e))).trans hc⟩
theorem RrH.keep {w w' : World} {ao : Option Addr} {xs : List Hd} (h : RrH w ao xs) (hf : Fr [] w w') : RrH w' ao xs := h.keepS hf (by simp)
theorem RrH.of_own {w : World} {base : Nat} {ro : Option Addr} {N rc : Nat} {xs : List Hd} (h : w.ownsRow base 97 2 (.slice ro N rc) N (hdsC xs)) (hN : N = xs.length) : RrH w ro xs := fun j u hu => by
  have hj : j < (hdsC xs).length := by
    rcases Nat.lt_or_ge j (hdsC xs).length with h | h
    · exact h
    · rw [List.getElem?_eq_none h] at hu; cases hu
  rw [hdsC_length] at hj
  rcases h.2 with ⟨hv, h0⟩ | ⟨g, cap, cur, hv, _, hg, _, _, _, ht⟩
  · omega
  · cases hv
    refine ⟨g, 0, rfl, lt_of_block hg, ?_⟩
    rw [cell_of_row _ _ _ _ _ _ hg, Nat.zero_add, ← Array.getElem?_toList, ← hu, ← ht, List.getElem?_take_of_lt (by omega)]
theorem RrH.none {w : World} {xs : List Hd} (h : RrH w none xs) : xs = [] := by
  cases xs with
  | nil => rfl
  | cons x r =>
    have hl : 0 < (hdsC (x :: r)).length := by rw [hdsC_length]; simp
    obtain ⟨b, off, e, _⟩ := h 0 ((hdsC (x :: r))[0]) (by simp)
    cases e
set_option maxHeartbeats 2000000 in
set_option maxRecDepth 100000 in
theorem cloneH_any (ao : Option Addr) (L cap : Nat) (xs : List Hd) (w : World) (hX : RrH w ao xs) (hL : L = xs.length) (hf : L ≤ 2199023255552) :
    Calls Tryz.prog 103 #[.slice ao L cap] w fun e w' => ∃ ro rc, e = .returned (.slice ro L rc) ∧ w'.ownsRow w.heap.size 97 2 (.slice ro L rc) L (hdsC xs) ∧ Fr [] w w' := by
  have q22 : ∀ (w : World) (a : Option Addr) (n c n' c' : Nat), (binOp .eql 51 (.slice a n c) (.slice none n' c')).run Tryz.prog w = .ok (.bool a.isNone) w := fun w a n c n' c' => Lib.run_eql_slice_nil w _ _ a n c n' c' Tryz.undKH
  cases ao with
  | none =>
    obtain rfl : xs = [] := hX.none
    obtain rfl : L = 0 := hL
    clear hX
    go_enter Tryz.func103, Tryz.ntmps103
    go_wp2
    go_ret
    exact ⟨none, 0, rfl, ⟨rfl, .inl ⟨rfl, rfl⟩⟩, Fr.refl _ _⟩
  | some a =>
    obtain ⟨i0, hi, hz0, hz1, hz2⟩ := infoKH_parts
    have hc : Hid (∀ j u, (hdsC xs)[j]? = some u → w.cell? (a.add j) = some u) := by
      intro j u hu
      obtain ⟨b, off, e, _, hc⟩ := hX j u hu
      cases e
      rw [Addr.add_lit]
      exact hc
    have HL : Hid (L = xs.length) := hL
    clear hX hL
    go_enter Tryz.func103, Tryz.ntmps103
    go_wp2_with (at_builtin; refine wpList_append_own _ rfl _ _ 51 rfl w.heap.size 97 i0 (.agg #[.string ⟨#[]⟩, .slice none 0 0]) 2 40 Tryz.undKH hi hz0 hz1 hz2 rfl (by decide) _ _ _ rfl (World.ownsRow_made w #[] 0 (Nat.le_refl _) (Nat.zero_le _) (by simp)) a L cap (hdsC xs) rfl ?qc1 ?qc2 ?qc3 ?qc4 ?qc5 ?qc6 ?_)
    case qc1 => rw [hdsC_length, HL.out]
    case qc2 =>
      intro j u hj
      exact Lib.cell?_alloc_some _ (hc.out j u hj)
    case qc3 => exact hdsC_oneCell xs
    case qc4 => rw [Nat.zero_add]; simp only [maxLen]; omega
    case qc5 => rw [Nat.zero_add]; omega
    case qc6 => simp
    intro v' w1 hown hgrow hnil
    obtain ⟨ro, rc, rfl⟩ : ∃ ro rc, v' = .slice ro L rc := by
      rcases hown.2 with ⟨hh, h0⟩ | ⟨g, cap', _, hh, _⟩
      · exact ⟨none, 0, by rw [hh]; have : L = 0 := by omega
                           rw [this]⟩
      · exact ⟨_, cap', by rw [hh]⟩
    have HO : Hid (w1.ownsRow w.heap.size 97 2 (.slice ro L rc) L (hdsC xs) ∧ Fr [] w w1) := ⟨by simpa using hown, (Fr.alloc [] w _).on (Fr.grown (S := [w.heap.size]) hgrow (by intro k hk _; simp [Value.ownBlock] at hk; simp [hk])) (by simp)⟩
    clear hown hgrow hnil
    go_wp2
    go_ret
    exact ⟨ro, rc, rfl, HO.out⟩
end Go.Proofs.YtpdkdgmaofhlkaaGreatDoor
/- A row of keys with their versions, copied: copied. Conditions as each names them. -/
namespace Go.Proofs.YtpdkdgmaofhlkaaGreatDoor
open Go.ChangeShapes Go.WideShapes Go.ChangeAt Go.RowKit Go.Lib
set_option linter.unusedVariables false
set_option linter.unusedSimpArgs false
theorem own_set {w : World} {base : Nat} {e : TypeId} {size g n cap : Nat} {xs : List Value} (h : w.ownsRow base e size (.slice (some ⟨g, 0, none⟩) n cap) n xs) (j : Nat) (hj : j < xs.length) (v : Value) :
    (∃ u, w.cell? ⟨g, j, none⟩ = some u) ∧ w.frozen? ⟨g, j, none⟩ = false ∧ (w.setCell ⟨g, j, none⟩ v).ownsRow base e size (.slice (some ⟨g, 0, none⟩) n cap) n (xs.set j v) := by
  have hl := h.1
  rcases h.2 with ⟨hv, _⟩ | ⟨g', cap', cur, hv, hb, hg, hnc, hcm, hsz, ht⟩
  · cases hv
  · cases hv
    have hjc : j < cur.size := by
      have := congrArg List.length ht
      rw [List.length_take] at this
      simp only [Array.length_toList] at this
      omega
    refine ⟨⟨cur[j], by rw [cell_of_row _ _ _ _ _ _ hg, Array.getElem?_eq_getElem hjc]⟩, by simp [World.frozen?, hg], by rw [List.length_set]; exact hl, .inr ⟨g, cap, cur.setIfInBounds j v, rfl, hb, ?_, hnc, hcm, by simpa using hsz, ?_⟩⟩
    · have := row_put17 (j := j) v hg
      exact this
    · rw [Array.toList_setIfInBounds, ← ht, List.take_set]
theorem own_some {w : World} {base : Nat} {e : TypeId} {size : Nat} {ro : Option Addr} {n cap : Nat} {xs : List Value} (h : w.ownsRow base e size (.slice ro n cap) n xs) (hn : 0 < n) : ∃ g, ro = some ⟨g, 0, none⟩ ∧ base ≤ g := by
  rcases h.2 with ⟨hv, h0⟩ | ⟨g, cap', cur, hv, hb, _⟩
  · omega
  · cases hv; exact ⟨g, rfl, hb⟩
theorem own_cell {w : World} {base : Nat} {e : TypeId} {size g n cap : Nat} {xs : List Value} (h : w.ownsRow base e size (.slice (some ⟨g, 0, none⟩) n cap) n xs) {j : Nat} {u : Value} (hu : xs[j]? = some u) : w.cell? ⟨g, j, none⟩ = some u := by
  have hl := h.1
  rcases h.2 with ⟨hv, _⟩ | ⟨g', cap', cur, hv, hb, hg, hnc, hcm, hsz, ht⟩
  · cases hv
  · cases hv
    have hj := (List.getElem?_eq_some_iff.1 hu).1
    rw [cell_of_row _ _ _ _ _ _ hg, ← Array.getElem?_toList, ← hu, ← ht, List.getElem?_take_of_lt (by omega)]
/-- The first i keys of the row are copied. -/
structure Cpd (w wr : World) (ro : Option Addr) (L rc : Nat) (hs ns : List Hd) (i : Nat) : Prop where
  len : ns.length = i
  row : wr.ownsRow w.heap.size 97 2 (.slice ro L rc) L (hdsC (ns ++ hs.drop i))
  each : ∀ h ∈ ns, VOut w wr h.vo h.L h.cap h.vs
  apart : ns.Pairwise fun a b => Apa a.vo b.vo
  kv : ns.map Hd.kv = (hs.take i).map Hd.kv
  fr : Fr [] w wr
theorem Cpd.start {w wr : World} {ro : Option Addr} {L rc : Nat} {hs : List Hd} (h : wr.ownsRow w.heap.size 97 2 (.slice ro L rc) L (hdsC hs)) (hf : Fr [] w wr) : Cpd w wr ro L rc hs [] 0 := ⟨rfl, by simpa using h, by simp, List.Pairwise.nil, by simp, hf⟩
theorem Cpd.keep {w w1 w2 : World} {ro : Option Addr} {L rc : Nat} {hs ns : List Hd} {i : Nat} (h : Cpd w w1 ro L rc hs ns i) (hf : Fr [] w1 w2) : Cpd w w2 ro L rc hs ns i := ⟨h.len, owns_keepB h.row hf (by simp), fun x hx => (h.each x hx).keepS hf (by simp), h.apart, h.kv, h.fr.then hf⟩
theorem hdrop_cons (hs : List Hd) (i : Nat) (h : i < hs.length) : hs.drop i = hs.getD i Hd.zero :: hs.drop (i + 1) := by
  rw [List.drop_eq_getElem_cons h]
  simp [List.getD, h]
theorem Cpd.cell {w wr : World} {g L rc : Nat} {hs ns : List Hd} {i : Nat} (h : Cpd w wr (some ⟨g, 0, none⟩) L rc hs ns i) (hi : i < hs.length) : wr.cell? ⟨g, i * 2 + 1, none⟩ = some (.slice (hs.getD i Hd.zero).vo (hs.getD i Hd.zero).L (hs.getD i Hd.zero).cap) := by
  refine own_cell h.row ?_
  have hl : i < (ns ++ hs.drop i).length := by simp [h.len]; omega
  have h1 := (hdsC_get (ns ++ hs.drop i) i hl).2
  have h2 : (ns ++ hs.drop i).getD i Hd.zero = hs.getD i Hd.zero := by
    rw [hdrop_cons hs i hi]
    simp [List.getD, List.getElem?_append_right (show ns.length ≤ i by rw [h.len]; exact Nat.le_refl _), h.len]
  rw [h2] at h1
  exact h1
theorem hdsC_put (ns : List Hd) (y : Hd) (l : List Hd) (vo : Option Addr) (L c : Nat) (vs : List Vn) : (hdsC (ns ++ y :: l)).set (ns.length * 2 + 1) (.slice vo L c) = hdsC (ns ++ [⟨y.key, vo, L, c, vs⟩] ++ l) := by
  rw [hdsC_append, hdsC_append, hdsC_append]
  have h1 : ¬ ns.length * 2 + 1 < (hdsC ns).length := by rw [hdsC_length]; omega
  rw [List.set_append, if_neg h1, hdsC_length]
  rw [show ns.length * 2 + 1 - ns.length * 2 = 1 by omega]
  simp [hdsC, hdC]
theorem Cpd.step {w wr w2 : World} {g L rc : Nat} {hs ns : List Hd} {i : Nat} {vo2 : Option Addr} {c2 : Nat} (h : Cpd w wr (some ⟨g, 0, none⟩) L rc hs ns i) (hi : i < hs.length) (hV : VOut wr w2 vo2 (hs.getD i Hd.zero).L c2 (hs.getD i Hd.zero).vs) (hf : Fr [] wr w2) :
    (∃ u, w2.cell? ⟨g, i * 2 + 1, none⟩ = some u) ∧ w2.frozen? ⟨g, i * 2 + 1, none⟩ = false ∧ Cpd w (w2.setCell ⟨g, i * 2 + 1, none⟩ (.slice vo2 (hs.getD i Hd.zero).L c2)) (some ⟨g, 0, none⟩) L rc hs (ns ++ [⟨(hs.getD i Hd.zero).key, vo2, (hs.getD i Hd.zero).L, c2, (hs.getD i Hd.zero).vs⟩]) (i + 1) := by
  have hk := h.keep hf
  obtain ⟨p1, p2, p3⟩ := own_set hk.row (i * 2 + 1) (by rw [hdsC_length]; simp [h.len]; omega) (.slice vo2 (hs.getD i Hd.zero).L c2)
  have hFs : Fr [g] w2 (w2.setCell ⟨g, i * 2 + 1, none⟩ (.slice vo2 (hs.getD i Hd.zero).L c2)) := Fr.set _ _ _ (by simp)
  have hty : ∀ {vo : Option Addr} {N c : Nat} {vs : List Vn} {w0 : World}, VOut w0 w2 vo N c vs → ∀ k ∈ (Value.slice vo N c).ownBlock.toList, k ∉ [g] := by
    intro vo N c vs w0 hvo k hkk hm
    obtain ⟨_, cur, e1⟩ := hvo.blk k hkk
    obtain ⟨_, cur2, e2⟩ := owns_cells hk.row (k := g) rfl
    rw [List.mem_singleton.1 hm, e2] at e1
    simp only [Option.some.injEq, Obj.cells.injEq] at e1
    exact absurd e1.2.1 (by decide)
  refine ⟨p1, p2, by simp [h.len], ?_, ?_, ?_, ?_, ?_⟩
  · rw [hdrop_cons hs i hi] at p3
    have e := hdsC_put ns (hs.getD i Hd.zero) (hs.drop (i + 1)) vo2 (hs.getD i Hd.zero).L c2 (hs.getD i Hd.zero).vs
    rw [h.len] at e
    rw [e] at p3
    exact p3
  · intro y hy
    rcases List.mem_append.1 hy with hy | hy
    · exact (hk.each y hy).keepS hFs (hty (hk.each y hy))
    · simp at hy
      subst hy
      exact (hV.later h.fr.size).keepS hFs (hty hV)
  · rw [List.pairwise_append]
    refine ⟨h.apart, List.pairwise_singleton _ _, fun a ha b hb => ?_⟩
    simp at hb
    subst hb
    intro p q hp hq
    have h1 := (h.each a ha).block p hp
    have h2 := hV.block q hq
    omega
  · rw [List.map_append, h.kv, htake_snoc hs i hi, List.map_append]
    rfl
  · obtain ⟨hb, _⟩ := owns_cells hk.row (k := g) rfl
    exact hk.fr.on hFs (fun x hx => by simp at hx; omega)
set_option maxHeartbeats 4000000 in
set_option maxRecDepth 100000 in
theorem copied_any (ao : Option Addr) (L cap : Nat) (hs : List Hd) (w : World) (hR : RrH w ao hs) (hL : L = hs.length) (hm : L ≤ 134217728) (hV : ∀ h ∈ hs, VRs w h.vo h.vs ∧ h.L = h.vs.length) :
    Calls Tryz.prog 69 #[.slice ao L cap] w fun e w' => ∃ ro rc hs', e = .returned (.slice ro L rc) ∧ HOut w w' ro L rc hs' ∧ hs'.map Hd.kv = hs.map Hd.kv ∧ Fr [] w w' := by
  have HC : Hid (Calls _ _ _ _ _) := cloneH_any ao L cap hs w hR hL (by omega)
  have HV : Hid (∀ W, Fr [] w W → ∀ i, i < hs.length → Calls Tryz.prog 104 #[.slice (hs.getD i Hd.zero).vo (hs.getD i Hd.zero).L (hs.getD i Hd.zero).cap] W fun e w' => ∃ ro rc, e = .returned (.slice ro (hs.getD i Hd.zero).L rc) ∧ VOut W w' ro (hs.getD i Hd.zero).L rc (hs.getD i Hd.zero).vs ∧ Fr [] W w') := fun W hf i hi => clone_any _ _ _ _ W ((hV _ (hgetD_mem hs i hi)).1.keep hf) (hV _ (hgetD_mem hs i hi)).2
  have HL : Hid (L = hs.length) := hL
  clear hR hL hV
  go_enter Tryz.func69, Tryz.ntmps69
  go_wp2_with fail
  refine Calls.mono HC.out ?_
  rintro e w1 ⟨ro, rc, rfl, hO, hF⟩
  have HS : Hid (Cpd w w1 ro L rc hs [] 0) := Cpd.start hO hF
  clear hO hF HC
  go_wp2_with fail
  go_loopw [9] (fun ii wr => ∃ (i : Nat) (ns : List Hd), ii = .int .i64 i ∧ i ≤ L ∧ Hid (Cpd w wr ro L rc hs ns i)) (fun ii _ => L - (RowKit.intOf ii).toNat)
  case atStart => exact ⟨0, [], rfl, Nat.zero_le _, HS⟩
  case round =>
    clear HS
    obtain ⟨i, ns, rfl, hiL, HP⟩ := hrel
    by_cases hi : i < L
    · have hi' : i < hs.length := by rw [← HL.out]; exact hi
      obtain ⟨g, rfl, hg⟩ := own_some HP.out.row (by omega)
      have hc := HP.out.cell hi'
      have HCl := HV.out wr HP.out.fr i hi'
      have HSt : Hid (∀ w2 vo2 c2, VOut wr w2 vo2 (hs.getD i Hd.zero).L c2 (hs.getD i Hd.zero).vs → Fr [] wr w2 → _) := fun w2 vo2 c2 h1 h2 => HP.out.step (w2 := w2) (vo2 := vo2) (c2 := c2) hi' h1 h2
      generalize hs.getD i Hd.zero = y at hc HCl HSt
      obtain ⟨key, vo, Lv, cv, vs⟩ := y
      simp only at hc HCl HSt
      have HCq : Hid (Calls _ _ _ _ _) := HCl
      clear HCl HP
      go_wp2_with fail
      refine Calls.mono HCq.out ?_
      rintro e w2 ⟨vo2, c2, rfl, hVo, hF2⟩
      obtain ⟨⟨u, hu⟩, hz, hP2⟩ := HSt.out w2 vo2 c2 hVo hF2
      have HP2 : Hid (Cpd _ _ _ _ _ _ _ _) := hP2
      clear hVo hF2 hP2 HSt HCq hc
      go_wp2
      go_roundw
      case rel => exact ⟨i + 1, _, by simp, by omega, HP2⟩
      case measure => simp [RowKit.intOf]; omega
    · have HQ : Hid (HOut w wr ro L rc ns ∧ ns.map Hd.kv = hs.map Hd.kv ∧ Fr [] w wr) := by
        have h := HP.out
        have e1 : i = hs.length := by have := HL.out; omega
        have hr := h.row
        have hkv := h.kv
        rw [e1, List.drop_length, List.append_nil] at hr
        rw [e1, List.take_length] at hkv
        exact ⟨⟨by rw [h.len]; have := HL.out; omega, hr, h.each, h.apart⟩, hkv, h.fr⟩
      clear HP
      go_wp2
      go_ret
      exact ⟨ro, rc, ns, rfl, HQ.out⟩
end Go.Proofs.YtpdkdgmaofhlkaaGreatDoor
