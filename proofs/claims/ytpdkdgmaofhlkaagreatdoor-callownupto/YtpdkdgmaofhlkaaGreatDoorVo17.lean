/- Rows of versions and of keys in memory of their own: VOut, HOut; slices.Clone of versions. Conditions as each names them. -/
import Derived.Test.YtpdkdgmaofhlkaaGreatDoorAg17
import Derived.Lib.SliceRun
namespace Go.Proofs.YtpdkdgmaofhlkaaGreatDoor
open Go.ChangeShapes Go.WideShapes Go.ChangeAt Go.RowKit Go.Lib
set_option linter.unusedVariables false
set_option linter.unusedSimpArgs false
theorem owns_keepB {S : List Nat} {w w' : World} {base : Nat} {e : TypeId} {size : Nat} {v : Value} {n : Nat} {xs : List Value} (h : w.ownsRow base e size v n xs) (hf : Fr S w w') (hn : ∀ k, v.ownBlock = some k → k ∉ S) : w'.ownsRow base e size v n xs := by
  refine ⟨h.1, ?_⟩
  rcases h.2 with h0 | ⟨g, cap, cur, hv, hb, hg, hr⟩
  · exact Or.inl h0
  · exact Or.inr ⟨g, cap, cur, hv, hb, hf.keep hg (hn g (by rw [hv]; rfl)), hr⟩
theorem owns_cells {w : World} {base : Nat} {e : TypeId} {size : Nat} {v : Value} {n : Nat} {xs : List Value} (h : w.ownsRow base e size v n xs) {k : Nat} (hk : v.ownBlock = some k) : base ≤ k ∧ ∃ cur, w.heap[k]? = some (.cells cur e (0, 0)) := by
  rcases h.2 with ⟨rfl, _⟩ | ⟨g, cap, cur, rfl, hb, hg, hr⟩
  · simp [Value.ownBlock] at hk
  · simp [Value.ownBlock] at hk
    subst hk
    exact ⟨hb, cur, hg⟩
theorem box_set {w : World} {b : Nat} {t : TypeId} {v : Value} (h : w.heap[b]? = some (.cells #[v] t (0, 0))) (u : Value) : (w.setCell ⟨b, 0, none⟩ u).heap[b]? = some (.cells #[u] t (0, 0)) := by
  obtain ⟨hlt, hk⟩ := Array.getElem?_eq_some_iff.1 h
  show (w.heap.modify b _)[b]? = _
  rw [Array.getElem?_eq_getElem (by rw [Array.size_modify]; exact hlt), Array.getElem_modify_self, hk]
  rfl
theorem own_base {w : World} {base base' : Nat} {e : TypeId} {size : Nat} {v : Value} {n : Nat} {xs : List Value} (h : w.ownsRow base e size v n xs) (hb : base' ≤ base) : w.ownsRow base' e size v n xs := by
  refine ⟨h.1, ?_⟩
  rcases h.2 with h0 | ⟨g, cap, cur, hv, hg, hr⟩
  · exact Or.inl h0
  · exact Or.inr ⟨g, cap, cur, hv, by omega, hr⟩
theorem Tryz.infoVn : (Tryz.prog.info? 134).map (fun i => (i.zero, i.size, i.bytes)) = some (some (.agg #[.int .i64 0, .string ⟨#[]⟩, .bool false]), 3, 32) := by kernel_rfl
theorem infoVn_parts : ∃ i, Tryz.prog.info? 134 = some i ∧ i.zero = some (.agg #[.int .i64 0, .string ⟨#[]⟩, .bool false]) ∧ i.size = 3 ∧ i.bytes = 32 := by
  have h := Tryz.infoVn
  cases hi : Tryz.prog.info? 134 with
  | none => rw [hi] at h; cases h
  | some i =>
    rw [hi] at h
    simp only [Option.map_some, Option.some.injEq, Prod.mk.injEq] at h
    exact ⟨i, rfl, h.1, h.2.1, h.2.2⟩
/-- A row of versions of one's own, made since a world; its spare room may be cut off. -/
structure VOut (w w' : World) (ro : Option Addr) (N rc : Nat) (vs : List Vn) : Prop where
  own : ∃ rc', rc ≤ rc' ∧ w'.ownsRow w.heap.size 134 3 (.slice ro N rc') N (vnsC vs)
  len : N = vs.length
  cap : N ≤ rc
theorem VOut.later {w w1 w2 : World} {ro : Option Addr} {N rc : Nat} {vs : List Vn} (h : VOut w1 w2 ro N rc vs) (hs : w.heap.size ≤ w1.heap.size) : VOut w w2 ro N rc vs := by
  obtain ⟨rc', hr, ho⟩ := h.own
  refine ⟨⟨rc', hr, ho.1, ?_⟩, h.len, h.cap⟩
  rcases ho.2 with hh | ⟨g, cap, cur, e, hb, hgg, rest⟩
  · exact .inl hh
  · exact .inr ⟨g, cap, cur, e, by omega, hgg, rest⟩
theorem VOut.rs {w w' : World} {ro : Option Addr} {N rc : Nat} {vs : List Vn} (h : VOut w w' ro N rc vs) (hl : vs.length ≤ 4398046511104) (he : ∀ x ∈ vs, VEach x) : VRs w' ro vs := by
  obtain ⟨rc', hr, ho⟩ := h.own
  exact VRs.of_own ho h.len hl he
theorem own_cap {w : World} {base : Nat} {e : TypeId} {size : Nat} {ro : Option Addr} {N rc : Nat} {xs : List Value} (h : w.ownsRow base e size (.slice ro N rc) N xs) : N ≤ rc := by
  rcases h.2 with ⟨hv, hn⟩ | ⟨g, cap, cur, hv, _, _, hnc, _⟩
  · cases hv; omega
  · cases hv; exact hnc
theorem VOut.of {w w' : World} {ro : Option Addr} {N rc : Nat} {vs : List Vn} (h : w'.ownsRow w.heap.size 134 3 (.slice ro N rc) N (vnsC vs)) (hl : N = vs.length) : VOut w w' ro N rc vs := ⟨⟨rc, Nat.le_refl _, h⟩, hl, own_cap h⟩
theorem VOut.blk {w0 w : World} {ro : Option Addr} {N rc : Nat} {qs : List Vn} (h : VOut w0 w ro N rc qs) : ∀ k ∈ (Value.slice ro N rc).ownBlock.toList, w0.heap.size ≤ k ∧ ∃ cur, w.heap[k]? = some (.cells cur 134 (0, 0)) := by
  intro k hk
  obtain ⟨rf, _, hown⟩ := h.own
  rcases hown.2 with ⟨hv, _⟩ | ⟨g, cap, cur, hv, hb, hg, _⟩
  · cases hv; simp [Value.ownBlock] at hk
  · cases hv
    simp [Value.ownBlock] at hk
    subst hk
    exact ⟨hb, cur, hg⟩
theorem VOut.keepS {S : List Nat} {w0 w w' : World} {ro : Option Addr} {N rc : Nat} {qs : List Vn} (h : VOut w0 w ro N rc qs) (hf : Fr S w w') (hn : ∀ k ∈ (Value.slice ro N rc).ownBlock.toList, k ∉ S) : VOut w0 w' ro N rc qs := by
  obtain ⟨rf, hr, hown⟩ := h.own
  refine ⟨⟨rf, hr, hown.1, ?_⟩, h.len, h.cap⟩
  rcases hown.2 with hh | ⟨g, cap, cur, hv, hb, hg, rest⟩
  · exact .inl hh
  · cases hv
    exact .inr ⟨g, rf, cur, rfl, hb, hf.keep hg (hn g (by simp [Value.ownBlock])), rest⟩
set_option maxHeartbeats 2000000 in
set_option maxRecDepth 100000 in
theorem clone_any (ao : Option Addr) (L cap : Nat) (vs : List Vn) (w : World) (hV : VRs w ao vs) (hL : L = vs.length) :
    Calls Tryz.prog 104 #[.slice ao L cap] w fun e w' => ∃ ro rc, e = .returned (.slice ro L rc) ∧ VOut w w' ro L rc vs ∧ Fr [] w w' := by
  have q22 : ∀ (w : World) (a : Option Addr) (n c n' c' : Nat), (binOp .eql 95 (.slice a n c) (.slice none n' c')).run Tryz.prog w = .ok (.bool a.isNone) w := fun w a n c n' c' => Lib.run_eql_slice_nil w _ _ a n c n' c' Tryz.undVns'
  cases ao with
  | none =>
    obtain rfl : L = 0 := by
      rcases Nat.eq_zero_or_pos vs.length with h | h
      · omega
      · obtain ⟨b, off, e, _⟩ := hV.lies h
        cases e
    obtain rfl : vs = [] := List.eq_nil_of_length_eq_zero hL.symm
    clear hV hL
    go_enter Tryz.func104, Tryz.ntmps104
    go_wp2
    go_ret
    exact ⟨none, 0, rfl, VOut.of ⟨rfl, .inl ⟨rfl, rfl⟩⟩ rfl, Fr.refl _ _⟩
  | some a =>
    obtain ⟨i0, hi, hz0, hz1, hz2⟩ := infoVn_parts
    have hc : Hid (∀ j u, (vnsC vs)[j]? = some u → w.cell? (a.add j) = some u) := by
      intro j u hu
      obtain ⟨b, off, e, hc⟩ := hV.cells hu
      cases e
      rw [Addr.add_lit]
      exact hc
    have hf := hV.few
    have HL : Hid (L = vs.length) := hL
    have HF : Hid (vs.length ≤ 4398046511104) := hf
    clear hV hL hf
    go_enter Tryz.func104, Tryz.ntmps104
    go_wp2_with (at_builtin; refine wpList_append_own _ rfl _ _ 95 rfl w.heap.size 134 i0 (.agg #[.int .i64 0, .string ⟨#[]⟩, .bool false]) 3 32 Tryz.undVns' hi hz0 hz1 hz2 rfl (by decide) _ _ _ rfl (World.ownsRow_made w #[] 0 (Nat.le_refl _) (Nat.zero_le _) (by simp)) a L cap (vnsC vs) rfl ?qc1 ?qc2 ?qc3 ?qc4 ?qc5 ?qc6 ?_)
    case qc1 => rw [vnsC_length, HL.out]
    case qc2 =>
      intro j u hj
      exact Lib.cell?_alloc_some _ (hc.out j u hj)
    case qc3 => exact vnsC_oneCell vs
    case qc4 => rw [Nat.zero_add]; have := HL.out; have := HF.out; simp only [maxLen]; omega
    case qc5 => rw [Nat.zero_add]; have := HL.out; have := HF.out; omega
    case qc6 => simp
    intro v' w1 hown hgrow hnil
    obtain ⟨ro, rc, rfl⟩ : ∃ ro rc, v' = .slice ro L rc := by
      rcases hown.2 with ⟨hh, h0⟩ | ⟨g, cap', _, hh, _⟩
      · exact ⟨none, 0, by rw [hh]; have : L = 0 := by omega
                           rw [this]⟩
      · exact ⟨_, cap', by rw [hh]⟩
    have HO : Hid (VOut w w1 ro L rc vs ∧ Fr [] w w1) := ⟨VOut.of (by simpa using hown) HL.out, (Fr.alloc [] w _).on (Fr.grown (S := [w.heap.size]) hgrow (by intro k hk _; simp [Value.ownBlock] at hk; simp [hk])) (by simp)⟩
    clear hown hgrow hnil
    go_wp2
    go_ret
    exact ⟨ro, rc, rfl, HO.out⟩
/-- Two rows share no block. -/
def Apa (a b : Option Addr) : Prop := ∀ p q, a = some p → b = some q → p.block ≠ q.block
/-- Keys with their versions, handed out: a row of its own, each key's versions in a row of their own, made since w. -/
structure HOut (w w' : World) (ro : Option Addr) (N rc : Nat) (hs : List Hd) : Prop where
  len : N = hs.length
  row : w'.ownsRow w.heap.size 97 2 (.slice ro N rc) N (hdsC hs)
  each : ∀ h ∈ hs, VOut w w' h.vo h.L h.cap h.vs
  apart : hs.Pairwise fun a b => Apa a.vo b.vo
theorem HOut.keep {w w1 w2 : World} {ro : Option Addr} {N rc : Nat} {hs : List Hd} (h : HOut w w1 ro N rc hs) (hf : Fr [] w1 w2) : HOut w w2 ro N rc hs := ⟨h.len, owns_keepB h.row hf (by simp), fun x hx => (h.each x hx).keepS hf (by simp), h.apart⟩
theorem VOut.block {w w' : World} {ro : Option Addr} {N rc : Nat} {vs : List Vn} (h : VOut w w' ro N rc vs) (p : Addr) (hp : ro = some p) : w.heap.size ≤ p.block ∧ p.block < w'.heap.size := by
  obtain ⟨rf, _, ho⟩ := h.own
  have e : (Value.slice ro N rf).ownBlock = some p.block := by rw [hp]; rfl
  obtain ⟨h1, cur, h2⟩ := owns_cells ho e
  exact ⟨h1, lt_of_block h2⟩
theorem HOut.newApart {w wr w2 : World} {ro : Option Addr} {N rc : Nat} {hs : List Hd} {vo : Option Addr} {L c : Nat} {vs : List Vn} (h : HOut w wr ro N rc hs) (hV : VOut wr w2 vo L c vs) : ∀ x ∈ hs, Apa x.vo vo := by
  intro x hx p q hp hq e
  have h1 := (h.each x hx).block p hp
  have h2 := hV.block q hq
  omega
theorem HOut.keepS {S : List Nat} {w w1 w2 : World} {ro : Option Addr} {N rc : Nat} {hs : List Hd} (h : HOut w w1 ro N rc hs) (hf : Fr S w1 w2) (hrow : ∀ k, (Value.slice ro N rc).ownBlock = some k → k ∉ S) (hv : ∀ j cur, w1.heap[j]? = some (.cells cur 134 (0, 0)) → j ∉ S) : HOut w w2 ro N rc hs :=
  ⟨h.len, owns_keepB h.row hf hrow, fun x hx => (h.each x hx).keepS hf (fun j hj => by obtain ⟨_, cur, hc⟩ := (h.each x hx).blk j hj; exact hv j cur hc), h.apart⟩
/-- A key and its versions, wherever they lie. -/
def Hd.kv (h : Hd) : ByteArray × List Vn := (h.key, h.vs)
theorem HOut.later {w w1 w2 : World} {ro : Option Addr} {N rc : Nat} {hs : List Hd} (h : HOut w1 w2 ro N rc hs) (hz : w.heap.size ≤ w1.heap.size) : HOut w w2 ro N rc hs := ⟨h.len, own_base h.row hz, fun x hx => (h.each x hx).later hz, h.apart⟩
end Go.Proofs.YtpdkdgmaofhlkaaGreatDoor
