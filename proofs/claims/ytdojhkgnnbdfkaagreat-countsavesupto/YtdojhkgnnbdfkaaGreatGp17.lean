/- Texts of this claim laid together, one behind the other: contracts and plain lemmas; conditions as each names them. -/
import Derived.Test.YtdojhkgnnbdfkaaGreatGp15
import Derived.Test.YtdojhkgnnbdfkaaGreatGp16
import Derived.BigRegion
/- A checkpoint's bytes read: contract of Decode. Conditions: fewer than 2^41 bytes. -/
namespace Go.Proofs.YtdojhkgnnbdfkaaGreat
open Go.ChangeShapes Go.WideShapes Go.ChangeAt Go.RowKit Go.Lib Go.Maps
set_option linter.unusedVariables false
set_option linter.unusedSimpArgs false

/-! ### How great what is taken can be -/
def limX (v : Vn) : Prop := 0 ≤ v.num ∧ v.num ≤ 65536 ∧ v.val.size ≤ 1024
def limK (p : Kv) : Prop := p.1.size ≤ 64 ∧ p.2.length ≤ 65536 ∧ ∀ v ∈ p.2, limX v
theorem dX_lim {xs r : List Nat} {v : Vn} (hb : ∀ y ∈ xs, y < 256) (h : dX xs = .ok (v, r)) : limX v := by
  unfold dX at h
  split at h
  · cases h
  · rename_i n s hn
    obtain ⟨e1, hn1⟩ := dN_inv hb hn
    have hb1 : ∀ y ∈ s, y < 256 := fun y hy => hb y (by rw [e1]; simp [hy])
    unfold dXd at h
    split at h
    · cases h
    · rename_i d s2 hd
      obtain ⟨e2, h3⟩ := dF_inv hd
      have hb2 : ∀ y ∈ s2, y < 256 := fun y hy => hb1 y (by rw [e2]; simp [hy])
      split at h
      · cases h
        exact ⟨by simp, by simp; omega, Nat.zero_le _⟩
      · unfold dXv at h
        split at h
        · cases h
        · rename_i u s3 hv
          cases h
          obtain ⟨e3, h4⟩ := dT_inv (m := 1024) hb2 hv
          exact ⟨by simp, by simp; omega, h4⟩
theorem dK_lim {xs r : List Nat} {p : Kv} (hb : ∀ y ∈ xs, y < 256) (h : dK xs = .ok (p, r)) : limK p := by
  unfold dK at h
  split at h
  · cases h
  · rename_i k s hk
    obtain ⟨e1, h1⟩ := dT_inv (m := 64) hb hk
    have hb1 : ∀ y ∈ s, y < 256 := fun y hy => hb y (by rw [e1]; simp [hy])
    split at h
    · cases h
    · rename_i vs s2 hs
      cases h
      obtain ⟨_, h2, h3⟩ := dL_inv (e := encX) (G := limX) (fun hb h => ⟨dX_inv hb h, dX_lim hb h⟩) hb1 hs
      exact ⟨h1, h2, h3⟩
theorem dLK_lim {xs r : List Nat} {ps : List Kv} (hb : ∀ y ∈ xs, y < 256) (h : dL dK xs = .ok (ps, r)) : ∀ p ∈ ps, limK p := (dL_inv (e := encK) (G := limK) (fun hb h => ⟨dK_inv hb h, dK_lim hb h⟩) hb h).2.2
theorem HOut.rsL {w w' : World} {ro : Option Addr} {N rc : Nat} {hs : List Hd} (h : HOut w w' ro N rc hs) (hl : ∀ p ∈ hs.map Hd.kv, limK p) (hN : N ≤ 65536) : HRs w' ro hs := by
  refine ⟨fun h0 => ?_, by rw [← h.len]; omega, fun x hx => ?_⟩
  · rcases h.row.2 with ⟨_, h1⟩ | ⟨g, cap, cur, hv, _, hg, _, _, _, ht⟩
    · have := h.len; omega
    · cases hv
      refine ⟨g, 0, rfl, lt_of_block hg, fun i hi => ?_⟩
      obtain ⟨e1, e2⟩ := hdsC_get hs i hi
      have hN2 := h.len
      constructor
      · rw [cell_of_row _ _ _ _ _ _ hg, Nat.zero_add, ← Array.getElem?_toList, ← e1, ← ht, List.getElem?_take_of_lt (by omega)]
      · rw [cell_of_row _ _ _ _ _ _ hg, Nat.zero_add, ← Array.getElem?_toList, ← e2, ← ht, List.getElem?_take_of_lt (by omega)]
  · have hV := h.each x hx
    obtain ⟨a1, a2, a3⟩ := hl x.kv (List.mem_map.2 ⟨x, hx, rfl⟩)
    have a2' : x.vs.length ≤ 65536 := a2
    have a1' : x.key.size ≤ 64 := a1
    exact ⟨by omega, hV.len, hV.cap, hV.rs (by omega) (fun v hv => by obtain ⟨b1, b2, b3⟩ := a3 v hv; exact ⟨by omega, by omega, by omega⟩)⟩
theorem IOw.irs {base : Nat} {w : World} {o : Option Addr} {n c : Nat} {xs : List Int} (h : IOw base w o n c xs) (hn : n ≤ 65536) : IRs w o xs := by
  refine ⟨fun h0 => ?_, by rw [← h.len]; omega⟩
  obtain ⟨g, e, _, hl, hc⟩ := h.cells (by rw [h.len]; exact h0)
  exact ⟨g, 0, e, hl, fun i hi => by rw [Nat.zero_add]; exact hc i (by rw [h.len]; exact hi)⟩
/-! ### The box of what is said -/
structure SB (w : World) (b : Nat) (x y z : Value) : Prop where
  box : w.heap[b]? = some (.cells #[x, y, z] 27 (0, 0))
theorem SB.c0 {w : World} {b : Nat} {x y z : Value} (h : SB w b x y z) : w.cell? ⟨b, 0, none⟩ = some x := by simp [World.cell?, h.box]
theorem SB.c1 {w : World} {b : Nat} {x y z : Value} (h : SB w b x y z) : w.cell? ⟨b, 1, none⟩ = some y := by simp [World.cell?, h.box]
theorem SB.c2 {w : World} {b : Nat} {x y z : Value} (h : SB w b x y z) : w.cell? ⟨b, 2, none⟩ = some z := by simp [World.cell?, h.box]
theorem SB.fz {w : World} {b : Nat} {x y z : Value} (h : SB w b x y z) (j : Nat) : w.frozen? ⟨b, j, none⟩ = false := by simp [World.frozen?, h.box]
theorem SB.keep {S : List Nat} {w w' : World} {b : Nat} {x y z : Value} (h : SB w b x y z) (hf : Fr S w w') (hn : b ∉ S) : SB w' b x y z := ⟨hf.keep h.box hn⟩
theorem SB.set0 {w : World} {b : Nat} {x y z : Value} (h : SB w b x y z) (v : Value) : SB (w.setCell ⟨b, 0, none⟩ v) b v y z := by
  obtain ⟨hlt, hk⟩ := Array.getElem?_eq_some_iff.1 h.box
  refine ⟨?_⟩
  show (w.heap.modify b _)[b]? = _
  rw [Array.getElem?_eq_getElem (by rw [Array.size_modify]; exact hlt), Array.getElem_modify_self, hk]
  rfl
theorem SB.set1 {w : World} {b : Nat} {x y z : Value} (h : SB w b x y z) (v : Value) : SB (w.setCell ⟨b, 1, none⟩ v) b x v z := ⟨three_setCell1 h.box⟩
theorem SB.set2 {w : World} {b : Nat} {x y z : Value} (h : SB w b x y z) (v : Value) : SB (w.setCell ⟨b, 2, none⟩ v) b x y v := ⟨three_setCell2 h.box⟩
/-- Who lies apart from whom. -/
structure Nu (w : World) (t g r b0 sb : Nat) : Prop where
  nt : w.heap.size ≤ t
  ng : w.heap.size ≤ g
  s0 : w.heap.size ≤ b0
  s1 : w.heap.size ≤ sb
  rr : w.heap.size ≤ r
  d1 : b0 ≠ t ∧ b0 ≠ g ∧ b0 ≠ r
  d2 : sb ≠ t ∧ sb ≠ g ∧ sb ≠ r
  d3 : b0 ≠ sb
/-- Between two steps. -/
structure DcI (w W : World) (b0 sb : Nat) (x y z : Value) : Prop where
  rb : SB W b0 (.int .i64 0) (.slice none 0 0) (.slice none 0 0)
  sv : SB W sb x y z
  fr : Fr [] w W
theorem DcI.step {w W W' : World} {t g r b0 sb : Nat} {x y z : Value} (h : DcI w W b0 sb x y z) (hN : Nu w t g r b0 sb) (hF : Fr [t, g] W W') : DcI w W' b0 sb x y z :=
  ⟨h.rb.keep hF (by simp; exact ⟨hN.d1.1, hN.d1.2.1⟩), h.sv.keep hF (by simp; exact ⟨hN.d2.1, hN.d2.2.1⟩), h.fr.on hF (by intro k hk; simp at hk; have := hN.nt; have := hN.ng; omega)⟩
theorem DcI.at0 {w W : World} {t g r b0 sb : Nat} {x y z : Value} (h : DcI w W b0 sb x y z) (hN : Nu w t g r b0 sb) (v : Value) : DcI w (W.setCell ⟨sb, 0, none⟩ v) b0 sb v y z ∧ Fr [sb] W (W.setCell ⟨sb, 0, none⟩ v) := by
  have hF : Fr [sb] W (W.setCell ⟨sb, 0, none⟩ v) := Fr.set _ _ _ (by simp)
  exact ⟨⟨h.rb.keep hF (by simp; exact hN.d3), h.sv.set0 v, h.fr.on hF (by intro k hk; simp at hk; have := hN.s1; omega)⟩, hF⟩
theorem DcI.at1 {w W : World} {t g r b0 sb : Nat} {x y z : Value} (h : DcI w W b0 sb x y z) (hN : Nu w t g r b0 sb) (v : Value) : DcI w (W.setCell ⟨sb, 1, none⟩ v) b0 sb x v z ∧ Fr [sb] W (W.setCell ⟨sb, 1, none⟩ v) := by
  have hF : Fr [sb] W (W.setCell ⟨sb, 1, none⟩ v) := Fr.set _ _ _ (by simp)
  exact ⟨⟨h.rb.keep hF (by simp; exact hN.d3), h.sv.set1 v, h.fr.on hF (by intro k hk; simp at hk; have := hN.s1; omega)⟩, hF⟩
theorem DcI.at2 {w W : World} {t g r b0 sb : Nat} {x y z : Value} (h : DcI w W b0 sb x y z) (hN : Nu w t g r b0 sb) (v : Value) : DcI w (W.setCell ⟨sb, 2, none⟩ v) b0 sb x y v ∧ Fr [sb] W (W.setCell ⟨sb, 2, none⟩ v) := by
  have hF : Fr [sb] W (W.setCell ⟨sb, 2, none⟩ v) := Fr.set _ _ _ (by simp)
  exact ⟨⟨h.rb.keep hF (by simp; exact hN.d3), h.sv.set2 v, h.fr.on hF (by intro k hk; simp at hk; have := hN.s1; omega)⟩, hF⟩
/-- Behind the store of the answer. -/
theorem DcI.fin {w W W3 : World} {b0 sb : Nat} {x y z : Value} (h : DcI w W b0 sb x y z) (hb : w.heap.size ≤ b0) (a b c : Value) (e : ((W.setCell ⟨b0, 0, none⟩ a).setCell ⟨b0, 1, none⟩ b).setCell ⟨b0, 2, none⟩ c = W3) :
    W3.cell? ⟨b0, 0, none⟩ = some a ∧ W3.cell? ⟨b0, 1, none⟩ = some b ∧ W3.cell? ⟨b0, 2, none⟩ = some c ∧ Fr [b0] W W3 ∧ Fr [] w W3 := by
  have hr : SB W3 b0 a b c := by rw [← e]; exact ((h.rb.set0 a).set1 b).set2 c
  have hFs : Fr [b0] W W3 := by rw [← e]; exact ((Fr.set _ _ _ (by simp)).then (Fr.set _ _ _ (by simp))).then (Fr.set _ _ _ (by simp))
  exact ⟨hr.c0, hr.c1, hr.c2, hFs, h.fr.on hFs (by intro k hk; simp at hk; omega)⟩
theorem Tl.set {w w' : World} {t g r b0 sb : Nat} {ys : List Nat} {W0 : World} (h : Tl w t g r ys) (hN : Nu W0 t g r b0 sb) (hf : Fr [sb] w w') : Tl w' t g r ys := h.off hf hN.d2.1 hN.d2.2.1 hN.d2.2.2
theorem Td.set {w w' : World} {t g r c b0 sb : Nat} {W0 : World} (h : Td w t g c) (hN : Nu W0 t g r b0 sb) (hf : Fr [sb] w w') : Td w' t g c := h.off hf hN.d2.1
theorem IOw.offS {base : Nat} {w w' : World} {o : Option Addr} {n c sb : Nat} {xs : List Int} {x y z : Value} (h : IOw base w o n c xs) (hs : SB w sb x y z) (hf : Fr [sb] w w') : IOw base w' o n c xs := h.keepS hf (fun k hk hm => by
  obtain ⟨_, cur, hc⟩ := h.blk hk
  simp at hm
  subst hm
  rw [hs.box] at hc
  simp at hc)
theorem IOw.offT {base : Nat} {w w' : World} {o : Option Addr} {n c t g r : Nat} {xs : List Int} {ys : List Nat} (h : IOw base w o n c xs) (hT : Tl w t g r ys) (hf : Fr [t, g] w w') : IOw base w' o n c xs := h.keepS hf (hT.noOwn h.row (by decide) (by decide))
theorem HOut.offS {w0 w w' : World} {o : Option Addr} {n c sb : Nat} {hs : List Hd} {x y z : Value} (h : HOut w0 w o n c hs) (hsb : SB w sb x y z) (hf : Fr [sb] w w') : HOut w0 w' o n c hs := h.keepS hf (fun k hk hm => by
  obtain ⟨_, cur, hc⟩ := owns_cells h.row hk
  simp at hm
  subst hm
  rw [hsb.box] at hc
  simp at hc) (fun j cur hc hm => by
  simp at hm
  subst hm
  rw [hsb.box] at hc
  simp at hc)
/-- What is wrong with such bytes. -/
def DeT (xs : List Nat) (c : Nat) : Prop := dS xs = .error c ∨ (c = 4 ∧ ∃ s r, dS xs = .ok (s, r) ∧ 0 < r.length) ∨ (c = 1 ∧ ∃ s, dS xs = .ok (s, []) ∧ ¬ OkS s.m s.bs s.ps)
theorem dS_m {xs : List Nat} {c : Nat} (h : dN xs = .error c) : dS xs = .error c := by unfold dS; rw [dI_no h]
theorem dS_b {xs ys : List Nat} {n c : Nat} (h : dN xs = .ok (n, ys)) (h2 : dL dI ys = .error c) : dS xs = .error c := by unfold dS; rw [dI_ok h]; simp only; rw [h2]
theorem dS_h {xs ys zs : List Nat} {n c : Nat} {bs : List Int} (h : dN xs = .ok (n, ys)) (h2 : dL dI ys = .ok (bs, zs)) (h3 : dL dK zs = .error c) : dS xs = .error c := by unfold dS; rw [dI_ok h]; simp only; rw [h2]; simp only; rw [h3]
theorem dS_ok {xs ys zs us : List Nat} {n : Nat} {bs : List Int} {ps : List Kv} (h : dN xs = .ok (n, ys)) (h2 : dL dI ys = .ok (bs, zs)) (h3 : dL dK zs = .ok (ps, us)) : dS xs = .ok (⟨(n : Int), bs, ps⟩, us) := by unfold dS; rw [dI_ok h]; simp only; rw [h2]; simp only; rw [h3]
/-- What Decode answers. -/
def DeP (xs : List Nat) (w : World) (e : Ending) (w' : World) : Prop :=
  (∃ c, DeT xs c ∧ c ≠ 0 ∧ e = .returned (.tuple #[.agg #[.int .i64 0, .slice none 0 0, .slice none 0 0], .int .i64 (c : Int)]) ∧ Fr [] w w') ∨
  (∃ m bo Lb cb ho Lh ch bs hs, dS xs = .ok (⟨m, bs, hs.map Hd.kv⟩, []) ∧ OkS m bs (hs.map Hd.kv) ∧ Lb ≤ 65536 ∧ Lh ≤ 65536 ∧ e = .returned (.tuple #[.agg #[.int .i64 m, .slice bo Lb cb, .slice ho Lh ch], .int .i64 0]) ∧ IOw w.heap.size w' bo Lb cb bs ∧ HOut w w' ho Lh ch hs ∧ Fr [] w w')
set_option maxHeartbeats 16000000 in
set_option maxRecDepth 100000 in
theorem ddecode_any (ao : Option Addr) (L cap : Nat) (xs : List Nat) (w : World) (hA : BArg w ao L cap xs) (hL : L = xs.length) (hlen : xs.length < 2^41) :
    Calls Tryz.prog 90 #[.slice ao L cap] w fun e w' => DeP xs w e w' := by
  have HL : Hid (L = xs.length) := hL
  have HLow : Hid (∀ y ∈ xs, y < 256) := hA.low
  obtain ⟨w0, HW0⟩ : ∃ w0, Hid (w.alloc (.cells #[.int .i64 0, .slice none 0 0, .slice none 0 0] 27) = w0) := ⟨_, rfl⟩
  have hF0 : Fr [] w w0 := by rw [← HW0.out]; exact Fr.alloc [] w _
  have hb0 : SB w0 w.heap.size (.int .i64 0) (.slice none 0 0) (.slice none 0 0) := ⟨by rw [← HW0.out]; exact heap_alloc_new w _⟩
  have hs0 : w0.heap.size = w.heap.size + 1 := by rw [← HW0.out]; simp
  have HR0 : Hid (Calls _ _ _ _ _) := newReader_any ao L cap xs w0 hL (hA.keep hF0).src hA.low hlen
  clear hL hA hlen
  go_enter Tryz.func90, Tryz.ntmps90
  go_upto_region 1 with fail
  rw [HW0.out]
  go_wp2_with fail
  refine Calls.mono HR0.out ?_
  rintro e w1 ⟨g, rfl, hg, hR1, hF1⟩
  obtain ⟨r, hr⟩ : ∃ r, r = w0.heap.size := ⟨_, rfl⟩
  have hgl := hR1.lt
  have hrl : w0.heap.size < w1.heap.size := hR1.sl.blk
  obtain ⟨w2, HW2⟩ : ∃ w2, Hid (w1.alloc (.cells #[.pointer (some ⟨g, 0, none⟩), .int .i64 0] 168) = w2) := ⟨_, rfl⟩
  have hF2 : Fr [] w1 w2 := by rw [← HW2.out]; exact Fr.alloc [] w1 _
  have hT2 : TB w2 w1.heap.size g 0 := ⟨by rw [← HW2.out]; exact heap_alloc_new w1 _⟩
  have hs2 : w2.heap.size = w1.heap.size + 1 := by rw [← HW2.out]; simp
  obtain ⟨w3, HW3⟩ : ∃ w3, Hid (w2.alloc (.cells #[.int .i64 0, .slice none 0 0, .slice none 0 0] 27) = w3) := ⟨_, rfl⟩
  have hF3 : Fr [] w2 w3 := by rw [← HW3.out]; exact Fr.alloc [] w2 _
  have hb3 : SB w3 w2.heap.size (.int .i64 0) (.slice none 0 0) (.slice none 0 0) := ⟨by rw [← HW3.out]; exact heap_alloc_new w2 _⟩
  have hF13 := hF2.then hF3
  have hTl : Tl w3 w1.heap.size g r xs := ⟨hT2.keep hF3 (by simp), _, _, by rw [hr]; exact hR1.keep hF13 (by simp) (by simp)⟩
  have hD3 : DcI w w3 w.heap.size w2.heap.size (.int .i64 0) (.slice none 0 0) (.slice none 0 0) := ⟨hb0.keep (hF1.then hF13) (by simp), hb3, hF0.then (hF1.then hF13)⟩
  have hs1 := hF1.size
  have hgw : w0.heap.size ≤ g := by omega
  obtain ⟨t, ht⟩ : ∃ t, t = w1.heap.size := ⟨_, rfl⟩
  obtain ⟨sb, hsb⟩ : ∃ t, t = w2.heap.size := ⟨_, rfl⟩
  obtain ⟨b0, hb00⟩ : ∃ t, t = w.heap.size := ⟨_, rfl⟩
  have hNu : Nu w t g r b0 sb := ⟨by omega, by omega, by omega, by omega, by omega, ⟨by omega, by omega, by omega⟩, ⟨by omega, by omega, by omega⟩, by omega⟩
  rw [← ht, ] at hTl
  rw [← hsb, ← hb00] at hD3
  have HNu : Hid (Nu w t g r b0 sb) := hNu
  have HD3 : Hid (DcI w w3 b0 sb (.int .i64 0) (.slice none 0 0) (.slice none 0 0)) := hD3
  have HTl : Hid (Tl w3 t g r xs) := hTl
  have HN : Hid (Calls _ _ _ _ _) := number_any t g r xs w3 hTl
  have HT : Hid (t = w1.heap.size) := ht
  have HS : Hid (t + 1 = sb) := by show _ = _; omega
  have HB0 : Hid (b0 = w.heap.size) := hb00
  clear hNu hD3 hTl hgl hrl hF2 hT2 hs2 hF3 hb3 hF13 hs1 hgw ht hsb hb00 hr hR1 hF1 hb0 hs0 hF0 HR0 hg
  go_upto_region 3 with fail
  rw [HW2.out, ← HT.out, HW3.out, HS.out, ← HB0.out]
  clear HW2 HT HW3 HS
  go_wp2_with fail
  refine Calls.mono HN.out ?_
  rintro e w4 (⟨c, h1, rfl, hT4, hF4⟩ | ⟨n, ys, h1, rfl, hT4, hF4⟩)
  · have H1 : Hid (dS xs = .error c) := dS_m h1
    have HD4 : Hid (DcI w w4 b0 sb (.int .i64 0) (.slice none 0 0) (.slice none 0 0)) := HD3.out.step HNu.out hF4
    have s0 := HD4.out.sv.c0
    have s1 := HD4.out.sv.fz 0
    obtain ⟨hD5, hF5⟩ := HD4.out.at0 HNu.out (.int .i64 0)
    have HT5 : Hid (Td (w4.setCell ⟨sb, 0, none⟩ (.int .i64 0)) t g c) := hT4.set HNu.out hF5
    have HD5 : Hid (DcI w (w4.setCell ⟨sb, 0, none⟩ (.int .i64 0)) b0 sb (.int .i64 0) (.slice none 0 0) (.slice none 0 0)) := hD5
    obtain ⟨w5, HW5⟩ : ∃ w5, Hid (w4.setCell ⟨sb, 0, none⟩ (.int .i64 0) = w5) := ⟨_, rfl⟩
    rw [HW5.out] at HT5 HD5
    clear h1 hT4 hF4 hD5 hF5 HN HD3 HD4 HTl
    go_upto_region 4 with fail
    rw [HW5.out]
    clear HW5 s0 s1
    have HC6 : Hid (Calls _ _ _ _ _) := listI_dead (.func (Fn.func 106) #[.pointer (some ⟨t, 0, none⟩)] #[]) t g c w5 HT5.out
    have s0 := HD5.out.sv.c1
    have s1 := HD5.out.sv.fz 1
    obtain ⟨hD6, hF6⟩ := HD5.out.at1 HNu.out (.slice none 0 0)
    have HT6 : Hid (Td (w5.setCell ⟨sb, 1, none⟩ (.slice none 0 0)) t g c) := HT5.out.set HNu.out hF6
    have HD6 : Hid (DcI w (w5.setCell ⟨sb, 1, none⟩ (.slice none 0 0)) b0 sb (.int .i64 0) (.slice none 0 0) (.slice none 0 0)) := hD6
    obtain ⟨w6, HW6⟩ : ∃ w6, Hid (w5.setCell ⟨sb, 1, none⟩ (.slice none 0 0) = w6) := ⟨_, rfl⟩
    rw [HW6.out] at HT6 HD6
    clear hD6 hF6 HT5 HD5
    go_wp2_with fail
    refine Calls.mono HC6.out ?_
    rintro e w50 ⟨rfl, rfl⟩
    go_upto_region 5 with fail
    rw [HW6.out]
    clear HW6 s0 s1 HC6
    have HC7 : Hid (Calls _ _ _ _ _) := listH_dead (.func (Fn.func 109) #[.pointer (some ⟨t, 0, none⟩)] #[]) t g c w6 HT6.out
    have s0 := HD6.out.sv.c2
    have s1 := HD6.out.sv.fz 2
    obtain ⟨hD7, hF7⟩ := HD6.out.at2 HNu.out (.slice none 0 0)
    have HT7 : Hid (Td (w6.setCell ⟨sb, 2, none⟩ (.slice none 0 0)) t g c) := HT6.out.set HNu.out hF7
    have HD7 : Hid (DcI w (w6.setCell ⟨sb, 2, none⟩ (.slice none 0 0)) b0 sb (.int .i64 0) (.slice none 0 0) (.slice none 0 0)) := hD7
    obtain ⟨w7, HW7⟩ : ∃ w7, Hid (w6.setCell ⟨sb, 2, none⟩ (.slice none 0 0) = w7) := ⟨_, rfl⟩
    rw [HW7.out] at HT7 HD7
    clear hD7 hF7 HT6 HD6
    go_wp2_with fail
    refine Calls.mono HC7.out ?_
    rintro e w60 ⟨rfl, rfl⟩
    go_upto_region 6 with fail
    rw [HW7.out]
    clear HW7 s0 s1 HC7
    have s0 := HT7.out.tb.c1
    have hcb : ((c : Int) != 0) = true := by rw [bne_iff_ne]; have := HT7.out.bad; omega
    have hbt := HNu.out.d1.1
    have HCn : Hid (c ≠ 0) := HT7.out.bad
    have z0 := HD7.out.rb.c0
    have z1 := HD7.out.rb.c1
    have z2 := HD7.out.rb.c2
    have y0 := HD7.out.rb.fz 0
    have y1 := HD7.out.rb.fz 1
    have y2 := HD7.out.rb.fz 2
    go_wp2_with fail
    go_region
    obtain ⟨W3, HW3⟩ : ∃ W3, Hid (((w7.setCell ⟨b0, 0, none⟩ (.int .i64 0)).setCell ⟨b0, 1, none⟩ (.slice none 0 0)).setCell ⟨b0, 2, none⟩ (.slice none 0 0) = W3) := ⟨_, rfl⟩
    obtain ⟨q0, q1, q2, hfs, hfin⟩ := HD7.out.fin HNu.out.s0 (.int .i64 0) (.slice none 0 0) (.slice none 0 0) HW3.out
    have HFin : Hid (Fr [b0] w7 W3 ∧ Fr [] w W3) := ⟨hfs, hfin⟩
    rw [HW3.out]
    clear hfin hfs z0 z1 z2 y0 y1 y2
    have d0 : W3.drew.cell? ⟨b0, 0, none⟩ = some (.int .i64 0) := q0
    have d1 : W3.drew.cell? ⟨b0, 1, none⟩ = some (.slice none 0 0) := q1
    have d2 : W3.drew.cell? ⟨b0, 2, none⟩ = some (.slice none 0 0) := q2
    clear q0 q1 q2
    go_wp2
    refine bodyPost_ret (v := .tuple #[.agg #[.int .i64 0, .slice none 0 0, .slice none 0 0], .int .i64 (c : Int)]) (by rw [results_cell_tmp rfl]; go_simp) rfl ?_
    exact Or.inl ⟨c, Or.inl H1.out, HCn.out, rfl, HFin.out.2.then (Fr.drew _ _)⟩
  · have H0 : Hid (dN xs = .ok (n, ys)) := h1
    have HD4 : Hid (DcI w w4 b0 sb (.int .i64 0) (.slice none 0 0) (.slice none 0 0)) := HD3.out.step HNu.out hF4
    have s0 := HD4.out.sv.c0
    have s1 := HD4.out.sv.fz 0
    obtain ⟨hD5, hF5⟩ := HD4.out.at0 HNu.out (.int .i64 (n : Int))
    have HT5 : Hid (Tl (w4.setCell ⟨sb, 0, none⟩ (.int .i64 (n : Int))) t g r ys) := hT4.set HNu.out hF5
    have HD5 : Hid (DcI w (w4.setCell ⟨sb, 0, none⟩ (.int .i64 (n : Int))) b0 sb (.int .i64 (n : Int)) (.slice none 0 0) (.slice none 0 0)) := hD5
    obtain ⟨w5, HW5⟩ : ∃ w5, Hid (w4.setCell ⟨sb, 0, none⟩ (.int .i64 (n : Int)) = w5) := ⟨_, rfl⟩
    rw [HW5.out] at HT5 HD5
    clear h1 hT4 hF4 hD5 hF5 HN HD3 HD4 HTl
    go_upto_region 4 with fail
    rw [HW5.out]
    clear HW5 s0 s1
    have HC6 : Hid (Calls _ _ _ _ _) := listI_any t g r ys w5 HT5.out
    go_wp2_with fail
    refine Calls.mono HC6.out ?_
    rintro e w50 (⟨c, h2, rfl, hT50, hF50⟩ | ⟨bo, Lb, cb, bs, zs, h2, rfl, hI50, hT50, hF50⟩)
    · have H1 : Hid (dS xs = .error c) := dS_b H0.out h2
      have HD50 : Hid (DcI w w50 b0 sb (.int .i64 (n : Int)) (.slice none 0 0) (.slice none 0 0)) := HD5.out.step HNu.out hF50
      have s0 := HD50.out.sv.c1
      have s1 := HD50.out.sv.fz 1
      obtain ⟨hD6, hF6⟩ := HD50.out.at1 HNu.out (.slice none 0 0)
      have HT6 : Hid (Td (w50.setCell ⟨sb, 1, none⟩ (.slice none 0 0)) t g c) := hT50.set HNu.out hF6
      have HD6 : Hid (DcI w (w50.setCell ⟨sb, 1, none⟩ (.slice none 0 0)) b0 sb (.int .i64 (n : Int)) (.slice none 0 0) (.slice none 0 0)) := hD6
      obtain ⟨w6, HW6⟩ : ∃ w6, Hid (w50.setCell ⟨sb, 1, none⟩ (.slice none 0 0) = w6) := ⟨_, rfl⟩
      rw [HW6.out] at HT6 HD6
      clear hD6 hF6 HT5 HD5 HD50 h2 hT50 hF50 H0
      go_upto_region 5 with fail
      rw [HW6.out]
      clear HW6 s0 s1 HC6
      have HC7 : Hid (Calls _ _ _ _ _) := listH_dead (.func (Fn.func 109) #[.pointer (some ⟨t, 0, none⟩)] #[]) t g c w6 HT6.out
      have s0 := HD6.out.sv.c2
      have s1 := HD6.out.sv.fz 2
      obtain ⟨hD7, hF7⟩ := HD6.out.at2 HNu.out (.slice none 0 0)
      have HT7 : Hid (Td (w6.setCell ⟨sb, 2, none⟩ (.slice none 0 0)) t g c) := HT6.out.set HNu.out hF7
      have HD7 : Hid (DcI w (w6.setCell ⟨sb, 2, none⟩ (.slice none 0 0)) b0 sb (.int .i64 (n : Int)) (.slice none 0 0) (.slice none 0 0)) := hD7
      obtain ⟨w7, HW7⟩ : ∃ w7, Hid (w6.setCell ⟨sb, 2, none⟩ (.slice none 0 0) = w7) := ⟨_, rfl⟩
      rw [HW7.out] at HT7 HD7
      clear hD7 hF7 HT6 HD6
      go_wp2_with fail
      refine Calls.mono HC7.out ?_
      rintro e w60 ⟨rfl, rfl⟩
      go_upto_region 6 with fail
      rw [HW7.out]
      clear HW7 s0 s1 HC7
      have s0 := HT7.out.tb.c1
      have hcb : ((c : Int) != 0) = true := by rw [bne_iff_ne]; have := HT7.out.bad; omega
      have hbt := HNu.out.d1.1
      have HCn : Hid (c ≠ 0) := HT7.out.bad
      have z0 := HD7.out.rb.c0
      have z1 := HD7.out.rb.c1
      have z2 := HD7.out.rb.c2
      have y0 := HD7.out.rb.fz 0
      have y1 := HD7.out.rb.fz 1
      have y2 := HD7.out.rb.fz 2
      go_wp2_with fail
      go_region
      obtain ⟨W3, HW3⟩ : ∃ W3, Hid (((w7.setCell ⟨b0, 0, none⟩ (.int .i64 0)).setCell ⟨b0, 1, none⟩ (.slice none 0 0)).setCell ⟨b0, 2, none⟩ (.slice none 0 0) = W3) := ⟨_, rfl⟩
      obtain ⟨q0, q1, q2, hfs, hfin⟩ := HD7.out.fin HNu.out.s0 (.int .i64 0) (.slice none 0 0) (.slice none 0 0) HW3.out
      have HFin : Hid (Fr [b0] w7 W3 ∧ Fr [] w W3) := ⟨hfs, hfin⟩
      rw [HW3.out]
      clear hfin hfs z0 z1 z2 y0 y1 y2
      have d0 : W3.drew.cell? ⟨b0, 0, none⟩ = some (.int .i64 0) := q0
      have d1 : W3.drew.cell? ⟨b0, 1, none⟩ = some (.slice none 0 0) := q1
      have d2 : W3.drew.cell? ⟨b0, 2, none⟩ = some (.slice none 0 0) := q2
      clear q0 q1 q2
      go_wp2
      refine bodyPost_ret (v := .tuple #[.agg #[.int .i64 0, .slice none 0 0, .slice none 0 0], .int .i64 (c : Int)]) (by rw [results_cell_tmp rfl]; go_simp) rfl ?_
      exact Or.inl ⟨c, Or.inl H1.out, HCn.out, rfl, HFin.out.2.then (Fr.drew _ _)⟩
    · have H2 : Hid (dL dI ys = .ok (bs, zs)) := h2
      have HD50 : Hid (DcI w w50 b0 sb (.int .i64 (n : Int)) (.slice none 0 0) (.slice none 0 0)) := HD5.out.step HNu.out hF50
      have s0 := HD50.out.sv.c1
      have s1 := HD50.out.sv.fz 1
      obtain ⟨hD6, hF6⟩ := HD50.out.at1 HNu.out (.slice bo Lb cb)
      have HT6 : Hid (Tl (w50.setCell ⟨sb, 1, none⟩ (.slice bo Lb cb)) t g r zs) := hT50.set HNu.out hF6
      have HI6 : Hid (IOw w.heap.size (w50.setCell ⟨sb, 1, none⟩ (.slice bo Lb cb)) bo Lb cb bs) := (hI50.offS HD50.out.sv hF6).low HD5.out.fr.size
      have HD6 : Hid (DcI w (w50.setCell ⟨sb, 1, none⟩ (.slice bo Lb cb)) b0 sb (.int .i64 (n : Int)) (.slice bo Lb cb) (.slice none 0 0)) := hD6
      obtain ⟨w6, HW6⟩ : ∃ w6, Hid (w50.setCell ⟨sb, 1, none⟩ (.slice bo Lb cb) = w6) := ⟨_, rfl⟩
      rw [HW6.out] at HT6 HD6 HI6
      clear hD6 hF6 HT5 HD5 HD50 h2 hT50 hF50 hI50
      go_upto_region 5 with fail
      rw [HW6.out]
      clear HW6 s0 s1 HC6
      have HC7 : Hid (Calls _ _ _ _ _) := listH_any t g r zs w6 HT6.out
      go_wp2_with fail
      refine Calls.mono HC7.out ?_
      rintro e w60 (⟨c, h3, rfl, hT60, hF60⟩ | ⟨ho, Lh, ch, hs, us, h3, hLh, rfl, hH60, hT60, hF60⟩)
      · have H1 : Hid (dS xs = .error c) := dS_h H0.out H2.out h3
        have HD60 : Hid (DcI w w60 b0 sb (.int .i64 (n : Int)) (.slice bo Lb cb) (.slice none 0 0)) := HD6.out.step HNu.out hF60
        have s0 := HD60.out.sv.c2
        have s1 := HD60.out.sv.fz 2
        obtain ⟨hD7, hF7⟩ := HD60.out.at2 HNu.out (.slice none 0 0)
        have HT7 : Hid (Td (w60.setCell ⟨sb, 2, none⟩ (.slice none 0 0)) t g c) := hT60.set HNu.out hF7
        have HD7 : Hid (DcI w (w60.setCell ⟨sb, 2, none⟩ (.slice none 0 0)) b0 sb (.int .i64 (n : Int)) (.slice bo Lb cb) (.slice none 0 0)) := hD7
        obtain ⟨w7, HW7⟩ : ∃ w7, Hid (w60.setCell ⟨sb, 2, none⟩ (.slice none 0 0) = w7) := ⟨_, rfl⟩
        rw [HW7.out] at HT7 HD7
        clear hD7 hF7 HT6 HD6 HD60 h3 hT60 hF60 H0 H2 HI6
        go_upto_region 6 with fail
        rw [HW7.out]
        clear HW7 s0 s1 HC7
        have s0 := HT7.out.tb.c1
        have hcb : ((c : Int) != 0) = true := by rw [bne_iff_ne]; have := HT7.out.bad; omega
        have hbt := HNu.out.d1.1
        have HCn : Hid (c ≠ 0) := HT7.out.bad
        have z0 := HD7.out.rb.c0
        have z1 := HD7.out.rb.c1
        have z2 := HD7.out.rb.c2
        have y0 := HD7.out.rb.fz 0
        have y1 := HD7.out.rb.fz 1
        have y2 := HD7.out.rb.fz 2
        go_wp2_with fail
        go_region
        obtain ⟨W3, HW3⟩ : ∃ W3, Hid (((w7.setCell ⟨b0, 0, none⟩ (.int .i64 0)).setCell ⟨b0, 1, none⟩ (.slice none 0 0)).setCell ⟨b0, 2, none⟩ (.slice none 0 0) = W3) := ⟨_, rfl⟩
        obtain ⟨q0, q1, q2, hfs, hfin⟩ := HD7.out.fin HNu.out.s0 (.int .i64 0) (.slice none 0 0) (.slice none 0 0) HW3.out
        have HFin : Hid (Fr [b0] w7 W3 ∧ Fr [] w W3) := ⟨hfs, hfin⟩
        rw [HW3.out]
        clear hfin hfs z0 z1 z2 y0 y1 y2
        have d0 : W3.drew.cell? ⟨b0, 0, none⟩ = some (.int .i64 0) := q0
        have d1 : W3.drew.cell? ⟨b0, 1, none⟩ = some (.slice none 0 0) := q1
        have d2 : W3.drew.cell? ⟨b0, 2, none⟩ = some (.slice none 0 0) := q2
        clear q0 q1 q2
        go_wp2
        refine bodyPost_ret (v := .tuple #[.agg #[.int .i64 0, .slice none 0 0, .slice none 0 0], .int .i64 (c : Int)]) (by rw [results_cell_tmp rfl]; go_simp) rfl ?_
        exact Or.inl ⟨c, Or.inl H1.out, HCn.out, rfl, HFin.out.2.then (Fr.drew _ _)⟩
      · have H3 : Hid (dS xs = .ok (⟨(n : Int), bs, hs.map Hd.kv⟩, us)) := dS_ok H0.out H2.out h3
        have HZ : Hid (∀ y ∈ zs, y < 256) := by obtain ⟨ao', cap', hR⟩ := HT6.out.rd; exact hR.low
        have HLim : Hid (∀ p ∈ hs.map Hd.kv, limK p) := dLK_lim HZ.out h3
        have hLb : Lb ≤ 65536 := by
          have h4 := (dL_inv (e := encI) (G := fun _ => True) (fun hb h => ⟨(dI_inv hb h).1, trivial⟩) (by obtain ⟨_, _, hR⟩ := HT6.out.rd; exact fun y hy => (by
            have hx := HLow.out
            have e1 := (dN_inv hx H0.out).1
            exact hx y (by rw [e1]; simp [hy]))) H2.out).2.1
          rw [HI6.out.len]
          exact h4
        have HD60 : Hid (DcI w w60 b0 sb (.int .i64 (n : Int)) (.slice bo Lb cb) (.slice none 0 0)) := HD6.out.step HNu.out hF60
        have s0 := HD60.out.sv.c2
        have s1 := HD60.out.sv.fz 2
        obtain ⟨hD7, hF7⟩ := HD60.out.at2 HNu.out (.slice ho Lh ch)
        have HT7 : Hid (Tl (w60.setCell ⟨sb, 2, none⟩ (.slice ho Lh ch)) t g r us) := hT60.set HNu.out hF7
        have HI7 : Hid (IOw w.heap.size (w60.setCell ⟨sb, 2, none⟩ (.slice ho Lh ch)) bo Lb cb bs) := (HI6.out.offT HT6.out hF60).offS HD60.out.sv hF7
        have hH7 := hH60.offS HD60.out.sv hF7
        have HH7 : Hid (HOut w (w60.setCell ⟨sb, 2, none⟩ (.slice ho Lh ch)) ho Lh ch hs) := ⟨hH7.len, own_base hH7.row HD6.out.fr.size, fun x hx => (hH7.each x hx).later HD6.out.fr.size, hH7.apart⟩
        have HD7 : Hid (DcI w (w60.setCell ⟨sb, 2, none⟩ (.slice ho Lh ch)) b0 sb (.int .i64 (n : Int)) (.slice bo Lb cb) (.slice ho Lh ch)) := hD7
        obtain ⟨w7, HW7⟩ : ∃ w7, Hid (w60.setCell ⟨sb, 2, none⟩ (.slice ho Lh ch) = w7) := ⟨_, rfl⟩
        rw [HW7.out] at HT7 HD7 HI7 HH7
        clear hD7 hF7 HT6 HD6 HD60 h3 hT60 hF60 H0 H2 HI6 hH60 hH7 HZ
        go_upto_region 6 with fail
        rw [HW7.out]
        clear HW7 s0 s1 HC7
        have s0 := HT7.out.tb.c1
        have s1 := HT7.out.tb.c0
        obtain ⟨ao7, cap7, hR7⟩ := HT7.out.rd
        have hE7 := end_any g r us 0 ao7 cap7 w7 hR7
        obtain ⟨d, hd⟩ : ∃ d, d = endOf 0 us.length := ⟨_, rfl⟩
        rw [← hd] at hE7
        have HE7 : Hid (Calls _ _ _ _ _) := hE7
        have HDd : Hid (d = endOf 0 us.length) := hd
        clear hE7 hd hR7
        by_cases hu : us = []
        · subst hu
          obtain rfl : d = 0 := HDd.out
          obtain ⟨c, hck⟩ := CkS.ex (n : Int) bs hs
          have HC8 : Hid (Calls _ _ _ _ _) := dcheck_any (n : Int) bo ho Lb cb Lh ch c bs hs w7 (HI7.out.irs hLb) HI7.out.len (HH7.out.rsL HLim.out hLh) HH7.out.len hck
          have HCk : Hid (CkS (n : Int) bs hs c) := hck
          have p0 := HD7.out.sv.c0
          have p1 := HD7.out.sv.c1
          have p2 := HD7.out.sv.c2
          clear hck
          go_wp2_with fail
          refine Calls.mono HE7.out ?_
          rintro e w70 ⟨rfl, rfl⟩
          go_wp2_with fail
          refine Calls.mono HC8.out ?_
          rintro e w8 ⟨rfl, hF8⟩
          have HD8 : Hid (DcI w w8 b0 sb (.int .i64 (n : Int)) (.slice bo Lb cb) (.slice ho Lh ch)) := HD7.out.step HNu.out (hF8.mono (by simp))
          have HI8 : Hid (IOw w.heap.size w8 bo Lb cb bs) := HI7.out.keep hF8
          have HH8 : Hid (HOut w w8 ho Lh ch hs) := HH7.out.keep hF8
          have p0 := HD8.out.sv.c0
          have p1 := HD8.out.sv.c1
          have p2 := HD8.out.sv.c2
          clear HC8 HE7 hF8 HD7 HI7 HH7 HT7
          rcases HCk.out with ⟨rfl, hok⟩ | ⟨rfl, hok⟩
          · have HOk : Hid (OkS (n : Int) bs (hs.map Hd.kv)) := hok
            clear hok HCk
            have z0 := HD8.out.rb.c0
            have z1 := HD8.out.rb.c1
            have z2 := HD8.out.rb.c2
            have y0 := HD8.out.rb.fz 0
            have y1 := HD8.out.rb.fz 1
            have y2 := HD8.out.rb.fz 2
            go_wp2
            obtain ⟨W3, HW3⟩ : ∃ W3, Hid (((w8.setCell ⟨b0, 0, none⟩ (.int .i64 (n : Int))).setCell ⟨b0, 1, none⟩ (.slice bo Lb cb)).setCell ⟨b0, 2, none⟩ (.slice ho Lh ch) = W3) := ⟨_, rfl⟩
            obtain ⟨q0, q1, q2, hfs, hfin⟩ := HD8.out.fin HNu.out.s0 (.int .i64 (n : Int)) (.slice bo Lb cb) (.slice ho Lh ch) HW3.out
            have HFin : Hid (Fr [b0] w8 W3 ∧ Fr [] w W3) := ⟨hfs, hfin⟩
            rw [HW3.out]
            clear hfin hfs z0 z1 z2 y0 y1 y2
            have HF3 : Hid (IOw w.heap.size W3 bo Lb cb bs ∧ HOut w W3 ho Lh ch hs) := ⟨HI8.out.offS HD8.out.rb HFin.out.1, HH8.out.offS HD8.out.rb HFin.out.1⟩
            clear HI8 HH8 HD8
            refine bodyPost_ret (v := .tuple #[.agg #[.int .i64 (n : Int), .slice bo Lb cb, .slice ho Lh ch], .int .i64 0]) (by rw [results_cell_tmp rfl]; go_simp) rfl ?_
            exact Or.inr ⟨n, bo, Lb, cb, ho, Lh, ch, bs, hs, H3.out, HOk.out, hLb, hLh, rfl, HF3.out.1, HF3.out.2, HFin.out.2⟩
          · have HOk : Hid (¬ OkS (n : Int) bs (hs.map Hd.kv)) := hok
            clear hok HCk
            have z0 := HD8.out.rb.c0
            have z1 := HD8.out.rb.c1
            have z2 := HD8.out.rb.c2
            have y0 := HD8.out.rb.fz 0
            have y1 := HD8.out.rb.fz 1
            have y2 := HD8.out.rb.fz 2
            go_wp2
            obtain ⟨W3, HW3⟩ : ∃ W3, Hid (((w8.setCell ⟨b0, 0, none⟩ (.int .i64 0)).setCell ⟨b0, 1, none⟩ (.slice none 0 0)).setCell ⟨b0, 2, none⟩ (.slice none 0 0) = W3) := ⟨_, rfl⟩
            obtain ⟨q0, q1, q2, hfs, hfin⟩ := HD8.out.fin HNu.out.s0 (.int .i64 0) (.slice none 0 0) (.slice none 0 0) HW3.out
            have HFin : Hid (Fr [b0] w8 W3 ∧ Fr [] w W3) := ⟨hfs, hfin⟩
            rw [HW3.out]
            clear hfin hfs z0 z1 z2 y0 y1 y2
            refine bodyPost_ret (v := .tuple #[.agg #[.int .i64 0, .slice none 0 0, .slice none 0 0], .int .i64 ((1 : Nat) : Int)]) (by rw [results_cell_tmp rfl]; go_simp) rfl ?_
            exact Or.inl ⟨1, Or.inr (Or.inr ⟨rfl, _, H3.out, HOk.out⟩), by decide, rfl, HFin.out.2⟩
        · have hup : 0 < us.length := List.length_pos_iff.2 hu
          obtain rfl : d = 4 := by rw [HDd.out]; simp [endOf]; exact hu
          have HUp : Hid (0 < us.length) := hup
          clear hu hup HDd
          go_wp2_with fail
          refine Calls.mono HE7.out ?_
          rintro e w70 ⟨rfl, rfl⟩
          have z0 := HD7.out.rb.c0
          have z1 := HD7.out.rb.c1
          have z2 := HD7.out.rb.c2
          have y0 := HD7.out.rb.fz 0
          have y1 := HD7.out.rb.fz 1
          have y2 := HD7.out.rb.fz 2
          go_wp2
          obtain ⟨W3, HW3⟩ : ∃ W3, Hid (((w7.setCell ⟨b0, 0, none⟩ (.int .i64 0)).setCell ⟨b0, 1, none⟩ (.slice none 0 0)).setCell ⟨b0, 2, none⟩ (.slice none 0 0) = W3) := ⟨_, rfl⟩
          obtain ⟨q0, q1, q2, hfs, hfin⟩ := HD7.out.fin HNu.out.s0 (.int .i64 0) (.slice none 0 0) (.slice none 0 0) HW3.out
          have HFin : Hid (Fr [b0] w7 W3 ∧ Fr [] w W3) := ⟨hfs, hfin⟩
          rw [HW3.out]
          clear hfin hfs z0 z1 z2 y0 y1 y2
          refine bodyPost_ret (v := .tuple #[.agg #[.int .i64 0, .slice none 0 0, .slice none 0 0], .int .i64 ((4 : Nat) : Int)]) (by rw [results_cell_tmp rfl]; go_simp) rfl ?_
          exact Or.inl ⟨4, Or.inr (Or.inl ⟨rfl, _, us, H3.out, HUp.out⟩), by decide, rfl, HFin.out.2⟩
end Go.Proofs.YtdojhkgnnbdfkaaGreat
