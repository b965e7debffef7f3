/- Texts of this claim laid together, one behind the other: contracts and plain lemmas; conditions as each names them. -/
import Derived.Test.YtldghdbfhikcoaaGreatDoorGp26
import Derived.Test.YtldghdbfhikcoaaGreatDoorGp18
import Derived.Test.YtldghdbfhikcoaaGreatDoorGp9
import Derived.Laws.ResultCell
import Derived.Deep.RegionLaw
import Derived.Deep.RegionWith
import Derived.Deep.RegionHeld3
import Derived.Deep.CutRange
/- The document's reading of a checkpoint, as what is left to read; its taker, live or not, by one word. Plain lemmas and contracts. -/
namespace Go.Proofs.YtldghdbfhikcoaaGreatDoor
open BigFrame Go.ChangeShapes Go.WideShapes Go.ChangeAt Go.RowKit Go.Lib Go.Maps
set_option linter.unusedVariables false
set_option linter.unusedSimpArgs false

/-- These ahead of what is read then. -/
def preL {α : Type} (a : List α) : Except Nat (List α × List Nat) → Except Nat (List α × List Nat)
  | .error e => .error e
  | .ok (l, s) => .ok (a ++ l, s)
theorem preL_nil {α : Type} (r : Except Nat (List α × List Nat)) : preL [] r = r := by
  cases r with
  | error e => rfl
  | ok p => rfl
theorem preL_step {α : Type} {f : List Nat → Except Nat (α × List Nat)} {k : Nat} {ys zs : List Nat} {x : α} (a : List α) (h : f ys = .ok (x, zs)) : preL a (dR f (k + 1) ys) = preL (a ++ [x]) (dR f k zs) := by
  show preL a (match f ys with | .error e => .error e | .ok (x, r) => match dR f k r with | .error e => .error e | .ok (l, s) => .ok (x :: l, s)) = _
  rw [h]
  simp only
  cases dR f k zs with
  | error e => rfl
  | ok p => simp [preL]
theorem preL_err {α : Type} {f : List Nat → Except Nat (α × List Nat)} {k c : Nat} {ys : List Nat} (a : List α) (h : f ys = .error c) : preL a (dR f (k + 1) ys) = .error c := by
  show preL a (match f ys with | .error e => .error e | .ok (x, r) => match dR f k r with | .error e => .error e | .ok (l, s) => .ok (x :: l, s)) = _
  rw [h]
  rfl
theorem preL_end {α : Type} {f : List Nat → Except Nat (α × List Nat)} {ys : List Nat} (a : List α) : preL a (dR f 0 ys) = .ok (a, ys) := by
  show preL a (.ok ([], ys)) = _
  simp [preL]
/-- Behind the keys. -/
def kK (m : Int) (bs : List Int) : Except Nat (List Kv × List Nat) → Except Nat (Sd × List Nat)
  | .error e => .error e
  | .ok (ps, t) => .ok (⟨m, bs, ps⟩, t)
/-- Behind the numbers beyond. -/
def kB (m : Int) : Except Nat (List Int × List Nat) → Except Nat (Sd × List Nat)
  | .error e => .error e
  | .ok (bs, s) => kK m bs (dL dK s)
/-- Behind a key's versions. -/
def kV (m : Int) (bs : List Int) (ps : List Kv) (key : ByteArray) (j : Nat) : Except Nat (List Vn × List Nat) → Except Nat (Sd × List Nat)
  | .error e => .error e
  | .ok (vs, s) => kK m bs (preL (ps ++ [(key, vs)]) (dR dK j s))
theorem dS_kB {xs ys : List Nat} {m : Nat} (h : dN xs = .ok (m, ys)) : dS xs = kB (m : Int) (dL dI ys) := by
  unfold dS
  rw [dI_ok h]
  simp only
  cases dL dI ys with
  | error e => rfl
  | ok p =>
    obtain ⟨bs, s⟩ := p
    simp only [kB]
    cases dL dK s with
    | error e => rfl
    | ok q => rfl
theorem kK_key {m : Int} {bs : List Int} {ps : List Kv} {j : Nat} {ys zs us : List Nat} {key : ByteArray} {n : Nat} (h : dT 64 ys = .ok (key, zs)) (h2 : dN zs = .ok (n, us)) : kK m bs (preL ps (dR dK (j + 1) ys)) = kV m bs ps key j (dR dX n us) := by
  cases hv : dR dX n us with
  | error e =>
    rw [preL_err ps (dK_l h (by rw [dL_of h2]; exact hv))]
    rfl
  | ok p =>
    obtain ⟨vs, s⟩ := p
    rw [preL_step ps (dK_ok h (by rw [dL_of h2]; exact hv))]
    rfl
/-- The taker, live or not. -/
def St (w : World) (t : Nat) (ao : Option Addr) (L cap : Nat) (lv : Nat → Prop) (de : Nat → Prop) : Prop := (∃ p, Yl w t ao L cap p ∧ lv p) ∨ (∃ c, Yd w t c ∧ de c)
section
variable {w w' : World} {t : Nat} {ao : Option Addr} {L cap : Nat} {xs : List Nat} {lv : Nat → Prop} {de : Nat → Prop}
theorem St.keep {S : List Nat} (h : St w t ao L cap lv de) (hf : Fr S w w') (hn : t ∉ S) : St w' t ao L cap lv de := by
  rcases h with ⟨p, h1, h2⟩ | ⟨c, h1, h2⟩
  · exact Or.inl ⟨p, h1.keep hf hn, h2⟩
  · exact Or.inr ⟨c, h1.keep hf hn, h2⟩
theorem St.imp {lv2 : Nat → Prop} {de2 : Nat → Prop} (h : St w t ao L cap lv de) (h1 : ∀ p, p ≤ L → lv p → lv2 p) (h2 : ∀ c, de c → de2 c) : St w t ao L cap lv2 de2 := by
  rcases h with ⟨p, h3, h4⟩ | ⟨c, h3, h4⟩
  · exact Or.inl ⟨p, h3, h1 p h3.le h4⟩
  · exact Or.inr ⟨c, h3, h2 c h4⟩
theorem St.lt (h : St w t ao L cap lv de) : t < w.heap.size := by
  rcases h with ⟨p, h3, h4⟩ | ⟨c, ⟨_, _, _, _, h3⟩, h4⟩
  · exact h3.ta.lt
  · exact h3.lt
/-- Its code: 0 where it is live. -/
theorem St.code (h : St w t ao L cap lv de) : ∃ c : Nat, w.cell? ⟨t, 4, none⟩ = some (.int .i64 (c : Int)) ∧ ((c = 0 ∧ ∃ p, Yl w t ao L cap p ∧ lv p) ∨ (c ≠ 0 ∧ Yd w t c ∧ de c)) := by
  rcases h with ⟨p, h3, h4⟩ | ⟨c, h3, h4⟩
  · exact ⟨0, h3.ta.cs.2.2.2.2, Or.inl ⟨rfl, p, h3, h4⟩⟩
  · obtain ⟨h0, s, p, c', h5⟩ := h3
    exact ⟨c, h5.cs.2.2.2.2, Or.inr ⟨h0, ⟨h0, s, p, c', h5⟩, h4⟩⟩
theorem number_st (h : St w t ao L cap lv de) (hB : Yb w ao L cap xs) : Calls Tryz.prog 86 #[.pointer (some ⟨t, 0, none⟩)] w fun e w' => ∃ z : Int, e = .returned (.int .i64 z) ∧ Fr [t] w w' ∧ St w' t ao L cap (fun p' => ∃ p n : Nat, lv p ∧ dN (xs.drop p) = .ok (n, xs.drop p') ∧ z = n ∧ n ≤ 65536) (fun c => de c ∨ ∃ p, lv p ∧ dN (xs.drop p) = .error c) := by
  rcases h with ⟨p, h3, h4⟩ | ⟨c, h3, h4⟩
  · refine (ywnumber_any h3 hB).mono ?_
    rintro e w' (⟨c, z, h5, rfl, h6, h7⟩ | ⟨n, p', h5, rfl, h6, h7, h8⟩)
    · exact ⟨z, rfl, h7, Or.inr ⟨c, h6, Or.inr ⟨p, h4, h5⟩⟩⟩
    · exact ⟨n, rfl, h8, Or.inl ⟨p', h7, p, n, h4, h5, rfl, h6⟩⟩
  · refine (ywnumber_dead h3).mono ?_
    rintro e w' ⟨rfl, rfl⟩
    exact ⟨0, rfl, Fr.refl _ _, Or.inr ⟨c, h3, Or.inl h4⟩⟩
theorem text_st (m : Nat) (hm : m ≤ 65536) (h : St w t ao L cap lv de) (hB : Yb w ao L cap xs) : Calls Tryz.prog 87 #[.pointer (some ⟨t, 0, none⟩), .int .i64 (m : Int)] w fun e w' => ∃ s : ByteArray, e = .returned (.string s) ∧ Fr [t] w w' ∧ St w' t ao L cap (fun p' => ∃ p, lv p ∧ dT m (xs.drop p) = .ok (s, xs.drop p')) (fun c => de c ∨ ∃ p, lv p ∧ dT m (xs.drop p) = .error c) := by
  rcases h with ⟨p, h3, h4⟩ | ⟨c, h3, h4⟩
  · refine (ywtext_any m hm h3 hB).mono ?_
    rintro e w' (⟨c, z, h5, rfl, h6, h7⟩ | ⟨n, p', h5, rfl, h7, h8⟩)
    · exact ⟨z, rfl, h7, Or.inr ⟨c, h6, Or.inr ⟨p, h4, h5⟩⟩⟩
    · exact ⟨n, rfl, h8, Or.inl ⟨p', h7, p, h4, h5⟩⟩
  · refine (ywtext_dead (m : Int) h3).mono ?_
    rintro e w' ⟨rfl, rfl⟩
    exact ⟨_, rfl, Fr.refl _ _, Or.inr ⟨c, h3, Or.inl h4⟩⟩
theorem drop_st (h : St w t ao L cap lv de) (hB : Yb w ao L cap xs) : Calls Tryz.prog 88 #[.pointer (some ⟨t, 0, none⟩)] w fun e w' => ∃ b : Bool, e = .returned (.bool b) ∧ Fr [t] w w' ∧ St w' t ao L cap (fun p' => ∃ p d, lv p ∧ dF (xs.drop p) = .ok (d, xs.drop p') ∧ (d = 0 ∨ d = 1) ∧ b = decide (d = 1)) (fun c => de c ∨ ∃ p, lv p ∧ dF (xs.drop p) = .error c) := by
  rcases h with ⟨p, h3, h4⟩ | ⟨c, h3, h4⟩
  · refine (ywdrop_any h3 hB).mono ?_
    rintro e w' (⟨c, z, h5, rfl, h6, h7⟩ | ⟨d, p', h5, h6, rfl, h7, h8⟩)
    · exact ⟨z, rfl, h7, Or.inr ⟨c, h6, Or.inr ⟨p, h4, h5⟩⟩⟩
    · exact ⟨_, rfl, h8, Or.inl ⟨p', h7, p, d, h4, h5, h6, rfl⟩⟩
  · refine (ywdrop_dead h3).mono ?_
    rintro e w' ⟨rfl, rfl⟩
    exact ⟨_, rfl, Fr.refl _ _, Or.inr ⟨c, h3, Or.inl h4⟩⟩
end
end Go.Proofs.YtldghdbfhikcoaaGreatDoor
/- What the statements' helpers TwinVersions and LeftVersions answer. Conditions: fewer than 2^21 versions. -/
namespace Go.Proofs.YtldghdbfhikcoaaGreatDoor
open Go.ChangeShapes Go.WideShapes Go.ChangeAt Go.RowKit Go.Lib
set_option linter.unusedVariables false
set_option linter.unusedSimpArgs false

/-- The version that stands in a twin's spare room. -/
def spV : Vn := ⟨7777, ⟨#[]⟩, false⟩
theorem Tryz.infoVnW : (Tryz.prog.info? 80).map (fun i => (i.zero, i.size, i.bytes)) = some (some (.agg #[.int .i64 0, .string ⟨#[]⟩, .bool false]), 3, 32) := by kernel_rfl
theorem Tryz.undVnsW : Tryz.prog.underlying 71 = some (.slice 80) := by kernel_rfl
theorem vown_full {w : World} {g n : Nat} {xs : List Value} (h : w.ownsRow 0 80 3 (.slice (some ⟨g, 0, none⟩) n n) n xs) : w.heap[g]? = some (.cells xs.toArray 80 (0, 0)) := by
  have hl := h.1
  rcases h.2 with ⟨hh, _⟩ | ⟨g', cap', cur, hh, _, hg, _, _, hcs, ht⟩
  · cases hh
  · cases hh
    rw [hg]
    congr 2
    rw [← Array.toList_inj]
    simp only
    rw [← ht, List.take_of_length_le (by simp [hcs])]

set_option maxHeartbeats 4000000 in
set_option maxRecDepth 100000 in
theorem twinVs_any (ao : Option Addr) (L cap : Nat) (ws : List Vn) (w : World) (h : VRs w ao ws) (hLe : L = ws.length) (hL : L < 2^21) :
    Calls Tryz.prog 153 #[.slice ao L cap] w fun e w' => ∃ b, e = .returned (.slice (some ⟨b, 0, none⟩) L (L + 1)) ∧ w.heap.size ≤ b ∧ w'.heap[b]? = some (.cells (vnsC (ws ++ [spV])).toArray 80 (0, 0)) ∧ Fr [] w w' := by
  obtain ⟨i0, hi, hz0, hz1, hz2⟩ := info_parts Tryz.infoVnW
  have HL : Hid (L = ws.length) := hLe
  clear hLe
  go_enter Tryz.func153, Tryz.ntmps153
  go_wp2_with (at_make; refine wpList_make_own _ rfl (.const (.int .i64 0)) (.tmp 7) 71 rfl 0 80 i0 _ 3 Tryz.undVnsW hi hz0 hz1 .i64 .i64 ((L : Int) + 1) (L + 1) rfl rfl ?bC ?b2 ?b3 ?b4 ?_)
  case bC => simp
  case b2 => rw [hz2]; omega
  case b3 => unfold maxLen; omega
  case b4 => exact Nat.zero_le _
  intro w1 hown hgrow
  obtain ⟨g, hg⟩ : ∃ g, g = w.heap.size := ⟨_, rfl⟩
  have hgw : w.heap.size ≤ g := by omega
  rw [← hg] at hown ⊢
  have h01 : Fr [] w w1 := Fr.grown (S := []) hgrow (by simp)
  clear hgrow hg
  go_wp2_with fail
  go_loopw [3, 4] (fun vv ii wr => ∃ i : Nat, vv = .slice (some ⟨g, 0, none⟩) i (L + 1) ∧ ii = .int .i64 i ∧ i ≤ L ∧ wr.ownsRow 0 80 3 (.slice (some ⟨g, 0, none⟩) i (L + 1)) i (vnsC (ws.take i)) ∧ Fr [] w wr) (fun _ ii _ => L - (RowKit.intOf ii).toNat)
  case atStart => exact ⟨0, rfl, rfl, Nat.zero_le _, hown, h01⟩
  case round =>
    obtain ⟨i, rfl, rfl, hiL, hO, hF⟩ := hrel
    have hsz := (hO.lt g rfl).2
    by_cases hil : i < L
    · have hi' : i < ws.length := by rw [← HL.out]; exact hil
      obtain ⟨b, off, e, _, hc⟩ := (h.keep hF).lies (by omega)
      subst e
      obtain ⟨d0, d1, d2⟩ := hc i hi'
      obtain ⟨x, hx⟩ : ∃ x, x = ws.getD i Vn.zero := ⟨_, rfl⟩
      rw [← hx] at d0 d1 d2
      have HE : Hid (vnsC (ws.take (i + 1)) = vnsC (ws.take i) ++ [.int .i64 x.num, .string x.val, .bool x.drop]) := by
        show _ = _
        rw [vtake_snoc ws i hi', vnsC_append, ← hx]; rfl
      clear hc hx
      obtain ⟨key, val, drop⟩ := x
      simp only at d0 d1 d2 HE
      go_wp2_with (at_builtin; refine wpList_append_fits _ rfl (.tmp 15) (.tmp 20) 71 rfl 0 80 i0 3 Tryz.undVnsW hi hz1 g i (L + 1) _ rfl (hO.alloc _) ⟨wr.heap.size, 0, none⟩ 1 1 [.int .i64 key, .string val, .bool drop] rfl rfl ?c1 ?c2 ?c3 ?_)
      case c1 => intro j u hj; match j, hj with | 0, hj => simp at hj; subst hj; simp [Addr.add] | 1, hj => simp at hj; subst hj; simp [Addr.add] | 2, hj => simp at hj; subst hj; simp [Addr.add]
      case c2 => intro u hu; simp at hu; rcases hu with rfl | rfl | rfl <;> rfl
      case c3 => omega
      intro w2 hO2 hg2
      rw [← HE.out] at hO2
      have hF2 : Fr [] w w2 := (hF.then (Fr.alloc [] wr _)).on (Fr.grown (S := [g]) hg2 (by intro k hk _; cases hk; simp)) (by intro y hy; simp at hy; omega)
      clear hO hg2 hF d0 d1 d2
      go_wp2
      go_roundw
      case rel => exact ⟨i + 1, rfl, by simp, by omega, hO2, hF2⟩
      case measure => simp [RowKit.intOf]; omega
    · have hiL' : L ≤ i := by omega
      obtain rfl : i = L := by omega
      have HE : Hid (vnsC (ws ++ [spV]) = vnsC (ws.take i) ++ [.int .i64 7777, .string ⟨#[]⟩, .bool false]) := by
        show _ = _
        rw [List.take_of_length_le (by rw [← HL.out]; omega), vnsC_append]; rfl
      go_wp2_with (at_builtin; refine wpList_append_fits _ rfl (.tmp 22) (.tmp 24) 71 rfl 0 80 i0 3 Tryz.undVnsW hi hz1 g i (i + 1) _ rfl (hO.alloc _) ⟨wr.heap.size, 0, none⟩ 1 1 [.int .i64 7777, .string ⟨#[]⟩, .bool false] rfl rfl ?c1 ?c2 ?c3 ?_)
      case c1 => intro j u hj; match j, hj with | 0, hj => simp at hj; subst hj; simp [Addr.add] | 1, hj => simp at hj; subst hj; simp [Addr.add] | 2, hj => simp at hj; subst hj; simp [Addr.add]
      case c2 => intro u hu; simp at hu; rcases hu with rfl | rfl | rfl <;> rfl
      case c3 => omega
      intro w2 hO2 hg2
      rw [← HE.out] at hO2
      have hF2 : Fr [] w w2 := (hF.then (Fr.alloc [] wr _)).on (Fr.grown (S := [g]) hg2 (by intro k hk _; cases hk; simp)) (by intro y hy; simp at hy; omega)
      have HRow : Hid (w2.heap[g]? = some (.cells (vnsC (ws ++ [spV])).toArray 80 (0, 0))) := vown_full hO2
      clear hO hg2 hF hO2
      go_wp2
      go_ret
      exact ⟨g, rfl, hgw, HRow.out, hF2⟩


set_option maxHeartbeats 4000000 in
set_option maxRecDepth 100000 in
theorem leftVs_any (t : Nat) (ao : Option Addr) (L cap : Nat) (ws : List Vn) (w : World) (h : VRs w ao ws) (hLe : L = ws.length) (hL : L < 2^21) (hrow : w.heap[t]? = some (.cells (vnsC (ws ++ [spV])).toArray 80 (0, 0))) :
    Calls Tryz.prog 158 #[.slice (some ⟨t, 0, none⟩) L (L + 1), .slice ao L cap] w fun e w' => e = .returned (.bool true) ∧ Fr [] w w' := by
  have HL : Hid (L = ws.length) := hLe
  clear hLe
  have hct : ∀ j, j < L → VAt w t (j * 3) (ws.getD j Vn.zero) := by
    intro j hj
    have key : ∀ c, c < 3 → w.cell? ⟨t, j * 3 + c, none⟩ = (vnC (ws.getD j Vn.zero))[c]? := by
      intro c hc
      rw [cell_of_row _ _ _ _ _ _ hrow]
      have := vnsC_get (ws ++ [spV]) j c (by rw [List.length_append, ← HL.out]; simp; omega) hc
      have e : (ws ++ [spV]).getD j Vn.zero = ws.getD j Vn.zero := by simp [List.getD, List.getElem?_append_left (show j < ws.length by rw [← HL.out]; exact hj)]
      rw [e] at this
      simpa using this
    exact ⟨key 0 (by omega), key 1 (by omega), key 2 (by omega)⟩
  have hsp : VAt w t (L * 3) spV := by
    have key : ∀ c, c < 3 → w.cell? ⟨t, L * 3 + c, none⟩ = (vnC spV)[c]? := by
      intro c hc
      rw [cell_of_row _ _ _ _ _ _ hrow]
      have := vnsC_get (ws ++ [spV]) L c (by rw [List.length_append, ← HL.out]; simp) hc
      have e : (ws ++ [spV]).getD L Vn.zero = spV := by simp [List.getD, HL.out]
      rw [e] at this
      simpa using this
    exact ⟨key 0 (by omega), key 1 (by omega), key 2 (by omega)⟩
  have hne : ((L : Int) != L) = false := by simp
  have hgd := Tryz.guardVn
  clear hrow
  go_enter Tryz.func158, Tryz.ntmps158
  go_wp2_with fail
  go_loopw [5] (fun ii wr => ∃ (i q : Nat), ii = .int .i64 i ∧ i ≤ L ∧ Hid (wr = w.drewN q)) (fun ii _ => L - (RowKit.intOf ii).toNat)
  case atStart => exact ⟨0, 0, rfl, Nat.zero_le _, rfl⟩
  case round =>
    obtain ⟨i, q, rfl, hiL, HQ⟩ := hrel
    have hce : ∀ a, wr.cell? a = w.cell? a := fun a => by rw [HQ.out]; rfl
    by_cases hi : i < L
    · have hi' : i < ws.length := by rw [← HL.out]; exact hi
      obtain ⟨b, off, e, _, hc⟩ := h.lies (by omega)
      subst e
      obtain ⟨c0, c1, c2⟩ := hct i hi
      obtain ⟨d0, d1, d2⟩ := hc i hi'
      obtain ⟨x, hxx⟩ : ∃ x, x = ws.getD i Vn.zero := ⟨_, rfl⟩
      rw [← hxx, ← hce] at c0 c1 c2 d0 d1 d2
      clear hxx hct hc hsp hce
      have hq : ∀ w', (Op.equalIn 10000 80 (.agg #[.int .i64 x.num, .string x.val, .bool x.drop]) (.agg #[.int .i64 x.num, .string x.val, .bool x.drop])).run Tryz.prog w' = .ok true w' := fun w' => by rw [vn_in w' x x, (sameV_iff x x).2 rfl]
      go_wp2_with fail
      go_quiet (fail)
      go_wp2
      go_roundw
      case rel => exact ⟨i + 1, q + nq, by simp, by omega, by show _ = _; rw [HQ.out]; simp⟩
      case measure => simp [RowKit.intOf]; omega
    · have hiL' : L ≤ i := by omega
      obtain ⟨c0, c1, c2⟩ := hsp
      rw [← hce] at c0 c1 c2
      have hFq : Fr [] w wr := by rw [HQ.out]; exact Fr.drewN _ _ _
      clear hct hce
      have hq : ∀ w', (Op.equalIn 10000 80 (.agg #[.int .i64 7777, .string ⟨#[]⟩, .bool false]) (.agg #[.int .i64 7777, .string ⟨#[]⟩, .bool false])).run Tryz.prog w' = .ok true w' := fun w' => by
        have := vn_in w' spV spV
        rw [(sameV_iff spV spV).2 rfl] at this
        exact this
      simp only [spV] at c0 c1 c2
      go_wp2
      go_ret
      exact ⟨by simp, hFq.then (Fr.alloc [] _ _)⟩

end Go.Proofs.YtldghdbfhikcoaaGreatDoor
