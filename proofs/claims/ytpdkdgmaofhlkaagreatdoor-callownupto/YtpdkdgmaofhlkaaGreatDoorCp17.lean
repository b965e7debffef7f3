/- A row of keys with their versions, copied: copied. Conditions as each names them. -/
import Derived.Test.YtpdkdgmaofhlkaaGreatDoorCl17H
namespace Go.Proofs.YtpdkdgmaofhlkaaGreatDoor
open Go.ChangeShapes Go.WideShapes Go.ChangeAt Go.RowKit Go.Lib
set_option linter.unusedVariables false
set_option linter.unusedSimpArgs false
theorem own_set {w : World} {base : Nat} {e : TypeId} {size g n cap : Nat} {xs : List Value} (h : w.ownsRow base e size (.slice (some ⟨g, 0, none⟩) n cap) n xs) (j : Nat) (hj : j < xs.length) (v : Value) :
    (∃ u, w.cell? ⟨g, j, none⟩ = some u) ∧ w.frozen? ⟨g, j, none⟩ = false ∧ (w.setCell ⟨g, j, none⟩ v).ownsRow base e size (.slice (some ⟨g, 0, none⟩) n cap) n (xs.set j v) := by
  have hl := h.1
  rcases h.2 with ⟨hv, _⟩ | ⟨g', cap', cur, hv, hb, hg, hnc, hcm, hsz, ht⟩
  · cases hv
  · cases hv
    have hjc : j < cur.size := by
      have := congrArg List.length ht
      rw [List.length_take] at this
      simp only [Array.length_toList] at this
      omega
    refine ⟨⟨cur[j], by rw [cell_of_row _ _ _ _ _ _ hg, Array.getElem?_eq_getElem hjc]⟩, by simp [World.frozen?, hg], by rw [List.length_set]; exact hl, .inr ⟨g, cap, cur.setIfInBounds j v, rfl, hb, ?_, hnc, hcm, by simpa using hsz, ?_⟩⟩
    · have := row_put17 (j := j) v hg
      exact this
    · rw [Array.toList_setIfInBounds, ← ht, List.take_set]
theorem own_some {w : World} {base : Nat} {e : TypeId} {size : Nat} {ro : Option Addr} {n cap : Nat} {xs : List Value} (h : w.ownsRow base e size (.slice ro n cap) n xs) (hn : 0 < n) : ∃ g, ro = some ⟨g, 0, none⟩ ∧ base ≤ g := by
  rcases h.2 with ⟨hv, h0⟩ | ⟨g, cap', cur, hv, hb, _⟩
  · omega
  · cases hv; exact ⟨g, rfl, hb⟩
theorem own_cell {w : World} {base : Nat} {e : TypeId} {size g n cap : Nat} {xs : List Value} (h : w.ownsRow base e size (.slice (some ⟨g, 0, none⟩) n cap) n xs) {j : Nat} {u : Value} (hu : xs[j]? = some u) : w.cell? ⟨g, j, none⟩ = some u := by
  have hl := h.1
  rcases h.2 with ⟨hv, _⟩ | ⟨g', cap', cur, hv, hb, hg, hnc, hcm, hsz, ht⟩
  · cases hv
  · cases hv
    have hj := (List.getElem?_eq_some_iff.1 hu).1
    rw [cell_of_row _ _ _ _ _ _ hg, ← Array.getElem?_toList, ← hu, ← ht, List.getElem?_take_of_lt (by omega)]
/-- The first i keys of the row are copied. -/
structure Cpd (w wr : World) (ro : Option Addr) (L rc : Nat) (hs ns : List Hd) (i : Nat) : Prop where
  len : ns.length = i
  row : wr.ownsRow w.heap.size 97 2 (.slice ro L rc) L (hdsC (ns ++ hs.drop i))
  each : ∀ h ∈ ns, VOut w wr h.vo h.L h.cap h.vs
  apart : ns.Pairwise fun a b => Apa a.vo b.vo
  kv : ns.map Hd.kv = (hs.take i).map Hd.kv
  fr : Fr [] w wr
theorem Cpd.start {w wr : World} {ro : Option Addr} {L rc : Nat} {hs : List Hd} (h : wr.ownsRow w.heap.size 97 2 (.slice ro L rc) L (hdsC hs)) (hf : Fr [] w wr) : Cpd w wr ro L rc hs [] 0 := ⟨rfl, by simpa using h, by simp, List.Pairwise.nil, by simp, hf⟩
theorem Cpd.keep {w w1 w2 : World} {ro : Option Addr} {L rc : Nat} {hs ns : List Hd} {i : Nat} (h : Cpd w w1 ro L rc hs ns i) (hf : Fr [] w1 w2) : Cpd w w2 ro L rc hs ns i := ⟨h.len, owns_keepB h.row hf (by simp), fun x hx => (h.each x hx).keepS hf (by simp), h.apart, h.kv, h.fr.then hf⟩
theorem hdrop_cons (hs : List Hd) (i : Nat) (h : i < hs.length) : hs.drop i = hs.getD i Hd.zero :: hs.drop (i + 1) := by
  rw [List.drop_eq_getElem_cons h]
  simp [List.getD, h]
theorem Cpd.cell {w wr : World} {g L rc : Nat} {hs ns : List Hd} {i : Nat} (h : Cpd w wr (some ⟨g, 0, none⟩) L rc hs ns i) (hi : i < hs.length) : wr.cell? ⟨g, i * 2 + 1, none⟩ = some (.slice (hs.getD i Hd.zero).vo (hs.getD i Hd.zero).L (hs.getD i Hd.zero).cap) := by
  refine own_cell h.row ?_
  have hl : i < (ns ++ hs.drop i).length := by simp [h.len]; omega
  have h1 := (hdsC_get (ns ++ hs.drop i) i hl).2
  have h2 : (ns ++ hs.drop i).getD i Hd.zero = hs.getD i Hd.zero := by
    rw [hdrop_cons hs i hi]
    simp [List.getD, List.getElem?_append_right (show ns.length ≤ i by rw [h.len]; exact Nat.le_refl _), h.len]
  rw [h2] at h1
  exact h1
theorem hdsC_put (ns : List Hd) (y : Hd) (l : List Hd) (vo : Option Addr) (L c : Nat) (vs : List Vn) : (hdsC (ns ++ y :: l)).set (ns.length * 2 + 1) (.slice vo L c) = hdsC (ns ++ [⟨y.key, vo, L, c, vs⟩] ++ l) := by
  rw [hdsC_append, hdsC_append, hdsC_append]
  have h1 : ¬ ns.length * 2 + 1 < (hdsC ns).length := by rw [hdsC_length]; omega
  rw [List.set_append, if_neg h1, hdsC_length]
  rw [show ns.length * 2 + 1 - ns.length * 2 = 1 by omega]
  simp [hdsC, hdC]
theorem Cpd.step {w wr w2 : World} {g L rc : Nat} {hs ns : List Hd} {i : Nat} {vo2 : Option Addr} {c2 : Nat} (h : Cpd w wr (some ⟨g, 0, none⟩) L rc hs ns i) (hi : i < hs.length) (hV : VOut wr w2 vo2 (hs.getD i Hd.zero).L c2 (hs.getD i Hd.zero).vs) (hf : Fr [] wr w2) :
    (∃ u, w2.cell? ⟨g, i * 2 + 1, none⟩ = some u) ∧ w2.frozen? ⟨g, i * 2 + 1, none⟩ = false ∧ Cpd w (w2.setCell ⟨g, i * 2 + 1, none⟩ (.slice vo2 (hs.getD i Hd.zero).L c2)) (some ⟨g, 0, none⟩) L rc hs (ns ++ [⟨(hs.getD i Hd.zero).key, vo2, (hs.getD i Hd.zero).L, c2, (hs.getD i Hd.zero).vs⟩]) (i + 1) := by
  have hk := h.keep hf
  obtain ⟨p1, p2, p3⟩ := own_set hk.row (i * 2 + 1) (by rw [hdsC_length]; simp [h.len]; omega) (.slice vo2 (hs.getD i Hd.zero).L c2)
  have hFs : Fr [g] w2 (w2.setCell ⟨g, i * 2 + 1, none⟩ (.slice vo2 (hs.getD i Hd.zero).L c2)) := Fr.set _ _ _ (by simp)
  have hty : ∀ {vo : Option Addr} {N c : Nat} {vs : List Vn} {w0 : World}, VOut w0 w2 vo N c vs → ∀ k ∈ (Value.slice vo N c).ownBlock.toList, k ∉ [g] := by
    intro vo N c vs w0 hvo k hkk hm
    obtain ⟨_, cur, e1⟩ := hvo.blk k hkk
    obtain ⟨_, cur2, e2⟩ := owns_cells hk.row (k := g) rfl
    rw [List.mem_singleton.1 hm, e2] at e1
    simp only [Option.some.injEq, Obj.cells.injEq] at e1
    exact absurd e1.2.1 (by decide)
  refine ⟨p1, p2, by simp [h.len], ?_, ?_, ?_, ?_, ?_⟩
  · rw [hdrop_cons hs i hi] at p3
    have e := hdsC_put ns (hs.getD i Hd.zero) (hs.drop (i + 1)) vo2 (hs.getD i Hd.zero).L c2 (hs.getD i Hd.zero).vs
    rw [h.len] at e
    rw [e] at p3
    exact p3
  · intro y hy
    rcases List.mem_append.1 hy with hy | hy
    · exact (hk.each y hy).keepS hFs (hty (hk.each y hy))
    · simp at hy
      subst hy
      exact (hV.later h.fr.size).keepS hFs (hty hV)
  · rw [List.pairwise_append]
    refine ⟨h.apart, List.pairwise_singleton _ _, fun a ha b hb => ?_⟩
    simp at hb
    subst hb
    intro p q hp hq
    have h1 := (h.each a ha).block p hp
    have h2 := hV.block q hq
    omega
  · rw [List.map_append, h.kv, htake_snoc hs i hi, List.map_append]
    rfl
  · obtain ⟨hb, _⟩ := owns_cells hk.row (k := g) rfl
    exact hk.fr.on hFs (fun x hx => by simp at hx; omega)
set_option maxHeartbeats 4000000 in
set_option maxRecDepth 100000 in
theorem copied_any (ao : Option Addr) (L cap : Nat) (hs : List Hd) (w : World) (hR : RrH w ao hs) (hL : L = hs.length) (hm : L ≤ 134217728) (hV : ∀ h ∈ hs, VRs w h.vo h.vs ∧ h.L = h.vs.length) :
    Calls Tryz.prog 69 #[.slice ao L cap] w fun e w' => ∃ ro rc hs', e = .returned (.slice ro L rc) ∧ HOut w w' ro L rc hs' ∧ hs'.map Hd.kv = hs.map Hd.kv ∧ Fr [] w w' := by
  have HC : Hid (Calls _ _ _ _ _) := cloneH_any ao L cap hs w hR hL (by omega)
  have HV : Hid (∀ W, Fr [] w W → ∀ i, i < hs.length → Calls Tryz.prog 104 #[.slice (hs.getD i Hd.zero).vo (hs.getD i Hd.zero).L (hs.getD i Hd.zero).cap] W fun e w' => ∃ ro rc, e = .returned (.slice ro (hs.getD i Hd.zero).L rc) ∧ VOut W w' ro (hs.getD i Hd.zero).L rc (hs.getD i Hd.zero).vs ∧ Fr [] W w') := fun W hf i hi => clone_any _ _ _ _ W ((hV _ (hgetD_mem hs i hi)).1.keep hf) (hV _ (hgetD_mem hs i hi)).2
  have HL : Hid (L = hs.length) := hL
  clear hR hL hV
  go_enter Tryz.func69, Tryz.ntmps69
  go_wp2_with fail
  refine Calls.mono HC.out ?_
  rintro e w1 ⟨ro, rc, rfl, hO, hF⟩
  have HS : Hid (Cpd w w1 ro L rc hs [] 0) := Cpd.start hO hF
  clear hO hF HC
  go_wp2_with fail
  go_loopw [9] (fun ii wr => ∃ (i : Nat) (ns : List Hd), ii = .int .i64 i ∧ i ≤ L ∧ Hid (Cpd w wr ro L rc hs ns i)) (fun ii _ => L - (RowKit.intOf ii).toNat)
  case atStart => exact ⟨0, [], rfl, Nat.zero_le _, HS⟩
  case round =>
    clear HS
    obtain ⟨i, ns, rfl, hiL, HP⟩ := hrel
    by_cases hi : i < L
    · have hi' : i < hs.length := by rw [← HL.out]; exact hi
      obtain ⟨g, rfl, hg⟩ := own_some HP.out.row (by omega)
      have hc := HP.out.cell hi'
      have HCl := HV.out wr HP.out.fr i hi'
      have HSt : Hid (∀ w2 vo2 c2, VOut wr w2 vo2 (hs.getD i Hd.zero).L c2 (hs.getD i Hd.zero).vs → Fr [] wr w2 → _) := fun w2 vo2 c2 h1 h2 => HP.out.step (w2 := w2) (vo2 := vo2) (c2 := c2) hi' h1 h2
      generalize hs.getD i Hd.zero = y at hc HCl HSt
      obtain ⟨key, vo, Lv, cv, vs⟩ := y
      simp only at hc HCl HSt
      have HCq : Hid (Calls _ _ _ _ _) := HCl
      clear HCl HP
      go_wp2_with fail
      refine Calls.mono HCq.out ?_
      rintro e w2 ⟨vo2, c2, rfl, hVo, hF2⟩
      obtain ⟨⟨u, hu⟩, hz, hP2⟩ := HSt.out w2 vo2 c2 hVo hF2
      have HP2 : Hid (Cpd _ _ _ _ _ _ _ _) := hP2
      clear hVo hF2 hP2 HSt HCq hc
      go_wp2
      go_roundw
      case rel => exact ⟨i + 1, _, by simp, by omega, HP2⟩
      case measure => simp [RowKit.intOf]; omega
    · have HQ : Hid (HOut w wr ro L rc ns ∧ ns.map Hd.kv = hs.map Hd.kv ∧ Fr [] w wr) := by
        have h := HP.out
        have e1 : i = hs.length := by have := HL.out; omega
        have hr := h.row
        have hkv := h.kv
        rw [e1, List.drop_length, List.append_nil] at hr
        rw [e1, List.take_length] at hkv
        exact ⟨⟨by rw [h.len]; have := HL.out; omega, hr, h.each, h.apart⟩, hkv, h.fr⟩
      clear HP
      go_wp2
      go_ret
      exact ⟨ro, rc, ns, rfl, HQ.out⟩
end Go.Proofs.YtpdkdgmaofhlkaaGreatDoor
