/- The document's Load. Conditions as it names them. -/
import Derived.Test.YtkplammapbiebaaGreatDoorKl9
namespace Go.Proofs.YtkplammapbiebaaGreatDoor
open BigFrame Go.ChangeShapes Go.WideShapes Go.ChangeAt Go.RowKit Go.Lib Go.Maps
set_option linter.unusedVariables false
set_option linter.unusedSimpArgs false

/-- Where versions lie makes no difference. -/
theorem LoOk.kv {hs gs : List Hd} (h : LoOk hs) (e : gs.map Hd.kv = hs.map Hd.kv) : LoOk gs ∧ mOf gs = mOf hs := by
  have hto : ∀ x ∈ gs, ∃ y ∈ hs, y.key = x.key ∧ y.vs = x.vs := fun x hx => by
    have h1 : Hd.kv x ∈ gs.map Hd.kv := List.mem_map.2 ⟨x, hx, rfl⟩
    rw [e] at h1
    obtain ⟨y, hy, e2⟩ := List.mem_map.1 h1
    simp only [Hd.kv, Prod.mk.injEq] at e2
    exact ⟨y, hy, e2.1, e2.2⟩
  have hfr : ∀ y ∈ hs, ∃ x ∈ gs, x.key = y.key ∧ x.vs = y.vs := fun y hy => by
    have h1 : Hd.kv y ∈ hs.map Hd.kv := List.mem_map.2 ⟨y, hy, rfl⟩
    rw [← e] at h1
    obtain ⟨x, hx, e2⟩ := List.mem_map.1 h1
    simp only [Hd.kv, Prod.mk.injEq] at e2
    exact ⟨x, hx, e2.1, e2.2⟩
  have hL : LoOk gs := by
    refine ⟨?_, fun x hx => ?_⟩
    · have h1 : (gs.map Hd.kv).Pairwise fun a b => Op.bytesLess a.1.toList b.1.toList = true := by
        rw [e, List.pairwise_map]
        exact h.1
      rw [List.pairwise_map] at h1
      exact h1
    · obtain ⟨y, hy, e1, e2⟩ := hto x hx
      have ho := h.2 y hy
      exact ⟨by rw [← e1]; exact ho.1, by rw [← e2]; exact ho.2.1, by rw [← e2]; exact ho.2.2⟩
  refine ⟨hL, mOf_is hL (fun x hx => ?_) (fun k hk => ?_)⟩
  · obtain ⟨y, hy, e1, e2⟩ := hto x hx
    rw [← e1, mOf_mem h hy, e2]
  · exact mOf_off fun y hy e1 => by
      obtain ⟨x, hx, e2, _⟩ := hfr y hy
      exact hk x hx (e2.trans e1)
set_option maxHeartbeats 4000000 in
set_option maxRecDepth 100000 in
theorem kload_any (ao : Option Addr) (L cap : Nat) (hs : List Hd) (w : World) (hH : HRs w ao hs) (hL : L = hs.length) :
    Calls Tryz.prog 9 #[.slice ao L cap] w fun e w' => (LoOk hs ∧ ∃ g lc lo gs, e = .returned (.tuple #[.pointer (some ⟨g, 0, none⟩), .int .i64 0]) ∧ KSh w w' g L lc lo gs ∧ mOf gs = mOf hs ∧ (∀ x ∈ gs, ∀ j, VB x j → w.heap.size ≤ j) ∧ Fr [] w w') ∨ (¬ LoOk hs ∧ e = .returned (.tuple #[.pointer none, .int .i64 1]) ∧ Fr [] w w') := by
  have HL : Hid (L = hs.length) := hL
  have hLL : Hid (L ≤ 1073741823) := by show _ ≤ _; have := hH.few; omega
  have HV : Hid (∀ W, Fr [] w W → HRs W ao hs) := fun W hf => hH.keep hf
  clear hL hH
  by_cases hok : LoOk hs
  · have HOk : Hid (LoOk hs) := hok
    clear hok
    go_enter Tryz.func9, Tryz.ntmps9
    go_wp2_with fail
    refine (kmay_any ao L cap hs w (HV.out _ (Fr.refl _ _)) HL.out true (by simp [HOk.out])).mono ?_
    rintro e w1 ⟨rfl, hF1⟩
    go_wp2_with fail
    refine (kown_any ao L cap hs w1 (HV.out _ hF1) HL.out).mono ?_
    rintro e w2 ⟨ro, rc, gs, rfl, hO, hG, hF2⟩
    have hk := HOk.out.kv hG
    have hR : HRo w w2 ro L rc gs := (hO.ro hk.1).later hF1.size
    have hF3 : Fr [] w2 (w2.alloc (.cells #[.slice ro L rc] 82)) := Fr.alloc _ _ _
    have hb := heap_alloc_new w2 (.cells #[.slice ro L rc] 82)
    have HR : Hid (KSh w (w2.alloc (.cells #[.slice ro L rc] 82)) w2.heap.size L rc ro gs ∧ mOf gs = mOf hs ∧ (∀ x ∈ gs, ∀ j, VB x j → w.heap.size ≤ j) ∧ Fr [] w (w2.alloc (.cells #[.slice ro L rc] 82))) := ⟨⟨hb, hR.keep hF3, hk.1, hLL.out, Nat.le_trans hF1.size hF2.size⟩, hk.2, (fun x hx j hj => by obtain ⟨_, a, e, rfl⟩ := hj; have := ((hO.each x hx).blk a.block (by rw [e]; simp [Value.ownBlock])).1; exact Nat.le_trans hF1.size this), (hF1.then hF2).then hF3⟩
    clear hO hG hk hR hF3 hb hF1 hF2
    go_wp2
    go_ret2
    exact Or.inl ⟨HOk.out, _, _, _, _, rfl, HR.out⟩
  · have HOk : Hid (¬ LoOk hs) := hok
    clear hok
    go_enter Tryz.func9, Tryz.ntmps9
    go_wp2_with fail
    refine (kmay_any ao L cap hs w (HV.out _ (Fr.refl _ _)) HL.out false (by simp [HOk.out])).mono ?_
    rintro e w1 ⟨rfl, hF1⟩
    go_wp2
    go_ret2
    exact Or.inr ⟨HOk.out, rfl, hF1⟩
end Go.Proofs.YtkplammapbiebaaGreatDoor
