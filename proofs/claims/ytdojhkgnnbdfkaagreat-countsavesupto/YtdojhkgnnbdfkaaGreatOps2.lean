/- What the program's disk does, call by call: Clear, Read, lay, Write. Conditions: the disk's numbers are such as its calls leave them; fewer than 2^40 raw writes were done; the bytes to be written lie in none of its blocks. -/
import Derived.Test.YtdojhkgnnbdfkaaGreatOps
namespace Go.Proofs.YtdojhkgnnbdfkaaGreat
open Go.ChangeShapes Go.WideShapes Go.ChangeAt Go.RowKit Go.Lib

section
variable {w : World} {g : Nat} {v0 v1 : Value} {t t' : Sk}
set_option maxHeartbeats 1000000 in
theorem clear_any {s E : Int} (h : Dk w g v0 v1 t) (ht : t.ok) (hn : t.n < 2^40) (hc : Cleared t s E t') : Calls Tryz.prog 96 #[ptr g, .int .i64 s] w fun e w' => e = .returned (.int .i64 E) ∧ ∃ u0 u1, Dk w' g u0 u1 t' ∧ To (dOwn g v0 v1) (dOwn g u0 u1) w w' := by
  have hgS := h.gS
  cases hc with
  | noslot hs =>
    go_enter Tryz.func96, Tryz.ntmps96
    go_wp2_with fail
    refine (there_any g _ h.c0).mono ?_
    rintro e w' ⟨rfl, rfl⟩
    go_wp2_with fail
    refine (hasSlot_no _ s _ hs).mono ?_
    rintro e w' ⟨rfl, rfl⟩
    go_wp2
    go_ret
    exact ⟨rfl, v0, v1, h, To.refl _ _⟩
  | cut hs hl =>
    go_enter Tryz.func96, Tryz.ntmps96
    go_wp2_with fail
    refine (there_any g _ h.c0).mono ?_
    rintro e w' ⟨rfl, rfl⟩
    go_wp2_with fail
    refine (hasSlot_yes _ s _ hs).mono ?_
    rintro e w' ⟨rfl, rfl⟩
    go_wp2_with fail
    refine (letOne_cut h hl).mono ?_
    rintro e w1 ⟨rfl, hX, hF⟩
    go_wp2
    go_ret
    exact ⟨rfl, v0, v1, hX, To.same hF hgS⟩
  | done0 hs hl =>
    subst hs
    go_enter Tryz.func96, Tryz.ntmps96
    go_wp2_with fail
    refine (there_any g _ h.c0).mono ?_
    rintro e w' ⟨rfl, rfl⟩
    go_wp2_with fail
    refine (hasSlot_yes _ 0 _ (Or.inl rfl)).mono ?_
    rintro e w' ⟨rfl, rfl⟩
    go_wp2_with fail
    refine (letOne_ok h hl ht hn).mono ?_
    rintro e w1 ⟨rfl, hX, hF⟩
    have HR : Hid (_ ∧ _) := hX.set0 (v := .slice none 0 0) (xs := []) (Fr.refl _ _) (own_row_nil _) (Mv.nil _ _)
    have c2 := hX.c2
    have f2 := hX.free 2
    go_wp2
    go_ret
    exact ⟨rfl, _, _, HR.out.1, (To.same hF hgS).then HR.out.2⟩
  | done1 hs hl =>
    subst hs
    go_enter Tryz.func96, Tryz.ntmps96
    go_wp2_with fail
    refine (there_any g _ h.c0).mono ?_
    rintro e w' ⟨rfl, rfl⟩
    go_wp2_with fail
    refine (hasSlot_yes _ 1 _ (Or.inr rfl)).mono ?_
    rintro e w' ⟨rfl, rfl⟩
    go_wp2_with fail
    refine (letOne_ok h hl ht hn).mono ?_
    rintro e w1 ⟨rfl, hX, hF⟩
    have HR : Hid (_ ∧ _) := hX.set1 (v := .slice none 0 0) (xs := []) (Fr.refl _ _) (own_row_nil _) (Mv.nil _ _)
    have c3 := hX.c3
    have f3 := hX.free 3
    go_wp2
    go_ret
    exact ⟨rfl, _, _, HR.out.1, (To.same hF hgS).then HR.out.2⟩
end

theorem madeB (m : Nat) : (madeCells (Value.int .u8 0).cells m).toList = bts (zs m) := by
  apply List.ext_getElem
  · simp [madeCells, bts, zs, Value.cells]
  · intro i h1 h2
    simp [madeCells, bts, zs, Value.cells, Nat.mod_one]
/-- A row of bytes in memory of its own. -/
structure Fre (w w' : World) (ao : Option Addr) (n cap : Nat) (xs : List Nat) : Prop where
  len : n = xs.length
  own : w'.ownsRow 0 5 1 (.slice ao n cap) n (bts xs)
  new : ∀ k, (Value.slice ao n cap).ownBlock = some k → w.heap.size ≤ k
  fr : Fr [] w w'
theorem Fre.nil (w : World) : Fre w w none 0 0 [] := ⟨rfl, own_none w, fun k hk => by simp [Value.ownBlock] at hk, Fr.refl _ _⟩
section
variable {w : World} {g : Nat} {v0 v1 : Value} {t t' : Sk}
set_option maxHeartbeats 2000000 in
theorem read_any {s E : Int} {xs : List Nat} (h : Dk w g v0 v1 t) (ht : t.ok) (hc : Told t s E xs) : Calls Tryz.prog 70 #[ptr g, .int .i64 s] w fun e w' => ∃ ao n cap, e = .returned (.tuple #[.slice ao n cap, .int .i64 E]) ∧ Fre w w' ao n cap xs := by
  obtain ⟨i0, hi, hz0, hz1, hz2⟩ := info_parts Tryz.infoB
  have hfew := hc.few ht
  cases hc with
  | noslot hs =>
    go_enter Tryz.func70, Tryz.ntmps70
    go_wp2_with fail
    refine (there_any g _ h.c0).mono ?_
    rintro e w' ⟨rfl, rfl⟩
    go_wp2_with fail
    refine (hasSlot_no _ s _ hs).mono ?_
    rintro e w' ⟨rfl, rfl⟩
    go_wp2
    go_ret2
    exact ⟨_, _, _, rfl, Fre.nil w⟩
  | slot0 hs =>
    subst hs
    obtain ⟨ao, cap, hv⟩ := own_slice h.two.r0
    obtain ⟨L, hL⟩ : ∃ L, L = t.s0.length := ⟨_, rfl⟩
    have HL : Hid (L = t.s0.length) := hL
    rw [← hL] at hv hfew
    subst hv
    have c2 := h.c2
    have r0 := h.two.r0
    rw [← hL] at r0
    clear hL
    by_cases h0 : L = 0
    · subst h0
      have hnil : t.s0 = [] := List.eq_nil_of_length_eq_zero HL.out.symm
      go_enter Tryz.func70, Tryz.ntmps70
      go_wp2_with fail
      refine (there_any g _ h.c0).mono ?_
      rintro e w' ⟨rfl, rfl⟩
      go_wp2_with fail
      refine (hasSlot_yes _ 0 _ (Or.inl rfl)).mono ?_
      rintro e w' ⟨rfl, rfl⟩
      go_wp2
      go_ret2
      rw [hnil]
      exact ⟨_, _, _, rfl, Fre.nil w⟩
    · have hb : ((L : Int) == 0) = false := by simp; omega
      have hBA := own_arg r0 ht.b0 (by omega)
      go_enter Tryz.func70, Tryz.ntmps70
      go_wp2_with fail
      refine (there_any g _ h.c0).mono ?_
      rintro e w' ⟨rfl, rfl⟩
      go_wp2_with fail
      refine (hasSlot_yes _ 0 _ (Or.inl rfl)).mono ?_
      rintro e w' ⟨rfl, rfl⟩
      go_wp2_with (at_make; refine wpList_make_full _ rfl (.tmp 31) (.tmp 31) 76 rfl 0 5 i0 (.int .u8 0) 1 Tryz.undBs hi hz0 hz1 .i64 .i64 L L L rfl rfl rfl rfl ?b2 ?b3 ?b4 ?_)
      case b2 => rw [hz2]; omega
      case b3 => unfold maxLen; omega
      case b4 => exact Nat.zero_le _
      intro w1 hown hgrow
      have hF1 : Fr [] w w1 := Fr.grown (S := []) hgrow (by simp)
      have hX1 := h.keep hF1 (by simp)
      have c2' := hX1.c2
      have hBA1 := hBA.keep hF1
      have hown' : w1.ownsRow 0 5 1 (.slice (some ⟨w.heap.size, 0, none⟩) L L) L (bts (zs L)) := by
        have e : (madeCells (Value.int .u8 0).cells L).toList = bts (zs L) := madeB L
        rw [← e]
        exact hown
      clear hgrow hown
      obtain ⟨w2, hcp, hown2, hF2⟩ := run_copyB w1 (some ⟨w.heap.size, 0, none⟩) ao L L L cap _ L (zs L) hown' 0 _ hBA1 (by omega) (by omega) (fun _ => ⟨_, rfl, rfl⟩)
      have HFre : Hid (Fre w w2 (some ⟨w.heap.size, 0, none⟩) L L t.s0) := by
        refine ⟨HL.out, ?_, fun k hk => by simp [Value.ownBlock] at hk; omega, hF1.on hF2 (fun k hk => by simp [Value.ownBlock] at hk; omega)⟩
        have e : layB (zs L) 0 t.s0 = t.s0 := by simp [layB, zs, HL.out]
        rw [e] at hown2
        exact hown2
      clear hown2 hF2 hown' hBA1 hX1 hF1 hBA
      go_wp2
      go_ret2
      exact ⟨_, _, _, rfl, HFre.out⟩
  | slot1 hs =>
    subst hs
    obtain ⟨ao, cap, hv⟩ := own_slice h.two.r1
    obtain ⟨L, hL⟩ : ∃ L, L = t.s1.length := ⟨_, rfl⟩
    have HL : Hid (L = t.s1.length) := hL
    rw [← hL] at hv hfew
    subst hv
    have c3 := h.c3
    have r1 := h.two.r1
    rw [← hL] at r1
    clear hL
    by_cases h0 : L = 0
    · subst h0
      have hnil : t.s1 = [] := List.eq_nil_of_length_eq_zero HL.out.symm
      go_enter Tryz.func70, Tryz.ntmps70
      go_wp2_with fail
      refine (there_any g _ h.c0).mono ?_
      rintro e w' ⟨rfl, rfl⟩
      go_wp2_with fail
      refine (hasSlot_yes _ 1 _ (Or.inr rfl)).mono ?_
      rintro e w' ⟨rfl, rfl⟩
      go_wp2
      go_ret2
      rw [hnil]
      exact ⟨_, _, _, rfl, Fre.nil w⟩
    · have hb : ((L : Int) == 0) = false := by simp; omega
      have hBA := own_arg r1 ht.b1 (by omega)
      go_enter Tryz.func70, Tryz.ntmps70
      go_wp2_with fail
      refine (there_any g _ h.c0).mono ?_
      rintro e w' ⟨rfl, rfl⟩
      go_wp2_with fail
      refine (hasSlot_yes _ 1 _ (Or.inr rfl)).mono ?_
      rintro e w' ⟨rfl, rfl⟩
      go_wp2_with (at_make; refine wpList_make_full _ rfl (.tmp 31) (.tmp 31) 76 rfl 0 5 i0 (.int .u8 0) 1 Tryz.undBs hi hz0 hz1 .i64 .i64 L L L rfl rfl rfl rfl ?b2 ?b3 ?b4 ?_)
      case b2 => rw [hz2]; omega
      case b3 => unfold maxLen; omega
      case b4 => exact Nat.zero_le _
      intro w1 hown hgrow
      have hF1 : Fr [] w w1 := Fr.grown (S := []) hgrow (by simp)
      have hX1 := h.keep hF1 (by simp)
      have c3' := hX1.c3
      have hBA1 := hBA.keep hF1
      have hown' : w1.ownsRow 0 5 1 (.slice (some ⟨w.heap.size, 0, none⟩) L L) L (bts (zs L)) := by
        have e : (madeCells (Value.int .u8 0).cells L).toList = bts (zs L) := madeB L
        rw [← e]
        exact hown
      clear hgrow hown
      obtain ⟨w2, hcp, hown2, hF2⟩ := run_copyB w1 (some ⟨w.heap.size, 0, none⟩) ao L L L cap _ L (zs L) hown' 0 _ hBA1 (by omega) (by omega) (fun _ => ⟨_, rfl, rfl⟩)
      have HFre : Hid (Fre w w2 (some ⟨w.heap.size, 0, none⟩) L L t.s1) := by
        refine ⟨HL.out, ?_, fun k hk => by simp [Value.ownBlock] at hk; omega, hF1.on hF2 (fun k hk => by simp [Value.ownBlock] at hk; omega)⟩
        have e : layB (zs L) 0 t.s1 = t.s1 := by simp [layB, zs, HL.out]
        rw [e] at hown2
        exact hown2
      clear hown2 hF2 hown' hBA1 hX1 hF1 hBA
      go_wp2
      go_ret2
      exact ⟨_, _, _, rfl, HFre.out⟩
end
end Go.Proofs.YtdojhkgnnbdfkaaGreat
