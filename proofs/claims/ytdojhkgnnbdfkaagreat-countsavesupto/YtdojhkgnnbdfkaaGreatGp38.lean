/- Texts of this claim laid together, one behind the other: contracts and plain lemmas; conditions as each names them. -/
import Derived.Test.YtdojhkgnnbdfkaaGreatGp37
/- What the program's disk does, call by call: Clear, Read, lay, Write. Conditions: the disk's numbers are such as its calls leave them; fewer than 2^40 raw writes were done; the bytes to be written lie in none of its blocks. -/
namespace Go.Proofs.YtdojhkgnnbdfkaaGreat
open Go.ChangeShapes Go.WideShapes Go.ChangeAt Go.RowKit Go.Lib

section
variable {w : World} {g : Nat} {v0 v1 : Value} {t t' : Sk}
set_option maxHeartbeats 1000000 in
theorem clear_any {s E : Int} (h : Dk w g v0 v1 t) (ht : t.ok) (hn : t.n < 2^40) (hc : Cleared t s E t') : Calls Tryz.prog 96 #[ptr g, .int .i64 s] w fun e w' => e = .returned (.int .i64 E) ∧ ∃ u0 u1, Dk w' g u0 u1 t' ∧ To (dOwn g v0 v1) (dOwn g u0 u1) w w' := by
  have hgS := h.gS
  cases hc with
  | noslot hs =>
    go_enter Tryz.func96, Tryz.ntmps96
    go_wp2_with fail
    refine (there_any g _ h.c0).mono ?_
    rintro e w' ⟨rfl, rfl⟩
    go_wp2_with fail
    refine (hasSlot_no _ s _ hs).mono ?_
    rintro e w' ⟨rfl, rfl⟩
    go_wp2
    go_ret
    exact ⟨rfl, v0, v1, h, To.refl _ _⟩
  | cut hs hl =>
    go_enter Tryz.func96, Tryz.ntmps96
    go_wp2_with fail
    refine (there_any g _ h.c0).mono ?_
    rintro e w' ⟨rfl, rfl⟩
    go_wp2_with fail
    refine (hasSlot_yes _ s _ hs).mono ?_
    rintro e w' ⟨rfl, rfl⟩
    go_wp2_with fail
    refine (letOne_cut h hl).mono ?_
    rintro e w1 ⟨rfl, hX, hF⟩
    go_wp2
    go_ret
    exact ⟨rfl, v0, v1, hX, To.same hF hgS⟩
  | done0 hs hl =>
    subst hs
    go_enter Tryz.func96, Tryz.ntmps96
    go_wp2_with fail
    refine (there_any g _ h.c0).mono ?_
    rintro e w' ⟨rfl, rfl⟩
    go_wp2_with fail
    refine (hasSlot_yes _ 0 _ (Or.inl rfl)).mono ?_
    rintro e w' ⟨rfl, rfl⟩
    go_wp2_with fail
    refine (letOne_ok h hl ht hn).mono ?_
    rintro e w1 ⟨rfl, hX, hF⟩
    have HR : Hid (_ ∧ _) := hX.set0 (v := .slice none 0 0) (xs := []) (Fr.refl _ _) (own_row_nil _) (Mv.nil _ _)
    have c2 := hX.c2
    have f2 := hX.free 2
    go_wp2
    go_ret
    exact ⟨rfl, _, _, HR.out.1, (To.same hF hgS).then HR.out.2⟩
  | done1 hs hl =>
    subst hs
    go_enter Tryz.func96, Tryz.ntmps96
    go_wp2_with fail
    refine (there_any g _ h.c0).mono ?_
    rintro e w' ⟨rfl, rfl⟩
    go_wp2_with fail
    refine (hasSlot_yes _ 1 _ (Or.inr rfl)).mono ?_
    rintro e w' ⟨rfl, rfl⟩
    go_wp2_with fail
    refine (letOne_ok h hl ht hn).mono ?_
    rintro e w1 ⟨rfl, hX, hF⟩
    have HR : Hid (_ ∧ _) := hX.set1 (v := .slice none 0 0) (xs := []) (Fr.refl _ _) (own_row_nil _) (Mv.nil _ _)
    have c3 := hX.c3
    have f3 := hX.free 3
    go_wp2
    go_ret
    exact ⟨rfl, _, _, HR.out.1, (To.same hF hgS).then HR.out.2⟩
end

theorem madeB (m : Nat) : (madeCells (Value.int .u8 0).cells m).toList = bts (zs m) := by
  apply List.ext_getElem
  · simp [madeCells, bts, zs, Value.cells]
  · intro i h1 h2
    simp [madeCells, bts, zs, Value.cells, Nat.mod_one]
/-- A row of bytes in memory of its own. -/
structure Fre (w w' : World) (ao : Option Addr) (n cap : Nat) (xs : List Nat) : Prop where
  len : n = xs.length
  own : w'.ownsRow 0 5 1 (.slice ao n cap) n (bts xs)
  new : ∀ k, (Value.slice ao n cap).ownBlock = some k → w.heap.size ≤ k
  fr : Fr [] w w'
theorem Fre.nil (w : World) : Fre w w none 0 0 [] := ⟨rfl, own_none w, fun k hk => by simp [Value.ownBlock] at hk, Fr.refl _ _⟩
section
variable {w : World} {g : Nat} {v0 v1 : Value} {t t' : Sk}
set_option maxHeartbeats 2000000 in
theorem read_any {s E : Int} {xs : List Nat} (h : Dk w g v0 v1 t) (ht : t.ok) (hc : Told t s E xs) : Calls Tryz.prog 70 #[ptr g, .int .i64 s] w fun e w' => ∃ ao n cap, e = .returned (.tuple #[.slice ao n cap, .int .i64 E]) ∧ Fre w w' ao n cap xs := by
  obtain ⟨i0, hi, hz0, hz1, hz2⟩ := info_parts Tryz.infoB
  have hfew := hc.few ht
  cases hc with
  | noslot hs =>
    go_enter Tryz.func70, Tryz.ntmps70
    go_wp2_with fail
    refine (there_any g _ h.c0).mono ?_
    rintro e w' ⟨rfl, rfl⟩
    go_wp2_with fail
    refine (hasSlot_no _ s _ hs).mono ?_
    rintro e w' ⟨rfl, rfl⟩
    go_wp2
    go_ret2
    exact ⟨_, _, _, rfl, Fre.nil w⟩
  | slot0 hs =>
    subst hs
    obtain ⟨ao, cap, hv⟩ := own_slice h.two.r0
    obtain ⟨L, hL⟩ : ∃ L, L = t.s0.length := ⟨_, rfl⟩
    have HL : Hid (L = t.s0.length) := hL
    rw [← hL] at hv hfew
    subst hv
    have c2 := h.c2
    have r0 := h.two.r0
    rw [← hL] at r0
    clear hL
    by_cases h0 : L = 0
    · subst h0
      have hnil : t.s0 = [] := List.eq_nil_of_length_eq_zero HL.out.symm
      go_enter Tryz.func70, Tryz.ntmps70
      go_wp2_with fail
      refine (there_any g _ h.c0).mono ?_
      rintro e w' ⟨rfl, rfl⟩
      go_wp2_with fail
      refine (hasSlot_yes _ 0 _ (Or.inl rfl)).mono ?_
      rintro e w' ⟨rfl, rfl⟩
      go_wp2
      go_ret2
      rw [hnil]
      exact ⟨_, _, _, rfl, Fre.nil w⟩
    · have hb : ((L : Int) == 0) = false := by simp; omega
      have hBA := own_arg r0 ht.b0 (by omega)
      go_enter Tryz.func70, Tryz.ntmps70
      go_wp2_with fail
      refine (there_any g _ h.c0).mono ?_
      rintro e w' ⟨rfl, rfl⟩
      go_wp2_with fail
      refine (hasSlot_yes _ 0 _ (Or.inl rfl)).mono ?_
      rintro e w' ⟨rfl, rfl⟩
      go_wp2_with (at_make; refine wpList_make_full _ rfl (.tmp 31) (.tmp 31) 76 rfl 0 5 i0 (.int .u8 0) 1 Tryz.undBs hi hz0 hz1 .i64 .i64 L L L rfl rfl rfl rfl ?b2 ?b3 ?b4 ?_)
      case b2 => rw [hz2]; omega
      case b3 => unfold maxLen; omega
      case b4 => exact Nat.zero_le _
      intro w1 hown hgrow
      have hF1 : Fr [] w w1 := Fr.grown (S := []) hgrow (by simp)
      have hX1 := h.keep hF1 (by simp)
      have c2' := hX1.c2
      have hBA1 := hBA.keep hF1
      have hown' : w1.ownsRow 0 5 1 (.slice (some ⟨w.heap.size, 0, none⟩) L L) L (bts (zs L)) := by
        have e : (madeCells (Value.int .u8 0).cells L).toList = bts (zs L) := madeB L
        rw [← e]
        exact hown
      clear hgrow hown
      obtain ⟨w2, hcp, hown2, hF2⟩ := run_copyB w1 (some ⟨w.heap.size, 0, none⟩) ao L L L cap _ L (zs L) hown' 0 _ hBA1 (by omega) (by omega) (fun _ => ⟨_, rfl, rfl⟩)
      have HFre : Hid (Fre w w2 (some ⟨w.heap.size, 0, none⟩) L L t.s0) := by
        refine ⟨HL.out, ?_, fun k hk => by simp [Value.ownBlock] at hk; omega, hF1.on hF2 (fun k hk => by simp [Value.ownBlock] at hk; omega)⟩
        have e : layB (zs L) 0 t.s0 = t.s0 := by simp [layB, zs, HL.out]
        rw [e] at hown2
        exact hown2
      clear hown2 hF2 hown' hBA1 hX1 hF1 hBA
      go_wp2
      go_ret2
      exact ⟨_, _, _, rfl, HFre.out⟩
  | slot1 hs =>
    subst hs
    obtain ⟨ao, cap, hv⟩ := own_slice h.two.r1
    obtain ⟨L, hL⟩ : ∃ L, L = t.s1.length := ⟨_, rfl⟩
    have HL : Hid (L = t.s1.length) := hL
    rw [← hL] at hv hfew
    subst hv
    have c3 := h.c3
    have r1 := h.two.r1
    rw [← hL] at r1
    clear hL
    by_cases h0 : L = 0
    · subst h0
      have hnil : t.s1 = [] := List.eq_nil_of_length_eq_zero HL.out.symm
      go_enter Tryz.func70, Tryz.ntmps70
      go_wp2_with fail
      refine (there_any g _ h.c0).mono ?_
      rintro e w' ⟨rfl, rfl⟩
      go_wp2_with fail
      refine (hasSlot_yes _ 1 _ (Or.inr rfl)).mono ?_
      rintro e w' ⟨rfl, rfl⟩
      go_wp2
      go_ret2
      rw [hnil]
      exact ⟨_, _, _, rfl, Fre.nil w⟩
    · have hb : ((L : Int) == 0) = false := by simp; omega
      have hBA := own_arg r1 ht.b1 (by omega)
      go_enter Tryz.func70, Tryz.ntmps70
      go_wp2_with fail
      refine (there_any g _ h.c0).mono ?_
      rintro e w' ⟨rfl, rfl⟩
      go_wp2_with fail
      refine (hasSlot_yes _ 1 _ (Or.inr rfl)).mono ?_
      rintro e w' ⟨rfl, rfl⟩
      go_wp2_with (at_make; refine wpList_make_full _ rfl (.tmp 31) (.tmp 31) 76 rfl 0 5 i0 (.int .u8 0) 1 Tryz.undBs hi hz0 hz1 .i64 .i64 L L L rfl rfl rfl rfl ?b2 ?b3 ?b4 ?_)
      case b2 => rw [hz2]; omega
      case b3 => unfold maxLen; omega
      case b4 => exact Nat.zero_le _
      intro w1 hown hgrow
      have hF1 : Fr [] w w1 := Fr.grown (S := []) hgrow (by simp)
      have hX1 := h.keep hF1 (by simp)
      have c3' := hX1.c3
      have hBA1 := hBA.keep hF1
      have hown' : w1.ownsRow 0 5 1 (.slice (some ⟨w.heap.size, 0, none⟩) L L) L (bts (zs L)) := by
        have e : (madeCells (Value.int .u8 0).cells L).toList = bts (zs L) := madeB L
        rw [← e]
        exact hown
      clear hgrow hown
      obtain ⟨w2, hcp, hown2, hF2⟩ := run_copyB w1 (some ⟨w.heap.size, 0, none⟩) ao L L L cap _ L (zs L) hown' 0 _ hBA1 (by omega) (by omega) (fun _ => ⟨_, rfl, rfl⟩)
      have HFre : Hid (Fre w w2 (some ⟨w.heap.size, 0, none⟩) L L t.s1) := by
        refine ⟨HL.out, ?_, fun k hk => by simp [Value.ownBlock] at hk; omega, hF1.on hF2 (fun k hk => by simp [Value.ownBlock] at hk; omega)⟩
        have e : layB (zs L) 0 t.s1 = t.s1 := by simp [layB, zs, HL.out]
        rw [e] at hown2
        exact hown2
      clear hown2 hF2 hown' hBA1 hX1 hF1 hBA
      go_wp2
      go_ret2
      exact ⟨_, _, _, rfl, HFre.out⟩
end
end Go.Proofs.YtdojhkgnnbdfkaaGreat
/- What the program's disk does: lay, Write. Conditions: the disk's numbers are such as its calls leave them; fewer than 2^40 raw writes were done; the bytes to be written lie in none of its blocks. -/
namespace Go.Proofs.YtdojhkgnnbdfkaaGreat
open Go.ChangeShapes Go.WideShapes Go.ChangeAt Go.RowKit Go.Lib

theorem Tryz.undI0 : Tryz.prog.underlying 3 = some (.int .i64) := by kernel_rfl
set_option maxHeartbeats 2000000 in
set_option maxRecDepth 100000 in
theorem lay_none (ao : Option Addr) (L cap k : Nat) (bo : Option Addr) (cb : Nat) (w : World) (hao : ao = none → L = 0 ∧ cap = 0) (hsp : ∀ a, ao = some a → a.spot = none) (hk : k ≤ L) (hL : L ≤ 16777216) (hLc : L ≤ cap) (hcm : cap ≤ maxLen) :
    Calls Tryz.prog 114 #[.slice ao L cap, .int .i64 (k : Int), .slice bo 0 cb] w fun e w' => e = .returned (.slice ao L cap) ∧ w = w' := by
  have hcp : ∀ dp dl dc, (Builtin.copy_ #[76, 76] 3 #[.slice dp dl dc, .slice bo 0 cb]).run Tryz.prog w = .ok (goInt (0 : Int)) w := fun dp dl dc => run_copy_none (P := Tryz.prog) w 76 76 3 5 dp bo dl dc 0 cb Tryz.undBs Tryz.sizeB (by simp)
  have hle : (k : Int) - L ≤ 0 := by omega
  have hkI : (k : Int) ≤ L := by omega
  simp only [maxLen] at hcm
  cases ao with
  | none =>
    obtain ⟨rfl, rfl⟩ := hao rfl
    obtain rfl : k = 0 := by omega
    clear hao hsp
    go_enter Tryz.func114, Tryz.ntmps114
    go_wp2
    all_goals (go_ret; exact ⟨rfl, rfl⟩)
  | some a =>
    obtain ⟨b, off, spot⟩ := a
    obtain rfl : spot = none := hsp _ rfl
    clear hao hsp
    by_cases hkc : k < cap
    · go_enter Tryz.func114, Tryz.ntmps114
      go_wp2
      all_goals (go_ret; exact ⟨rfl, rfl⟩)
    · have hkc' : cap ≤ k := by omega
      go_enter Tryz.func114, Tryz.ntmps114
      go_wp2
      all_goals (go_ret; exact ⟨rfl, rfl⟩)
set_option maxHeartbeats 2000000 in
set_option maxRecDepth 100000 in
theorem lay_in (g L cap k : Nat) (xs : List Nat) (bo : Option Addr) (M cb : Nat) (ys : List Nat) (w : World) (hv : w.ownsRow 0 5 1 (.slice (some ⟨g, 0, none⟩) L cap) L (bts xs)) (hB : BArg w bo M cb ys) (hM0 : 0 < M) (hM : M ≤ 64) (hk : k + M ≤ L) (_hL : L ≤ 16777216) (hLc : L ≤ cap) (hcm : cap ≤ maxLen) :
    Calls Tryz.prog 114 #[.slice (some ⟨g, 0, none⟩) L cap, .int .i64 (k : Int), .slice bo M cb] w fun e w' => e = .returned (.slice (some ⟨g, 0, none⟩) L cap) ∧ w'.ownsRow 0 5 1 (.slice (some ⟨g, 0, none⟩) L cap) L (bts (layB xs k ys)) ∧ Fr [g] w w' := by
  obtain ⟨w2, hcp, hown2, hF2⟩ := run_copyB w (some ⟨g, k, none⟩) bo (L - k) (cap - k) M cb _ L xs hv k ys hB (by omega) (by omega) (fun _ => ⟨_, rfl, rfl⟩)
  have HO : Hid (w2.ownsRow 0 5 1 (.slice (some ⟨g, 0, none⟩) L cap) L (bts (layB xs k ys))) := hown2
  have HF : Hid (Fr [g] w w2) := hF2
  have hle : (k : Int) + M - L ≤ 0 := by omega
  have hkI : (k : Int) ≤ L := by omega
  have hkc : k < cap := by omega
  have hkL : k ≤ L := by omega
  simp only [maxLen] at hcm
  clear hown2 hF2 hv hB
  go_enter Tryz.func114, Tryz.ntmps114
  go_wp2
  go_ret
  exact ⟨rfl, HO.out, HF.out⟩
set_option maxHeartbeats 2000000 in
set_option maxRecDepth 100000 in
theorem lay_grow (ao : Option Addr) (L cap k : Nat) (xs : List Nat) (bo : Option Addr) (M cb : Nat) (ys : List Nat) (w : World) (hv : w.ownsRow 0 5 1 (.slice ao L cap) L (bts xs)) (hB : BArg w bo M cb ys) (hM0 : 0 < M) (hM : M ≤ 64) (hk : k ≤ L) (hg : L < k + M) (hL : L ≤ 16777216) (hap : ∀ a, bo = some a → a.block ∉ (Value.slice ao L cap).ownBlock.toList) :
    Calls Tryz.prog 114 #[.slice ao L cap, .int .i64 (k : Int), .slice bo M cb] w fun e w' => ∃ ao' n cap', e = .returned (.slice ao' n cap') ∧ n = k + M ∧ w'.ownsRow 0 5 1 (.slice ao' n cap') n (bts (layB xs k ys)) ∧ Fr (Value.slice ao L cap).ownBlock.toList w w' ∧ Moved w.heap.size (.slice ao L cap) (.slice ao' n cap') := by
  obtain ⟨m, hm⟩ : ∃ m, m + L = k + M := ⟨k + M - L, by omega⟩
  obtain ⟨g', cap', w1, hr, hO1, hW⟩ := run_zeros w 76 (.slice ao L cap) L xs hv m (by omega) (by omega) (by omega)
  have hF1 := hW.fr
  have hMv := hW.moved (n := L + m) (cap := cap')
  have hB1 := hB.keepS hF1 (fun _ => hap)
  obtain ⟨n, hn⟩ : ∃ n, n = L + m := ⟨_, rfl⟩
  rw [← hn] at hr hO1 hMv
  have hcap : n ≤ cap' ∧ cap' ≤ maxLen := by
    rcases hO1.2 with ⟨hh, _⟩ | ⟨_, _, _, hh, _, _, h1, h2, _⟩
    · cases hh
    · cases hh; exact ⟨h1, h2⟩
  obtain ⟨w2, hcp, hown2, hF2⟩ := run_copyB w1 (some ⟨g', k, none⟩) bo (n - k) (cap' - k) M cb _ n (xs ++ zs m) hO1 k ys hB1 (by omega) (by omega) (fun _ => ⟨_, rfl, rfl⟩)
  have hxl : xs.length = L := by have := hv.1; rw [bts_length] at this; omega
  have hyl : ys.length = M := hB.len.symm
  have HR : Hid (n = k + M ∧ w2.ownsRow 0 5 1 (.slice (some ⟨g', 0, none⟩) n cap') n (bts (layB xs k ys)) ∧ Fr (Value.slice ao L cap).ownBlock.toList w w2 ∧ Moved w.heap.size (.slice ao L cap) (.slice (some ⟨g', 0, none⟩) n cap')) := by
    refine ⟨by omega, ?_, ?_, hMv⟩
    · rw [layB_zs xs k m ys (by omega) (by omega)] at hown2
      exact hown2
    · refine hF1.trans hF2 (fun _ h _ => h) ?_
      intro x hx hl
      rcases hMv with h | ⟨y, hy, hge⟩
      · rw [h] at hx; exact hx
      · rw [hy] at hx
        simp at hx
        omega
  have hmE : (k : Int) + M - L = (m : Int) := by omega
  have hm0 : (0 : Int) < m := by omega
  have hkn : k ≤ n := by omega
  have hkc : k < cap' := by omega
  have hkM : (k : Int) + M ≤ 16777280 := by omega
  have hcm := hcap.2
  simp only [maxLen] at hcm
  have hnc := hcap.1
  clear hown2 hF2 hv hB hB1 hO1 hW hF1 hMv hcap hap hn hm hg
  go_enter Tryz.func114, Tryz.ntmps114
  go_wp2_with (at_builtin; refine Lib.wpList_append_run _ rfl _ _ _ _ rfl _ _ rfl rfl _ _ hr ?_)
  go_ret
  exact ⟨_, _, _, rfl, HR.out⟩

theorem lay_any (ao : Option Addr) (L cap k : Nat) (xs : List Nat) (bo : Option Addr) (M cb : Nat) (ys : List Nat) (w : World) (hv : w.ownsRow 0 5 1 (.slice ao L cap) L (bts xs)) (hB : BArg w bo M cb ys) (hM : M ≤ 64) (hk : k ≤ L) (hL : L ≤ 16777216) (hap : 0 < M → ∀ a, bo = some a → a.block ∉ (Value.slice ao L cap).ownBlock.toList) :
    Calls Tryz.prog 114 #[.slice ao L cap, .int .i64 (k : Int), .slice bo M cb] w fun e w' => ∃ ao' n cap', e = .returned (.slice ao' n cap') ∧ n = (layB xs k ys).length ∧ w'.ownsRow 0 5 1 (.slice ao' n cap') n (bts (layB xs k ys)) ∧ Fr (Value.slice ao L cap).ownBlock.toList w w' ∧ Moved w.heap.size (.slice ao L cap) (.slice ao' n cap') := by
  have hxl : xs.length = L := by have := hv.1; rw [bts_length] at this; omega
  have hyl : ys.length = M := hB.len.symm
  have hll := layB_length xs k ys (by omega)
  have hsh : (ao = none → L = 0 ∧ cap = 0) ∧ (∀ a, ao = some a → a.spot = none) ∧ L ≤ cap ∧ cap ≤ maxLen ∧ (0 < L → ∃ g, ao = some ⟨g, 0, none⟩) := by
    rcases hv.2 with ⟨hh, h0⟩ | ⟨g, cap', _, hh, _, _, h1, h2, _⟩
    · cases hh
      exact ⟨fun _ => ⟨rfl, rfl⟩, fun a ha => by (cases ha), Nat.le_refl _, Nat.zero_le _, fun h => by omega⟩
    · cases hh
      exact ⟨fun h => by (cases h), fun a ha => by (cases ha; rfl), h1, h2, fun _ => ⟨g, rfl⟩⟩
  by_cases hM0 : M = 0
  · subst hM0
    have hys : ys = [] := List.eq_nil_of_length_eq_zero hyl
    subst hys
    have e : layB xs k [] = xs := by simp [layB]
    rw [e]
    refine (lay_none ao L cap k bo cb w hsh.1 hsh.2.1 hk hL hsh.2.2.1 hsh.2.2.2.1).mono ?_
    rintro e w' ⟨rfl, rfl⟩
    exact ⟨_, _, _, rfl, hxl.symm, hv, Fr.refl _ _, Moved.refl _ _⟩
  · by_cases hg : L < k + M
    · refine (lay_grow ao L cap k xs bo M cb ys w hv hB (by omega) hM hk hg hL (hap (by omega))).mono ?_
      rintro e w' ⟨ao', n, cap', rfl, hn, hO, hF, hMv⟩
      exact ⟨_, _, _, rfl, by omega, hO, hF, hMv⟩
    · obtain ⟨g, rfl⟩ := hsh.2.2.2.2 (by omega)
      refine (lay_in g L cap k xs bo M cb ys w hv hB (by omega) hM (by omega) hL hsh.2.2.1 hsh.2.2.2.1).mono ?_
      rintro e w' ⟨rfl, hO, hF⟩
      exact ⟨_, _, _, rfl, by omega, hO, hF.mono (fun x hx _ => by simpa [Value.ownBlock] using hx), Moved.refl _ _⟩

section
variable {w : World} {g : Nat} {v0 v1 : Value} {t t' : Sk}

set_option maxHeartbeats 4000000 in
set_option maxRecDepth 100000 in
theorem write_any {s a E : Int} {bo : Option Addr} {M cb : Nat} {ys : List Nat} (h : Dk w g v0 v1 t) (ht : t.ok) (hn : t.n < 2^40) (ha : a ≤ 9223372036854775807) (hB : BArg w bo M cb ys) (hap : 0 < M → ∀ a, bo = some a → a.block ∉ dOwn g v0 v1) (hc : Wrote t s a ys E t') :
    Calls Tryz.prog 97 #[ptr g, .int .i64 s, .int .i64 a, .slice bo M cb] w fun e w' => e = .returned (.int .i64 E) ∧ ∃ u0 u1, Dk w' g u0 u1 t' ∧ To (dOwn g v0 v1) (dOwn g u0 u1) w w' := by
  have hgS := h.gS
  have HM : Hid (M = ys.length) := hB.len
  cases hc with
  | noslot hs =>
    go_enter Tryz.func97, Tryz.ntmps97
    go_wp2_with fail
    refine (there_any g _ h.c0).mono ?_
    rintro e w' ⟨rfl, rfl⟩
    go_wp2_with fail
    refine (hasSlot_no _ s _ hs).mono ?_
    rintro e w' ⟨rfl, rfl⟩
    go_wp2
    go_ret
    exact ⟨rfl, _, _, h, To.refl _ _⟩
  | noplace hs h2 =>
    go_enter Tryz.func97, Tryz.ntmps97
    go_wp2_with fail
    refine (there_any g _ h.c0).mono ?_
    rintro e w' ⟨rfl, rfl⟩
    go_wp2_with fail
    refine (hasSlot_yes _ s _ hs).mono ?_
    rintro e w' ⟨rfl, rfl⟩
    go_wp2
    go_ret
    exact ⟨rfl, _, _, h, To.refl _ _⟩
  | much hs h2 h3 =>
    have h3' : (64 : Int) < M := by have := HM.out; omega
    clear h3
    go_enter Tryz.func97, Tryz.ntmps97
    go_wp2_with fail
    refine (there_any g _ h.c0).mono ?_
    rintro e w' ⟨rfl, rfl⟩
    go_wp2_with fail
    refine (hasSlot_yes _ s _ hs).mono ?_
    rintro e w' ⟨rfl, rfl⟩
    go_wp2
    go_ret
    exact ⟨rfl, _, _, h, To.refl _ _⟩
  | order0 hs h2 h3 h4 =>
    rw [← HM.out] at h3
    subst hs
    obtain ⟨k, rfl⟩ := Int.eq_ofNat_of_zero_le h2
    obtain ⟨ao, cap, hv⟩ := own_slice h.two.r0
    obtain ⟨L, hL⟩ : ∃ L, L = t.s0.length := ⟨_, rfl⟩
    rw [← hL] at hv h4
    subst hv
    have hLC : L ≤ t.C := by have := ht.f0; omega
    have hCm := ht.cap
    have HL : Hid (L = t.s0.length) := hL
    have c2 := h.c2
    have c1 := h.c1
    have hyM : (M : Int) ≤ 64 := by omega
    clear hL
    go_enter Tryz.func97, Tryz.ntmps97
    go_wp2_with fail
    refine (there_any g _ h.c0).mono ?_
    rintro e w' ⟨rfl, rfl⟩
    go_wp2_with fail
    refine (hasSlot_yes _ 0 _ (Or.inl rfl)).mono ?_
    rintro e w' ⟨rfl, rfl⟩
    go_wp2
    go_ret
    exact ⟨rfl, _, _, h, To.refl _ _⟩
  | order1 hs h2 h3 h4 =>
    rw [← HM.out] at h3
    subst hs
    obtain ⟨k, rfl⟩ := Int.eq_ofNat_of_zero_le h2
    obtain ⟨ao, cap, hv⟩ := own_slice h.two.r1
    obtain ⟨L, hL⟩ : ∃ L, L = t.s1.length := ⟨_, rfl⟩
    rw [← hL] at hv h4
    subst hv
    have hLC : L ≤ t.C := by have := ht.f1; omega
    have hCm := ht.cap
    have HL : Hid (L = t.s1.length) := hL
    have c3 := h.c3
    have c1 := h.c1
    have hyM : (M : Int) ≤ 64 := by omega
    clear hL
    go_enter Tryz.func97, Tryz.ntmps97
    go_wp2_with fail
    refine (there_any g _ h.c0).mono ?_
    rintro e w' ⟨rfl, rfl⟩
    go_wp2_with fail
    refine (hasSlot_yes _ 1 _ (Or.inr rfl)).mono ?_
    rintro e w' ⟨rfl, rfl⟩
    go_wp2
    go_ret
    exact ⟨rfl, _, _, h, To.refl _ _⟩
  | space0 hs h2 h3 h4 h5 =>
    rw [← HM.out] at h3 h5
    subst hs
    obtain ⟨k, rfl⟩ := Int.eq_ofNat_of_zero_le h2
    obtain ⟨ao, cap, hv⟩ := own_slice h.two.r0
    obtain ⟨L, hL⟩ : ∃ L, L = t.s0.length := ⟨_, rfl⟩
    rw [← hL] at hv h4
    subst hv
    have hLC : L ≤ t.C := by have := ht.f0; omega
    have hCm := ht.cap
    have HL : Hid (L = t.s0.length) := hL
    have c2 := h.c2
    have c1 := h.c1
    have hyM : (M : Int) ≤ 64 := by omega
    clear hL
    go_enter Tryz.func97, Tryz.ntmps97
    go_wp2_with fail
    refine (there_any g _ h.c0).mono ?_
    rintro e w' ⟨rfl, rfl⟩
    go_wp2_with fail
    refine (hasSlot_yes _ 0 _ (Or.inl rfl)).mono ?_
    rintro e w' ⟨rfl, rfl⟩
    go_wp2
    go_ret
    exact ⟨rfl, _, _, h, To.refl _ _⟩
  | space1 hs h2 h3 h4 h5 =>
    rw [← HM.out] at h3 h5
    subst hs
    obtain ⟨k, rfl⟩ := Int.eq_ofNat_of_zero_le h2
    obtain ⟨ao, cap, hv⟩ := own_slice h.two.r1
    obtain ⟨L, hL⟩ : ∃ L, L = t.s1.length := ⟨_, rfl⟩
    rw [← hL] at hv h4
    subst hv
    have hLC : L ≤ t.C := by have := ht.f1; omega
    have hCm := ht.cap
    have HL : Hid (L = t.s1.length) := hL
    have c3 := h.c3
    have c1 := h.c1
    have hyM : (M : Int) ≤ 64 := by omega
    clear hL
    go_enter Tryz.func97, Tryz.ntmps97
    go_wp2_with fail
    refine (there_any g _ h.c0).mono ?_
    rintro e w' ⟨rfl, rfl⟩
    go_wp2_with fail
    refine (hasSlot_yes _ 1 _ (Or.inr rfl)).mono ?_
    rintro e w' ⟨rfl, rfl⟩
    go_wp2
    go_ret
    exact ⟨rfl, _, _, h, To.refl _ _⟩
  | cut0 hs h2 h3 h4 h5 hl =>
    rw [← HM.out] at h3 h5
    subst hs
    obtain ⟨k, rfl⟩ := Int.eq_ofNat_of_zero_le h2
    obtain ⟨ao, cap, hv⟩ := own_slice h.two.r0
    obtain ⟨L, hL⟩ : ∃ L, L = t.s0.length := ⟨_, rfl⟩
    rw [← hL] at hv h4
    subst hv
    have hLC : L ≤ t.C := by have := ht.f0; omega
    have hCm := ht.cap
    have HL : Hid (L = t.s0.length) := hL
    have c2 := h.c2
    have c1 := h.c1
    have hyM : (M : Int) ≤ 64 := by omega
    clear hL
    go_enter Tryz.func97, Tryz.ntmps97
    go_wp2_with fail
    refine (there_any g _ h.c0).mono ?_
    rintro e w' ⟨rfl, rfl⟩
    go_wp2_with fail
    refine (hasSlot_yes _ 0 _ (Or.inl rfl)).mono ?_
    rintro e w' ⟨rfl, rfl⟩
    go_wp2_with fail
    refine (letOne_cut h hl).mono ?_
    rintro e w1 ⟨rfl, hX, hF⟩
    go_wp2
    go_ret
    exact ⟨rfl, _, _, hX, To.same hF hgS⟩
  | cut1 hs h2 h3 h4 h5 hl =>
    rw [← HM.out] at h3 h5
    subst hs
    obtain ⟨k, rfl⟩ := Int.eq_ofNat_of_zero_le h2
    obtain ⟨ao, cap, hv⟩ := own_slice h.two.r1
    obtain ⟨L, hL⟩ : ∃ L, L = t.s1.length := ⟨_, rfl⟩
    rw [← hL] at hv h4
    subst hv
    have hLC : L ≤ t.C := by have := ht.f1; omega
    have hCm := ht.cap
    have HL : Hid (L = t.s1.length) := hL
    have c3 := h.c3
    have c1 := h.c1
    have hyM : (M : Int) ≤ 64 := by omega
    clear hL
    go_enter Tryz.func97, Tryz.ntmps97
    go_wp2_with fail
    refine (there_any g _ h.c0).mono ?_
    rintro e w' ⟨rfl, rfl⟩
    go_wp2_with fail
    refine (hasSlot_yes _ 1 _ (Or.inr rfl)).mono ?_
    rintro e w' ⟨rfl, rfl⟩
    go_wp2_with fail
    refine (letOne_cut h hl).mono ?_
    rintro e w1 ⟨rfl, hX, hF⟩
    go_wp2
    go_ret
    exact ⟨rfl, _, _, hX, To.same hF hgS⟩
  | done0 hs h2 h3 h4 h5 hl =>
    rw [← HM.out] at h3 h5
    subst hs
    obtain ⟨k, rfl⟩ := Int.eq_ofNat_of_zero_le h2
    obtain ⟨ao, cap, hv⟩ := own_slice h.two.r0
    obtain ⟨L, hL⟩ : ∃ L, L = t.s0.length := ⟨_, rfl⟩
    rw [← hL] at hv h4
    subst hv
    have hLC : L ≤ t.C := by have := ht.f0; omega
    have hCm := ht.cap
    have HL : Hid (L = t.s0.length) := hL
    have c2 := h.c2
    have c1 := h.c1
    have hyM : (M : Int) ≤ 64 := by omega
    clear hL
    go_enter Tryz.func97, Tryz.ntmps97
    go_wp2_with fail
    refine (there_any g _ h.c0).mono ?_
    rintro e w' ⟨rfl, rfl⟩
    go_wp2_with fail
    refine (hasSlot_yes _ 0 _ (Or.inl rfl)).mono ?_
    rintro e w' ⟨rfl, rfl⟩
    go_wp2_with fail
    refine (letOne_ok h hl ht hn).mono ?_
    rintro e w1 ⟨rfl, hX, hF⟩
    have c2' := hX.c2
    have f2' := hX.free 2
    have r' := hX.two.r0
    have hB1 : BArg w1.drew bo M cb ys := (hB.keepS hF (fun h0 a ha hm => hap h0 a ha (hgS _ hm))).keep (Fr.drew [] w1)
    have hap1 : 0 < M → ∀ a, bo = some a → a.block ∉ (Value.slice ao L cap).ownBlock.toList := fun h0 a ha hm => hap h0 a ha (mem_dOwn.2 (Or.inr (Or.inl (by simpa using hm))))
    have HX1 : Hid (Dk w1.drew g (.slice ao L cap) v1 t.next) := hX.keep (Fr.drew [] w1) (by simp)
    have HT1 : Hid (To (dOwn g (.slice ao L cap) v1) (dOwn g (.slice ao L cap) v1) w w1.drew) := To.same (hF.then (Fr.drew [g] w1)) hgS
    have hlay := lay_any ao L cap k t.s0 bo M cb ys w1.drew (by have := HX1.out.two.r0; have e : t.next.s0.length = L := HL.out.symm; rw [e] at this; exact this) hB1 (by omega) (by omega) (by omega) hap1
    clear hB hB1 hap hap1 hX hF r' h
    go_upto_region 12 with fail
    first
      | go_loud (go_region_with (first
          | (go_at_call 114; with_reducible refine hlay.mono ?_; rintro e w2 ⟨ao2, n2, cap2, rfl, hn2, hO2, hF2, hM2⟩; have hT2 := HX1.out.set0 (xs := layB t.s0 k ys) hF2 (by rw [← hn2]; exact hO2) hM2.mv; have hD2 := HX1.out.box; have hb2 := hF2.keep hD2 HX1.out.n0; have k2 : w2.cell? ⟨g, 2, none⟩ = some (.slice ao L cap) := (cell_of_row _ _ _ _ _ _ hb2); have k3 : w2.frozen? ⟨g, 2, none⟩ = false := (by simp [World.frozen?, hb2]); clear hb2 hD2 hn2 hO2 hF2 hM2)))
      | fail
    all_goals (go_wp2; go_ret; exact ⟨rfl, _, _, hT2.1, HT1.out.then hT2.2⟩)
  | done1 hs h2 h3 h4 h5 hl =>
    rw [← HM.out] at h3 h5
    subst hs
    obtain ⟨k, rfl⟩ := Int.eq_ofNat_of_zero_le h2
    obtain ⟨ao, cap, hv⟩ := own_slice h.two.r1
    obtain ⟨L, hL⟩ : ∃ L, L = t.s1.length := ⟨_, rfl⟩
    rw [← hL] at hv h4
    subst hv
    have hLC : L ≤ t.C := by have := ht.f1; omega
    have hCm := ht.cap
    have HL : Hid (L = t.s1.length) := hL
    have c3 := h.c3
    have c1 := h.c1
    have hyM : (M : Int) ≤ 64 := by omega
    clear hL
    go_enter Tryz.func97, Tryz.ntmps97
    go_wp2_with fail
    refine (there_any g _ h.c0).mono ?_
    rintro e w' ⟨rfl, rfl⟩
    go_wp2_with fail
    refine (hasSlot_yes _ 1 _ (Or.inr rfl)).mono ?_
    rintro e w' ⟨rfl, rfl⟩
    go_wp2_with fail
    refine (letOne_ok h hl ht hn).mono ?_
    rintro e w1 ⟨rfl, hX, hF⟩
    have c3' := hX.c3
    have f3' := hX.free 3
    have r' := hX.two.r1
    have hB1 : BArg w1.drew bo M cb ys := (hB.keepS hF (fun h0 a ha hm => hap h0 a ha (hgS _ hm))).keep (Fr.drew [] w1)
    have hap1 : 0 < M → ∀ a, bo = some a → a.block ∉ (Value.slice ao L cap).ownBlock.toList := fun h0 a ha hm => hap h0 a ha (mem_dOwn.2 (Or.inr (Or.inr (by simpa using hm))))
    have HX1 : Hid (Dk w1.drew g v0 (.slice ao L cap) t.next) := hX.keep (Fr.drew [] w1) (by simp)
    have HT1 : Hid (To (dOwn g v0 (.slice ao L cap)) (dOwn g v0 (.slice ao L cap)) w w1.drew) := To.same (hF.then (Fr.drew [g] w1)) hgS
    have hlay := lay_any ao L cap k t.s1 bo M cb ys w1.drew (by have := HX1.out.two.r1; have e : t.next.s1.length = L := HL.out.symm; rw [e] at this; exact this) hB1 (by omega) (by omega) (by omega) hap1
    clear hB hB1 hap hap1 hX hF r' h
    go_upto_region 12 with fail
    first
      | go_loud (go_region_with (first
          | (go_at_call 114; with_reducible refine hlay.mono ?_; rintro e w2 ⟨ao2, n2, cap2, rfl, hn2, hO2, hF2, hM2⟩; have hT2 := HX1.out.set1 (xs := layB t.s1 k ys) hF2 (by rw [← hn2]; exact hO2) hM2.mv; have hD2 := HX1.out.box; have hb2 := hF2.keep hD2 HX1.out.n1; have k2 : w2.cell? ⟨g, 3, none⟩ = some (.slice ao L cap) := (cell_of_row _ _ _ _ _ _ hb2); have k3 : w2.frozen? ⟨g, 3, none⟩ = false := (by simp [World.frozen?, hb2]); clear hb2 hD2 hn2 hO2 hF2 hM2)))
      | fail
    all_goals (go_wp2; go_ret; exact ⟨rfl, _, _, hT2.1, HT1.out.then hT2.2⟩)
end
end Go.Proofs.YtdojhkgnnbdfkaaGreat
