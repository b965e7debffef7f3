/- A gate in memory; contracts of place, set, clear, isSet, there, Mark, Has. Conditions as each names them. -/
import Derived.Test.YtakbodlicfmkjaaGreatGm12
import Derived.Test.YtakbodlicfmkjaaGreatRi11
import Derived.Laws.ShiftsVarLaws
import Derived.Laws.BitsAllLaws
import Derived.Laws.Bits64b
import Derived.Laws.Tables
import Derived.Deep.RegionHeld3
namespace Go.Proofs.YtakbodlicfmkjaaGreat
open Go.ChangeShapes Go.WideShapes Go.ChangeAt Go.RowKit Go.Lib Go.Maps
set_option linter.unusedVariables false
set_option linter.unusedSimpArgs false

def u64s (ws : List Nat) : List Value := ws.map fun (x : Nat) => Value.int .u64 (x : Int)
theorem u64s_length (ws : List Nat) : (u64s ws).length = ws.length := by simp [u64s]
theorem row_setV {w : World} {g j : Nat} {xs : List Value} {t : TypeId} (v : Value) (h : w.heap[g]? = some (.cells xs.toArray t (0, 0))) : (w.setCell ⟨g, j, none⟩ v).heap[g]? = some (.cells (xs.set j v).toArray t (0, 0)) := by
  have hlt := lt_of_block h
  have h' : w.heap[g] = .cells xs.toArray t (0, 0) := by simpa [Array.getElem?_eq_getElem hlt] using h
  show (w.heap.modify g _)[g]? = _
  rw [Array.getElem?_eq_getElem (by simpa using hlt), Array.getElem_modify_self, h']
  simp
/-- A gate in block g: its mark, its words. -/
structure GM (w : World) (g : Nat) (m : Int) (ws : List Nat) : Prop where
  box : w.heap[g]? = some (.cells (Value.bool true :: Value.int .i64 m :: u64s ws).toArray 123 (0, 0))
section
variable {w w' : World} {g : Nat} {m : Int} {ws : List Nat}
theorem GM.lt (h : GM w g m ws) : g < w.heap.size := lt_of_block h.box
theorem GM.keep {S : List Nat} (h : GM w g m ws) (hf : Fr S w w') (hn : g ∉ S) : GM w' g m ws := ⟨hf.keep h.box hn⟩
theorem GM.c0 (h : GM w g m ws) : w.cell? ⟨g, 0, none⟩ = some (.bool true) := by rw [cell_of_row _ _ _ _ _ _ h.box]; rfl
theorem GM.c1 (h : GM w g m ws) : w.cell? ⟨g, 1, none⟩ = some (.int .i64 m) := by rw [cell_of_row _ _ _ _ _ _ h.box]; rfl
theorem GM.cw (h : GM w g m ws) (i : Nat) (hi : i < ws.length) : w.cell? ⟨g, 2 + i, none⟩ = some (.int .u64 ((ws.getD i 0 : Nat) : Int)) := by
  rw [cell_of_row _ _ _ _ _ _ h.box, List.getElem?_toArray, Nat.add_comm, List.getElem?_cons_succ, List.getElem?_cons_succ]
  simp [u64s, List.getD, hi]
theorem GM.free (h : GM w g m ws) (i : Nat) : w.frozen? ⟨g, i, none⟩ = false := by
  unfold World.frozen?
  rw [h.box]
  rfl
theorem GM.mark (h : GM w g m ws) (n : Int) : GM (w.setCell ⟨g, 1, none⟩ (.int .i64 n)) g n ws := ⟨row_setV _ h.box⟩
theorem GM.put (h : GM w g m ws) (i x : Nat) : GM (w.setCell ⟨g, 2 + i, none⟩ (.int .u64 (x : Int))) g m (ws.set i x) := by
  refine ⟨?_⟩
  have := row_setV (j := 2 + i) (.int .u64 (x : Int)) h.box
  rw [this]
  congr 2
  rw [Nat.add_comm]
  simp [u64s, List.map_set]
end
theorem Tryz.undArrG : Tryz.prog.underlying 121 = some (.array 1024 120) := by kernel_rfl
theorem pow_bt (n : Int) : (2 : Int) ^ btOf n = ((pw2 (btOf n) : Nat) : Int) := by simp [pw2]
set_option maxHeartbeats 1000000 in
theorem aplace_any (n : Int) (w : World) (h1 : 1 ≤ n) (h2 : n ≤ 65536) :
    Calls Tryz.prog 136 #[.int .i64 n] w fun e w' => e = .returned (.tuple #[.int .i64 ((wdOf n : Nat) : Int), .int .u64 ((pw2 (btOf n) : Nat) : Int)]) ∧ Fr [] w w' := by
  go_enter Tryz.func136, Tryz.ntmps136
  go_wp2_with fail
  go_quiet (fail)
  go_wp2
  refine bodyPost_ret (results_tmp2 rfl _ _ _) rfl ?_
  have e1 : (n - 1) / 64 = ((wdOf n : Nat) : Int) := by unfold wdOf; omega
  have e2 : ((n - 1) % 64).toNat = btOf n := by unfold btOf; omega
  have e3 : IntKind.u64.wrap (2 ^ ((n - 1) % 64).toNat) = ((pw2 (btOf n) : Nat) : Int) := by
    rw [e2, pow_bt, IntKind.wrap_u64]
    have := pw2_lt (btOf_lt n)
    omega
  refine ⟨?_, Fr.drewN _ _ _⟩
  show Ending.returned (.tuple #[.int .i64 ((n - 1) / 64), .int .u64 (IntKind.u64.wrap (2 ^ ((n - 1) % 64).toNat))]) = _
  rw [e1, e3]
set_option maxHeartbeats 4000000 in
set_option maxRecDepth 100000 in
theorem aset_any {g : Nat} {m : Int} {ws : List Nat} {xs : List Int} (n : Int) (w : World) (h : GM w g m ws) (hx : Wds ws xs) (h1 : 1 ≤ n) (h2 : n ≤ 65536) :
    Calls Tryz.prog 98 #[.pointer (some ⟨g, 0, none⟩), .int .i64 n] w fun e w' => e = .returned (.tuple #[]) ∧ GM w' g m (ws.set (wdOf n) (ws.getD (wdOf n) 0 ||| pw2 (btOf n))) ∧ Fr [g] w w' := by
  have HP : Hid (Calls _ _ _ _ _) := aplace_any n w h1 h2
  have hi := wdOf_lt h1 h2
  have hB := pw2_lt (btOf_lt n)
  have hX := hx.at (wdOf n)
  obtain ⟨X, hXX⟩ : ∃ X, X = ws.getD (wdOf n) 0 := ⟨_, rfl⟩
  obtain ⟨i, hii⟩ : ∃ i, i = wdOf n := ⟨_, rfl⟩
  obtain ⟨B, hBB⟩ : ∃ B, B = pw2 (btOf n) := ⟨_, rfl⟩
  rw [← hXX] at hX ⊢
  rw [← hii] at hi HP hXX ⊢
  rw [← hBB] at hB HP ⊢
  obtain ⟨Y, hY⟩ : ∃ Y : Nat, Y = X ||| B := ⟨_, rfl⟩
  have hor : bits .or .u64 (X : Int) (B : Int) = (Y : Int) := by rw [hY]; exact u64_or_nat X B hX hB
  have HM : Hid (∀ W, Fr [] w W → GM W g m ws) := fun W hf => h.keep hf (by simp)
  have HC : Hid (∀ W, Fr [] w W → W.cell? ⟨g, 2 + i, none⟩ = some (.int .u64 (X : Int))) := fun W hf => by rw [hXX]; exact (h.keep hf (by simp)).cw i (by rw [hx.len]; exact hi)
  rw [← hY]
  clear h hx hii hBB hXX hY h1 h2
  go_enter Tryz.func98, Tryz.ntmps98
  go_wp2_with fail
  refine Calls.mono HP.out ?_
  rintro e w1 ⟨rfl, hF⟩
  have hc := HC.out _ hF
  have hfz := (HM.out _ hF).free (2 + i)
  have hii : (i : Int) < 1024 := by omega
  clear HP HC
  go_wp2_with fail
  go_region
  go_wp2
  go_end0
  refine ⟨rfl, ((HM.out _ hF).put i Y).keep (Fr.drew [] _) (by simp), ?_⟩
  exact (hF.trans ((Fr.set (S := [g]) w1 ⟨g, 2 + i, none⟩ _ (by simp)).then (Fr.drew _ _)) (by simp) (fun x hx _ => hx))
theorem andNot_bits {X k : Nat} (hk : k < 64) (b : Nat) : (X &&& (18446744073709551615 - pw2 k)).testBit b = (decide (b < 64) && X.testBit b && !decide (k = b)) := by
  have e : 18446744073709551615 - pw2 k = 2 ^ 64 - (pw2 k + 1) := by omega
  rw [Nat.testBit_and, e, Nat.testBit_two_pow_sub_succ (pw2_lt hk), pw2, Nat.testBit_two_pow]
  by_cases h1 : b < 64 <;> by_cases h2 : k = b <;> simp [h1, h2]
theorem high_bit {X b : Nat} (hX : X < 2 ^ 64) (hb : X.testBit b = true) : b < 64 := by
  apply Nat.lt_of_not_le
  intro h
  rw [Nat.testBit_lt_two_pow (Nat.lt_of_lt_of_le hX (Nat.pow_le_pow_right (by decide) h))] at hb
  cases hb
set_option maxHeartbeats 4000000 in
set_option maxRecDepth 100000 in
theorem aclear_any {g : Nat} {m : Int} {ws : List Nat} {xs : List Int} (n : Int) (w : World) (h : GM w g m ws) (hx : Wds ws xs) (h1 : 1 ≤ n) (h2 : n ≤ 65536) :
    Calls Tryz.prog 344 #[.pointer (some ⟨g, 0, none⟩), .int .i64 n] w fun e w' => e = .returned (.tuple #[]) ∧ (∃ v, GM w' g m (ws.set (wdOf n) v) ∧ ∀ b, v.testBit b = ((ws.getD (wdOf n) 0).testBit b && !decide (btOf n = b))) ∧ Fr [g] w w' := by
  have HP : Hid (Calls _ _ _ _ _) := aplace_any n w h1 h2
  have hi := wdOf_lt h1 h2
  have hB := pw2_lt (btOf_lt n)
  have hX := hx.at (wdOf n)
  have HV : Hid (∀ b, ((ws.getD (wdOf n) 0) &&& (18446744073709551615 - pw2 (btOf n))).testBit b = ((ws.getD (wdOf n) 0).testBit b && !decide (btOf n = b))) := by
    intro b
    rw [andNot_bits (btOf_lt n)]
    cases hb : (ws.getD (wdOf n) 0).testBit b with
    | false => simp
    | true => simp [high_bit hX hb]
  obtain ⟨X, hXX⟩ : ∃ X, X = ws.getD (wdOf n) 0 := ⟨_, rfl⟩
  obtain ⟨i, hii⟩ : ∃ i, i = wdOf n := ⟨_, rfl⟩
  obtain ⟨B, hBB⟩ : ∃ B, B = pw2 (btOf n) := ⟨_, rfl⟩
  rw [← hXX] at hX HV ⊢
  rw [← hii] at hi HP hXX ⊢
  rw [← hBB] at hB HP HV
  obtain ⟨Y, hY⟩ : ∃ Y : Nat, Y = X &&& (18446744073709551615 - B) := ⟨_, rfl⟩
  have hor : bits .andNot .u64 (X : Int) (B : Int) = (Y : Int) := by rw [hY]; exact u64_andNot_nat X B hX hB
  have HM : Hid (∀ W, Fr [] w W → GM W g m ws) := fun W hf => h.keep hf (by simp)
  have HC : Hid (∀ W, Fr [] w W → W.cell? ⟨g, 2 + i, none⟩ = some (.int .u64 (X : Int))) := fun W hf => by rw [hXX]; exact (h.keep hf (by simp)).cw i (by rw [hx.len]; exact hi)
  rw [← hY] at HV
  clear h hx hii hBB hXX hY h1 h2
  go_enter Tryz.func344, Tryz.ntmps344
  go_wp2_with fail
  refine Calls.mono HP.out ?_
  rintro e w1 ⟨rfl, hF⟩
  have hc := HC.out _ hF
  have hfz := (HM.out _ hF).free (2 + i)
  have hii : (i : Int) < 1024 := by omega
  clear HP HC
  go_wp2_with fail
  go_region
  go_wp2
  go_end0
  refine ⟨rfl, ⟨Y, ((HM.out _ hF).put i Y).keep (Fr.drew [] _) (by simp), HV.out⟩, ?_⟩
  exact (hF.trans ((Fr.set (S := [g]) w1 ⟨g, 2 + i, none⟩ _ (by simp)).then (Fr.drew _ _)) (by simp) (fun x hx _ => hx))
theorem and_bit {X k : Nat} : ((X &&& pw2 k : Nat) != 0) = X.testBit k := by
  have hb : ∀ b, (X &&& pw2 k).testBit b = (X.testBit b && decide (k = b)) := fun b => by rw [Nat.testBit_and, pw2, Nat.testBit_two_pow]
  cases h : X.testBit k with
  | true =>
    have h1 := hb k
    rw [h] at h1
    have : X &&& pw2 k ≠ 0 := fun e => by rw [e] at h1; simp at h1
    simp [this]
  | false =>
    have : X &&& pw2 k = 0 := Nat.eq_of_testBit_eq (fun b => by
      rw [hb b]
      by_cases e : k = b
      · subst e; simp [h]
      · simp [e])
    simp [this]
set_option maxHeartbeats 4000000 in
set_option maxRecDepth 100000 in
theorem aisset_any {g : Nat} {m : Int} {ws : List Nat} {xs : List Int} (n : Int) (b : Bool) (w : World) (h : GM w g m ws) (hx : Wds ws xs) (h1 : 1 ≤ n) (hxs : ∀ x ∈ xs, x ≤ 65536) (hb : b = true ↔ n ∈ xs) :
    Calls Tryz.prog 343 #[.pointer (some ⟨g, 0, none⟩), .int .i64 n] w fun e w' => e = .returned (.bool b) ∧ Fr [] w w' := by
  by_cases h2 : n ≤ 65536
  · have HP : Hid (Calls _ _ _ _ _) := aplace_any n w h1 h2
    have hi := wdOf_lt h1 h2
    have hB := pw2_lt (btOf_lt n)
    have hX := hx.at (wdOf n)
    have hbit : (((ws.getD (wdOf n) 0) &&& pw2 (btOf n) : Nat) != 0) = b := by
      rw [and_bit]
      have := hx.bits n h1 h2
      unfold bitAt at this
      cases hb2 : b with
      | true => exact this.2 (hb.1 hb2)
      | false =>
        cases hc : (ws.getD (wdOf n) 0).testBit (btOf n) with
        | false => rfl
        | true => exact absurd (hb.2 (this.1 hc)) (by simp [hb2])
    obtain ⟨X, hXX⟩ : ∃ X, X = ws.getD (wdOf n) 0 := ⟨_, rfl⟩
    obtain ⟨i, hii⟩ : ∃ i, i = wdOf n := ⟨_, rfl⟩
    obtain ⟨B, hBB⟩ : ∃ B, B = pw2 (btOf n) := ⟨_, rfl⟩
    rw [← hXX] at hX hbit
    rw [← hii] at hi HP hXX
    rw [← hBB] at hB HP hbit
    obtain ⟨Y, hY⟩ : ∃ Y : Nat, Y = X &&& B := ⟨_, rfl⟩
    have hor : bits .and .u64 (X : Int) (B : Int) = (Y : Int) := by rw [hY]; exact u64_and_nat X B hX hB
    have HC : Hid (∀ W, Fr [] w W → W.cell? ⟨g, 2 + i, none⟩ = some (.int .u64 (X : Int))) := fun W hf => by rw [hXX]; exact (h.keep hf (by simp)).cw i (by rw [hx.len]; exact hi)
    rw [← hY] at hbit
    have hq : ((Y : Int) != 0) = b := by
      rw [← hbit]
      by_cases h0 : Y = 0
      · rw [h0]; rfl
      · have h3 : (Y : Int) ≠ 0 := by omega
        rw [bne_iff_ne.2 h3, bne_iff_ne.2 h0]
    clear h hx hii hBB hXX hY hbit hb
    go_enter Tryz.func343, Tryz.ntmps343
    go_wp2_with fail
    refine Calls.mono HP.out ?_
    rintro e w1 ⟨rfl, hF⟩
    have hc := HC.out _ hF
    have hii : (i : Int) < 1024 := by omega
    clear HP HC
    go_wp2
    go_ret
    exact ⟨rfl, hF⟩
  · have hbf : b = false := by
      cases hbb : b with
      | false => rfl
      | true => have := hxs n (hb.1 hbb); omega
    subst hbf
    clear h hx hb hxs
    go_enter Tryz.func343, Tryz.ntmps343
    go_wp2
    go_ret
    exact ⟨rfl, Fr.refl _ _⟩
theorem athere_any {g : Nat} {m : Int} {ws : List Nat} (w : World) (h : GM w g m ws) : Calls Tryz.prog 45 #[.pointer (some ⟨g, 0, none⟩)] w fun e w' => e = .returned (.bool true) ∧ w = w' := by
  have c0 := h.c0
  clear h
  go_enter Tryz.func45, Tryz.ntmps45
  go_wp2
  go_ret
  exact ⟨rfl, rfl⟩
/-- A gate that is not there: nil, or a zero struct. -/
def NoG (w : World) (p : Option Addr) : Prop := p = none ∨ ∃ z, p = some ⟨z, 0, none⟩ ∧ z < w.heap.size ∧ w.cell? ⟨z, 0, none⟩ = some (.bool false)
theorem NoG.keep {S : List Nat} {w w' : World} {p : Option Addr} (h : NoG w p) (hf : Fr S w w') (hn : ∀ a, p = some a → a.block ∉ S) : NoG w' p := by
  rcases h with h | ⟨z, e, hl, hz⟩
  · exact Or.inl h
  · exact Or.inr ⟨z, e, Nat.lt_of_lt_of_le hl hf.size, (World.cell?_of_block (hf.block z hl (hn _ e))).trans hz⟩
theorem athere_no (p : Option Addr) (w : World) (h : NoG w p) : Calls Tryz.prog 45 #[.pointer p] w fun e w' => e = .returned (.bool false) ∧ w = w' := by
  rcases h with rfl | ⟨z, rfl, _, c0⟩
  · go_enter Tryz.func45, Tryz.ntmps45
    go_wp2
    go_ret
    exact ⟨rfl, rfl⟩
  · go_enter Tryz.func45, Tryz.ntmps45
    go_wp2
    go_ret
    exact ⟨rfl, rfl⟩
theorem amark_any {g : Nat} {m : Int} {ws : List Nat} (w : World) (h : GM w g m ws) : Calls Tryz.prog 23 #[.pointer (some ⟨g, 0, none⟩)] w fun e w' => e = .returned (.int .i64 m) ∧ w = w' := by
  have HT : Hid (Calls _ _ _ _ _) := athere_any w h
  have c1 := h.c1
  clear h
  go_enter Tryz.func23, Tryz.ntmps23
  go_wp2_with fail
  refine Calls.mono HT.out ?_
  rintro e w1 ⟨rfl, rfl⟩
  go_wp2
  go_ret
  exact ⟨rfl, rfl⟩
theorem amark_no (p : Option Addr) (w : World) (h : NoG w p) : Calls Tryz.prog 23 #[.pointer p] w fun e w' => e = .returned (.int .i64 0) ∧ w = w' := by
  have HT : Hid (Calls _ _ _ _ _) := athere_no p w h
  clear h
  go_enter Tryz.func23, Tryz.ntmps23
  go_wp2_with fail
  refine Calls.mono HT.out ?_
  rintro e w1 ⟨rfl, rfl⟩
  go_wp2
  go_ret
  exact ⟨rfl, rfl⟩
theorem ahas_no (p : Option Addr) (n : Int) (w : World) (h : NoG w p) : Calls Tryz.prog 342 #[.pointer p, .int .i64 n] w fun e w' => e = .returned (.bool false) ∧ w = w' := by
  have HT : Hid (Calls _ _ _ _ _) := athere_no p w h
  clear h
  go_enter Tryz.func342, Tryz.ntmps342
  go_wp2_with fail
  refine Calls.mono HT.out ?_
  rintro e w1 ⟨rfl, rfl⟩
  go_wp2
  go_ret
  exact ⟨rfl, rfl⟩
theorem adone_none (p : Option Addr) (n : Int) (w : World) (h : NoG w p) : Calls Tryz.prog 339 #[.pointer p, .int .i64 n] w fun e w' => e = .returned (.tuple #[.int .i64 0, .int .i64 2]) ∧ w = w' := by
  have HT : Hid (Calls _ _ _ _ _) := athere_no p w h
  clear h
  go_enter Tryz.func339, Tryz.ntmps339
  go_wp2_with fail
  refine Calls.mono HT.out ?_
  rintro e w1 ⟨rfl, rfl⟩
  go_wp2
  refine bodyPost_ret (results_tmp2 rfl _ _ _) rfl ?_
  exact ⟨rfl, rfl⟩
theorem abeyond_none (p : Option Addr) (w : World) (h : NoG w p) : Calls Tryz.prog 364 #[.pointer p] w fun e w' => e = .returned (.slice none 0 0) ∧ w = w' := by
  have HT : Hid (Calls _ _ _ _ _) := athere_no p w h
  clear h
  go_enter Tryz.func364, Tryz.ntmps364
  go_wp2_with fail
  refine Calls.mono HT.out ?_
  rintro e w1 ⟨rfl, rfl⟩
  go_wp2
  go_ret
  exact ⟨rfl, rfl⟩
set_option maxHeartbeats 2000000 in
theorem ahas_any {g : Nat} {m : Int} {ws : List Nat} {xs : List Int} (n : Int) (b : Bool) (w : World) (h : GM w g m ws) (hx : Wds ws xs) (hxs : ∀ x ∈ xs, x ≤ 65536) (hb : b = true ↔ 1 ≤ n ∧ (n ≤ m ∨ n ∈ xs)) :
    Calls Tryz.prog 342 #[.pointer (some ⟨g, 0, none⟩), .int .i64 n] w fun e w' => e = .returned (.bool b) ∧ Fr [] w w' := by
  have HT : Hid (Calls _ _ _ _ _) := athere_any w h
  have c1 := h.c1
  by_cases h1 : 1 ≤ n
  · by_cases h2 : n ≤ m
    · have hbt : b = true := hb.2 ⟨h1, Or.inl h2⟩
      subst hbt
      clear h hx hxs hb
      go_enter Tryz.func342, Tryz.ntmps342
      go_wp2_with fail
      refine Calls.mono HT.out ?_
      rintro e w1 ⟨rfl, rfl⟩
      go_wp2
      go_ret
      exact ⟨rfl, Fr.refl _ _⟩
    · have HI : Hid (Calls _ _ _ _ _) := aisset_any n b w h hx h1 hxs (by rw [hb]; constructor
                                                                          · rintro ⟨_, h3 | h3⟩
                                                                            · exact absurd h3 h2
                                                                            · exact h3
                                                                          · intro h3; exact ⟨h1, Or.inr h3⟩)
      have hd : decide (n ≤ m) = false := by simpa using h2
      clear h hx hxs hb
      go_enter Tryz.func342, Tryz.ntmps342
      go_wp2_with fail
      refine Calls.mono HT.out ?_
      rintro e w1 ⟨rfl, rfl⟩
      go_wp2_with fail
      refine Calls.mono HI.out ?_
      rintro e w1 ⟨rfl, hF⟩
      go_wp2
      go_ret
      exact ⟨rfl, hF⟩
  · have hbf : b = false := by
      cases hbb : b with
      | false => rfl
      | true => exact absurd (hb.1 hbb).1 h1
    subst hbf
    clear h hx hxs hb
    go_enter Tryz.func342, Tryz.ntmps342
    go_wp2_with fail
    refine Calls.mono HT.out ?_
    rintro e w1 ⟨rfl, rfl⟩
    go_wp2
    go_ret
    exact ⟨rfl, Fr.refl _ _⟩
end Go.Proofs.YtakbodlicfmkjaaGreat
