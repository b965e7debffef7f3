/- Has, asked in a world that has drawn; rows of bools; how many are not there. Conditions as each names them. -/
import Derived.Test.YtleklocdejldnaaDoorAl12
import Derived.Test.YtleklocdejldnaaDoorIn10
import Derived.OwnWalk
namespace Go.Proofs.YtleklocdejldnaaDoor
open Go.ChangeShapes Go.WideShapes Go.ChangeAt Go.RowKit Go.Lib Go.Maps
set_option linter.unusedVariables false
set_option linter.unusedSimpArgs false

set_option maxHeartbeats 1000000 in
theorem aplace_q (n : Int) (w : World) (h1 : 1 ≤ n) (h2 : n ≤ 65536) :
    Calls Tryd.prog 64 #[.int .i64 n] w fun e w' => e = .returned (.tuple #[.int .i64 ((wdOf n : Nat) : Int), .int .u64 ((pw2 (btOf n) : Nat) : Int)]) ∧ ∃ q, w' = w.drewN q := by
  go_enter Tryd.func64, Tryd.ntmps64
  go_wp2_with fail
  go_quiet (fail)
  go_wp2
  refine bodyPost_ret (results_tmp2 rfl _ _ _) rfl ?_
  have e1 : (n - 1) / 64 = ((wdOf n : Nat) : Int) := by unfold wdOf; omega
  have e2 : ((n - 1) % 64).toNat = btOf n := by unfold btOf; omega
  have e3 : IntKind.u64.wrap (2 ^ ((n - 1) % 64).toNat) = ((pw2 (btOf n) : Nat) : Int) := by
    rw [e2, pow_bt, IntKind.wrap_u64]
    have := pw2_lt (btOf_lt n)
    omega
  refine ⟨?_, _, rfl⟩
  show Ending.returned (.tuple #[.int .i64 ((n - 1) / 64), .int .u64 (IntKind.u64.wrap (2 ^ ((n - 1) % 64).toNat))]) = _
  rw [e1, e3]
set_option maxHeartbeats 4000000 in
set_option maxRecDepth 100000 in
theorem aisset_q {g : Nat} {m : Int} {ws : List Nat} {xs : List Int} (n : Int) (b : Bool) (w : World) (h : GM w g m ws) (hx : Wds ws xs) (h1 : 1 ≤ n) (hxs : ∀ x ∈ xs, x ≤ 65536) (hb : b = true ↔ n ∈ xs) :
    Calls Tryd.prog 62 #[.pointer (some ⟨g, 0, none⟩), .int .i64 n] w fun e w' => e = .returned (.bool b) ∧ ∃ q, w' = w.drewN q := by
  by_cases h2 : n ≤ 65536
  · have HP : Hid (Calls _ _ _ _ _) := aplace_q n w h1 h2
    have hi := wdOf_lt h1 h2
    have hB := pw2_lt (btOf_lt n)
    have hX := hx.at (wdOf n)
    have hbit : (((ws.getD (wdOf n) 0) &&& pw2 (btOf n) : Nat) != 0) = b := by
      rw [and_bit]
      have := hx.bits n h1 h2
      unfold bitAt at this
      cases hb2 : b with
      | true => exact this.2 (hb.1 hb2)
      | false =>
        cases hc : (ws.getD (wdOf n) 0).testBit (btOf n) with
        | false => rfl
        | true => exact absurd (hb.2 (this.1 hc)) (by simp [hb2])
    obtain ⟨X, hXX⟩ : ∃ X, X = ws.getD (wdOf n) 0 := ⟨_, rfl⟩
    obtain ⟨i, hii⟩ : ∃ i, i = wdOf n := ⟨_, rfl⟩
    obtain ⟨B, hBB⟩ : ∃ B, B = pw2 (btOf n) := ⟨_, rfl⟩
    rw [← hXX] at hX hbit
    rw [← hii] at hi HP hXX
    rw [← hBB] at hB HP hbit
    obtain ⟨Y, hY⟩ : ∃ Y : Nat, Y = X &&& B := ⟨_, rfl⟩
    have hor : bits .and .u64 (X : Int) (B : Int) = (Y : Int) := by rw [hY]; exact u64_and_nat X B hX hB
    have HC : Hid (∀ W, Fr [] w W → W.cell? ⟨g, 2 + i, none⟩ = some (.int .u64 (X : Int))) := fun W hf => by rw [hXX]; exact (h.keep hf (by simp)).cw i (by rw [hx.len]; exact hi)
    rw [← hY] at hbit
    have hq : ((Y : Int) != 0) = b := by
      rw [← hbit]
      by_cases h0 : Y = 0
      · rw [h0]; rfl
      · have h3 : (Y : Int) ≠ 0 := by omega
        rw [bne_iff_ne.2 h3, bne_iff_ne.2 h0]
    clear h hx hii hBB hXX hY hbit hb
    go_enter Tryd.func62, Tryd.ntmps62
    go_wp2_with fail
    refine Calls.mono HP.out ?_
    rintro e w1 ⟨rfl, q, rfl⟩
    have hc := HC.out _ (Fr.drewN [] w q)
    have hii : (i : Int) < 1024 := by omega
    clear HP HC
    go_wp2
    go_ret
    exact ⟨rfl, q, rfl⟩
  · have hbf : b = false := by
      cases hbb : b with
      | false => rfl
      | true => have := hxs n (hb.1 hbb); omega
    subst hbf
    clear h hx hb hxs
    go_enter Tryd.func62, Tryd.ntmps62
    go_wp2
    go_ret
    exact ⟨rfl, 0, rfl⟩
set_option maxHeartbeats 2000000 in
theorem ahas_q {g : Nat} {m : Int} {ws : List Nat} {xs : List Int} (n : Int) (b : Bool) (w : World) (h : GM w g m ws) (hx : Wds ws xs) (hxs : ∀ x ∈ xs, x ≤ 65536) (hb : b = true ↔ 1 ≤ n ∧ (n ≤ m ∨ n ∈ xs)) :
    Calls Tryd.prog 22 #[.pointer (some ⟨g, 0, none⟩), .int .i64 n] w fun e w' => e = .returned (.bool b) ∧ ∃ q, w' = w.drewN q := by
  have HT : Hid (Calls _ _ _ _ _) := athere_any w h
  have c1 := h.c1
  by_cases h1 : 1 ≤ n
  · by_cases h2 : n ≤ m
    · have hbt : b = true := hb.2 ⟨h1, Or.inl h2⟩
      subst hbt
      clear h hx hxs hb
      go_enter Tryd.func22, Tryd.ntmps22
      go_wp2_with fail
      refine Calls.mono HT.out ?_
      rintro e w1 ⟨rfl, rfl⟩
      go_wp2
      go_ret
      exact ⟨rfl, 0, rfl⟩
    · have HI : Hid (Calls _ _ _ _ _) := aisset_q n b w h hx h1 hxs (hb.trans ⟨fun e => e.2.resolve_left h2, fun e => ⟨h1, Or.inr e⟩⟩)
      have hd : decide (n ≤ m) = false := by simpa using h2
      clear h hx hxs hb
      go_enter Tryd.func22, Tryd.ntmps22
      go_wp2_with fail
      refine Calls.mono HT.out ?_
      rintro e w1 ⟨rfl, rfl⟩
      go_wp2_with fail
      refine Calls.mono HI.out ?_
      rintro e w1 ⟨rfl, q, rfl⟩
      go_wp2
      go_ret
      exact ⟨rfl, q, rfl⟩
  · have hbf : b = false := by
      cases hbb : b with
      | false => rfl
      | true => exact absurd (hb.1 hbb).1 h1
    subst hbf
    clear h hx hxs hb
    go_enter Tryd.func22, Tryd.ntmps22
    go_wp2_with fail
    refine Calls.mono HT.out ?_
    rintro e w1 ⟨rfl, rfl⟩
    go_wp2
    go_ret
    exact ⟨rfl, 0, rfl⟩
theorem gg_hasq {w : World} {g : Nat} {m : Int} {xs : List Int} (h : GG w g m xs) (n : Int) (b : Bool) (hb : b = true ↔ 1 ≤ n ∧ (n ≤ m ∨ n ∈ xs)) (q : Nat) : Calls Tryd.prog 22 #[.pointer (some ⟨g, 0, none⟩), .int .i64 n] (w.drewN q) fun e w' => e = .returned (.bool b) ∧ ∃ k, w' = w.drewN k := by
  obtain ⟨ws, h1, h2⟩ := (h.keep (Fr.drewN [] w q) (by simp)).mem
  refine (ahas_q n b _ h1 h2 (fun x hx => (h.ok.1.bey x hx).2) hb).mono ?_
  rintro e w' ⟨rfl, k, rfl⟩
  exact ⟨rfl, q + k, by simp⟩
theorem Tryd.infoBl : (Tryd.prog.info? 4).map (fun i => (i.zero, i.size, i.bytes)) = some (some (.bool false), 1, 1) := by kernel_rfl
theorem Tryd.undBools : Tryd.prog.underlying 59 = some (.slice 4) := by kernel_rfl
theorem made_bools (n : Nat) : (madeCells #[Value.bool false] n).toList = (List.replicate n false).map Value.bool := by
  apply List.ext_getElem?
  intro i
  by_cases h : i < n
  · simp [madeCells, h, Nat.mod_one]
  · simp [madeCells, h]
theorem bools_full {w : World} {g n : Nat} {xs : List Value} (h : w.ownsRow 0 4 1 (.slice (some ⟨g, 0, none⟩) n n) n xs) : w.heap[g]? = some (.cells xs.toArray 4 (0, 0)) := by
  have hl := h.1
  rcases h.2 with ⟨hh, _⟩ | ⟨g', cap', cur, hh, _, hg, _, _, hcs, ht⟩
  · cases hh
  · cases hh
    rw [hg]
    congr 2
    rw [← Array.toList_inj]
    simp only
    rw [← ht, List.take_of_length_le (by simp [hcs])]
theorem row_setB {w : World} {g j : Nat} {rs : List Bool} (x : Bool) (h : w.heap[g]? = some (.cells (rs.map Value.bool).toArray 4 (0, 0))) : (w.setCell ⟨g, j, none⟩ (.bool x)).heap[g]? = some (.cells ((rs.set j x).map Value.bool).toArray 4 (0, 0)) := by
  have hlt := lt_of_block h
  have h' : w.heap[g] = .cells (rs.map Value.bool).toArray 4 (0, 0) := by simpa [Array.getElem?_eq_getElem hlt] using h
  show (w.heap.modify g _)[g]? = _
  rw [Array.getElem?_eq_getElem (by simpa using hlt), Array.getElem_modify_self, h']
  simp [List.map_set]
/-- A row of bools that lies in block g. -/
def BR (w : World) (g : Nat) (rs : List Bool) : Prop := w.heap[g]? = some (.cells (rs.map Value.bool).toArray 4 (0, 0))
theorem BR.keep {S : List Nat} {w w' : World} {g : Nat} {rs : List Bool} (h : BR w g rs) (hf : Fr S w w') (hn : g ∉ S) : BR w' g rs := hf.keep h hn
theorem BR.cell {w : World} {g : Nat} {rs : List Bool} (h : BR w g rs) (i : Nat) (hi : i < rs.length) : w.cell? ⟨g, i, none⟩ = some (.bool (rs.getD i false)) := by
  rw [cell_of_row _ _ _ _ _ _ h]
  simp [List.getD, hi]
theorem BR.free {w : World} {g : Nat} {rs : List Bool} (h : BR w g rs) (i : Nat) : w.frozen? ⟨g, i, none⟩ = false := by
  unfold World.frozen?
  rw [h]
  rfl
theorem BR.put {w : World} {g : Nat} {rs : List Bool} (h : BR w g rs) (j : Nat) (x : Bool) : BR (w.setCell ⟨g, j, none⟩ (.bool x)) g (rs.set j x) := row_setB x h
/-- How many of the first places hold false. -/
def cf (f : Nat → Bool) : Nat → Nat
  | 0 => 0
  | q + 1 => cf f q + (if f q then 0 else 1)
theorem cf_mono (f : Nat → Bool) {p q : Nat} (h : p ≤ q) : cf f p ≤ cf f q := by
  induction q with
  | zero => rw [Nat.le_zero.1 h]; exact Nat.le_refl _
  | succ q ih =>
    by_cases e : p = q + 1
    · rw [e]; exact Nat.le_refl _
    · exact Nat.le_trans (ih (by omega)) (by simp only [cf]; omega)
theorem cf_congr {f g : Nat → Bool} : ∀ {p : Nat}, (∀ j, j < p → f j = g j) → cf f p = cf g p
  | 0, _ => rfl
  | p + 1, h => by simp only [cf]; rw [cf_congr (fun j hj => h j (by omega)), h p (by omega)]
theorem cf_set {f g : Nat → Bool} {q : Nat} (hq : f q = false) (hg : ∀ j, g j = if j = q then true else f j) : ∀ {p : Nat}, q < p → cf g p + 1 = cf f p
  | 0, h => by omega
  | p + 1, h => by
    by_cases e : p = q
    · subst e
      simp only [cf]
      rw [cf_congr (f := g) (g := f) (fun j hj => by rw [hg, if_neg (by omega)]), hg, if_pos rfl, hq]
      simp
    · have ih := cf_set hq hg (p := p) (by omega)
      simp only [cf]
      rw [hg p, if_neg e]
      omega
theorem cf_none (n : Nat) : cf (fun _ => false) n = n := by
  induction n with
  | zero => rfl
  | succ n ih => simp [cf, ih]
theorem cf_all {f : Nat → Bool} {n : Nat} (h0 : f 0 = false) (h : cf f (n + 1) ≤ 1) : ∀ q, 1 ≤ q → q ≤ n → f q = true := by
  intro q h1 h2
  cases hq : f q with
  | true => rfl
  | false =>
    exfalso
    have a1 : cf f 1 = 1 := by simp [cf, h0]
    have a2 := cf_mono f (p := 1) (q := q) h1
    have a3 : cf f (q + 1) = cf f q + 1 := by simp [cf, hq]
    have a4 := cf_mono f (p := q + 1) (q := n + 1) (by omega)
    omega
theorem getD_setB (rs : List Bool) (i j : Nat) (h : i < rs.length) : (rs.set i true).getD j false = if j = i then true else rs.getD j false := by
  by_cases e : j = i
  · subst e; simp [List.getD, h]
  · simp [List.getD, List.getElem?_set, e, Ne.symm e]
end Go.Proofs.YtleklocdejldnaaDoor
