/- What the document's May and Check of versions answer. Conditions as each names them. -/
import Derived.Test.YtdojhkgnnbdfkaaGreatVk
import Derived.BigQuiet
import Derived.Deep.RegionLaw
import Derived.Deep.RegionWith
import Derived.Deep.RegionHeld3
import Derived.Deep.CutRange
namespace Go.Proofs.YtdojhkgnnbdfkaaGreat
open BigFrame Go.ChangeShapes Go.WideShapes Go.ChangeAt Go.RowKit Go.Lib
set_option linter.unusedVariables false
set_option linter.unusedSimpArgs false
/-- A row that a call answers: new, or in the block that it was handed; with its room. -/
def Nr9 (w w' : World) (ao ro : Option Addr) (N rc : Nat) : Prop := N ≤ rc ∧ ∀ a, ro = some a → (w.heap.size ≤ a.block ∧ ∃ cur, w'.heap[a.block]? = some (.cells cur 74 (0, 0))) ∨ ∃ c, ao = some c ∧ c.block = a.block
theorem Nr9.none (w w' : World) (ao : Option Addr) : Nr9 w w' ao none 0 0 := ⟨Nat.le_refl _, fun a h => by cases h⟩
theorem Nr9.same {w w' : World} {ao : Option Addr} {N rc : Nat} (h : N ≤ rc) : Nr9 w w' ao ao N rc := ⟨h, fun a e => Or.inr ⟨a, e, rfl⟩⟩
theorem Nr9.cut {w w' : World} {ao : Option Addr} {L cap d : Nat} (h : L ≤ cap) : Nr9 w w' ao (fromV ao cap d) (L - d) (cap - d) := by
  refine ⟨by omega, fun a e => Or.inr ?_⟩
  unfold fromV at e
  cases ao with
  | none => simp at e
  | some c =>
    refine ⟨c, rfl, ?_⟩
    split at e
    · simp at e
      rw [← e]
    · simp at e
      rw [← e]
      unfold Addr.add
      split <;> rfl

/-- A world that keeps all that w1 held. -/
structure Wd8 (w1 : World) where
  W : World
  h : Fr [] w1 W
instance (w1 : World) : Nonempty (Wd8 w1) := ⟨⟨w1, Fr.refl _ _⟩⟩
theorem wp_region_wd8 {P : Program} {w1 wr : World} {id : Nat} {Q : Exit → Act → World → Prop} {a : Act} {l : List Oper} (hm : P.follows .mixedOrders = true) (hB : Region.lexB .any l.toArray = true) (hf : Fr [] w1 wr)
    (h : wpQuiet P l.toArray (fun w' => ∃ x : Wd8 w1, w' = x.W) (fun a' => ∀ w', (∃ x : Wd8 w1, w' = x.W) → Q .normal a' w') l a) : (Code.region id l.toArray true).wp P Q a wr :=
  wp_region_quiet (C := fun w' => ∃ x : Wd8 w1, w' = x.W) hm hB ⟨⟨_, hf.then (Fr.drew [] wr)⟩, rfl⟩ (by simpa using h)
set_option maxHeartbeats 4000000 in
set_option maxRecDepth 100000 in
theorem umay_any (n : Int) (val : ByteArray) (drop : Bool) (B : Bool) (w : World) (hv : val.size ≤ 140737488355328) (hB : B = true ↔ okX ⟨n, val, drop⟩) :
    Calls Tryz.prog 82 #[.agg #[.int .i64 n, .string val, .bool drop]] w fun e w' => e = .returned (.bool B) ∧ Fr [] w w' := by
  have HB : Hid (B = true ↔ okX ⟨n, val, drop⟩) := hB
  clear hB
  have no : ¬ okX ⟨n, val, drop⟩ → B = false := fun h => by
    cases hb : B with
    | false => rfl
    | true => exact absurd (HB.out.1 hb) h
  by_cases h1 : 1 ≤ n
  · by_cases h2 : n ≤ 65536
    · by_cases h3 : val.size ≤ 1024
      · have h3' : (val.size : Int) ≤ 1024 := by omega
        cases drop with
        | false =>
          have hB : B = true := HB.out.2 ⟨h1, h2, h3, fun h => by cases h⟩
          subst hB
          clear no h3
          go_enter Tryz.func82, Tryz.ntmps82
          go_wp2
          go_ret
          exact ⟨rfl, Fr.alloc _ _ _⟩
        | true =>
          by_cases h4 : val.size = 0
          · have hB : B = true := HB.out.2 ⟨h1, h2, h3, fun _ => (noS_iff _).1 h4⟩
            subst hB
            have h4' : ((val.size : Int) == 0) = true := by simp [h4]
            clear no h3 h4
            go_enter Tryz.func82, Tryz.ntmps82
            go_wp2
            go_ret
            exact ⟨rfl, Fr.alloc _ _ _⟩
          · have hB : B = false := no (fun h => h4 ((noS_iff _).2 (h.2.2.2 rfl)))
            subst hB
            have h4' : ((val.size : Int) == 0) = false := by rw [beq_eq_false_iff_ne]; omega
            clear no h3 h4
            go_enter Tryz.func82, Tryz.ntmps82
            go_wp2
            go_ret
            exact ⟨rfl, Fr.alloc _ _ _⟩
      · have hB : B = false := no (fun h => h3 h.2.2.1)
        subst hB
        have h3' : ¬ (val.size : Int) ≤ 1024 := by omega
        clear no h3
        go_enter Tryz.func82, Tryz.ntmps82
        go_wp2
        go_ret
        exact ⟨rfl, Fr.alloc _ _ _⟩
    · have hB : B = false := no (fun h => h2 h.2.1)
      subst hB
      clear no
      go_enter Tryz.func82, Tryz.ntmps82
      go_wp2
      go_ret
      exact ⟨rfl, Fr.alloc _ _ _⟩
  · have hB : B = false := no (fun h => h1 h.1)
    subst hB
    clear no
    go_enter Tryz.func82, Tryz.ntmps82
    go_wp2
    go_ret
    exact ⟨rfl, Fr.alloc _ _ _⟩
/-- One version more. -/
theorem okV_next {vs : List Vn} {i : Nat} (h : okV (vs.take i)) (hi : i < vs.length) : okV (vs.take (i + 1)) ↔ okX (vs.getD i Vn.zero) ∧ (0 < i → (vs.getD (i - 1) Vn.zero).num < (vs.getD i Vn.zero).num) := by
  rw [vtake_snoc vs i hi, okV_snoc]
  constructor
  · rintro ⟨_, h2, h3⟩
    refine ⟨h2, fun h0 => h3 _ ?_⟩
    have hl : i - 1 < (vs.take i).length := by rw [List.length_take]; omega
    have e : vs.getD (i - 1) Vn.zero = (vs.take i).getD (i - 1) Vn.zero := by simp [List.getD, List.getElem?_take, show i - 1 < i by omega]
    rw [e]
    exact vgetD_mem _ _ hl
  · rintro ⟨h2, h3⟩
    refine ⟨h, h2, fun y hy => ?_⟩
    obtain ⟨j, hj, rfl⟩ := List.getElem_of_mem hy
    rw [List.length_take] at hj
    have h0 := h3 (by omega)
    have hl : i - 1 < (vs.take i).length := by rw [List.length_take]; omega
    have e : ∀ k, k < i → (vs.take i).getD k Vn.zero = vs.getD k Vn.zero := fun k hk => by simp [List.getD, List.getElem?_take, hk]
    have hjl : j < vs.length := by omega
    rw [List.getElem_take, show vs[j] = vs.getD j Vn.zero by simp [List.getD, hjl]]
    by_cases hji : j = i - 1
    · subst hji; exact h0
    · have := ris_get h.2 (show j < i - 1 by omega) hl
      rw [e j (by omega), e (i - 1) (by omega)] at this
      omega
set_option maxHeartbeats 8000000 in
set_option maxRecDepth 100000 in
theorem ucheck_any (ao : Option Addr) (L cap c : Nat) (vs : List Vn) (w : World) (hV : VRs w ao vs) (hL : L = vs.length) (hc : CkT vs c) :
    Calls Tryz.prog 57 #[.slice ao L cap] w fun e w' => e = .returned (.int .i64 (c : Int)) ∧ Fr [] w w' := by
  have HL : Hid (L = vs.length) := hL
  have HC : Hid (CkT vs c) := hc
  have HV : Hid (∀ W, Fr [] w W → VRs W ao vs) := fun W hf => hV.keep hf
  have hLL : L ≤ 4398046511104 := by have := hV.few; omega
  clear hV hL hc
  go_enter Tryz.func57, Tryz.ntmps57
  go_wp2_with fail
  go_loopw [3] (fun ii wr => ∃ (i : Nat), ii = .int .i64 i ∧ i ≤ L ∧ Hid (okV (vs.take i)) ∧ Fr [] w wr) (fun ii _ => L - (intOf ii).toNat)
  case atStart => exact ⟨0, rfl, Nat.zero_le _, okV_sub okV_nil (by simp), Fr.refl _ _⟩
  case round =>
    obtain ⟨i, rfl, hiL, HI, hF⟩ := hrel
    by_cases hi : i < L
    · have hi' : i < vs.length := by rw [← HL.out]; exact hi
      have hst := okV_next HI.out hi'
      have hE := (HV.out _ (Fr.refl _ _)).each _ (vgetD_mem vs i hi')
      obtain ⟨b, off, eao, hbl, hat⟩ := (HV.out _ hF).lies (by omega)
      have hx := hat i hi'
      obtain ⟨⟨n, val, drop⟩, hxx⟩ : ∃ x, x = vs.getD i Vn.zero := ⟨_, rfl⟩
      rw [← hxx] at hst hE hx
      obtain ⟨m, hm⟩ : ∃ m, m = (vs.getD (i - 1) Vn.zero).num := ⟨_, rfl⟩
      rw [← hm] at hst
      have hvz : val.size ≤ 140737488355328 := hE.v
      have HS : Hid (okV (vs.take (i + 1)) ↔ okX ⟨n, val, drop⟩ ∧ (0 < i → m < n)) := hst
      have hp : 0 < i → wr.cell? ⟨b, off + (i - 1) * 3, none⟩ = some (.int .i64 m) := fun h0 => by rw [hm]; exact (hat (i - 1) (by omega)).c0
      clear hst hE hxx hm hat
      obtain ⟨c0, c1, c2⟩ := hx
      simp only at c0 c1 c2
      obtain ⟨B, HB⟩ : ∃ B : Bool, Hid (B = true ↔ okX ⟨n, val, drop⟩) := by classical exact ⟨decide (okX ⟨n, val, drop⟩), by show _ ↔ _; simp⟩
      have g0 : ∀ x : Wd8 wr, x.W.cell? ⟨b, off + i * 3, none⟩ = some (.int .i64 n) := fun x => (World.cell?_of_block (x.h.block b hbl (by simp))).trans c0
      have g1 : ∀ x : Wd8 wr, x.W.cell? ⟨b, off + i * 3 + 1, none⟩ = some (.string val) := fun x => (World.cell?_of_block (x.h.block b hbl (by simp))).trans c1
      have g2 : ∀ x : Wd8 wr, x.W.cell? ⟨b, off + i * 3 + 2, none⟩ = some (.bool drop) := fun x => (World.cell?_of_block (x.h.block b hbl (by simp))).trans c2
      have HM : Hid (∀ W, Fr [] wr W → Calls Tryz.prog 82 #[.agg #[.int .i64 n, .string val, .bool drop]] W fun e w' => e = .returned (.bool B) ∧ Fr [] W w') := fun W _ => umay_any n val drop B W hvz HB.out
      subst eao
      cases B with
      | false =>
        obtain rfl : c = 1 := HC.out.bad (i := i) (fun h => by have := HB.out.2 (HS.out.1 h).1; cases this)
        clear c0 c1 c2 hp
        go_upto_region 4 with fail
        refine wp_region_wd8 (w1 := wr) (by kernel_rfl) (by kernel_rfl) (Fr.refl _ _) ?_
        repeat (go_big_quiet_step (exact (HM.out _ (Wd8.h _)).mono fun e w3 hh => ⟨hh.1, ⟨_, Fr.then (Wd8.h _) hh.2⟩, rfl⟩))
        refine wpQuiet_nil ?_
        rintro _ ⟨x, rfl⟩
        go_wp2
        go_ret
        exact ⟨rfl, hF.then x.h⟩
      | true =>
        by_cases hi0 : 0 < i
        · obtain ⟨i', rfl⟩ : ∃ i', i = i' + 1 := ⟨i - 1, by omega⟩
          have p0 := hp (by omega)
          rw [Nat.add_sub_cancel] at p0
          have g3 : ∀ x : Wd8 wr, x.W.cell? ⟨b, off + i' * 3, none⟩ = some (.int .i64 m) := fun x => (World.cell?_of_block (x.h.block b hbl (by simp))).trans p0
          have hd : decide ((0 : Int) < ((i' + 1 : Nat) : Int)) = true := by simp <;> omega
          have hd2 : ((i' + 1 : Nat) : Int) - 1 = (i' : Int) := by omega
          clear c0 c1 c2 hp p0
          by_cases hmn : m < n
          · have HN : Hid (okV (vs.take (i' + 1 + 1))) := HS.out.2 ⟨HB.out.1 rfl, fun _ => hmn⟩
            have hmn' : ¬ n ≤ m := by omega
            go_upto_region 4 with fail
            refine wp_region_wd8 (w1 := wr) (by kernel_rfl) (by kernel_rfl) (Fr.refl _ _) ?_
            repeat (go_big_quiet_step (exact (HM.out _ (Wd8.h _)).mono fun e w3 hh => ⟨hh.1, ⟨_, Fr.then (Wd8.h _) hh.2⟩, rfl⟩))
            refine wpQuiet_nil ?_
            rintro _ ⟨x, rfl⟩
            have hFx := hF.then x.h
            go_wp2
            exact ⟨⟨i' + 1 + 1, by simp, by omega, HN, hFx⟩, by simp [intOf]; omega⟩
          · obtain rfl : c = 1 := HC.out.bad (i := i' + 1) (fun h => hmn ((HS.out.1 h).2 (by omega)))
            have hmn' : n ≤ m := by omega
            go_upto_region 4 with fail
            refine wp_region_wd8 (w1 := wr) (by kernel_rfl) (by kernel_rfl) (Fr.refl _ _) ?_
            repeat (go_big_quiet_step (exact (HM.out _ (Wd8.h _)).mono fun e w3 hh => ⟨hh.1, ⟨_, Fr.then (Wd8.h _) hh.2⟩, rfl⟩))
            refine wpQuiet_nil ?_
            rintro _ ⟨x, rfl⟩
            go_wp2
            go_ret
            exact ⟨rfl, hF.then x.h⟩
        · obtain rfl : i = 0 := by omega
          simp only [Nat.zero_mul, Nat.add_zero] at g0 g1 g2
          have HN : Hid (okV (vs.take (0 + 1))) := HS.out.2 ⟨HB.out.1 rfl, fun h => by omega⟩
          clear c0 c1 c2 hp
          go_upto_region 4 with fail
          refine wp_region_wd8 (w1 := wr) (by kernel_rfl) (by kernel_rfl) (Fr.refl _ _) ?_
          repeat (go_big_quiet_step (exact (HM.out _ (Wd8.h _)).mono fun e w3 hh => ⟨hh.1, ⟨_, Fr.then (Wd8.h _) hh.2⟩, rfl⟩))
          refine wpQuiet_nil ?_
          rintro _ ⟨x, rfl⟩
          have hFx := hF.then x.h
          go_wp2
          exact ⟨⟨1, by simp, by omega, HN, hFx⟩, by simp [intOf]; omega⟩
    · obtain rfl : c = 0 := by
        have hok := HI.out
        rw [List.take_of_length_le (by have := HL.out; omega)] at hok
        exact (HC.out.one (CkT.of hok))
      go_wp2
      go_ret
      exact ⟨rfl, hF⟩
end Go.Proofs.YtdojhkgnnbdfkaaGreat
