/- Texts of this claim laid together, one behind the other: contracts and plain lemmas; conditions as each names them. -/
import Derived.Test.YtdojhkgnnbdfkaaGreatGp8
import Derived.BigQuiet
import Derived.Deep.RegionLaw
import Derived.Deep.RegionWith
import Derived.Deep.RegionHeld3
import Derived.Deep.CutRange
import Derived.Test.YtdojhkgnnbdfkaaGreatGp10
import Derived.Test.YtdojhkgnnbdfkaaGreatGp11
/- What the document's May and Check of versions answer. Conditions as each names them. -/
namespace Go.Proofs.YtdojhkgnnbdfkaaGreat
open BigFrame Go.ChangeShapes Go.WideShapes Go.ChangeAt Go.RowKit Go.Lib
set_option linter.unusedVariables false
set_option linter.unusedSimpArgs false
/-- A row that a call answers: new, or in the block that it was handed; with its room. -/
def Nr9 (w w' : World) (ao ro : Option Addr) (N rc : Nat) : Prop := N ≤ rc ∧ ∀ a, ro = some a → (w.heap.size ≤ a.block ∧ ∃ cur, w'.heap[a.block]? = some (.cells cur 74 (0, 0))) ∨ ∃ c, ao = some c ∧ c.block = a.block
theorem Nr9.none (w w' : World) (ao : Option Addr) : Nr9 w w' ao none 0 0 := ⟨Nat.le_refl _, fun a h => by cases h⟩
theorem Nr9.same {w w' : World} {ao : Option Addr} {N rc : Nat} (h : N ≤ rc) : Nr9 w w' ao ao N rc := ⟨h, fun a e => Or.inr ⟨a, e, rfl⟩⟩
theorem Nr9.cut {w w' : World} {ao : Option Addr} {L cap d : Nat} (h : L ≤ cap) : Nr9 w w' ao (fromV ao cap d) (L - d) (cap - d) := by
  refine ⟨by omega, fun a e => Or.inr ?_⟩
  unfold fromV at e
  cases ao with
  | none => simp at e
  | some c =>
    refine ⟨c, rfl, ?_⟩
    split at e
    · simp at e
      rw [← e]
    · simp at e
      rw [← e]
      unfold Addr.add
      split <;> rfl

/-- A world that keeps all that w1 held. -/
structure Wd8 (w1 : World) where
  W : World
  h : Fr [] w1 W
instance (w1 : World) : Nonempty (Wd8 w1) := ⟨⟨w1, Fr.refl _ _⟩⟩
theorem wp_region_wd8 {P : Program} {w1 wr : World} {id : Nat} {Q : Exit → Act → World → Prop} {a : Act} {l : List Oper} (hm : P.follows .mixedOrders = true) (hB : Region.lexB .any l.toArray = true) (hf : Fr [] w1 wr)
    (h : wpQuiet P l.toArray (fun w' => ∃ x : Wd8 w1, w' = x.W) (fun a' => ∀ w', (∃ x : Wd8 w1, w' = x.W) → Q .normal a' w') l a) : (Code.region id l.toArray true).wp P Q a wr :=
  wp_region_quiet (C := fun w' => ∃ x : Wd8 w1, w' = x.W) hm hB ⟨⟨_, hf.then (Fr.drew [] wr)⟩, rfl⟩ (by simpa using h)
set_option maxHeartbeats 4000000 in
set_option maxRecDepth 100000 in
theorem umay_any (n : Int) (val : ByteArray) (drop : Bool) (B : Bool) (w : World) (hv : val.size ≤ 140737488355328) (hB : B = true ↔ okX ⟨n, val, drop⟩) :
    Calls Tryz.prog 82 #[.agg #[.int .i64 n, .string val, .bool drop]] w fun e w' => e = .returned (.bool B) ∧ Fr [] w w' := by
  have HB : Hid (B = true ↔ okX ⟨n, val, drop⟩) := hB
  clear hB
  have no : ¬ okX ⟨n, val, drop⟩ → B = false := fun h => by
    cases hb : B with
    | false => rfl
    | true => exact absurd (HB.out.1 hb) h
  by_cases h1 : 1 ≤ n
  · by_cases h2 : n ≤ 65536
    · by_cases h3 : val.size ≤ 1024
      · have h3' : (val.size : Int) ≤ 1024 := by omega
        cases drop with
        | false =>
          have hB : B = true := HB.out.2 ⟨h1, h2, h3, fun h => by cases h⟩
          subst hB
          clear no h3
          go_enter Tryz.func82, Tryz.ntmps82
          go_wp2
          go_ret
          exact ⟨rfl, Fr.alloc _ _ _⟩
        | true =>
          by_cases h4 : val.size = 0
          · have hB : B = true := HB.out.2 ⟨h1, h2, h3, fun _ => (noS_iff _).1 h4⟩
            subst hB
            have h4' : ((val.size : Int) == 0) = true := by simp [h4]
            clear no h3 h4
            go_enter Tryz.func82, Tryz.ntmps82
            go_wp2
            go_ret
            exact ⟨rfl, Fr.alloc _ _ _⟩
          · have hB : B = false := no (fun h => h4 ((noS_iff _).2 (h.2.2.2 rfl)))
            subst hB
            have h4' : ((val.size : Int) == 0) = false := by rw [beq_eq_false_iff_ne]; omega
            clear no h3 h4
            go_enter Tryz.func82, Tryz.ntmps82
            go_wp2
            go_ret
            exact ⟨rfl, Fr.alloc _ _ _⟩
      · have hB : B = false := no (fun h => h3 h.2.2.1)
        subst hB
        have h3' : ¬ (val.size : Int) ≤ 1024 := by omega
        clear no h3
        go_enter Tryz.func82, Tryz.ntmps82
        go_wp2
        go_ret
        exact ⟨rfl, Fr.alloc _ _ _⟩
    · have hB : B = false := no (fun h => h2 h.2.1)
      subst hB
      clear no
      go_enter Tryz.func82, Tryz.ntmps82
      go_wp2
      go_ret
      exact ⟨rfl, Fr.alloc _ _ _⟩
  · have hB : B = false := no (fun h => h1 h.1)
    subst hB
    clear no
    go_enter Tryz.func82, Tryz.ntmps82
    go_wp2
    go_ret
    exact ⟨rfl, Fr.alloc _ _ _⟩
/-- One version more. -/
theorem okV_next {vs : List Vn} {i : Nat} (h : okV (vs.take i)) (hi : i < vs.length) : okV (vs.take (i + 1)) ↔ okX (vs.getD i Vn.zero) ∧ (0 < i → (vs.getD (i - 1) Vn.zero).num < (vs.getD i Vn.zero).num) := by
  rw [vtake_snoc vs i hi, okV_snoc]
  constructor
  · rintro ⟨_, h2, h3⟩
    refine ⟨h2, fun h0 => h3 _ ?_⟩
    have hl : i - 1 < (vs.take i).length := by rw [List.length_take]; omega
    have e : vs.getD (i - 1) Vn.zero = (vs.take i).getD (i - 1) Vn.zero := by simp [List.getD, List.getElem?_take, show i - 1 < i by omega]
    rw [e]
    exact vgetD_mem _ _ hl
  · rintro ⟨h2, h3⟩
    refine ⟨h, h2, fun y hy => ?_⟩
    obtain ⟨j, hj, rfl⟩ := List.getElem_of_mem hy
    rw [List.length_take] at hj
    have h0 := h3 (by omega)
    have hl : i - 1 < (vs.take i).length := by rw [List.length_take]; omega
    have e : ∀ k, k < i → (vs.take i).getD k Vn.zero = vs.getD k Vn.zero := fun k hk => by simp [List.getD, List.getElem?_take, hk]
    have hjl : j < vs.length := by omega
    rw [List.getElem_take, show vs[j] = vs.getD j Vn.zero by simp [List.getD, hjl]]
    by_cases hji : j = i - 1
    · subst hji; exact h0
    · have := ris_get h.2 (show j < i - 1 by omega) hl
      rw [e j (by omega), e (i - 1) (by omega)] at this
      omega
set_option maxHeartbeats 8000000 in
set_option maxRecDepth 100000 in
theorem ucheck_any (ao : Option Addr) (L cap c : Nat) (vs : List Vn) (w : World) (hV : VRs w ao vs) (hL : L = vs.length) (hc : CkT vs c) :
    Calls Tryz.prog 57 #[.slice ao L cap] w fun e w' => e = .returned (.int .i64 (c : Int)) ∧ Fr [] w w' := by
  have HL : Hid (L = vs.length) := hL
  have HC : Hid (CkT vs c) := hc
  have HV : Hid (∀ W, Fr [] w W → VRs W ao vs) := fun W hf => hV.keep hf
  have hLL : L ≤ 4398046511104 := by have := hV.few; omega
  clear hV hL hc
  go_enter Tryz.func57, Tryz.ntmps57
  go_wp2_with fail
  go_loopw [3] (fun ii wr => ∃ (i : Nat), ii = .int .i64 i ∧ i ≤ L ∧ Hid (okV (vs.take i)) ∧ Fr [] w wr) (fun ii _ => L - (RowKit.intOf ii).toNat)
  case atStart => exact ⟨0, rfl, Nat.zero_le _, okV_sub okV_nil (by simp), Fr.refl _ _⟩
  case round =>
    obtain ⟨i, rfl, hiL, HI, hF⟩ := hrel
    by_cases hi : i < L
    · have hi' : i < vs.length := by rw [← HL.out]; exact hi
      have hst := okV_next HI.out hi'
      have hE := (HV.out _ (Fr.refl _ _)).each _ (vgetD_mem vs i hi')
      obtain ⟨b, off, eao, hbl, hat⟩ := (HV.out _ hF).lies (by omega)
      have hx := hat i hi'
      obtain ⟨⟨n, val, drop⟩, hxx⟩ : ∃ x, x = vs.getD i Vn.zero := ⟨_, rfl⟩
      rw [← hxx] at hst hE hx
      obtain ⟨m, hm⟩ : ∃ m, m = (vs.getD (i - 1) Vn.zero).num := ⟨_, rfl⟩
      rw [← hm] at hst
      have hvz : val.size ≤ 140737488355328 := hE.v
      have HS : Hid (okV (vs.take (i + 1)) ↔ okX ⟨n, val, drop⟩ ∧ (0 < i → m < n)) := hst
      have hp : 0 < i → wr.cell? ⟨b, off + (i - 1) * 3, none⟩ = some (.int .i64 m) := fun h0 => by rw [hm]; exact (hat (i - 1) (by omega)).c0
      clear hst hE hxx hm hat
      obtain ⟨c0, c1, c2⟩ := hx
      simp only at c0 c1 c2
      obtain ⟨B, HB⟩ : ∃ B : Bool, Hid (B = true ↔ okX ⟨n, val, drop⟩) := by classical exact ⟨decide (okX ⟨n, val, drop⟩), by show _ ↔ _; simp⟩
      have g0 : ∀ x : Wd8 wr, x.W.cell? ⟨b, off + i * 3, none⟩ = some (.int .i64 n) := fun x => (World.cell?_of_block (x.h.block b hbl (by simp))).trans c0
      have g1 : ∀ x : Wd8 wr, x.W.cell? ⟨b, off + i * 3 + 1, none⟩ = some (.string val) := fun x => (World.cell?_of_block (x.h.block b hbl (by simp))).trans c1
      have g2 : ∀ x : Wd8 wr, x.W.cell? ⟨b, off + i * 3 + 2, none⟩ = some (.bool drop) := fun x => (World.cell?_of_block (x.h.block b hbl (by simp))).trans c2
      have HM : Hid (∀ W, Fr [] wr W → Calls Tryz.prog 82 #[.agg #[.int .i64 n, .string val, .bool drop]] W fun e w' => e = .returned (.bool B) ∧ Fr [] W w') := fun W _ => umay_any n val drop B W hvz HB.out
      subst eao
      cases B with
      | false =>
        obtain rfl : c = 1 := HC.out.bad (i := i) (fun h => by have := HB.out.2 (HS.out.1 h).1; cases this)
        clear c0 c1 c2 hp
        go_upto_region 4 with fail
        refine wp_region_wd8 (w1 := wr) (by kernel_rfl) (by kernel_rfl) (Fr.refl _ _) ?_
        repeat (go_big_quiet_step (exact (HM.out _ (Wd8.h _)).mono fun e w3 hh => ⟨hh.1, ⟨_, Fr.then (Wd8.h _) hh.2⟩, rfl⟩))
        refine wpQuiet_nil ?_
        rintro _ ⟨x, rfl⟩
        go_wp2
        go_ret
        exact ⟨rfl, hF.then x.h⟩
      | true =>
        by_cases hi0 : 0 < i
        · obtain ⟨i', rfl⟩ : ∃ i', i = i' + 1 := ⟨i - 1, by omega⟩
          have p0 := hp (by omega)
          rw [Nat.add_sub_cancel] at p0
          have g3 : ∀ x : Wd8 wr, x.W.cell? ⟨b, off + i' * 3, none⟩ = some (.int .i64 m) := fun x => (World.cell?_of_block (x.h.block b hbl (by simp))).trans p0
          have hd : decide ((0 : Int) < ((i' + 1 : Nat) : Int)) = true := by simp <;> omega
          have hd2 : ((i' + 1 : Nat) : Int) - 1 = (i' : Int) := by omega
          clear c0 c1 c2 hp p0
          by_cases hmn : m < n
          · have HN : Hid (okV (vs.take (i' + 1 + 1))) := HS.out.2 ⟨HB.out.1 rfl, fun _ => hmn⟩
            have hmn' : ¬ n ≤ m := by omega
            go_upto_region 4 with fail
            refine wp_region_wd8 (w1 := wr) (by kernel_rfl) (by kernel_rfl) (Fr.refl _ _) ?_
            repeat (go_big_quiet_step (exact (HM.out _ (Wd8.h _)).mono fun e w3 hh => ⟨hh.1, ⟨_, Fr.then (Wd8.h _) hh.2⟩, rfl⟩))
            refine wpQuiet_nil ?_
            rintro _ ⟨x, rfl⟩
            have hFx := hF.then x.h
            go_wp2
            exact ⟨⟨i' + 1 + 1, by simp, by omega, HN, hFx⟩, by simp [RowKit.intOf]; omega⟩
          · obtain rfl : c = 1 := HC.out.bad (i := i' + 1) (fun h => hmn ((HS.out.1 h).2 (by omega)))
            have hmn' : n ≤ m := by omega
            go_upto_region 4 with fail
            refine wp_region_wd8 (w1 := wr) (by kernel_rfl) (by kernel_rfl) (Fr.refl _ _) ?_
            repeat (go_big_quiet_step (exact (HM.out _ (Wd8.h _)).mono fun e w3 hh => ⟨hh.1, ⟨_, Fr.then (Wd8.h _) hh.2⟩, rfl⟩))
            refine wpQuiet_nil ?_
            rintro _ ⟨x, rfl⟩
            go_wp2
            go_ret
            exact ⟨rfl, hF.then x.h⟩
        · obtain rfl : i = 0 := by omega
          simp only [Nat.zero_mul, Nat.add_zero] at g0 g1 g2
          have HN : Hid (okV (vs.take (0 + 1))) := HS.out.2 ⟨HB.out.1 rfl, fun h => by omega⟩
          clear c0 c1 c2 hp
          go_upto_region 4 with fail
          refine wp_region_wd8 (w1 := wr) (by kernel_rfl) (by kernel_rfl) (Fr.refl _ _) ?_
          repeat (go_big_quiet_step (exact (HM.out _ (Wd8.h _)).mono fun e w3 hh => ⟨hh.1, ⟨_, Fr.then (Wd8.h _) hh.2⟩, rfl⟩))
          refine wpQuiet_nil ?_
          rintro _ ⟨x, rfl⟩
          have hFx := hF.then x.h
          go_wp2
          exact ⟨⟨1, by simp, by omega, HN, hFx⟩, by simp [RowKit.intOf]; omega⟩
    · obtain rfl : c = 0 := by
        have hok := HI.out
        rw [List.take_of_length_le (by have := HL.out; omega)] at hok
        exact (HC.out.one (CkT.of hok))
      go_wp2
      go_ret
      exact ⟨rfl, hF⟩
end Go.Proofs.YtdojhkgnnbdfkaaGreat
/- The document's Key, Val, Write, Number. Conditions as each names them. -/
namespace Go.Proofs.YtdojhkgnnbdfkaaGreat
open BigFrame Go.ChangeShapes Go.WideShapes Go.ChangeAt Go.RowKit Go.Lib
set_option linter.unusedVariables false
set_option linter.unusedSimpArgs false

/-- A write: key, value, drop. -/
structure Wt where
  key : ByteArray
  val : ByteArray
  drop : Bool
/-- May a write be? -/
def okW (x : Wt) : Prop := 1 ≤ x.key.size ∧ x.key.size ≤ 64 ∧ x.val.size ≤ 1024 ∧ (x.drop = true → x.val = noS)
theorem xKey_any (s : ByteArray) (B : Bool) (w : World) (hs : s.size ≤ 140737488355328) (hB : B = true ↔ 1 ≤ s.size ∧ s.size ≤ 64) : Calls Tryz.prog 56 #[.string s] w fun e w' => e = .returned (.bool B) ∧ w = w' := by
  have HB : Hid (B = true ↔ 1 ≤ s.size ∧ s.size ≤ 64) := hB
  clear hB
  by_cases h1 : 1 ≤ s.size
  · have h1' : (1 : Int) ≤ s.size := by omega
    by_cases h2 : s.size ≤ 64
    · have h2' : (s.size : Int) ≤ 64 := by omega
      have HR : Hid (B = true) := HB.out.2 ⟨h1, h2⟩
      go_enter Tryz.func56, Tryz.ntmps56
      go_wp2
      go_ret
      rw [HR.out]
      simp [h2']
    · have h2' : decide ((s.size : Int) ≤ 64) = false := by simp; omega
      have HR : Hid (B = false) := by show B = false; simpa using fun h : B = true => h2 (HB.out.1 h).2
      clear h2
      go_enter Tryz.func56, Tryz.ntmps56
      go_wp2
      go_ret
      rw [HR.out]
      simp [h2']
  · have h1' : decide ((1 : Int) ≤ s.size) = false := by simp; omega
    have h1'' : (s.size : Int) < 1 := by omega
    have HR : Hid (B = false) := by show B = false; simpa using fun h : B = true => h1 (HB.out.1 h).1
    clear h1
    go_enter Tryz.func56, Tryz.ntmps56
    go_wp2
    go_ret
    rw [HR.out]
    simp
/-- It tells whether the write may be. -/
def TellsY (e : Ending) (x : Wt) : Prop := ∃ B : Bool, e = .returned (.bool B) ∧ (B = true ↔ okW x)
end Go.Proofs.YtdojhkgnnbdfkaaGreat
/- The document's May and Load of keys. Conditions as each names them. -/
namespace Go.Proofs.YtdojhkgnnbdfkaaGreat
open BigFrame Go.ChangeShapes Go.WideShapes Go.ChangeAt Go.RowKit Go.Lib Go.Maps
set_option linter.unusedVariables false
set_option linter.unusedSimpArgs false

theorem LoOk.badAt {hs : List Hd} {i : Nat} (h : ¬ LoOk (hs.take i)) : ¬ LoOk hs := fun hl => h (hl.take i)
/-- One key more. -/
theorem LoOk.next9 {hs : List Hd} {i : Nat} (h : LoOk (hs.take i)) (hi : i < hs.length) : LoOk (hs.take (i + 1)) ↔ okK9 (hs.getD i Hd.zero).key ∧ (0 < i → Op.bytesLess (hs.getD (i - 1) Hd.zero).key.toList (hs.getD i Hd.zero).key.toList = true) ∧ (hs.getD i Hd.zero).vs ≠ [] ∧ okV (hs.getD i Hd.zero).vs := by
  rw [LoOk.step h hi]
  unfold okH
  constructor
  · rintro ⟨h1, h2, h3, h4⟩
    refine ⟨h2, fun h0 => ?_, h3, h4⟩
    unfold lastK at h1
    rw [if_neg (by omega)] at h1
    exact h1
  · rintro ⟨h2, h1, h3, h4⟩
    refine ⟨?_, h2, h3, h4⟩
    unfold lastK
    by_cases h0 : i = 0
    · rw [if_pos h0, noS_less]
      intro e
      have := h2.1
      rw [e] at this
      exact absurd this (by decide)
    · rw [if_neg h0]
      exact h1 (by omega)
set_option maxHeartbeats 16000000 in
set_option maxRecDepth 100000 in
theorem kmay_any (ao : Option Addr) (L cap : Nat) (hs : List Hd) (w : World) (hH : HRs w ao hs) (hL : L = hs.length) (A : Bool) (hA : A = true ↔ LoOk hs) :
    Calls Tryz.prog 33 #[.slice ao L cap] w fun e w' => e = .returned (.bool A) ∧ Fr [] w w' := by
  have HL : Hid (L = hs.length) := hL
  have HA : Hid (A = true ↔ LoOk hs) := hA
  have HV : Hid (∀ W, Fr [] w W → HRs W ao hs) := fun W hf => hH.keep hf
  have hLL : L ≤ 3518437208882 := by have := hH.few; omega
  clear hH hL hA
  go_enter Tryz.func33, Tryz.ntmps33
  go_wp2_with fail
  go_loopw [3] (fun ii wr => ∃ (i : Nat), ii = .int .i64 i ∧ i ≤ L ∧ Hid (LoOk (hs.take i)) ∧ Fr [] w wr) (fun ii _ => L - (RowKit.intOf ii).toNat)
  case atStart => exact ⟨0, rfl, Nat.zero_le _, ⟨by simp, by simp⟩, Fr.refl _ _⟩
  case round =>
    obtain ⟨i, rfl, hiL, HI, hF⟩ := hrel
    by_cases hi : i < L
    · have hi' : i < hs.length := by rw [← HL.out]; exact hi
      have hst := LoOk.next9 HI.out hi'
      have hR := HV.out _ hF
      have hE := hR.each _ (hgetD_mem hs i hi')
      obtain ⟨b, off, eao, hbl, hat⟩ := hR.lies (by omega)
      obtain ⟨c0, c1⟩ := hat i hi'
      obtain ⟨⟨key, vo, M, cm, vs⟩, hxx⟩ : ∃ x, x = hs.getD i Hd.zero := ⟨_, rfl⟩
      rw [← hxx] at hst hE c0 c1
      obtain ⟨la, hla⟩ : ∃ la, la = (hs.getD (i - 1) Hd.zero).key := ⟨_, rfl⟩
      rw [← hla] at hst
      simp only at hst c0 c1
      have hkz : key.size ≤ 140737488355328 := hE.k
      have HM : Hid (M = vs.length) := hE.len
      have HVr : Hid (∀ W, Fr [] wr W → VRs W vo vs) := fun W hf => hE.rs.keep hf
      have HS : Hid (LoOk (hs.take (i + 1)) ↔ okK9 key ∧ (0 < i → Op.bytesLess la.toList key.toList = true) ∧ vs ≠ [] ∧ okV vs) := hst
      have hp : 0 < i → wr.cell? ⟨b, off + (i - 1) * 2, none⟩ = some (.string la) := fun h0 => by rw [hla]; exact (hat (i - 1) (by omega)).1
      have HBad : Hid (¬ LoOk (hs.take (i + 1)) → A = false) := fun hn => by
        cases hA : A with
        | false => rfl
        | true => exact absurd (HA.out.1 hA) (LoOk.badAt hn)
      clear hst hE hxx hla hat hR
      have g0 : ∀ x : Wd8 wr, x.W.cell? ⟨b, off + i * 2, none⟩ = some (.string key) := fun x => (World.cell?_of_block (x.h.block b hbl (by simp))).trans c0
      have g1 : ∀ x : Wd8 wr, x.W.cell? ⟨b, off + i * 2 + 1, none⟩ = some (.slice vo M cm) := fun x => (World.cell?_of_block (x.h.block b hbl (by simp))).trans c1
      obtain ⟨B, HB⟩ : ∃ B : Bool, Hid (B = true ↔ 1 ≤ key.size ∧ key.size ≤ 64) := by classical exact ⟨decide (1 ≤ key.size ∧ key.size ≤ 64), by show _ ↔ _; simp⟩
      have HK : Hid (∀ W, Fr [] wr W → Calls Tryz.prog 56 #[.string key] W fun e w' => e = .returned (.bool B) ∧ Fr [] W w') := fun W _ => (xKey_any key B W hkz HB.out).mono fun e w3 hh => ⟨hh.1, by rw [← hh.2]; exact Fr.refl _ _⟩
      obtain ⟨c, hck⟩ := CkT.ex vs
      have HC : Hid (CkT vs c) := hck
      have HCk : Hid (∀ W, Fr [] wr W → Calls Tryz.prog 57 #[.slice vo M cm] W fun e w' => e = .returned (.int .i64 (c : Int)) ∧ Fr [] W w') := fun W hf => ucheck_any vo M cm c vs W (HVr.out W hf) HM.out HC.out
      subst eao
      clear hck
      cases B with
      | false =>
        obtain rfl : A = false := HBad.out (fun h => by have := HB.out.2 (HS.out.1 h).1; cases this)
        clear c0 c1 hp
        go_upto_region 4 with fail
        refine wp_region_wd8 (w1 := wr) (by kernel_rfl) (by kernel_rfl) (Fr.refl _ _) ?_
        repeat (go_big_quiet_step (first | exact (HK.out _ (Wd8.h _)).mono fun e w3 hh => ⟨hh.1, ⟨_, Fr.then (Wd8.h _) hh.2⟩, rfl⟩ | exact (HCk.out _ (Wd8.h _)).mono fun e w3 hh => ⟨hh.1, ⟨_, Fr.then (Wd8.h _) hh.2⟩, rfl⟩))
        refine wpQuiet_nil ?_
        rintro _ ⟨x, rfl⟩
        go_wp2
        go_ret
        exact ⟨rfl, hF.then x.h⟩
      | true =>
        by_cases hi0 : 0 < i
        · obtain ⟨i', rfl⟩ : ∃ i', i = i' + 1 := ⟨i - 1, by omega⟩
          have p0 := hp (by omega)
          rw [Nat.add_sub_cancel] at p0
          have g3 : ∀ x : Wd8 wr, x.W.cell? ⟨b, off + i' * 2, none⟩ = some (.string la) := fun x => (World.cell?_of_block (x.h.block b hbl (by simp))).trans p0
          have hd : decide ((0 : Int) < ((i' + 1 : Nat) : Int)) = true := by simp <;> omega
          have hd2 : ((i' + 1 : Nat) : Int) - 1 = (i' : Int) := by omega
          clear c0 c1 hp p0
          cases hQ : Op.bytesLess la.toList key.toList with
          | false =>
            obtain rfl : A = false := HBad.out (fun h => by have := (HS.out.1 h).2.1 (by omega); rw [hQ] at this; cases this)
            go_upto_region 4 with fail
            refine wp_region_wd8 (w1 := wr) (by kernel_rfl) (by kernel_rfl) (Fr.refl _ _) ?_
            repeat (go_big_quiet_step (first | exact (HK.out _ (Wd8.h _)).mono fun e w3 hh => ⟨hh.1, ⟨_, Fr.then (Wd8.h _) hh.2⟩, rfl⟩ | exact (HCk.out _ (Wd8.h _)).mono fun e w3 hh => ⟨hh.1, ⟨_, Fr.then (Wd8.h _) hh.2⟩, rfl⟩))
            refine wpQuiet_nil ?_
            rintro _ ⟨x, rfl⟩
            go_wp2
            go_ret
            exact ⟨rfl, hF.then x.h⟩
          | true =>
            by_cases hM0 : M = 0
            · obtain rfl : A = false := HBad.out (fun h => (HS.out.1 h).2.2.1 (List.eq_nil_of_length_eq_zero (by rw [← HM.out]; exact hM0)))
              subst hM0
              go_upto_region 4 with fail
              refine wp_region_wd8 (w1 := wr) (by kernel_rfl) (by kernel_rfl) (Fr.refl _ _) ?_
              repeat (go_big_quiet_step (first | exact (HK.out _ (Wd8.h _)).mono fun e w3 hh => ⟨hh.1, ⟨_, Fr.then (Wd8.h _) hh.2⟩, rfl⟩ | exact (HCk.out _ (Wd8.h _)).mono fun e w3 hh => ⟨hh.1, ⟨_, Fr.then (Wd8.h _) hh.2⟩, rfl⟩))
              refine wpQuiet_nil ?_
              rintro _ ⟨x, rfl⟩
              go_wp2
              go_ret
              exact ⟨rfl, hF.then x.h⟩
            · have hMp : ((M : Int) == 0) = false := by rw [beq_eq_false_iff_ne]; omega
              have HVn : Hid (vs ≠ []) := fun e => hM0 (by rw [HM.out, e]; rfl)
              rcases HC.out with ⟨rfl, hok⟩ | ⟨rfl, hok⟩
              · have HN : Hid (LoOk (hs.take (i' + 1 + 1))) := HS.out.2 ⟨HB.out.1 rfl, fun h0 => hQ, HVn.out, hok⟩
                clear hok
                go_upto_region 4 with fail
                refine wp_region_wd8 (w1 := wr) (by kernel_rfl) (by kernel_rfl) (Fr.refl _ _) ?_
                repeat (go_big_quiet_step (first | exact (HK.out _ (Wd8.h _)).mono fun e w3 hh => ⟨hh.1, ⟨_, Fr.then (Wd8.h _) hh.2⟩, rfl⟩ | exact (HCk.out _ (Wd8.h _)).mono fun e w3 hh => ⟨hh.1, ⟨_, Fr.then (Wd8.h _) hh.2⟩, rfl⟩))
                refine wpQuiet_nil ?_
                rintro _ ⟨x, rfl⟩
                have hFx := hF.then x.h
                go_wp2
                exact ⟨⟨i' + 1 + 1, by simp, by omega, HN, hFx⟩, by simp [RowKit.intOf]; omega⟩
              · obtain rfl : A = false := HBad.out (fun h => hok (HS.out.1 h).2.2.2)
                clear hok
                go_upto_region 4 with fail
                refine wp_region_wd8 (w1 := wr) (by kernel_rfl) (by kernel_rfl) (Fr.refl _ _) ?_
                repeat (go_big_quiet_step (first | exact (HK.out _ (Wd8.h _)).mono fun e w3 hh => ⟨hh.1, ⟨_, Fr.then (Wd8.h _) hh.2⟩, rfl⟩ | exact (HCk.out _ (Wd8.h _)).mono fun e w3 hh => ⟨hh.1, ⟨_, Fr.then (Wd8.h _) hh.2⟩, rfl⟩))
                refine wpQuiet_nil ?_
                rintro _ ⟨x, rfl⟩
                go_wp2
                go_ret
                exact ⟨rfl, hF.then x.h⟩
        · obtain rfl : i = 0 := by omega
          simp only [Nat.zero_mul, Nat.add_zero] at g0 g1
          clear c0 c1 hp
          by_cases hM0 : M = 0
          · obtain rfl : A = false := HBad.out (fun h => (HS.out.1 h).2.2.1 (List.eq_nil_of_length_eq_zero (by rw [← HM.out]; exact hM0)))
            subst hM0
            go_upto_region 4 with fail
            refine wp_region_wd8 (w1 := wr) (by kernel_rfl) (by kernel_rfl) (Fr.refl _ _) ?_
            repeat (go_big_quiet_step (first | exact (HK.out _ (Wd8.h _)).mono fun e w3 hh => ⟨hh.1, ⟨_, Fr.then (Wd8.h _) hh.2⟩, rfl⟩ | exact (HCk.out _ (Wd8.h _)).mono fun e w3 hh => ⟨hh.1, ⟨_, Fr.then (Wd8.h _) hh.2⟩, rfl⟩))
            refine wpQuiet_nil ?_
            rintro _ ⟨x, rfl⟩
            go_wp2
            go_ret
            exact ⟨rfl, hF.then x.h⟩
          · have hMp : ((M : Int) == 0) = false := by rw [beq_eq_false_iff_ne]; omega
            have HVn : Hid (vs ≠ []) := fun e => hM0 (by rw [HM.out, e]; rfl)
            rcases HC.out with ⟨rfl, hok⟩ | ⟨rfl, hok⟩
            · have HN : Hid (LoOk (hs.take (0 + 1))) := HS.out.2 ⟨HB.out.1 rfl, fun h0 => by omega, HVn.out, hok⟩
              clear hok
              go_upto_region 4 with fail
              refine wp_region_wd8 (w1 := wr) (by kernel_rfl) (by kernel_rfl) (Fr.refl _ _) ?_
              repeat (go_big_quiet_step (first | exact (HK.out _ (Wd8.h _)).mono fun e w3 hh => ⟨hh.1, ⟨_, Fr.then (Wd8.h _) hh.2⟩, rfl⟩ | exact (HCk.out _ (Wd8.h _)).mono fun e w3 hh => ⟨hh.1, ⟨_, Fr.then (Wd8.h _) hh.2⟩, rfl⟩))
              refine wpQuiet_nil ?_
              rintro _ ⟨x, rfl⟩
              have hFx := hF.then x.h
              go_wp2
              exact ⟨⟨0 + 1, by simp, by omega, HN, hFx⟩, by simp [RowKit.intOf]; omega⟩
            · obtain rfl : A = false := HBad.out (fun h => hok (HS.out.1 h).2.2.2)
              clear hok
              go_upto_region 4 with fail
              refine wp_region_wd8 (w1 := wr) (by kernel_rfl) (by kernel_rfl) (Fr.refl _ _) ?_
              repeat (go_big_quiet_step (first | exact (HK.out _ (Wd8.h _)).mono fun e w3 hh => ⟨hh.1, ⟨_, Fr.then (Wd8.h _) hh.2⟩, rfl⟩ | exact (HCk.out _ (Wd8.h _)).mono fun e w3 hh => ⟨hh.1, ⟨_, Fr.then (Wd8.h _) hh.2⟩, rfl⟩))
              refine wpQuiet_nil ?_
              rintro _ ⟨x, rfl⟩
              go_wp2
              go_ret
              exact ⟨rfl, hF.then x.h⟩
    · obtain rfl : A = true := HA.out.2 (by
        have hok := HI.out
        rw [List.take_of_length_le (by have := HL.out; omega)] at hok
        exact hok)
      go_wp2
      go_ret
      exact ⟨rfl, hF⟩
end Go.Proofs.YtdojhkgnnbdfkaaGreat
