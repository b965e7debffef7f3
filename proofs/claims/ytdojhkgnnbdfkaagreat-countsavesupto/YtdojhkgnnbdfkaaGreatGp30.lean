/- Texts of this claim laid together, one behind the other: contracts and plain lemmas; conditions as each names them. -/
import Derived.Test.YtdojhkgnnbdfkaaGreatGp6
import Derived.Test.YtdojhkgnnbdfkaaGreatGp25
import Derived.Test.YtdojhkgnnbdfkaaGreatGp29
import Derived.Test.YtdojhkgnnbdfkaaGreatGp5
import Derived.Test.YtdojhkgnnbdfkaaGreatGp21
/- A configuration as a plain thing, and what Check, Shard and Tasks answer of it, the program's and the document's. Conditions: numbers of 64 bits; a key of fewer than 2^63 bytes. -/
namespace Go.Proofs.YtdojhkgnnbdfkaaGreat
open Go.ChangeShapes Go.WideShapes Go.ChangeAt Go.RowKit Go.Lib
set_option linter.unusedVariables false
set_option linter.unusedSimpArgs false

/-- A number of 64 bits. -/
def I6 (n : Int) : Prop := -9223372036854775808 ≤ n ∧ n ≤ 9223372036854775807
structure Cf where
  l : Int
  s : Int
  w : Int
  q : Int
def Cf.ok (c : Cf) : Prop := I6 c.l ∧ I6 c.s ∧ I6 c.w ∧ I6 c.q
def Cf.v (c : Cf) : Value := .agg #[.int .i64 c.l, .int .i64 c.s, .int .i64 c.w, .int .i64 c.q]
/-- May it be? -/
def Cf.may (c : Cf) : Prop := (1 ≤ c.l ∧ c.l ≤ 16) ∧ (1 ≤ c.s ∧ c.s ≤ 16) ∧ (1 ≤ c.w ∧ c.w ≤ 64) ∧ (1 ≤ c.q ∧ c.q ≤ 16)
instance (c : Cf) : Decidable c.may := by unfold Cf.may; infer_instance
/-- What Check answers. -/
def Cf.err (c : Cf) : Int := if c.may then 0 else 7

set_option maxHeartbeats 1000000 in
theorem fits_any (n m : Int) (w : World) :
    Calls Tryz.prog 24 #[.int .i64 n, .int .i64 m] w fun e w' => e = .returned (.bool (decide (1 ≤ n ∧ n ≤ m))) ∧ w = w' := by
  by_cases h : 1 ≤ n
  · by_cases h2 : n ≤ m
    · go_enter Tryz.func24, Tryz.ntmps24
      go_wp2
      go_ret
      exact ⟨by simp [h, h2], rfl⟩
    · go_enter Tryz.func24, Tryz.ntmps24
      go_wp2
      go_ret
      exact ⟨by simp [h, h2], rfl⟩
  · go_enter Tryz.func24, Tryz.ntmps24
    go_wp2
    go_ret
    exact ⟨by rw [decide_eq_false (p := 1 ≤ n) (by omega)]; rfl, rfl⟩
set_option maxHeartbeats 1000000 in
theorem in_any (n m : Int) (w : World) :
    Calls Tryz.prog 31 #[.int .i64 n, .int .i64 m] w fun e w' => e = .returned (.bool (decide (1 ≤ n ∧ n ≤ m))) ∧ w = w' := by
  by_cases h : 1 ≤ n
  · by_cases h2 : n ≤ m
    · go_enter Tryz.func31, Tryz.ntmps31
      go_wp2
      go_ret
      exact ⟨by simp [h, h2], rfl⟩
    · go_enter Tryz.func31, Tryz.ntmps31
      go_wp2
      go_ret
      exact ⟨by simp [h, h2], rfl⟩
  · go_enter Tryz.func31, Tryz.ntmps31
    go_wp2
    go_ret
    exact ⟨by rw [decide_eq_false (p := 1 ≤ n) (by omega)]; rfl, rfl⟩
/-- The same, by what is known of the number. -/
theorem fits_yes (n m : Int) (w : World) (h : 1 ≤ n ∧ n ≤ m) : Calls Tryz.prog 24 #[.int .i64 n, .int .i64 m] w fun e w' => e = .returned (.bool true) ∧ w = w' :=
  (fits_any n m w).mono fun e w' k => ⟨by rw [k.1, decide_eq_true h], k.2⟩
theorem fits_no (n m : Int) (w : World) (h : ¬ (1 ≤ n ∧ n ≤ m)) : Calls Tryz.prog 24 #[.int .i64 n, .int .i64 m] w fun e w' => e = .returned (.bool false) ∧ w = w' :=
  (fits_any n m w).mono fun e w' k => ⟨by rw [k.1, decide_eq_false h], k.2⟩
theorem in_yes (n m : Int) (w : World) (h : 1 ≤ n ∧ n ≤ m) : Calls Tryz.prog 31 #[.int .i64 n, .int .i64 m] w fun e w' => e = .returned (.bool true) ∧ w = w' :=
  (in_any n m w).mono fun e w' k => ⟨by rw [k.1, decide_eq_true h], k.2⟩
theorem in_no (n m : Int) (w : World) (h : ¬ (1 ≤ n ∧ n ≤ m)) : Calls Tryz.prog 31 #[.int .i64 n, .int .i64 m] w fun e w' => e = .returned (.bool false) ∧ w = w' :=
  (in_any n m w).mono fun e w' k => ⟨by rw [k.1, decide_eq_false h], k.2⟩

set_option maxHeartbeats 4000000 in
set_option maxRecDepth 100000 in
theorem check_cells (l s x q : Int) (w : World) :
    Calls Tryz.prog 11 #[.agg #[.int .i64 l, .int .i64 s, .int .i64 x, .int .i64 q]] w fun e w' => e = .returned (.int .i64 (Cf.err ⟨l, s, x, q⟩)) ∧ Fr [] w w' := by
  by_cases h1 : 1 ≤ l ∧ l ≤ 16
  · by_cases h2 : 1 ≤ s ∧ s ≤ 16
    · by_cases h3 : 1 ≤ x ∧ x ≤ 64
      · by_cases h4 : 1 ≤ q ∧ q ≤ 16
        · have E : Cf.err ⟨l, s, x, q⟩ = 0 := if_pos ⟨h1, h2, h3, h4⟩
          rw [E]
          have H1 := fun w => fits_yes l 16 w h1
          have H2 := fun w => fits_yes s 16 w h2
          have H3 := fun w => fits_yes x 64 w h3
          have H4 := fun w => fits_yes q 16 w h4
          clear h1 h2 h3 h4 E
          go_enter Tryz.func11, Tryz.ntmps11
          go_wp2_with fail
          refine (H1 _).mono ?_
          rintro e w1 ⟨rfl, rfl⟩
          go_wp2_with fail
          refine (H2 _).mono ?_
          rintro e w1 ⟨rfl, rfl⟩
          go_wp2_with fail
          refine (H3 _).mono ?_
          rintro e w1 ⟨rfl, rfl⟩
          go_wp2_with fail
          refine (H4 _).mono ?_
          rintro e w1 ⟨rfl, rfl⟩
          go_wp2_with fail
          go_ret
          exact ⟨rfl, Fr.alloc _ _ _⟩
        · have E : Cf.err ⟨l, s, x, q⟩ = 7 := if_neg (fun h => h4 h.2.2.2)
          rw [E]
          have H1 := fun w => fits_yes l 16 w h1
          have H2 := fun w => fits_yes s 16 w h2
          have H3 := fun w => fits_yes x 64 w h3
          have H4 := fun w => fits_no q 16 w h4
          clear h1 h2 h3 h4 E
          go_enter Tryz.func11, Tryz.ntmps11
          go_wp2_with fail
          refine (H1 _).mono ?_
          rintro e w1 ⟨rfl, rfl⟩
          go_wp2_with fail
          refine (H2 _).mono ?_
          rintro e w1 ⟨rfl, rfl⟩
          go_wp2_with fail
          refine (H3 _).mono ?_
          rintro e w1 ⟨rfl, rfl⟩
          go_wp2_with fail
          refine (H4 _).mono ?_
          rintro e w1 ⟨rfl, rfl⟩
          go_wp2_with fail
          go_ret
          exact ⟨rfl, Fr.alloc _ _ _⟩
      · have E : Cf.err ⟨l, s, x, q⟩ = 7 := if_neg (fun h => h3 h.2.2.1)
        rw [E]
        have H1 := fun w => fits_yes l 16 w h1
        have H2 := fun w => fits_yes s 16 w h2
        have H3 := fun w => fits_no x 64 w h3
        clear h1 h2 h3 E
        go_enter Tryz.func11, Tryz.ntmps11
        go_wp2_with fail
        refine (H1 _).mono ?_
        rintro e w1 ⟨rfl, rfl⟩
        go_wp2_with fail
        refine (H2 _).mono ?_
        rintro e w1 ⟨rfl, rfl⟩
        go_wp2_with fail
        refine (H3 _).mono ?_
        rintro e w1 ⟨rfl, rfl⟩
        go_wp2_with fail
        go_ret
        exact ⟨rfl, Fr.alloc _ _ _⟩
    · have E : Cf.err ⟨l, s, x, q⟩ = 7 := if_neg (fun h => h2 h.2.1)
      rw [E]
      have H1 := fun w => fits_yes l 16 w h1
      have H2 := fun w => fits_no s 16 w h2
      clear h1 h2 E
      go_enter Tryz.func11, Tryz.ntmps11
      go_wp2_with fail
      refine (H1 _).mono ?_
      rintro e w1 ⟨rfl, rfl⟩
      go_wp2_with fail
      refine (H2 _).mono ?_
      rintro e w1 ⟨rfl, rfl⟩
      go_wp2_with fail
      go_ret
      exact ⟨rfl, Fr.alloc _ _ _⟩
  · have E : Cf.err ⟨l, s, x, q⟩ = 7 := if_neg (fun h => h1 h.1)
    rw [E]
    have H1 := fun w => fits_no l 16 w h1
    clear h1 E
    go_enter Tryz.func11, Tryz.ntmps11
    go_wp2_with fail
    refine (H1 _).mono ?_
    rintro e w1 ⟨rfl, rfl⟩
    go_wp2_with fail
    go_ret
    exact ⟨rfl, Fr.alloc _ _ _⟩
set_option maxHeartbeats 4000000 in
set_option maxRecDepth 100000 in
theorem ocheck_cells (l s x q : Int) (w : World) :
    Calls Tryz.prog 15 #[.agg #[.int .i64 l, .int .i64 s, .int .i64 x, .int .i64 q]] w fun e w' => e = .returned (.int .i64 (Cf.err ⟨l, s, x, q⟩)) ∧ Fr [] w w' := by
  by_cases h1 : 1 ≤ l ∧ l ≤ 16
  · by_cases h2 : 1 ≤ s ∧ s ≤ 16
    · by_cases h3 : 1 ≤ x ∧ x ≤ 64
      · by_cases h4 : 1 ≤ q ∧ q ≤ 16
        · have E : Cf.err ⟨l, s, x, q⟩ = 0 := if_pos ⟨h1, h2, h3, h4⟩
          rw [E]
          have H1 := fun w => in_yes l 16 w h1
          have H2 := fun w => in_yes s 16 w h2
          have H3 := fun w => in_yes x 64 w h3
          have H4 := fun w => in_yes q 16 w h4
          clear h1 h2 h3 h4 E
          go_enter Tryz.func15, Tryz.ntmps15
          go_wp2_with fail
          refine (H1 _).mono ?_
          rintro e w1 ⟨rfl, rfl⟩
          go_wp2_with fail
          refine (H2 _).mono ?_
          rintro e w1 ⟨rfl, rfl⟩
          go_wp2_with fail
          refine (H3 _).mono ?_
          rintro e w1 ⟨rfl, rfl⟩
          go_wp2_with fail
          refine (H4 _).mono ?_
          rintro e w1 ⟨rfl, rfl⟩
          go_wp2_with fail
          go_ret
          exact ⟨rfl, Fr.alloc _ _ _⟩
        · have E : Cf.err ⟨l, s, x, q⟩ = 7 := if_neg (fun h => h4 h.2.2.2)
          rw [E]
          have H1 := fun w => in_yes l 16 w h1
          have H2 := fun w => in_yes s 16 w h2
          have H3 := fun w => in_yes x 64 w h3
          have H4 := fun w => in_no q 16 w h4
          clear h1 h2 h3 h4 E
          go_enter Tryz.func15, Tryz.ntmps15
          go_wp2_with fail
          refine (H1 _).mono ?_
          rintro e w1 ⟨rfl, rfl⟩
          go_wp2_with fail
          refine (H2 _).mono ?_
          rintro e w1 ⟨rfl, rfl⟩
          go_wp2_with fail
          refine (H3 _).mono ?_
          rintro e w1 ⟨rfl, rfl⟩
          go_wp2_with fail
          refine (H4 _).mono ?_
          rintro e w1 ⟨rfl, rfl⟩
          go_wp2_with fail
          go_ret
          exact ⟨rfl, Fr.alloc _ _ _⟩
      · have E : Cf.err ⟨l, s, x, q⟩ = 7 := if_neg (fun h => h3 h.2.2.1)
        rw [E]
        have H1 := fun w => in_yes l 16 w h1
        have H2 := fun w => in_yes s 16 w h2
        have H3 := fun w => in_no x 64 w h3
        clear h1 h2 h3 E
        go_enter Tryz.func15, Tryz.ntmps15
        go_wp2_with fail
        refine (H1 _).mono ?_
        rintro e w1 ⟨rfl, rfl⟩
        go_wp2_with fail
        refine (H2 _).mono ?_
        rintro e w1 ⟨rfl, rfl⟩
        go_wp2_with fail
        refine (H3 _).mono ?_
        rintro e w1 ⟨rfl, rfl⟩
        go_wp2_with fail
        go_ret
        exact ⟨rfl, Fr.alloc _ _ _⟩
    · have E : Cf.err ⟨l, s, x, q⟩ = 7 := if_neg (fun h => h2 h.2.1)
      rw [E]
      have H1 := fun w => in_yes l 16 w h1
      have H2 := fun w => in_no s 16 w h2
      clear h1 h2 E
      go_enter Tryz.func15, Tryz.ntmps15
      go_wp2_with fail
      refine (H1 _).mono ?_
      rintro e w1 ⟨rfl, rfl⟩
      go_wp2_with fail
      refine (H2 _).mono ?_
      rintro e w1 ⟨rfl, rfl⟩
      go_wp2_with fail
      go_ret
      exact ⟨rfl, Fr.alloc _ _ _⟩
  · have E : Cf.err ⟨l, s, x, q⟩ = 7 := if_neg (fun h => h1 h.1)
    rw [E]
    have H1 := fun w => in_no l 16 w h1
    clear h1 E
    go_enter Tryz.func15, Tryz.ntmps15
    go_wp2_with fail
    refine (H1 _).mono ?_
    rintro e w1 ⟨rfl, rfl⟩
    go_wp2_with fail
    go_ret
    exact ⟨rfl, Fr.alloc _ _ _⟩
end Go.Proofs.YtdojhkgnnbdfkaaGreat
/- What Shard answers, the program's and the document's. Conditions: a key of fewer than 2^63 bytes. -/
namespace Go.Proofs.YtdojhkgnnbdfkaaGreat
open Go.ChangeShapes Go.WideShapes Go.ChangeAt Go.RowKit Go.Lib
set_option linter.unusedVariables false
set_option linter.unusedSimpArgs false

/-- The shard of a key that may be. -/
def shN13 (s : Int) (key : ByteArray) : Int := ((hashOf (strNs key) : Nat) : Int) % s
/-- What Shard answers. -/
def Cf.shard (c : Cf) (key : ByteArray) : Int × Int := if ¬ c.may then (0, 7) else if ¬ (1 ≤ key.size ∧ key.size ≤ 64) then (0, 1) else (shN13 c.s key, 0)

set_option maxHeartbeats 1000000 in
theorem key_any (s : ByteArray) (w : World) :
    Calls Tryz.prog 56 #[.string s] w fun e w' => e = .returned (.bool (decide (1 ≤ s.size ∧ s.size ≤ 64))) ∧ w = w' := by
  by_cases h : 1 ≤ s.size
  · have h' : (1 : Int) ≤ s.size := by omega
    by_cases h2 : s.size ≤ 64
    · have h2' : (s.size : Int) ≤ 64 := by omega
      go_enter Tryz.func56, Tryz.ntmps56
      go_wp2
      go_ret
      exact ⟨by rw [decide_eq_true (p := 1 ≤ s.size ∧ s.size ≤ 64) ⟨h, h2⟩]; rfl, rfl⟩
    · have h2' : ¬ (s.size : Int) ≤ 64 := by omega
      go_enter Tryz.func56, Tryz.ntmps56
      go_wp2
      go_ret
      exact ⟨rfl, rfl⟩
  · have h' : ¬ (1 : Int) ≤ s.size := by omega
    go_enter Tryz.func56, Tryz.ntmps56
    go_wp2
    go_ret
    exact ⟨rfl, rfl⟩
end Go.Proofs.YtdojhkgnnbdfkaaGreat
/- A configuration as it comes in; drawn regions whose calls only make new memory. Conditions as each names them. -/
namespace Go.Proofs.YtdojhkgnnbdfkaaGreat
open Go.ChangeShapes Go.WideShapes Go.ChangeAt Go.RowKit Go.Lib
set_option linter.unusedVariables false
set_option linter.unusedSimpArgs false

structure Wd13 (w1 : World) where
  W : World
  h : Fr [] w1 W
instance (w1 : World) : Nonempty (Wd13 w1) := ⟨⟨w1, Fr.refl _ _⟩⟩
theorem wp_region_wd13 {P : Program} {w1 wr : World} {id : Nat} {Q : Exit → Act → World → Prop} {a : Act} {l : List Oper} (hm : P.follows .mixedOrders = true) (hB : Region.lexB .any l.toArray = true) (hf : Fr [] w1 wr)
    (h : wpQuiet P l.toArray (fun w' => ∃ x : Wd13 w1, w' = x.W) (fun a' => ∀ w', (∃ x : Wd13 w1, w' = x.W) → Q .normal a' w') l a) : (Code.region id l.toArray true).wp P Q a wr :=
  wp_region_quiet (C := fun w' => ∃ x : Wd13 w1, w' = x.W) hm hB ⟨⟨_, hf.then (Fr.drew [] wr)⟩, rfl⟩ (by simpa using h)

/-- The configuration lies in block b. -/
def CfM (w : World) (b : Nat) (l s x q : Int) : Prop := b < w.heap.size ∧ w.cell? ⟨b, 0, none⟩ = some (.int .i64 l) ∧ w.cell? ⟨b, 1, none⟩ = some (.int .i64 s) ∧ w.cell? ⟨b, 2, none⟩ = some (.int .i64 x) ∧ w.cell? ⟨b, 3, none⟩ = some (.int .i64 q)
theorem CfM.keep {w w' : World} {b : Nat} {l s x q : Int} (h : CfM w b l s x q) (hf : Fr [] w w') : CfM w' b l s x q := by
  have e : ∀ j, w'.cell? ⟨b, j, none⟩ = w.cell? ⟨b, j, none⟩ := fun j => World.cell?_of_block (a := ⟨b, j, none⟩) (hf.block b h.1 (by simp))
  exact ⟨Nat.lt_of_lt_of_le h.1 hf.size, (e 0).trans h.2.1, (e 1).trans h.2.2.1, (e 2).trans h.2.2.2.1, (e 3).trans h.2.2.2.2⟩
theorem CfM.new (w : World) (l s x q : Int) (t : TypeId) : CfM (w.alloc (.cells #[.int .i64 l, .int .i64 s, .int .i64 x, .int .i64 q] t)) w.heap.size l s x q :=
  ⟨by simp, by simp [World.cell?_alloc_at], by simp [World.cell?_alloc_at], by simp [World.cell?_alloc_at], by simp [World.cell?_alloc_at]⟩

theorem Tryz.cellsCf : Tryz.prog.cellsOf 23 = 4 := by kernel_rfl
theorem Tryz.cI13 : Tryz.prog.cellsOf 3 = 1 := by kernel_rfl
theorem Tryz.undI13 : Tryz.prog.underlying 3 = some (.int .i64) := by kernel_rfl
theorem Tryz.cfFields : (match Tryz.prog.underlying 23 with | some (.struct fs) => fs.toList.map (fun f => (f.type, f.offset)) | _ => []) = [(3, 0), (3, 1), (3, 2), (3, 3)] := by kernel_rfl
section
variable {H : Type} {enc : TypeId × Value → H}
set_option maxRecDepth 100000 in
theorem cf_open {w : World} {base : Nat} {spare : Nat → Bool} {held : Bool} {fuel : Nat} {cs : List Value} {x : DataW H × List MemPlace} (h : DataW.trod enc Tryz.prog w base spare held fuel 23 cs = some x) :
    ∃ (a b c d : Int), cs = [.int .i64 a, .int .i64 b, .int .i64 c, .int .i64 d] ∧ Cf.ok ⟨a, b, c, d⟩ := by
  have hF := Tryz.cfFields
  cases hu : Tryz.prog.underlying 23 with
  | none => rw [hu] at hF; simp at hF
  | some u =>
    rw [hu] at hF
    cases u with
    | struct fs =>
      simp only at hF
      obtain ⟨ys, n, _, hx, hlen, hys, hf⟩ := DataW.trod_struct hu h
      rw [Tryz.cellsCf] at hlen
      match cs, hlen with
      | [v0, v1, v2, v3], _ =>
        have hl4 : fs.toList.length = 4 := by have := congrArg List.length hF; simpa using this
        obtain ⟨l, hl⟩ : ∃ l, l = fs.toList := ⟨_, rfl⟩
        rw [← hl] at hF hl4
        match l, hl4 with
        | [f0, f1, f2, f3], _ =>
          simp only [List.map_cons, List.map_nil, List.cons.injEq, Prod.mk.injEq, and_true] at hF
          obtain ⟨⟨t0, o0⟩, ⟨t1, o1⟩, ⟨t2, o2⟩, ⟨t3, o3⟩⟩ := hF
          have g : ∀ (i : Nat) (f : Field), [f0, f1, f2, f3][i]? = some f → fs[i]? = some f := by
            intro i f hi
            rw [hl] at hi
            simpa using hi
          have r0 := hf 0 f0 (g 0 f0 rfl)
          have r1 := hf 1 f1 (g 1 f1 rfl)
          have r2 := hf 2 f2 (g 2 f2 rfl)
          have r3 := hf 3 f3 (g 3 f3 rfl)
          rw [t0, o0, Tryz.cI13] at r0
          rw [t1, o1, Tryz.cI13] at r1
          rw [t2, o2, Tryz.cI13] at r2
          rw [t3, o3, Tryz.cI13] at r3
          simp only [List.drop_zero, List.drop_succ_cons, List.take_succ_cons, List.take_zero] at r0 r1 r2 r3
          have hy4 : ys.length = 4 := by rw [hys]; have := congrArg List.length hl; simpa using this.symm
          match ys, hy4 with
          | [y0, y1, y2, y3], _ =>
            simp only [List.getElem?_cons_zero, List.getElem?_cons_succ] at r0 r1 r2 r3
            obtain ⟨k0, e0, _, w0⟩ := DataW.trod_int Tryz.undI13 r0
            obtain ⟨k1, e1, _, w1⟩ := DataW.trod_int Tryz.undI13 r1
            obtain ⟨k2, e2, _, w2⟩ := DataW.trod_int Tryz.undI13 r2
            obtain ⟨k3, e3, _, w3⟩ := DataW.trod_int Tryz.undI13 r3
            simp only [List.cons.injEq, and_true] at e0 e1 e2 e3
            exact ⟨k0, k1, k2, k3, by rw [e0, e1, e2, e3], bounds_i64 w0, bounds_i64 w1, bounds_i64 w2, bounds_i64 w3⟩
    | _ => simp at hF
end
end Go.Proofs.YtdojhkgnnbdfkaaGreat
/- What both Encodes tell of a checkpoint; its twin read; a Book that is told a checkpoint. Conditions as each names them. -/
namespace Go.Proofs.YtdojhkgnnbdfkaaGreat
open BigFrame Go.ChangeShapes Go.WideShapes Go.ChangeAt Go.RowKit Go.Lib Go.Maps
set_option linter.unusedVariables false
set_option linter.unusedSimpArgs false

/-- What is told of a checkpoint: what is wrong, and its bytes. -/
def ToldD (m : Int) (bs : List Int) (ps : List Kv) (c : Nat) (ys : List Nat) : Prop := (OkS m bs ps ∧ c = 0 ∧ ys = encD m bs ps) ∨ (¬ OkS m bs ps ∧ c = 1 ∧ ys = [])
theorem ToldD.ex (m : Int) (bs : List Int) (ps : List Kv) : ∃ c ys, ToldD m bs ps c ys := by
  by_cases h : OkS m bs ps
  · exact ⟨0, _, Or.inl ⟨h, rfl, rfl⟩⟩
  · exact ⟨1, _, Or.inr ⟨h, rfl, rfl⟩⟩
theorem ToldD.ck {m : Int} {bs : List Int} {hs : List Hd} {ps : List Kv} {c : Nat} {ys : List Nat} (h : ToldD m bs ps c ys) (hp : hs.map Hd.kv = ps) : CkS m bs hs c := by
  subst hp
  rcases h with ⟨a, b, _⟩ | ⟨a, b, _⟩
  · exact Or.inl ⟨b, a⟩
  · exact Or.inr ⟨b, a⟩
theorem ToldD.len {m : Int} {bs : List Int} {ps : List Kv} {c : Nat} {ys : List Nat} (h : ToldD m bs ps c ys) (hz : bs.length + szKs ps ≤ 1048576) : ys.length < 2^26 := by
  rcases h with ⟨a, _, rfl⟩ | ⟨_, _, rfl⟩
  · have := (encD_length m bs ps).2
    omega
  · simp
theorem row_owns {w : World} {k N : Nat} {ys : List Nat} (h : w.heap[k]? = some (.cells (bts ys).toArray 5 (0, 0))) (hN : N = ys.length) (hm : N < 2^40) : w.ownsRow 0 5 1 (.slice (some ⟨k, 0, none⟩) N N) N (bts ys) := by
  refine ⟨by rw [bts_length]; omega, .inr ⟨k, N, (bts ys).toArray, rfl, Nat.zero_le _, h, Nat.le_refl _, by simp only [maxLen]; omega, by simp [bts_length]; omega, ?_⟩⟩
  simp only [Nat.mul_one]
  rw [List.take_of_length_le (by rw [bts_length]; omega)]
theorem own_rs {w : World} {ao : Option Addr} {n cap : Nat} {xs : List Nat} (h : w.ownsRow 0 5 1 (.slice ao n cap) n (bts xs)) (hn : n = xs.length) (hl : xs.length < 2^41) : Rs w ao xs := by
  have h' : Wn w (.slice ao n cap) xs := by unfold Wn; rw [← hn]; exact h
  exact h'.rs hl
theorem Rs.fr5 {w w' : World} {ao : Option Addr} {xs : List Nat} (h : Rs w ao xs) (hf : Fr [] w w') : Rs w' ao xs := by
  refine ⟨fun h0 => ?_, h.len⟩
  obtain ⟨b, off, e, hc⟩ := h.lies h0
  exact ⟨b, off, e, fun j hj => by
    have hlt := World.block_lt_of_cell? w _ (hc j hj)
    rw [World.cell?_of_block (hf.block b hlt (by simp))]
    exact hc j hj⟩
/-- The program's Encode. -/
theorem dencode_gen (m : Int) (bo ho : Option Addr) (Lb cb Lh ch c N : Nat) (bs : List Int) (hs : List Hd) (ps : List Kv) (ys : List Nat) (w : World) (hI : IRs w bo bs) (hLb : Lb = bs.length) (hH : HRs w ho hs) (hLh : Lh = hs.length) (hp : hs.map Hd.kv = ps) (hT : ToldD m bs ps c ys) (hN : N = ys.length) (hz : bs.length + szKs ps ≤ 1048576) :
    Calls Tryz.prog 50 #[.agg #[.int .i64 m, .slice bo Lb cb, .slice ho Lh ch]] w fun e w' => ∃ ao cap, e = .returned (.tuple #[.slice ao N cap, .int .i64 (c : Int)]) ∧ w'.ownsRow 0 5 1 (.slice ao N cap) N (bts ys) ∧ (∀ k, (Value.slice ao N cap).ownBlock = some k → w.heap.size ≤ k) ∧ Fr [] w w' := by
  have hl := hT.len hz
  subst hp
  rcases hT with ⟨hok, rfl, rfl⟩ | ⟨hno, rfl, rfl⟩
  · refine (dencode_ok m bo ho Lb cb Lh ch N bs hs _ w hI hLb hH hLh hok rfl hN (by omega)).mono ?_
    rintro e w' ⟨k, rfl, hk, hrow, hF⟩
    exact ⟨some ⟨k, 0, none⟩, N, rfl, row_owns hrow hN (by omega), by intro j hj; simp [Value.ownBlock] at hj; omega, hF⟩
  · simp only [List.length_nil] at hN
    subst hN
    refine (dencode_no m bo ho Lb cb Lh ch bs hs w hI hLb hH hLh hno).mono ?_
    rintro e w' ⟨rfl, hF⟩
    exact ⟨none, 0, rfl, World.ownsRow_nil _ _ _ _, by intro j hj; simp [Value.ownBlock] at hj, hF⟩
/-- The document's. -/
theorem ywencode_gen (m : Int) (bo ho : Option Addr) (Lb cb Lh ch c N : Nat) (bs : List Int) (hs : List Hd) (ys : List Nat) (w : World) (hI : IRs w bo bs) (hLb : Lb = bs.length) (hH : HRs w ho hs) (hLh : Lh = hs.length) (hT : ToldD m bs (hs.map Hd.kv) c ys) (hN : N = ys.length) (hz : bs.length + szKs (hs.map Hd.kv) ≤ 1048576) (hL : Lh < 2^21) :
    Calls Tryz.prog 35 #[.agg #[.int .i64 m, .slice bo Lb cb, .slice ho Lh ch]] w fun e w' => ∃ ao cap, e = .returned (.tuple #[.slice ao N cap, .int .i64 (c : Int)]) ∧ Rs w' ao ys ∧ Fr [] w w' := by
  have hl := hT.len hz
  rcases hT with ⟨hok, rfl, rfl⟩ | ⟨hno, rfl, rfl⟩
  · refine (ywencode_ok m bo ho Lb cb Lh ch N bs hs _ w hI hLb hH hLh hok rfl hN (by omega) (by omega) (by omega)).mono ?_
    rintro e w' ⟨ao, cap, rfl, hW⟩
    exact ⟨ao, cap, rfl, hW.it.wn.rs (by omega), hW.fr⟩
  · simp only [List.length_nil] at hN
    subst hN
    refine (ywencode_no m bo ho Lb cb Lh ch bs hs w hI hLb hH hLh hno).mono ?_
    rintro e w' ⟨rfl, hF⟩
    exact ⟨none, 0, rfl, Rs.nil _ _, hF⟩
/-! ### The twin -/
theorem TwS.irs {w0 w w1 : World} {bs : List Int} {hs : List Hd} {bb bh : Nat} {ks : List Nat} {bo : Option Addr} (h : TwS w0 w bs hs bb bh ks) (hI : IRs w1 bo bs) : IRs w (some ⟨bb, 0, none⟩) bs := by
  refine ⟨fun h0 => ⟨bb, 0, rfl, lt_of_block h.rb, fun i hi => ?_⟩, hI.few⟩
  rw [cell_of_row _ _ _ _ _ _ h.rb, List.getElem?_toArray, Nat.zero_add, intsT_get _ _ (by simp; omega)]
  congr 2
  simp [List.getD, List.getElem?_append_left hi]
theorem TwS.hrs {w0 w w1 : World} {bs : List Int} {hs : List Hd} {bb bh : Nat} {ks : List Nat} {ho : Option Addr} (h : TwS w0 w bs hs bb bh ks) (hH : HRs w1 ho hs) : HRs w (some ⟨bh, 0, none⟩) (twTs hs ks) := twins_hrs hH h.tw h.rh
theorem TwS.kv {w0 w : World} {bs : List Int} {hs : List Hd} {bb bh : Nat} {ks : List Nat} (h : TwS w0 w bs hs bb bh ks) : (twTs hs ks).map Hd.kv = hs.map Hd.kv := twins_kv h.tw
theorem TwS.iown {w0 w : World} {bs : List Int} {hs : List Hd} {bb bh L : Nat} {ks : List Nat} (h : TwS w0 w bs hs bb bh ks) (hL : L = bs.length) (hm : L < 2^21) : w.ownsRow 0 3 1 (.slice (some ⟨bb, 0, none⟩) L (L + 1)) L (intsT bs) := by
  refine ⟨by rw [intsT_length, hL, Nat.mul_one], .inr ⟨bb, L + 1, (intsT (bs ++ [7777])).toArray, rfl, Nat.zero_le _, h.rb, by omega, by simp only [maxLen]; omega, by simp [intsT_length]; omega, ?_⟩⟩
  have e : intsT (bs ++ [7777]) = intsT bs ++ intsT [7777] := by simp [intsT]
  simp only [e]
  rw [List.take_append_of_le_length (by rw [intsT_length]; omega), List.take_of_length_le (by rw [intsT_length]; omega)]
/-! ### The sizes -/
theorem szXs_ge (vs : List Vn) : vs.length ≤ szXs vs := by
  induction vs with
  | nil => simp
  | cons v r ih =>
    have hz : szX v = 1 + v.val.size := rfl
    simp only [szXs, List.map_cons, List.sum_cons, List.length_cons] at *
    omega
theorem szK_ge (p : Kv) : 1 ≤ szK p ∧ p.2.length ≤ szK p := by
  have := szXs_ge p.2
  unfold szK
  omega
theorem szKs_few {hs : List Hd} (h : szKs (hs.map Hd.kv) ≤ 1048576) : hs.length ≤ 1048576 ∧ ∀ x ∈ hs, x.vs.length ≤ 1048576 := by
  have key : ∀ l : List Hd, l.length ≤ szKs (l.map Hd.kv) ∧ ∀ x ∈ l, x.vs.length ≤ szKs (l.map Hd.kv) := by
    intro l
    induction l with
    | nil => simp [szKs]
    | cons b r ih =>
      have h1 : 1 ≤ szK b.kv ∧ b.vs.length ≤ szK b.kv := szK_ge b.kv
      obtain ⟨i1, i2⟩ := ih
      have e : szKs ((b :: r).map Hd.kv) = szK b.kv + szKs (r.map Hd.kv) := by simp [szKs]
      rw [e]
      refine ⟨by simp only [List.length_cons]; omega, fun x hx => ?_⟩
      rcases List.mem_cons.1 hx with rfl | hx
      · omega
      · have := i2 x hx; omega
  obtain ⟨a, b⟩ := key hs
  exact ⟨by omega, fun x hx => by have := b x hx; omega⟩
namespace Bq
theorem moved_weak {n k : Nat} {v v' : Value} (h : Moved k v v') (hk : n ≤ k) : Moved n v v' := by
  rcases h with h | ⟨b, h1, h2⟩
  · exact Or.inl h
  · exact Or.inr ⟨b, h1, Nat.le_trans hk h2⟩
end Bq
end Go.Proofs.YtdojhkgnnbdfkaaGreat
/- What the document's Decode keeps between two steps. Plain lemmas on memory. -/
namespace Go.Proofs.YtdojhkgnnbdfkaaGreat
open BigFrame Go.ChangeShapes Go.WideShapes Go.ChangeAt Go.RowKit Go.Lib Go.Maps
set_option linter.unusedVariables false
set_option linter.unusedSimpArgs false

theorem far_row {w : World} {b : Nat} {cs : Array Value} {ty : TypeId} (hb : w.heap[b]? = some (.cells cs ty (0, 0))) {base : Nat} {e : TypeId} {size : Nat} {v : Value} {n : Nat} {xs : List Value} (ho : w.ownsRow base e size v n xs) (hne : e ≠ ty) : b ∉ v.ownBlock.toList := fun hh => by
  obtain ⟨_, cur, hc⟩ := owns_cells ho (Option.mem_toList.1 hh)
  rw [hb] at hc
  simp only [Option.some.injEq, Obj.cells.injEq] at hc
  exact hne hc.2.1.symm
theorem St.box {w : World} {t : Nat} {ao : Option Addr} {L cap : Nat} {lv : Nat → Prop} {de : Nat → Prop} (h : St w t ao L cap lv de) : ∃ cs, w.heap[t]? = some (.cells cs 161 (0, 0)) := by
  rcases h with ⟨p, h3, h4⟩ | ⟨c, ⟨_, _, _, _, h3⟩, h4⟩
  · exact ⟨_, h3.ta.box⟩
  · exact ⟨_, h3.box⟩
/-- Between two steps: the answer's box, the checkpoint's box. -/
structure Dy (w W : World) (b0 t sb : Nat) (x y z : Value) : Prop where
  i : DcI w W b0 sb x y z
  n0 : w.heap.size ≤ b0
  nt : w.heap.size ≤ t
  ns : w.heap.size ≤ sb
  d1 : b0 ≠ t
  d2 : sb ≠ t
  d3 : b0 ≠ sb
section
variable {w W W' : World} {b0 t sb : Nat} {x y z : Value}
theorem Dy.stepT (h : Dy w W b0 t sb x y z) (hF : Fr [t] W W') : Dy w W' b0 t sb x y z :=
  ⟨⟨h.i.rb.keep hF (by simp; exact h.d1), h.i.sv.keep hF (by simp; exact h.d2), h.i.fr.on hF (by intro k hk; simp at hk; have := h.nt; omega)⟩, h.n0, h.nt, h.ns, h.d1, h.d2, h.d3⟩
theorem Dy.step0 (h : Dy w W b0 t sb x y z) (hF : Fr [] W W') : Dy w W' b0 t sb x y z := h.stepT (hF.mono (by simp))
theorem Dy.row {S : List Nat} (h : Dy w W b0 t sb x y z) (hF : Fr S W W') (h0 : b0 ∉ S) (h1 : sb ∉ S) (hS : ∀ k ∈ S, w.heap.size ≤ k) : Dy w W' b0 t sb x y z :=
  ⟨⟨h.i.rb.keep hF h0, h.i.sv.keep hF h1, h.i.fr.on hF hS⟩, h.n0, h.nt, h.ns, h.d1, h.d2, h.d3⟩
theorem Dy.at1 (h : Dy w W b0 t sb x y z) (v : Value) : Dy w (W.setCell ⟨sb, 1, none⟩ v) b0 t sb x v z ∧ Fr [sb] W (W.setCell ⟨sb, 1, none⟩ v) := by
  have hF : Fr [sb] W (W.setCell ⟨sb, 1, none⟩ v) := Fr.set _ _ _ (by simp)
  exact ⟨⟨⟨h.i.rb.keep hF (by simp; exact h.d3), h.i.sv.set1 v, h.i.fr.on hF (by intro k hk; simp at hk; have := h.ns; omega)⟩, h.n0, h.nt, h.ns, h.d1, h.d2, h.d3⟩, hF⟩
theorem Dy.at2 (h : Dy w W b0 t sb x y z) (v : Value) : Dy w (W.setCell ⟨sb, 2, none⟩ v) b0 t sb x y v ∧ Fr [sb] W (W.setCell ⟨sb, 2, none⟩ v) := by
  have hF : Fr [sb] W (W.setCell ⟨sb, 2, none⟩ v) := Fr.set _ _ _ (by simp)
  exact ⟨⟨⟨h.i.rb.keep hF (by simp; exact h.d3), h.i.sv.set2 v, h.i.fr.on hF (by intro k hk; simp at hk; have := h.ns; omega)⟩, h.n0, h.nt, h.ns, h.d1, h.d2, h.d3⟩, hF⟩
end
/-- One number more in the checkpoint. -/
theorem app_beyond {w wr w2 w3 w4 : World} {b0 t sb : Nat} {x z : Value} {yo yo' : Option Addr} {i c c' : Nat} {bs : List Int} {n : Int} {ao : Option Addr} {L cap : Nat} {lv : Nat → Prop} {de : Nat → Prop}
    (h : Dy w wr b0 t sb x (.slice yo i c) z) (hO : IOw w.heap.size wr yo i c bs) (hT : ∃ cs, wr.heap[t]? = some (.cells cs 161 (0, 0))) (hF2 : Fr [t] wr w2) (hS2 : St w2 t ao L cap lv de) (hF3 : Fr [] w2 w3) :
    Dy w w3 b0 t sb x (.slice yo i c) z ∧ IOw w.heap.size w3 yo i c bs ∧
      (IOw w.heap.size w4 yo' (i + 1) c' (bs ++ [n]) → Fr (Value.slice yo i c).ownBlock.toList w3 w4 → Dy w w4 b0 t sb x (.slice yo i c) z ∧ w4.frozen? ⟨sb, 1, none⟩ = false ∧ w4.cell? ⟨sb, 1, none⟩ = some (.slice yo i c) ∧
        Dy w (w4.setCell ⟨sb, 1, none⟩ (.slice yo' (i + 1) c')) b0 t sb x (.slice yo' (i + 1) c') z ∧ IOw w.heap.size (w4.setCell ⟨sb, 1, none⟩ (.slice yo' (i + 1) c')) yo' (i + 1) c' (bs ++ [n]) ∧ St (w4.setCell ⟨sb, 1, none⟩ (.slice yo' (i + 1) c')) t ao L cap lv de) := by
  obtain ⟨ct, hct⟩ := hT
  have hO2 : IOw w.heap.size w2 yo i c bs := hO.keepS hF2 (fun k hk hm => by
    simp at hm
    subst hm
    exact far_row hct hO.row (by decide) (Option.mem_toList.2 hk))
  have hO3 : IOw w.heap.size w3 yo i c bs := hO2.keepS hF3 (by simp)
  have hD3 := (h.stepT hF2).step0 hF3
  have hS3 := hS2.keep hF3 (by simp)
  refine ⟨hD3, hO3, fun hO4 hF4 => ?_⟩
  obtain ⟨c3, hc3⟩ := hS3.box
  have hD4 := hD3.row hF4 (far_row hD3.i.rb.box hO3.row (by decide)) (far_row hD3.i.sv.box hO3.row (by decide)) (fun k hk => (owns_cells hO3.row (Option.mem_toList.1 hk)).1)
  have hS4 := hS3.keep hF4 (far_row hc3 hO3.row (by decide))
  obtain ⟨hD5, hF5⟩ := hD4.at1 (.slice yo' (i + 1) c')
  exact ⟨hD4, hD4.i.sv.fz 1, hD4.i.sv.c1, hD5, hO4.offS hD4.i.sv hF5, hS4.keep hF5 (by simp; exact fun e => hD4.d2 e.symm)⟩
end Go.Proofs.YtdojhkgnnbdfkaaGreat
