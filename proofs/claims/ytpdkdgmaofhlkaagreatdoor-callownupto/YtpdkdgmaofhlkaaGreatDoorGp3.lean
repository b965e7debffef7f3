/- Texts of this claim laid together, one behind the other: contracts and plain lemmas; conditions as each names them. -/
import Derived.Test.YtpdkdgmaofhlkaaGreatDoorGp2
import Derived.Laws.BitsAllLaws
import Derived.OwnWalk
import Derived.Laws.MakeOwn
import Derived.Lib.SliceRun
/- What Hash answers, and the document's Hash. Conditions: a key of fewer than 2^62 bytes. -/
namespace Go.Proofs.YtpdkdgmaofhlkaaGreatDoor
open Go.ChangeShapes Go.WideShapes Go.ChangeAt Go.RowKit Go.Lib

/-- The hash of a key. -/
def stepH (h x : Nat) : Nat := ((h ^^^ x) * 16777619) % 4294967296
def hashOf (xs : List Nat) : Nat := xs.foldl stepH 2166136261
theorem foldl_snoc {α β : Type} (f : α → β → α) (a : α) (xs : List β) (x : β) : (xs ++ [x]).foldl f a = f (xs.foldl f a) x := by simp
theorem foldl_below {β : Type} (f : Nat → β → Nat) (B a : Nat) (xs : List β) (h : a < B) (hf : ∀ a x, f a x < B) : xs.foldl f a < B := by
  induction xs generalizing a with
  | nil => exact h
  | cons x l ih => exact ih _ (hf a x)
theorem hashOf_snoc (xs : List Nat) (x : Nat) : hashOf (xs ++ [x]) = stepH (hashOf xs) x := foldl_snoc stepH _ xs x
theorem stepH_lt (a x : Nat) : stepH a x < 4294967296 := Nat.mod_lt _ (by decide)
theorem hashOf_lt (xs : List Nat) : hashOf xs < 4294967296 := foldl_below stepH _ _ xs (by decide) stepH_lt
theorem alive_hash : hashOf [102, 111, 111, 98, 97, 114] = 3214735720 := by decide +kernel
theorem take_snoc (xs : List Nat) (i x : Nat) (h : i < xs.length) (hx : x = xs.getD i 0) : xs.take (i + 1) = xs.take i ++ [x] := by
  have hget : xs[i]? = some x := by rw [hx, List.getD, List.getElem?_eq_getElem h]; rfl
  rw [List.take_add_one, hget]
  rfl
theorem strNs_getD (s : ByteArray) (i : Nat) (h : i < s.size) : (strNs s).getD i 0 = s[i].toNat := by
  have hl : i < (strNs s).length := by rw [strNs_length]; exact h
  rw [show (strNs s).getD i 0 = (strNs s)[i] from by simp [List.getD, hl]]
  simp only [strNs, List.getElem_map, Array.getElem_toList]
  rfl
theorem step_int (c x : Nat) (hc : c < 4294967296) (hx : x < 256) : bits .xor .u32 (c : Int) ((x : Int) % 4294967296) * 16777619 % 4294967296 = ((stepH c x : Nat) : Int) := by
  have e : (x : Int) % 4294967296 = (x : Int) := by omega
  rw [e, u32_xor_nat c x hc (by omega), stepH]
  simp

set_option maxHeartbeats 2000000 in
set_option maxRecDepth 100000 in
theorem hash_any (m : Nat) (s : ByteArray) (w : World) (hs : s.size ≤ 9223372036854775807) (hm : hashOf (strNs s) = m) :
    Calls Tryz.prog 116 #[.string s] w fun e w' => e = .returned (.int .u32 (m : Int)) ∧ w = w' := by
  have HM : Hid (hashOf (strNs s) = m) := hm
  clear hm
  obtain ⟨xs, HX⟩ : ∃ xs, Hid (xs = strNs s) := ⟨_, rfl⟩
  have HL : Hid (s.size = xs.length) := by show _ = _; rw [HX.out, strNs_length]
  go_enter Tryz.func116, Tryz.ntmps116
  go_wp2_with fail
  go_loop [3, 7] (fun cc ii => ∃ (c i : Nat), cc = .int .u32 (c : Int) ∧ ii = .int .i64 i ∧ i ≤ s.size ∧ c < 4294967296 ∧ Hid (c = hashOf (xs.take i))) (fun _ ii => s.size - (RowKit.intOf ii).toNat)
  case atStart => exact ⟨2166136261, 0, rfl, rfl, Nat.zero_le _, by omega, rfl⟩
  case round =>
    obtain ⟨c, i, rfl, rfl, hi, hc, HR⟩ := hrel
    by_cases hiL : i < s.size
    · have HV : Hid (bits .xor .u32 (c : Int) ((s[i].toNat : Int) % 4294967296) * 16777619 % 4294967296 = ((stepH c s[i].toNat : Nat) : Int)) := step_int c _ hc s[i].toNat_lt
      have HS : Hid (stepH c s[i].toNat = hashOf (xs.take (i + 1))) := by
        show _ = _
        rw [take_snoc xs i s[i].toNat (by rw [← HL.out]; exact hiL) (by rw [HX.out, strNs_getD s i hiL]), hashOf_snoc, ← HR.out]
      have hlt := stepH_lt c s[i].toNat
      go_wp2_with fail
      go_round
      case rel => exact ⟨stepH c s[i].toNat, i + 1, by rw [← HV.out], by simp, by omega, hlt, HS⟩
      case measure => simp [RowKit.intOf]; omega
    · obtain hie : i = s.size := by omega
      have HM' : Hid (c = m) := by
        show _ = _
        rw [HR.out, ← HM.out, List.take_of_length_le (by rw [← HL.out]; omega), HX.out]
      clear hie
      go_wp2_with fail
      go_ret
      rw [HM'.out]
      exact ⟨rfl, rfl⟩
end Go.Proofs.YtpdkdgmaofhlkaaGreatDoor
/- A configuration as a plain thing, and what Check, Shard and Tasks answer of it, the program's and the document's. Conditions: numbers of 64 bits; a key of fewer than 2^63 bytes. -/
namespace Go.Proofs.YtpdkdgmaofhlkaaGreatDoor
open Go.ChangeShapes Go.WideShapes Go.ChangeAt Go.RowKit Go.Lib
set_option linter.unusedVariables false
set_option linter.unusedSimpArgs false

/-- A number of 64 bits. -/
def I6 (n : Int) : Prop := -9223372036854775808 ≤ n ∧ n ≤ 9223372036854775807
structure Cf where
  l : Int
  s : Int
  w : Int
  q : Int
def Cf.ok (c : Cf) : Prop := I6 c.l ∧ I6 c.s ∧ I6 c.w ∧ I6 c.q
def Cf.v (c : Cf) : Value := .agg #[.int .i64 c.l, .int .i64 c.s, .int .i64 c.w, .int .i64 c.q]
/-- May it be? -/
def Cf.may (c : Cf) : Prop := (1 ≤ c.l ∧ c.l ≤ 16) ∧ (1 ≤ c.s ∧ c.s ≤ 16) ∧ (1 ≤ c.w ∧ c.w ≤ 64) ∧ (1 ≤ c.q ∧ c.q ≤ 16)
instance (c : Cf) : Decidable c.may := by unfold Cf.may; infer_instance
/-- What Check answers. -/
def Cf.err (c : Cf) : Int := if c.may then 0 else 7

set_option maxHeartbeats 1000000 in
theorem fits_any (n m : Int) (w : World) :
    Calls Tryz.prog 66 #[.int .i64 n, .int .i64 m] w fun e w' => e = .returned (.bool (decide (1 ≤ n ∧ n ≤ m))) ∧ w = w' := by
  by_cases h : 1 ≤ n
  · by_cases h2 : n ≤ m
    · go_enter Tryz.func66, Tryz.ntmps66
      go_wp2
      go_ret
      exact ⟨by simp [h, h2], rfl⟩
    · go_enter Tryz.func66, Tryz.ntmps66
      go_wp2
      go_ret
      exact ⟨by simp [h, h2], rfl⟩
  · go_enter Tryz.func66, Tryz.ntmps66
    go_wp2
    go_ret
    exact ⟨by rw [decide_eq_false (p := 1 ≤ n) (by omega)]; rfl, rfl⟩
/-- The same, by what is known of the number. -/
theorem fits_yes (n m : Int) (w : World) (h : 1 ≤ n ∧ n ≤ m) : Calls Tryz.prog 66 #[.int .i64 n, .int .i64 m] w fun e w' => e = .returned (.bool true) ∧ w = w' :=
  (fits_any n m w).mono fun e w' k => ⟨by rw [k.1, decide_eq_true h], k.2⟩
theorem fits_no (n m : Int) (w : World) (h : ¬ (1 ≤ n ∧ n ≤ m)) : Calls Tryz.prog 66 #[.int .i64 n, .int .i64 m] w fun e w' => e = .returned (.bool false) ∧ w = w' :=
  (fits_any n m w).mono fun e w' k => ⟨by rw [k.1, decide_eq_false h], k.2⟩
set_option maxHeartbeats 4000000 in
set_option maxRecDepth 100000 in
theorem check_cells (l s x q : Int) (w : World) :
    Calls Tryz.prog 16 #[.agg #[.int .i64 l, .int .i64 s, .int .i64 x, .int .i64 q]] w fun e w' => e = .returned (.int .i64 (Cf.err ⟨l, s, x, q⟩)) ∧ Fr [] w w' := by
  by_cases h1 : 1 ≤ l ∧ l ≤ 16
  · by_cases h2 : 1 ≤ s ∧ s ≤ 16
    · by_cases h3 : 1 ≤ x ∧ x ≤ 64
      · by_cases h4 : 1 ≤ q ∧ q ≤ 16
        · have E : Cf.err ⟨l, s, x, q⟩ = 0 := if_pos ⟨h1, h2, h3, h4⟩
          rw [E]
          have H1 := fun w => fits_yes l 16 w h1
          have H2 := fun w => fits_yes s 16 w h2
          have H3 := fun w => fits_yes x 64 w h3
          have H4 := fun w => fits_yes q 16 w h4
          clear h1 h2 h3 h4 E
          go_enter Tryz.func16, Tryz.ntmps16
          go_wp2_with fail
          refine (H1 _).mono ?_
          rintro e w1 ⟨rfl, rfl⟩
          go_wp2_with fail
          refine (H2 _).mono ?_
          rintro e w1 ⟨rfl, rfl⟩
          go_wp2_with fail
          refine (H3 _).mono ?_
          rintro e w1 ⟨rfl, rfl⟩
          go_wp2_with fail
          refine (H4 _).mono ?_
          rintro e w1 ⟨rfl, rfl⟩
          go_wp2_with fail
          go_ret
          exact ⟨rfl, Fr.alloc _ _ _⟩
        · have E : Cf.err ⟨l, s, x, q⟩ = 7 := if_neg (fun h => h4 h.2.2.2)
          rw [E]
          have H1 := fun w => fits_yes l 16 w h1
          have H2 := fun w => fits_yes s 16 w h2
          have H3 := fun w => fits_yes x 64 w h3
          have H4 := fun w => fits_no q 16 w h4
          clear h1 h2 h3 h4 E
          go_enter Tryz.func16, Tryz.ntmps16
          go_wp2_with fail
          refine (H1 _).mono ?_
          rintro e w1 ⟨rfl, rfl⟩
          go_wp2_with fail
          refine (H2 _).mono ?_
          rintro e w1 ⟨rfl, rfl⟩
          go_wp2_with fail
          refine (H3 _).mono ?_
          rintro e w1 ⟨rfl, rfl⟩
          go_wp2_with fail
          refine (H4 _).mono ?_
          rintro e w1 ⟨rfl, rfl⟩
          go_wp2_with fail
          go_ret
          exact ⟨rfl, Fr.alloc _ _ _⟩
      · have E : Cf.err ⟨l, s, x, q⟩ = 7 := if_neg (fun h => h3 h.2.2.1)
        rw [E]
        have H1 := fun w => fits_yes l 16 w h1
        have H2 := fun w => fits_yes s 16 w h2
        have H3 := fun w => fits_no x 64 w h3
        clear h1 h2 h3 E
        go_enter Tryz.func16, Tryz.ntmps16
        go_wp2_with fail
        refine (H1 _).mono ?_
        rintro e w1 ⟨rfl, rfl⟩
        go_wp2_with fail
        refine (H2 _).mono ?_
        rintro e w1 ⟨rfl, rfl⟩
        go_wp2_with fail
        refine (H3 _).mono ?_
        rintro e w1 ⟨rfl, rfl⟩
        go_wp2_with fail
        go_ret
        exact ⟨rfl, Fr.alloc _ _ _⟩
    · have E : Cf.err ⟨l, s, x, q⟩ = 7 := if_neg (fun h => h2 h.2.1)
      rw [E]
      have H1 := fun w => fits_yes l 16 w h1
      have H2 := fun w => fits_no s 16 w h2
      clear h1 h2 E
      go_enter Tryz.func16, Tryz.ntmps16
      go_wp2_with fail
      refine (H1 _).mono ?_
      rintro e w1 ⟨rfl, rfl⟩
      go_wp2_with fail
      refine (H2 _).mono ?_
      rintro e w1 ⟨rfl, rfl⟩
      go_wp2_with fail
      go_ret
      exact ⟨rfl, Fr.alloc _ _ _⟩
  · have E : Cf.err ⟨l, s, x, q⟩ = 7 := if_neg (fun h => h1 h.1)
    rw [E]
    have H1 := fun w => fits_no l 16 w h1
    clear h1 E
    go_enter Tryz.func16, Tryz.ntmps16
    go_wp2_with fail
    refine (H1 _).mono ?_
    rintro e w1 ⟨rfl, rfl⟩
    go_wp2_with fail
    go_ret
    exact ⟨rfl, Fr.alloc _ _ _⟩
end Go.Proofs.YtpdkdgmaofhlkaaGreatDoor
/- What Shard answers, the program's and the document's. Conditions: a key of fewer than 2^63 bytes. -/
namespace Go.Proofs.YtpdkdgmaofhlkaaGreatDoor
open Go.ChangeShapes Go.WideShapes Go.ChangeAt Go.RowKit Go.Lib
set_option linter.unusedVariables false
set_option linter.unusedSimpArgs false

/-- The shard of a key that may be. -/
def shN13 (s : Int) (key : ByteArray) : Int := ((hashOf (strNs key) : Nat) : Int) % s
/-- What Shard answers. -/
def Cf.shard (c : Cf) (key : ByteArray) : Int × Int := if ¬ c.may then (0, 7) else if ¬ (1 ≤ key.size ∧ key.size ≤ 64) then (0, 1) else (shN13 c.s key, 0)

set_option maxHeartbeats 4000000 in
set_option maxRecDepth 100000 in
theorem shard_any (l s x q : Int) (key : ByteArray) (w : World) (hk : key.size ≤ 9223372036854775807) :
    Calls Tryz.prog 107 #[.agg #[.int .i64 l, .int .i64 s, .int .i64 x, .int .i64 q], .string key] w fun e w' => e = .returned (.tuple #[.int .i64 (Cf.shard ⟨l, s, x, q⟩ key).1, .int .i64 (Cf.shard ⟨l, s, x, q⟩ key).2]) ∧ Fr [] w w' := by
  have HC := fun w => check_cells l s x q w
  by_cases hm : Cf.may ⟨l, s, x, q⟩
  · have E : Cf.err ⟨l, s, x, q⟩ = 0 := if_pos hm
    rw [E] at HC
    have hs : 1 ≤ s ∧ s ≤ 16 := hm.2.1
    by_cases hz : 1 ≤ key.size ∧ key.size ≤ 64
    · have E2 : Cf.shard ⟨l, s, x, q⟩ key = (shN13 s key, 0) := by simp [Cf.shard, hm, hz]
      rw [E2]
      have HK := fun w => fits_yes (key.size : Int) 64 w (by omega)
      obtain ⟨m, HM⟩ : ∃ m, Hid (hashOf (strNs key) = m) := ⟨_, rfl⟩
      have hm32 : m < 4294967296 := by rw [← HM.out]; exact hashOf_lt _
      have HH : ∀ w, Calls Tryz.prog 116 #[.string key] w fun e w' => e = .returned (.int .u32 (m : Int)) ∧ w' = w := fun w => (hash_any m key w hk HM.out).mono fun e w' h => ⟨h.1, h.2.symm⟩
      obtain ⟨r, HR⟩ : ∃ r : Int, Hid (r = (m : Int) % s) := ⟨_, rfl⟩
      have HN : Hid (shN13 s key = r) := by show _ = _; rw [HR.out, shN13, HM.out]
      have hr : 0 ≤ r ∧ r < 16 := by
        have h1 := Int.emod_nonneg (m : Int) (show s ≠ 0 by omega)
        have h2 := Int.emod_lt_of_pos (m : Int) (show 0 < s by omega)
        rw [HR.out]; omega
      have hcv : s % 4294967296 = s := by omega
      have hne : s ≠ 0 := by omega
      have hrem : (m : Int).tmod s = r := by rw [HR.out]; exact Int.tmod_eq_emod_of_nonneg (by omega)
      rw [HN.out]
      clear hm E E2 hz HN HR
      go_enter Tryz.func107, Tryz.ntmps107
      go_wp2_with fail
      refine (HC _).mono ?_
      rintro e w1 ⟨rfl, hF1⟩
      have hc1 : w1.cell? ⟨w.heap.size, 1, none⟩ = some (.int .i64 s) := by
        rw [World.cell?_of_block (hF1.block w.heap.size (by simp) (by simp))]
        simp [World.cell?_alloc_at]
      have HF : Hid (Fr [] w w1) := (Fr.alloc _ _ _).then hF1
      clear hF1 HC
      go_wp2_with fail
      refine (HK _).mono ?_
      rintro e w2 ⟨rfl, rfl⟩
      go_wp2_with fail
      go_quiet ((go_at_call 116; exact Calls.quiet_of_same (HH _)))
      go_wp2_with fail
      refine bodyPost_ret (results_tmp2 rfl _ _ _) rfl ?_
      exact ⟨rfl, HF.out.then (Fr.drewN _ _ _)⟩
    · have E2 : Cf.shard ⟨l, s, x, q⟩ key = (0, 1) := by simp only [Cf.shard, hm, hz]; simp
      rw [E2]
      have HK := fun w => fits_no (key.size : Int) 64 w (by omega)
      clear hm E E2 hz
      go_enter Tryz.func107, Tryz.ntmps107
      go_wp2_with fail
      refine (HC _).mono ?_
      rintro e w1 ⟨rfl, hF1⟩
      have HF : Hid (Fr [] w w1) := (Fr.alloc _ _ _).then hF1
      clear hF1 HC
      go_wp2_with fail
      refine (HK _).mono ?_
      rintro e w2 ⟨rfl, rfl⟩
      go_wp2_with fail
      refine bodyPost_ret (results_tmp2 rfl _ _ _) rfl ?_
      exact ⟨rfl, HF.out⟩
  · have E : Cf.err ⟨l, s, x, q⟩ = 7 := if_neg hm
    rw [E] at HC
    have E2 : Cf.shard ⟨l, s, x, q⟩ key = (0, 7) := by simp only [Cf.shard, hm]; simp
    rw [E2]
    clear hm E E2
    go_enter Tryz.func107, Tryz.ntmps107
    go_wp2_with fail
    refine (HC _).mono ?_
    rintro e w1 ⟨rfl, hF1⟩
    have HF : Hid (Fr [] w w1) := (Fr.alloc _ _ _).then hF1
    clear hF1 HC
    go_wp2_with fail
    refine bodyPost_ret (results_tmp2 rfl _ _ _) rfl ?_
    exact ⟨rfl, HF.out⟩
end Go.Proofs.YtpdkdgmaofhlkaaGreatDoor
/- A configuration as it comes in; drawn regions whose calls only make new memory. Conditions as each names them. -/
namespace Go.Proofs.YtpdkdgmaofhlkaaGreatDoor
open Go.ChangeShapes Go.WideShapes Go.ChangeAt Go.RowKit Go.Lib
set_option linter.unusedVariables false
set_option linter.unusedSimpArgs false

structure Wd13 (w1 : World) where
  W : World
  h : Fr [] w1 W
instance (w1 : World) : Nonempty (Wd13 w1) := ⟨⟨w1, Fr.refl _ _⟩⟩
theorem wp_region_wd13 {P : Program} {w1 wr : World} {id : Nat} {Q : Exit → Act → World → Prop} {a : Act} {l : List Oper} (hm : P.follows .mixedOrders = true) (hB : Region.lexB .any l.toArray = true) (hf : Fr [] w1 wr)
    (h : wpQuiet P l.toArray (fun w' => ∃ x : Wd13 w1, w' = x.W) (fun a' => ∀ w', (∃ x : Wd13 w1, w' = x.W) → Q .normal a' w') l a) : (Code.region id l.toArray true).wp P Q a wr :=
  wp_region_quiet (C := fun w' => ∃ x : Wd13 w1, w' = x.W) hm hB ⟨⟨_, hf.then (Fr.drew [] wr)⟩, rfl⟩ (by simpa using h)

/-- The configuration lies in block b. -/
def CfM (w : World) (b : Nat) (l s x q : Int) : Prop := b < w.heap.size ∧ w.cell? ⟨b, 0, none⟩ = some (.int .i64 l) ∧ w.cell? ⟨b, 1, none⟩ = some (.int .i64 s) ∧ w.cell? ⟨b, 2, none⟩ = some (.int .i64 x) ∧ w.cell? ⟨b, 3, none⟩ = some (.int .i64 q)
theorem CfM.keep {w w' : World} {b : Nat} {l s x q : Int} (h : CfM w b l s x q) (hf : Fr [] w w') : CfM w' b l s x q := by
  have e : ∀ j, w'.cell? ⟨b, j, none⟩ = w.cell? ⟨b, j, none⟩ := fun j => World.cell?_of_block (a := ⟨b, j, none⟩) (hf.block b h.1 (by simp))
  exact ⟨Nat.lt_of_lt_of_le h.1 hf.size, (e 0).trans h.2.1, (e 1).trans h.2.2.1, (e 2).trans h.2.2.2.1, (e 3).trans h.2.2.2.2⟩
theorem CfM.new (w : World) (l s x q : Int) (t : TypeId) : CfM (w.alloc (.cells #[.int .i64 l, .int .i64 s, .int .i64 x, .int .i64 q] t)) w.heap.size l s x q :=
  ⟨by simp, by simp [World.cell?_alloc_at], by simp [World.cell?_alloc_at], by simp [World.cell?_alloc_at], by simp [World.cell?_alloc_at]⟩

theorem Tryz.cellsCf : Tryz.prog.cellsOf 23 = 4 := by kernel_rfl
theorem Tryz.cI13 : Tryz.prog.cellsOf 3 = 1 := by kernel_rfl
theorem Tryz.undI13 : Tryz.prog.underlying 3 = some (.int .i64) := by kernel_rfl
theorem Tryz.cfFields : (match Tryz.prog.underlying 23 with | some (.struct fs) => fs.toList.map (fun f => (f.type, f.offset)) | _ => []) = [(3, 0), (3, 1), (3, 2), (3, 3)] := by kernel_rfl
section
variable {H : Type} {enc : TypeId × Value → H}
set_option maxRecDepth 100000 in
theorem cf_open {w : World} {base : Nat} {spare : Nat → Bool} {held : Bool} {fuel : Nat} {cs : List Value} {x : DataW H × List MemPlace} (h : DataW.trod enc Tryz.prog w base spare held fuel 23 cs = some x) :
    ∃ (a b c d : Int), cs = [.int .i64 a, .int .i64 b, .int .i64 c, .int .i64 d] ∧ Cf.ok ⟨a, b, c, d⟩ := by
  have hF := Tryz.cfFields
  cases hu : Tryz.prog.underlying 23 with
  | none => rw [hu] at hF; simp at hF
  | some u =>
    rw [hu] at hF
    cases u with
    | struct fs =>
      simp only at hF
      obtain ⟨ys, n, _, hx, hlen, hys, hf⟩ := DataW.trod_struct hu h
      rw [Tryz.cellsCf] at hlen
      match cs, hlen with
      | [v0, v1, v2, v3], _ =>
        have hl4 : fs.toList.length = 4 := by have := congrArg List.length hF; simpa using this
        obtain ⟨l, hl⟩ : ∃ l, l = fs.toList := ⟨_, rfl⟩
        rw [← hl] at hF hl4
        match l, hl4 with
        | [f0, f1, f2, f3], _ =>
          simp only [List.map_cons, List.map_nil, List.cons.injEq, Prod.mk.injEq, and_true] at hF
          obtain ⟨⟨t0, o0⟩, ⟨t1, o1⟩, ⟨t2, o2⟩, ⟨t3, o3⟩⟩ := hF
          have g : ∀ (i : Nat) (f : Field), [f0, f1, f2, f3][i]? = some f → fs[i]? = some f := by
            intro i f hi
            rw [hl] at hi
            simpa using hi
          have r0 := hf 0 f0 (g 0 f0 rfl)
          have r1 := hf 1 f1 (g 1 f1 rfl)
          have r2 := hf 2 f2 (g 2 f2 rfl)
          have r3 := hf 3 f3 (g 3 f3 rfl)
          rw [t0, o0, Tryz.cI13] at r0
          rw [t1, o1, Tryz.cI13] at r1
          rw [t2, o2, Tryz.cI13] at r2
          rw [t3, o3, Tryz.cI13] at r3
          simp only [List.drop_zero, List.drop_succ_cons, List.take_succ_cons, List.take_zero] at r0 r1 r2 r3
          have hy4 : ys.length = 4 := by rw [hys]; have := congrArg List.length hl; simpa using this.symm
          match ys, hy4 with
          | [y0, y1, y2, y3], _ =>
            simp only [List.getElem?_cons_zero, List.getElem?_cons_succ] at r0 r1 r2 r3
            obtain ⟨k0, e0, _, w0⟩ := DataW.trod_int Tryz.undI13 r0
            obtain ⟨k1, e1, _, w1⟩ := DataW.trod_int Tryz.undI13 r1
            obtain ⟨k2, e2, _, w2⟩ := DataW.trod_int Tryz.undI13 r2
            obtain ⟨k3, e3, _, w3⟩ := DataW.trod_int Tryz.undI13 r3
            simp only [List.cons.injEq, and_true] at e0 e1 e2 e3
            exact ⟨k0, k1, k2, k3, by rw [e0, e1, e2, e3], bounds_i64 w0, bounds_i64 w1, bounds_i64 w2, bounds_i64 w3⟩
    | _ => simp at hF
end
end Go.Proofs.YtpdkdgmaofhlkaaGreatDoor
/- Rows of numbers that came in; what the statements' helpers TwinInts and LeftInts answer. Conditions: as many numbers as may come in. -/
namespace Go.Proofs.YtpdkdgmaofhlkaaGreatDoor
open Go.ChangeShapes Go.WideShapes Go.ChangeAt Go.RowKit Go.Lib
set_option linter.unusedVariables false
set_option linter.unusedSimpArgs false

/-- The slice at ao reads as the numbers ns. -/
structure IRs (w : World) (ao : Option Addr) (ns : List Int) : Prop where
  lies : 0 < ns.length → ∃ b off, ao = some ⟨b, off, none⟩ ∧ b < w.heap.size ∧ ∀ i, i < ns.length → w.cell? ⟨b, off + i, none⟩ = some (.int .i64 (ns.getD i 0))
  few : ns.length ≤ 17592186044416
theorem IRs.keepS {S : List Nat} {w w' : World} {ao : Option Addr} {ns : List Int} (h : IRs w ao ns) (hf : Fr S w w') (hn : 0 < ns.length → ∀ a, ao = some a → a.block ∉ S) : IRs w' ao ns := by
  refine ⟨fun h0 => ?_, h.few⟩
  obtain ⟨b, off, e, hb, hc⟩ := h.lies h0
  exact ⟨b, off, e, Nat.lt_of_lt_of_le hb hf.size, fun i hi => (World.cell?_of_block (hf.block b hb (hn h0 _ e))).trans (hc i hi)⟩
theorem IRs.keep {w w' : World} {ao : Option Addr} {ns : List Int} (h : IRs w ao ns) (hf : Fr [] w w') : IRs w' ao ns := h.keepS hf (by simp)
theorem IRs.of_open {w : World} {a : Addr} {len cap : Nat} {zs : List Int} (hl : len ≤ cap) (hz : zs.length = cap) (hc : ∀ i, i < zs.length → w.cell? (a.add i) = some (.int .i64 (zs.getD i 0))) (hb : len ≤ 17592186044416) : IRs w (some a) (zs.take len) := by
  refine ⟨fun h0 => ?_, by simp; omega⟩
  rw [List.length_take] at h0
  obtain ⟨b, off, spot⟩ := a
  have hspot : spot = none := by simpa [Addr.add] using World.cell?_spot (hc 0 (by omega))
  subst hspot
  refine ⟨b, off, rfl, ?_, fun j hj => ?_⟩
  · have := World.block_lt_of_cell? w _ (hc 0 (by omega))
    simpa [Addr.add] using this
  · rw [List.length_take] at hj
    have h1 := hc j (by omega)
    rw [show (⟨b, off, none⟩ : Addr).add j = ⟨b, off + j, none⟩ from by simp [Addr.add]] at h1
    rw [h1]
    congr 2
    simp only [List.getD]
    rw [List.getElem?_take_of_lt (by omega)]
theorem itake_snoc (ns : List Int) (i : Nat) (h : i < ns.length) : ns.take (i + 1) = ns.take i ++ [ns.getD i 0] := by
  rw [List.take_add_one]
  simp [List.getD, h]
def intsT (ns : List Int) : List Value := ns.map fun n => Value.int .i64 n
theorem intsT_length (xs : List Int) : (intsT xs).length = xs.length := by simp [intsT]
theorem intsT_get (xs : List Int) (j : Nat) (h : j < xs.length) : (intsT xs)[j]? = some (.int .i64 (xs.getD j 0)) := by simp [intsT, List.getD, h]
theorem Tryz.infoIW : (Tryz.prog.info? 3).map (fun i => (i.zero, i.size, i.bytes)) = some (some (.int .i64 0), 1, 8) := by kernel_rfl
theorem Tryz.undIsW : Tryz.prog.underlying 49 = some (.slice 3) := by kernel_rfl
theorem iown_full {w : World} {g n : Nat} {xs : List Value} (h : w.ownsRow 0 3 1 (.slice (some ⟨g, 0, none⟩) n n) n xs) : w.heap[g]? = some (.cells xs.toArray 3 (0, 0)) := by
  have hl := h.1
  rcases h.2 with ⟨hh, _⟩ | ⟨g', cap', cur, hh, _, hg, _, _, hcs, ht⟩
  · cases hh
  · cases hh
    rw [hg]
    congr 2
    rw [← Array.toList_inj]
    simp only
    rw [← ht, List.take_of_length_le (by simp [hcs])]
theorem Tryz.undIs15 : Tryz.prog.underlying 49 = some (.slice 3) := by kernel_rfl
theorem Tryz.infoI15 : (Tryz.prog.info? 3).map (fun i => (i.zero, i.size, i.bytes)) = some (some (.int .i64 0), 1, 8) := by kernel_rfl
theorem infoI15_parts : ∃ i, Tryz.prog.info? 3 = some i ∧ i.zero = some (.int .i64 0) ∧ i.size = 1 ∧ i.bytes = 8 := by
  have h := Tryz.infoI15
  cases hi : Tryz.prog.info? 3 with
  | none => rw [hi] at h; cases h
  | some i =>
    rw [hi] at h
    simp only [Option.map_some, Option.some.injEq, Prod.mk.injEq] at h
    exact ⟨i, rfl, h.1, h.2.1, h.2.2⟩
def intsC (ns : List Int) : List Value := ns.map fun n => .int .i64 n
theorem intsC_length (ns : List Int) : (intsC ns).length = ns.length := by simp [intsC]
theorem intsC_get (ns : List Int) (j : Nat) (h : j < ns.length) : (intsC ns)[j]? = some (.int .i64 (ns.getD j 0)) := by simp [intsC, List.getD, h]
set_option maxHeartbeats 2000000 in
set_option maxRecDepth 100000 in
theorem cloneI_any (ao : Option Addr) (L cap : Nat) (ns : List Int) (w : World) (hI : IRs w ao ns) (hL : L = ns.length) (hc : L ≤ 131072) :
    Calls Tryz.prog 25 #[.slice ao L cap] w fun e w' => ∃ ro rc, e = .returned (.slice ro L rc) ∧ IRs w' ro ns ∧ w'.ownsRow w.heap.size 3 1 (.slice ro L rc) L (intsC ns) ∧ Fr [] w w' := by
  have q22 : ∀ (w : World) (a : Option Addr) (n c n' c' : Nat), (binOp .eql 49 (.slice a n c) (.slice none n' c')).run Tryz.prog w = .ok (.bool a.isNone) w := fun w a n c n' c' => Lib.run_eql_slice_nil w _ _ a n c n' c' Tryz.undIs15
  cases ao with
  | none =>
    obtain rfl : L = 0 := by
      rcases Nat.eq_zero_or_pos ns.length with h | h
      · omega
      · obtain ⟨b, off, e, _⟩ := hI.lies h
        cases e
    obtain rfl : ns = [] := List.eq_nil_of_length_eq_zero hL.symm
    clear hI hL
    go_enter Tryz.func25, Tryz.ntmps25
    go_wp2
    go_ret
    exact ⟨none, 0, rfl, ⟨fun h => by simp at h, by simp⟩, ⟨rfl, .inl ⟨rfl, rfl⟩⟩, Fr.refl _ _⟩
  | some a =>
    obtain ⟨i0, hi, hz0, hz1, hz2⟩ := infoI15_parts
    have hc2 : Hid (∀ j u, (intsC ns)[j]? = some u → w.cell? (a.add j) = some u) := by
      intro j u hu
      have hj : j < ns.length := by have := (List.getElem?_eq_some_iff.1 hu).1; rwa [intsC_length] at this
      obtain ⟨b, off, e, _, hcc⟩ := hI.lies (by omega)
      cases e
      rw [Addr.add_lit, hcc j hj]
      rw [intsC_get ns j hj] at hu
      exact hu
    have HL : Hid (L = ns.length) := hL
    have HF : Hid (ns.length ≤ 131072) := by show _ ≤ _; omega
    clear hI hL
    go_enter Tryz.func25, Tryz.ntmps25
    go_wp2_with (at_builtin; refine wpList_append_own _ rfl _ _ 49 rfl w.heap.size 3 i0 (.int .i64 0) 1 8 Tryz.undIs15 hi hz0 hz1 hz2 rfl (by decide) _ _ _ rfl (World.ownsRow_made w #[] 0 (Nat.le_refl _) (Nat.zero_le _) (by simp)) a L cap (intsC ns) rfl ?qc1 ?qc2 ?qc3 ?qc4 ?qc5 ?qc6 ?_)
    case qc1 => rw [intsC_length, HL.out, Nat.mul_one]
    case qc2 =>
      intro j u hj
      exact Lib.cell?_alloc_some _ (hc2.out j u hj)
    case qc3 =>
      intro u hu
      obtain ⟨_, _, rfl⟩ := List.mem_map.1 hu
      rfl
    case qc4 => rw [Nat.zero_add]; have := HL.out; have := HF.out; simp only [maxLen]; omega
    case qc5 => rw [Nat.zero_add]; have := HL.out; have := HF.out; omega
    case qc6 => simp
    intro v' w1 hown hgrow hnil
    obtain ⟨ro, rc, rfl⟩ : ∃ ro rc, v' = .slice ro L rc := by
      rcases hown.2 with ⟨hh, h0⟩ | ⟨g, cap', _, hh, _⟩
      · exact ⟨none, 0, by rw [hh]; have : L = 0 := by omega
                           rw [this]⟩
      · exact ⟨_, cap', by rw [hh]⟩
    have HO : Hid (IRs w1 ro ns ∧ w1.ownsRow w.heap.size 3 1 (.slice ro L rc) L (intsC ns) ∧ Fr [] w w1) := by
      have hown2 : w1.ownsRow w.heap.size 3 1 (.slice ro L rc) L (intsC ns) := by simpa using hown
      refine ⟨?_, hown2, (Fr.alloc [] w _).on (Fr.grown (S := [w.heap.size]) hgrow (by intro k hk _; simp [Value.ownBlock] at hk; simp [hk])) (by simp)⟩
      · rcases hown2.2 with ⟨hv, h0⟩ | ⟨g, cap', cur, hv, hbase, hg, h1, h2, h3, ht⟩
        · have : ns = [] := List.eq_nil_of_length_eq_zero (by have := HL.out; omega)
          subst this
          exact ⟨fun h => by simp at h, by simp⟩
        · cases hv
          refine ⟨fun h0 => ⟨g, 0, rfl, lt_of_block hg, fun i hi => ?_⟩, by have := HF.out; omega⟩
          rw [cell_of_row _ _ _ _ _ _ hg, Nat.zero_add, ← Array.getElem?_toList, ← intsC_get ns i hi, ← ht, List.getElem?_take_of_lt (by have := HL.out; omega)]
    clear hown hgrow hnil
    go_wp2
    go_ret
    exact ⟨ro, rc, rfl, HO.out⟩
end Go.Proofs.YtpdkdgmaofhlkaaGreatDoor
