/- Texts of this claim laid together, one behind the other: contracts and plain lemmas; conditions as each names them. -/
import Derived.Test.YtdojhkgnnbdfkaaGreatGp19
/- What the reference's reader answers: Int, Fixed, Text. Conditions: where its bytes lie, fewer than 2^41. -/
namespace Go.Proofs.YtdojhkgnnbdfkaaGreat
open Go.ChangeShapes Go.WideShapes Go.ChangeAt Go.RowKit Go.Lib
/-- The call answers v; new blocks may have been made. -/
def AnsF (f : Nat) (args : Array Value) (w : World) (v : Value) : Prop := Calls Tryz.prog f args w fun e w' => e = .returned v ∧ Fr [] w w'
theorem AnsF.calls {f : Nat} {args : Array Value} {w : World} {v : Value} (h : AnsF f args w v) : Calls Tryz.prog f args w fun e w' => e = .returned v ∧ Fr [] w w' := h
theorem Rs.fr {w w' : World} {ao : Option Addr} {xs : List Nat} (h : Rs w ao xs) (hf : Fr [] w w') : Rs w' ao xs := by
  refine ⟨fun h0 => ?_, h.len⟩
  obtain ⟨b, off, e, hc⟩ := h.lies h0
  exact ⟨b, off, e, fun j hj => by
    have hlt := World.block_lt_of_cell? w _ (hc j hj)
    rw [World.cell?_of_block (hf.block b hlt (by simp))]
    exact hc j hj⟩
/-- The box of a value receiver and the box of the result, as a call begins. -/
def two (w : World) (s : Value) (p c : Int) : World := (w.alloc (.cells #[.bool false, s, .int .i64 p, .int .i64 c] 140)).alloc (.cells #[.bool false, .slice none 0 0, .int .i64 0, .int .i64 0] 140)
theorem two_fr (w : World) (s : Value) (p c : Int) : Fr [] w (two w s p c) := (Fr.alloc [] w _).then (Fr.alloc [] _ _)
/-- The dead answer true, whatever makes them dead. -/
theorem xDead_dead (g : Bool) (ao : Option Addr) (L cap : Nat) (p c : Int) (w : World) (hd : g = true ∨ c ≠ 0) : Calls Tryz.prog 98 #[(.agg #[.bool g, .slice ao L cap, .int .i64 p, .int .i64 c])] w fun e w' => e = .returned (.bool true) ∧ Fr [] w w' := by
  cases g with
  | true => exact xDead_gone ao L cap p c w
  | false => exact xDead_yes ao L cap p c w (by rcases hd with h | h; cases h; exact h)
theorem short_zero : ∀ (xs : List Nat) (i n : Nat), (shortF i n xs).2.2 ≠ 0 → (shortF i n xs).1 = 0 := by
  intro xs
  induction xs with
  | nil => intro i n _; simp [shortF]
  | cons x r ih =>
    intro i n h
    rw [shortF_cons] at h ⊢
    split at h
    · rename_i h1; rw [if_pos h1]
    · rename_i h1
      rw [if_neg h1]
      split at h
      · simp at h
      · rename_i h2
        rw [if_neg h2]
        exact ih _ _ h
theorem bytw (n x j X : Nat) (hn : n < 256 ^ (X - (j + 1))) (hj : j < X) (hX : X ≤ 8) (hx : x < 256) : Hid (IntKind.u64.wrap (IntKind.u64.wrap (256 * (n : Int)) + (x : Int)) = ((x + 256 * n : Nat) : Int)) ∧ x + 256 * n < 256 ^ (X - j) := by
  have e : 256 ^ (X - j) = 256 * 256 ^ (X - (j + 1)) := by rw [show X - j = (X - (j + 1)) + 1 by omega, Nat.pow_succ, Nat.mul_comm]
  have hp : 256 ^ (X - j) ≤ 256 ^ 8 := Nat.pow_le_pow_right (by decide) (by omega)
  have e8 : (256 : Nat) ^ 8 = 18446744073709551616 := by decide
  rw [e8] at hp
  refine ⟨?_, by omega⟩
  show _ = _
  rw [wr_u64, wr_u64]
  omega
set_option maxHeartbeats 8000000 in
set_option maxRecDepth 100000 in
theorem xFixed_live (ao : Option Addr) (L cap p : Nat) (xs : List Nat) (wd : Int) (w : World) (h : Rs w ao xs) (hb : ∀ x ∈ xs, x < 256) (hL : L = xs.length) (hp : p ≤ L) :
    Calls Tryz.prog 83 #[(.agg #[.bool false, .slice ao L cap, .int .i64 (p : Int), .int .i64 0]), .int .i64 wd] w fun e w' => e = .returned (.tuple #[(.agg #[.bool false, .slice ao L cap, .int .i64 ((stepAt (fixF wd (xs.drop p)).2 p : Nat) : Int), .int .i64 ((fixF wd (xs.drop p)).2.2 : Int)]), .int .u64 ((fixF wd (xs.drop p)).1 : Int)]) ∧ Fr [] w w' := by
  have hLl := h.len
  rw [← hL] at hLl
  have HL : Hid (L = xs.length) := hL
  obtain ⟨R, hR⟩ : ∃ R, R = fixF wd (xs.drop p) := ⟨_, rfl⟩
  rw [← hR]
  have HR : Hid (R = fixF wd (xs.drop p)) := hR
  clear hR hL
  go_enter Tryz.func83, Tryz.ntmps83
  go_wp2_with fail
  refine (xDead_no ao L cap (p : Int) _).mono ?_
  rintro e w1 ⟨rfl, hF1⟩
  have B1 : Bx w1 w.heap.size false (.slice ao L cap) p 0 := ⟨hF1.keep ((Below.heap_alloc _ _ _ (by simp)).trans (heap_alloc_new w _)) (by simp)⟩
  have B2 : Bx w1 (w.heap.size + 1) false (.slice none 0 0) 0 0 := ⟨hF1.keep (by simpa using heap_alloc_new (w.alloc (.cells #[.bool false, .slice ao L cap, .int .i64 p, .int .i64 0] 140)) (.cells #[.bool false, .slice none 0 0, .int .i64 0, .int .i64 0] 140)) (by simp)⟩
  have x0 := B1.c0
  have x1 := B1.c1
  have x2 := B1.c2
  have x3 := B1.c3
  have xf0 := B1.f 0
  have xf1 := B1.f 1
  have xf2 := B1.f 2
  have xf3 := B1.f 3
  have h01 : Fr [] w w1 := ((Fr.alloc [] w _).then (Fr.alloc [] _ _)).then hF1
  clear hF1
  rcases (show wd < 1 ∨ 8 < wd ∨ (1 ≤ wd ∧ wd ≤ 8) from by omega) with hw | hw | ⟨hw1, hw8⟩
  · have HR' : Hid (R = (0, 0, 1)) := by show _ = _; rw [HR.out]; simp [fixF, hw]
    clear HR
    go_wp2_with fail
    refine (xWrong_any false ao L cap (p : Int) 0 1 _).mono ?_
    rintro e w2 ⟨rfl, hF2⟩
    have B2' := B2.keep hF2 (by simp)
    have y0 := B2'.c0
    have y1 := B2'.c1
    have y2 := B2'.c2
    have y3 := B2'.c3
    have yf0 := B2'.f 0
    have yf1 := B2'.f 1
    have yf2 := B2'.f 2
    have yf3 := B2'.f 3
    go_wp2
    refine bodyPost_ret (v := .tuple #[.agg #[.bool false, .slice ao L cap, .int .i64 (p : Int), .int .i64 1], .int .u64 0]) (by rw [results_cell_tmp rfl]; go_simp) rfl ⟨?_, ?_⟩
    · rw [HR'.out]; simp [stepAt]
    · exact (h01.then hF2).on (Fr.sets4 _ _ _ _ _ _) (by intro x hx; simp at hx; omega)
  · have HR' : Hid (R = (0, 0, 1)) := by show _ = _; rw [HR.out]; simp [fixF, hw]
    have hw1 : 1 ≤ wd := by omega
    clear HR
    go_wp2_with fail
    refine (xWrong_any false ao L cap (p : Int) 0 1 _).mono ?_
    rintro e w2 ⟨rfl, hF2⟩
    have B2' := B2.keep hF2 (by simp)
    have y0 := B2'.c0
    have y1 := B2'.c1
    have y2 := B2'.c2
    have y3 := B2'.c3
    have yf0 := B2'.f 0
    have yf1 := B2'.f 1
    have yf2 := B2'.f 2
    have yf3 := B2'.f 3
    go_wp2
    refine bodyPost_ret (v := .tuple #[.agg #[.bool false, .slice ao L cap, .int .i64 (p : Int), .int .i64 1], .int .u64 0]) (by rw [results_cell_tmp rfl]; go_simp) rfl ⟨?_, ?_⟩
    · rw [HR'.out]; simp [stepAt]
    · exact (h01.then hF2).on (Fr.sets4 _ _ _ _ _ _) (by intro x hx; simp at hx; omega)
  · obtain ⟨X, rfl⟩ := Int.eq_ofNat_of_zero_le (show 0 ≤ wd by omega)
    have hX8 : X ≤ 8 := by omega
    by_cases hs : L < p + X
    · have HR' : Hid (R = (0, 0, 5)) := by
        show _ = _
        rw [HR.out]
        unfold fixF
        rw [if_neg (by omega), if_pos (by rw [List.length_drop, ← HL.out]; omega)]
      have hs' : (L : Int) - p < X := by omega
      clear HR
      go_wp2_with fail
      refine (xWrong_any false ao L cap (p : Int) 0 5 _).mono ?_
      rintro e w2 ⟨rfl, hF2⟩
      have B2' := B2.keep hF2 (by simp)
      have y0 := B2'.c0
      have y1 := B2'.c1
      have y2 := B2'.c2
      have y3 := B2'.c3
      have yf0 := B2'.f 0
      have yf1 := B2'.f 1
      have yf2 := B2'.f 2
      have yf3 := B2'.f 3
      go_wp2
      refine bodyPost_ret (v := .tuple #[.agg #[.bool false, .slice ao L cap, .int .i64 (p : Int), .int .i64 5], .int .u64 0]) (by rw [results_cell_tmp rfl]; go_simp) rfl ⟨?_, ?_⟩
      · rw [HR'.out]; simp [stepAt]
      · exact (h01.then hF2).on (Fr.sets4 _ _ _ _ _ _) (by intro x hx; simp at hx; omega)
    · have HR' : Hid (R = (leN ((xs.drop p).take X), X, 0)) := by
        show _ = _
        rw [HR.out]
        unfold fixF
        rw [if_neg (by omega), if_neg (by rw [List.length_drop, ← HL.out]; omega), Int.toNat_natCast]
      have hs' : (X : Int) ≤ (L : Int) - p := by omega
      clear HR
      obtain ⟨rb, off, e, hc⟩ := h.lies (by rw [← HL.out]; omega)
      subst e
      go_wp2_with fail
      go_loop [6, 7] (fun vn vi => ∃ (n j : Nat), vn = .int .u64 n ∧ vi = .int .i64 ((j : Int) - 1) ∧ j ≤ X ∧ n < 256 ^ (X - j) ∧ Hid (n = leN (((xs.drop p).take X).drop j))) (fun _ vi => (Lib.intOf vi + 1).toNat)
      case atStart => exact ⟨0, X, rfl, rfl, Nat.le_refl _, by simp, by show _ = _; rw [List.drop_eq_nil_of_le (by rw [List.length_take]; omega)]; rfl⟩
      case round =>
        obtain ⟨n, j, rfl, rfl, hj, hn, E⟩ := hrel
        by_cases hj0 : 0 < j
        · obtain ⟨i, rfl⟩ : ∃ i, j = i + 1 := ⟨j - 1, by omega⟩
          have hcx : w1.cell? ⟨rb, off + (p + i), none⟩ = some (.int .u8 ((xs.getD (p + i) 0 : Nat) : Int)) := by
            have h1 := hc (p + i) (by rw [← HL.out]; omega)
            exact (World.cell?_of_block (h01.block rb (World.block_lt_of_cell? w _ h1) (by simp))).trans h1
          obtain ⟨x, hx⟩ : ∃ x, x = xs.getD (p + i) 0 := ⟨_, rfl⟩
          rw [← hx] at hcx
          have hget : xs[p + i]? = some x := by rw [hx, List.getD, List.getElem?_eq_getElem (by rw [← HL.out]; omega)]; rfl
          have hx256 : x < 256 := hb x (List.mem_of_getElem? hget)
          have hB := bytw n x i X hn (by omega) hX8 hx256
          have HG := hB.1
          have HB : Hid (x + 256 * n < 256 ^ (X - i)) := hB.2
          have HE : Hid (x + 256 * n = leN (((xs.drop p).take X).drop i)) := by
            show _ = _
            have hg2 : ((xs.drop p).take X)[i]? = some x := by rw [List.getElem?_take, if_pos (by omega), List.getElem?_drop]; exact hget
            obtain ⟨hlt, hge⟩ := List.getElem?_eq_some_iff.1 hg2
            rw [List.drop_eq_getElem_cons hlt, hge]
            simp only [leN]
            rw [← E.out]
          clear hB hget hx hc E hn
          have hpi : (p : Int) + i < L := by omega
          go_wp2
          go_round
          case rel => exact ⟨_, i, congrArg (Value.int .u64) HG.out, rfl, by omega, HB.out, HE⟩
          case measure => simp [Lib.intOf]
        · obtain rfl : j = 0 := by omega
          have HV : Hid (n = leN ((xs.drop p).take X)) := by have := E.out; rwa [List.drop_zero] at this
          clear E hc h
          have y0 := B2.c0
          have y1 := B2.c1
          have y2 := B2.c2
          have y3 := B2.c3
          have yf0 := B2.f 0
          have yf1 := B2.f 1
          have yf2 := B2.f 2
          have yf3 := B2.f 3
          go_wp2
          refine bodyPost_ret (v := .tuple #[.agg #[.bool false, .slice (some ⟨rb, off, none⟩) L cap, .int .i64 ((p : Int) + X), .int .i64 0], .int .u64 (n : Int)]) (by rw [results_cell_tmp rfl]; go_simp) rfl ⟨?_, ?_⟩
          · rw [HR'.out, ← HV.out]; simp [stepAt]
          · exact (h01.on (Fr.set (S := [w.heap.size]) _ _ _ (by simp)) (by simp)).on (Fr.sets4 _ _ _ _ _ _) (by intro x hx; simp at hx; omega)
set_option maxHeartbeats 2000000 in
set_option maxRecDepth 100000 in
theorem xFixed_dead (g : Bool) (ao : Option Addr) (L cap : Nat) (p c : Int) (wd : Int) (w : World) (hd : g = true ∨ c ≠ 0) : Calls Tryz.prog 83 #[(.agg #[.bool g, .slice ao L cap, .int .i64 p, .int .i64 c]), .int .i64 wd] w fun e w' => e = .returned (.tuple #[(.agg #[.bool g, .slice ao L cap, .int .i64 p, .int .i64 c]), .int .u64 0]) ∧ Fr [] w w' := by
  have HD : Hid (g = true ∨ c ≠ 0) := hd
  clear hd
  go_enter Tryz.func83, Tryz.ntmps83
  go_wp2_with fail
  refine (xDead_dead g ao L cap p c _ HD.out).mono ?_
  rintro e w1 ⟨rfl, hF1⟩
  have B1 : Bx w1 w.heap.size g (.slice ao L cap) p c := ⟨hF1.keep ((Below.heap_alloc _ _ _ (by simp)).trans (heap_alloc_new w _)) (by simp)⟩
  have B2 : Bx w1 (w.heap.size + 1) false (.slice none 0 0) 0 0 := ⟨hF1.keep (by simpa using heap_alloc_new (w.alloc (.cells #[.bool g, .slice ao L cap, .int .i64 p, .int .i64 c] 140)) (.cells #[.bool false, .slice none 0 0, .int .i64 0, .int .i64 0] 140)) (by simp)⟩
  have x0 := B1.c0
  have x1 := B1.c1
  have x2 := B1.c2
  have x3 := B1.c3
  have xf0 := B1.f 0
  have xf1 := B1.f 1
  have xf2 := B1.f 2
  have xf3 := B1.f 3
  have y0 := B2.c0
  have y1 := B2.c1
  have y2 := B2.c2
  have y3 := B2.c3
  have yf0 := B2.f 0
  have yf1 := B2.f 1
  have yf2 := B2.f 2
  have yf3 := B2.f 3
  go_wp2
  refine bodyPost_ret (v := .tuple #[(.agg #[.bool g, .slice ao L cap, .int .i64 p, .int .i64 c]), .int .u64 0]) (by rw [results_cell_tmp rfl]; go_simp) rfl ⟨rfl, ?_⟩
  exact (((Fr.alloc [] w _).then (Fr.alloc [] _ _)).then hF1).on (Fr.sets4 _ _ _ _ _ _) (by intro x hx; simp at hx; omega)
set_option maxHeartbeats 2000000 in
set_option maxRecDepth 100000 in
theorem xText_dead (g : Bool) (ao : Option Addr) (L cap : Nat) (p c : Int) (ms : Int) (w : World) (hd : g = true ∨ c ≠ 0) : Calls Tryz.prog 116 #[(.agg #[.bool g, .slice ao L cap, .int .i64 p, .int .i64 c]), .int .i64 ms] w fun e w' => e = .returned (.tuple #[(.agg #[.bool g, .slice ao L cap, .int .i64 p, .int .i64 c]), .string ⟨#[]⟩]) ∧ Fr [] w w' := by
  have HD : Hid (g = true ∨ c ≠ 0) := hd
  clear hd
  go_enter Tryz.func116, Tryz.ntmps116
  go_wp2_with fail
  refine (xDead_dead g ao L cap p c _ HD.out).mono ?_
  rintro e w1 ⟨rfl, hF1⟩
  have B1 : Bx w1 w.heap.size g (.slice ao L cap) p c := ⟨hF1.keep ((Below.heap_alloc _ _ _ (by simp)).trans (heap_alloc_new w _)) (by simp)⟩
  have B2 : Bx w1 (w.heap.size + 1) false (.slice none 0 0) 0 0 := ⟨hF1.keep (by simpa using heap_alloc_new (w.alloc (.cells #[.bool g, .slice ao L cap, .int .i64 p, .int .i64 c] 140)) (.cells #[.bool false, .slice none 0 0, .int .i64 0, .int .i64 0] 140)) (by simp)⟩
  have x0 := B1.c0
  have x1 := B1.c1
  have x2 := B1.c2
  have x3 := B1.c3
  have xf0 := B1.f 0
  have xf1 := B1.f 1
  have xf2 := B1.f 2
  have xf3 := B1.f 3
  have y0 := B2.c0
  have y1 := B2.c1
  have y2 := B2.c2
  have y3 := B2.c3
  have yf0 := B2.f 0
  have yf1 := B2.f 1
  have yf2 := B2.f 2
  have yf3 := B2.f 3
  go_wp2
  refine bodyPost_ret (v := .tuple #[(.agg #[.bool g, .slice ao L cap, .int .i64 p, .int .i64 c]), .string ⟨#[]⟩]) (by rw [results_cell_tmp rfl]; go_simp) rfl ⟨rfl, ?_⟩
  exact (((Fr.alloc [] w _).then (Fr.alloc [] _ _)).then hF1).on (Fr.sets4 _ _ _ _ _ _) (by intro x hx; simp at hx; omega)
set_option maxHeartbeats 8000000 in
set_option maxRecDepth 100000 in
theorem xText_live (ao : Option Addr) (L cap p : Nat) (xs : List Nat) (ms : Int) (hm0 : -9223372036854775808 ≤ ms) (hm1 : ms ≤ 9223372036854775807) (hcap : L ≤ cap) (w : World) (h : Rs w ao xs) (hb : ∀ x ∈ xs, x < 256) (hL : L = xs.length) (hp : p ≤ L) :
    Calls Tryz.prog 116 #[(.agg #[.bool false, .slice ao L cap, .int .i64 (p : Int), .int .i64 0]), .int .i64 ms] w fun e w' => e = .returned (.tuple #[(.agg #[.bool false, .slice ao L cap, .int .i64 ((stepAt (textF ms (xs.drop p)).2 p : Nat) : Int), .int .i64 ((textF ms (xs.drop p)).2.2 : Int)]), .string (textF ms (xs.drop p)).1]) ∧ Fr [] w w' := by
  have hLl := h.len
  rw [← hL] at hLl
  have HL : Hid (L = xs.length) := hL
  have hsz := shortF_size (xs.drop p) 0 0
  have HV : ∀ w1, Fr [] (two w (.slice ao L cap) p 0) w1 → AnsF 115 #[(.agg #[.bool false, .slice ao L cap, .int .i64 (p : Int), .int .i64 0])] w1 (.tuple #[(.agg #[.bool false, .slice ao L cap, .int .i64 ((stepAt (shortF 0 0 (xs.drop p)).2 p : Nat) : Int), .int .i64 ((shortF 0 0 (xs.drop p)).2.2 : Int)]), .int .u64 ((shortF 0 0 (xs.drop p)).1 : Int)]) := fun w1 hf => xVar_live ao L cap p xs _ (h.fr ((two_fr _ _ _ _).then hf)) hb hL hp
  have hbd := shortF_val (xs.drop p) 0 0 (by omega) (by omega) (fun x hx => hb x (List.mem_of_mem_drop hx))
  obtain ⟨T, hTT⟩ : ∃ T, T = textF ms (xs.drop p) := ⟨_, rfl⟩
  rw [← hTT]
  have hT2 := hTT
  unfold textF at hT2
  obtain ⟨R, hR⟩ : ∃ R, R = shortF 0 0 (xs.drop p) := ⟨_, rfl⟩
  rw [← hR] at hbd hT2 hsz
  simp only [← hR] at HV
  rw [List.length_drop, ← hL] at hT2
  have HT : Hid (T = _) := hT2
  clear hR hL hTT hT2
  obtain ⟨s1, s2, s3⟩ := R
  simp only at hbd HT HV hsz
  have HVV : Hid (∀ w1, Fr [] (two w (.slice ao L cap) p 0) w1 → AnsF 115 #[(.agg #[.bool false, .slice ao L cap, .int .i64 (p : Int), .int .i64 0])] w1 (.tuple #[(.agg #[.bool false, .slice ao L cap, .int .i64 ((stepAt (s2, s3) p : Nat) : Int), .int .i64 (s3 : Int)]), .int .u64 (s1 : Int)])) := HV
  clear HV
  have hsl : s3 = 0 → 0 < L - p ∧ 0 < s2 ∧ s2 ≤ L - p := by
    intro h3
    have := hsz h3
    rw [List.length_drop, ← HL.out] at this
    omega
  have HSL : Hid (s3 = 0 → 0 < L - p ∧ 0 < s2 ∧ s2 ≤ L - p) := hsl
  clear hsl hsz
  go_enter Tryz.func116, Tryz.ntmps116
  go_wp2_with fail
  refine (xDead_no ao L cap (p : Int) _).mono ?_
  rintro e w1 ⟨rfl, hF1⟩
  have B1 : Bx w1 w.heap.size false (.slice ao L cap) p 0 := ⟨hF1.keep ((Below.heap_alloc _ _ _ (by simp)).trans (heap_alloc_new w _)) (by simp)⟩
  have B2 : Bx w1 (w.heap.size + 1) false (.slice none 0 0) 0 0 := ⟨hF1.keep (by simpa using heap_alloc_new (w.alloc (.cells #[.bool false, .slice ao L cap, .int .i64 p, .int .i64 0] 140)) (.cells #[.bool false, .slice none 0 0, .int .i64 0, .int .i64 0] 140)) (by simp)⟩
  have x0 := B1.c0
  have x1 := B1.c1
  have x2 := B1.c2
  have x3 := B1.c3
  have xf0 := B1.f 0
  have xf1 := B1.f 1
  have xf2 := B1.f 2
  have xf3 := B1.f 3
  have h01 : Fr [] w w1 := ((Fr.alloc [] w _).then (Fr.alloc [] _ _)).then hF1
  by_cases hms : ms < 0
  · have HR' : Hid (T = (⟨#[]⟩, 0, 1)) := by have := HT.out; rw [if_pos hms] at this; exact this
    clear HT
    go_wp2_with fail
    refine (xWrong_any false ao L cap (p : Int) 0 1 _).mono ?_
    rintro e w4 ⟨rfl, hF4⟩
    have B2' := B2.keep hF4 (by simp)
    have y0 := B2'.c0
    have y1 := B2'.c1
    have y2 := B2'.c2
    have y3 := B2'.c3
    have yf0 := B2'.f 0
    have yf1 := B2'.f 1
    have yf2 := B2'.f 2
    have yf3 := B2'.f 3
    go_wp2
    refine bodyPost_ret (v := .tuple #[.agg #[.bool false, .slice ao L cap, .int .i64 (p : Int), .int .i64 1], .string ⟨#[]⟩]) (by rw [results_cell_tmp rfl]; go_simp) rfl ⟨?_, ?_⟩
    · rw [HR'.out]; simp [stepAt]
    · exact (h01.then hF4).on (Fr.sets4 _ _ _ _ _ _) (by intro x hx; simp at hx; omega)
  · have hms' : 0 ≤ ms := by omega
    go_wp2_with fail
    refine Calls.mono (HVV.out _ hF1).calls ?_
    rintro e w2 ⟨rfl, hF2⟩
    clear HVV hF1
    obtain ⟨q, hq⟩ : ∃ q, q = stepAt (s2, s3) p := ⟨_, rfl⟩
    rw [← hq]
    have HQ : Hid (q = stepAt (s2, s3) p) := hq
    clear hq
    by_cases hs3 : s3 = 0
    · subst hs3
      have hsl := HSL.out rfl
      have HQ' : Hid (q = p + s2) := HQ.out
      clear HQ HSL
      have hq1 : p + s2 ≤ q := by have := HQ'.out; omega
      have hq2 : q ≤ p + s2 := by have := HQ'.out; omega
      go_wp2_with fail
      refine (xDead_no ao L cap (q : Int) _).mono ?_
      rintro e w3 ⟨rfl, hF3⟩
      have hF13 : Fr [] w1 w3 := (hF2.then (Fr.alloc [] w2 (.cells #[.bool false, .slice ao L cap, .int .i64 q, .int .i64 0] 140))).then hF3
      have h03 : Fr [] w w3 := h01.then hF13
      have B1c := B1.keep hF13 (by simp)
      have B2c := B2.keep hF13 (by simp)
      have B3c : Bx w3 w2.heap.size false (.slice ao L cap) q 0 := ⟨hF3.keep (heap_alloc_new w2 _) (by simp)⟩
      have hw12 : w.heap.size + 1 < w2.heap.size := (B2.keep hF2 (by simp)).lt
      clear x0 x1 x2 x3 xf0 xf1 xf2 xf3 hF2 hF3 B1 B2
      have x0 := B1c.c0
      have x1 := B1c.c1
      have x2 := B1c.c2
      have x3 := B1c.c3
      have xf0 := B1c.f 0
      have xf1 := B1c.f 1
      have xf2 := B1c.f 2
      have xf3 := B1c.f 3
      have z0 := B3c.c0
      have z1 := B3c.c1
      have z2 := B3c.c2
      have z3 := B3c.c3
      have zf0 := B3c.f 0
      have zf1 := B3c.f 1
      have zf2 := B3c.f 2
      have zf3 := B3c.f 3
      by_cases hlim : ms < (s1 : Int)
      · have HR' : Hid (T = (⟨#[]⟩, 0, 3)) := by have := HT.out; rw [if_neg (by omega), if_neg (by simp), if_pos hlim] at this; exact this
        clear HT hms
        go_wp2_with fail
        refine (xWrong_any false ao L cap (p : Int) 0 3 _).mono ?_
        rintro e w4 ⟨rfl, hF4⟩
        have B2' := B2c.keep hF4 (by simp)
        have y0 := B2'.c0
        have y1 := B2'.c1
        have y2 := B2'.c2
        have y3 := B2'.c3
        have yf0 := B2'.f 0
        have yf1 := B2'.f 1
        have yf2 := B2'.f 2
        have yf3 := B2'.f 3
        go_wp2
        refine bodyPost_ret (v := .tuple #[.agg #[.bool false, .slice ao L cap, .int .i64 (p : Int), .int .i64 3], .string ⟨#[]⟩]) (by rw [results_cell_tmp rfl]; go_simp) rfl ⟨?_, ?_⟩
        · rw [HR'.out]; simp [stepAt]
        · exact (h03.then hF4).on (Fr.sets4 _ _ _ _ _ _) (by intro x hx; simp at hx; omega)
      · by_cases hsh : L - p - s2 < s1
        · have HR' : Hid (T = (⟨#[]⟩, 0, 5)) := by have := HT.out; rw [if_neg (by omega), if_neg (by simp), if_neg hlim, if_pos hsh] at this; exact this
          have hlim' : (s1 : Int) ≤ ms := by omega
          have hsh' : (L : Int) - q < s1 := by omega
          have hql : (q : Int) ≤ L := by omega
          clear HT hms hlim
          go_wp2_with fail
          refine (xWrong_any false ao L cap (p : Int) 0 5 _).mono ?_
          rintro e w4 ⟨rfl, hF4⟩
          have B2' := B2c.keep hF4 (by simp)
          have y0 := B2'.c0
          have y1 := B2'.c1
          have y2 := B2'.c2
          have y3 := B2'.c3
          have yf0 := B2'.f 0
          have yf1 := B2'.f 1
          have yf2 := B2'.f 2
          have yf3 := B2'.f 3
          go_wp2
          refine bodyPost_ret (v := .tuple #[.agg #[.bool false, .slice ao L cap, .int .i64 (p : Int), .int .i64 5], .string ⟨#[]⟩]) (by rw [results_cell_tmp rfl]; go_simp) rfl ⟨?_, ?_⟩
          · rw [HR'.out]; simp [stepAt]
          · exact (h03.then hF4).on (Fr.sets4 _ _ _ _ _ _) (by intro x hx; simp at hx; omega)
        · have HR' : Hid (T = (toBA (((xs.drop p).drop s2).take s1), s2 + s1, 0)) := by have := HT.out; rw [if_neg (by omega), if_neg (by simp), if_neg hlim, if_neg hsh] at this; exact this
          have hlim' : (s1 : Int) ≤ ms := by omega
          have hsh' : (s1 : Int) ≤ (L : Int) - q := by omega
          have hql : (q : Int) + s1 ≤ L := by omega
          clear HT hms hlim
          obtain ⟨rb, off, e, hc⟩ := h.lies (by rw [← HL.out]; omega)
          subst e
          have hcc : ∀ j, j < L → w3.cell? ⟨rb, off + j, none⟩ = some (.int .u8 ((xs.getD j 0 : Nat) : Int)) := by
            intro j hj
            have h1 := hc j (by rw [← HL.out]; exact hj)
            exact (World.cell?_of_block (h03.block rb (World.block_lt_of_cell? w _ h1) (by simp))).trans h1
          clear hc h
          by_cases hcs : cap = q
          · subst hcs
            obtain rfl : s1 = 0 := by omega
            have heq : Sem.run Tryz.prog (convert 76 9 (.slice (some ⟨rb, off, none⟩) 0 0)) w3 = .ok (.string (toBA [])) w3 := conv_eq w3 rb off 0 0 [] rfl (by omega)
            rw [List.take_zero] at HR'
            obtain ⟨tb, htb⟩ : ∃ tb, tb = toBA [] := ⟨_, rfl⟩
            rw [← htb] at heq HR'
            clear htb hcc
            have y0 := B2c.c0
            have y1 := B2c.c1
            have y2 := B2c.c2
            have y3 := B2c.c3
            have yf0 := B2c.f 0
            have yf1 := B2c.f 1
            have yf2 := B2c.f 2
            have yf3 := B2c.f 3
            go_wp2
            refine bodyPost_ret (v := .tuple #[.agg #[.bool false, .slice (some ⟨rb, off, none⟩) L cap, .int .i64 (cap : Int), .int .i64 0], .string tb]) (by rw [results_cell_tmp rfl]; go_simp) rfl ⟨?_, ?_⟩
            · rw [HR'.out]; simp [stepAt, HQ'.out]
            · exact (h03.on (Fr.set (S := [w2.heap.size]) _ _ _ (by simp)) (by intro x hx; simp at hx; omega)).on (Fr.sets4 _ _ _ _ _ _) (by intro x hx; simp at hx; omega)
          · have heq : Sem.run Tryz.prog (convert 76 9 (.slice (some ⟨rb, off + q, none⟩) s1 (cap - q))) w3 = .ok (.string (toBA (((xs.drop p).drop s2).take s1))) w3 := conv_eq w3 rb (off + q) s1 _ _ (by rw [List.length_take, List.length_drop, List.length_drop, ← HL.out]; omega) (by
              intro j hj
              have := hcc (q + j) (by omega)
              rw [Nat.add_assoc]
              refine this.trans ?_
              simp [List.getD, hj, List.getElem?_drop, HQ'.out, Nat.add_assoc])
            obtain ⟨tb, htb⟩ : ∃ tb, tb = toBA (((xs.drop p).drop s2).take s1) := ⟨_, rfl⟩
            rw [← htb] at heq HR'
            clear htb hcc
            have y0 := B2c.c0
            have y1 := B2c.c1
            have y2 := B2c.c2
            have y3 := B2c.c3
            have yf0 := B2c.f 0
            have yf1 := B2c.f 1
            have yf2 := B2c.f 2
            have yf3 := B2c.f 3
            go_wp2
            refine bodyPost_ret (v := .tuple #[.agg #[.bool false, .slice (some ⟨rb, off, none⟩) L cap, .int .i64 ((q : Int) + s1), .int .i64 0], .string tb]) (by rw [results_cell_tmp rfl]; go_simp) rfl ⟨?_, ?_⟩
            · rw [HR'.out]; simp [stepAt, HQ'.out]; omega
            · exact (h03.on (Fr.set (S := [w2.heap.size]) _ _ _ (by simp)) (by intro x hx; simp at hx; omega)).on (Fr.sets4 _ _ _ _ _ _) (by intro x hx; simp at hx; omega)
    · have hs3b : (s3 : Int) ≠ 0 := by omega
      have HS3 : Hid ((s3 : Int) ≠ 0) := hs3b
      have HQ' : Hid (q = p) := by have := HQ.out; simp only [stepAt] at this; rw [if_neg hs3] at this; exact this
      have HR' : Hid (T = (⟨#[]⟩, 0, s3)) := by have := HT.out; rw [if_neg (by omega), if_pos hs3] at this; exact this
      have HS3n : Hid (s3 ≠ 0) := hs3
      clear HT hms hs3b hs3 HQ HSL
      go_wp2_with fail
      refine (xDead_yes ao L cap (q : Int) (s3 : Int) _ HS3.out).mono ?_
      rintro e w3 ⟨rfl, hF3⟩
      have hF13 : Fr [] w1 w3 := (hF2.then (Fr.alloc [] w2 (.cells #[.bool false, .slice ao L cap, .int .i64 q, .int .i64 s3] 140))).then hF3
      have h03 : Fr [] w w3 := h01.then hF13
      have B1c := B1.keep hF13 (by simp)
      have B2c := B2.keep hF13 (by simp)
      have B3c : Bx w3 w2.heap.size false (.slice ao L cap) q s3 := ⟨hF3.keep (heap_alloc_new w2 _) (by simp)⟩
      have hw12 : w.heap.size + 1 < w2.heap.size := (B2.keep hF2 (by simp)).lt
      clear x0 x1 x2 x3 xf0 xf1 xf2 xf3 hF2 hF3 B1 B2
      have x0 := B1c.c0
      have x1 := B1c.c1
      have x2 := B1c.c2
      have x3 := B1c.c3
      have xf0 := B1c.f 0
      have xf1 := B1c.f 1
      have xf2 := B1c.f 2
      have xf3 := B1c.f 3
      have z0 := B3c.c0
      have z1 := B3c.c1
      have z2 := B3c.c2
      have z3 := B3c.c3
      have zf0 := B3c.f 0
      have zf1 := B3c.f 1
      have zf2 := B3c.f 2
      have zf3 := B3c.f 3
      go_wp2_with fail
      refine (xWrong_any false ao L cap (p : Int) 0 (s3 : Int) _).mono ?_
      rintro e w4 ⟨rfl, hF4⟩
      have B2' := B2c.keep hF4 (by simp)
      have y0 := B2'.c0
      have y1 := B2'.c1
      have y2 := B2'.c2
      have y3 := B2'.c3
      have yf0 := B2'.f 0
      have yf1 := B2'.f 1
      have yf2 := B2'.f 2
      have yf3 := B2'.f 3
      go_wp2
      refine bodyPost_ret (v := .tuple #[.agg #[.bool false, .slice ao L cap, .int .i64 (p : Int), .int .i64 (s3 : Int)], .string ⟨#[]⟩]) (by rw [results_cell_tmp rfl]; go_simp) rfl ⟨?_, ?_⟩
      · rw [HR'.out]; simp [stepAt]
      · exact (h03.then hF4).on (Fr.sets4 _ _ _ _ _ _) (by intro x hx; simp at hx; omega)
end Go.Proofs.YtdojhkgnnbdfkaaGreat
