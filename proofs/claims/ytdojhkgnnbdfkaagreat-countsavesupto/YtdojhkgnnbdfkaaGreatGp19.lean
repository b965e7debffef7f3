/- Texts of this claim laid together, one behind the other: contracts and plain lemmas; conditions as each names them. -/
import Derived.Test.YtdojhkgnnbdfkaaGreatGp18
import Derived.Deep.RegionWith
import Derived.Laws.ResultCell
/- What the reference's reader answers, call by call. Conditions: where its bytes lie, fewer than 2^41. -/
namespace Go.Proofs.YtdojhkgnnbdfkaaGreat
open Go.ChangeShapes Go.WideShapes Go.ChangeAt Go.RowKit Go.Lib

set_option maxHeartbeats 2000000 in
set_option maxRecDepth 100000 in
theorem xDead_no (ao : Option Addr) (L cap : Nat) (p : Int) (w : World) : Calls Tryz.prog 98 #[(.agg #[.bool false, .slice ao L cap, .int .i64 p, .int .i64 0])] w fun e w' => e = .returned (.bool false) ∧ Fr [] w w' := by
  go_enter Tryz.func98, Tryz.ntmps98
  go_wp2
  go_ret
  exact ⟨rfl, Fr.alloc _ _ _⟩
set_option maxHeartbeats 2000000 in
set_option maxRecDepth 100000 in
theorem xDead_yes (ao : Option Addr) (L cap : Nat) (p c : Int) (w : World) (hc : c ≠ 0) : Calls Tryz.prog 98 #[(.agg #[.bool false, .slice ao L cap, .int .i64 p, .int .i64 c])] w fun e w' => e = .returned (.bool true) ∧ Fr [] w w' := by
  have hb : (c != 0) = true := by rw [bne_iff_ne]; exact hc
  clear hc
  go_enter Tryz.func98, Tryz.ntmps98
  go_wp2
  go_ret
  exact ⟨rfl, Fr.alloc _ _ _⟩
set_option maxHeartbeats 2000000 in
set_option maxRecDepth 100000 in
theorem xDead_gone (ao : Option Addr) (L cap : Nat) (p c : Int) (w : World) : Calls Tryz.prog 98 #[(.agg #[.bool true, .slice ao L cap, .int .i64 p, .int .i64 c])] w fun e w' => e = .returned (.bool true) ∧ Fr [] w w' := by
  go_enter Tryz.func98, Tryz.ntmps98
  go_wp2
  go_ret
  exact ⟨rfl, Fr.alloc _ _ _⟩
set_option maxHeartbeats 2000000 in
set_option maxRecDepth 100000 in
theorem xWrong_any (g : Bool) (ao : Option Addr) (L cap : Nat) (p c d : Int) (w : World) : Calls Tryz.prog 99 #[(.agg #[.bool g, .slice ao L cap, .int .i64 p, .int .i64 c]), .int .i64 d] w fun e w' => e = .returned (.agg #[.bool g, .slice ao L cap, .int .i64 p, .int .i64 d]) ∧ Fr [] w w' := by
  go_enter Tryz.func99, Tryz.ntmps99
  go_wp2
  refine bodyPost_ret (v := (.agg #[.bool g, .slice ao L cap, .int .i64 p, .int .i64 d])) (by rw [results_cell1 rfl]; go_simp) rfl ⟨rfl, ?_⟩
  exact (Fr.alloc [] w _).then (Fr.alloc [] _ _)
set_option maxHeartbeats 2000000 in
set_option maxRecDepth 100000 in
theorem xLeft_gone (ao : Option Addr) (L cap : Nat) (p c : Int) (w : World) : Calls Tryz.prog 84 #[(.agg #[.bool true, .slice ao L cap, .int .i64 p, .int .i64 c])] w fun e w' => e = .returned (.int .i64 0) ∧ Fr [] w w' := by
  go_enter Tryz.func84, Tryz.ntmps84
  go_wp2
  go_ret
  exact ⟨rfl, Fr.alloc _ _ _⟩
set_option maxHeartbeats 2000000 in
set_option maxRecDepth 100000 in
theorem xLeft_any (ao : Option Addr) (L cap p : Nat) (c : Int) (w : World) (_hL : L < 2^41) (hp : p ≤ L) : Calls Tryz.prog 84 #[(.agg #[.bool false, .slice ao L cap, .int .i64 p, .int .i64 c])] w fun e w' => e = .returned (.int .i64 ((L - p : Nat) : Int)) ∧ Fr [] w w' := by
  have e : ((L - p : Nat) : Int) = (L : Int) - p := by omega
  rw [e]
  clear e
  go_enter Tryz.func84, Tryz.ntmps84
  go_wp2
  go_ret
  exact ⟨rfl, Fr.alloc _ _ _⟩
set_option maxHeartbeats 2000000 in
set_option maxRecDepth 100000 in
theorem xEnd_gone (ao : Option Addr) (L cap : Nat) (p c : Int) (w : World) : Calls Tryz.prog 103 #[(.agg #[.bool true, .slice ao L cap, .int .i64 p, .int .i64 c])] w fun e w' => e = .returned (.int .i64 2) ∧ Fr [] w w' := by
  go_enter Tryz.func103, Tryz.ntmps103
  go_wp2
  go_ret
  exact ⟨rfl, Fr.alloc _ _ _⟩
set_option maxHeartbeats 2000000 in
set_option maxRecDepth 100000 in
theorem xEnd_any (ao : Option Addr) (L cap p c : Nat) (w : World) (_hL : L < 2^41) (hp : p ≤ L) : Calls Tryz.prog 103 #[(.agg #[.bool false, .slice ao L cap, .int .i64 p, .int .i64 c])] w fun e w' => e = .returned (.int .i64 ((endOf c (L - p) : Nat) : Int)) ∧ Fr [] w w' := by
  by_cases hc : c = 0
  · subst hc
    by_cases hl : p < L
    · have hl' : (p : Int) < L := by omega
      have E : Hid (endOf 0 (L - p) = 4) := by show _ = _; simp only [endOf]; rw [if_neg (by simp), if_pos (by omega)]
      go_enter Tryz.func103, Tryz.ntmps103
      go_wp2
      go_ret
      rw [E.out]
      exact ⟨rfl, Fr.alloc _ _ _⟩
    · have hl' : (L : Int) ≤ p := by omega
      have E : Hid (endOf 0 (L - p) = 0) := by show _ = _; simp only [endOf]; rw [if_neg (by simp), if_neg (by omega)]
      go_enter Tryz.func103, Tryz.ntmps103
      go_wp2
      go_ret
      rw [E.out]
      exact ⟨rfl, Fr.alloc _ _ _⟩
  · have hb : ((c : Int) != 0) = true := by rw [bne_iff_ne]; omega
    have E : Hid (endOf c (L - p) = c) := by show _ = _; simp [endOf, hc]
    clear hc
    go_enter Tryz.func103, Tryz.ntmps103
    go_wp2
    go_ret
    rw [E.out]
    exact ⟨rfl, Fr.alloc _ _ _⟩
/-- Where the reference's reader stands behind a call. -/
def stepAt (r : Nat × Nat) (p : Nat) : Nat := if r.2 = 0 then p + r.1 else p
theorem sumw (n x i F : Nat) (hn : n < 128 ^ i) (hi : i ≤ 9) (_hx : x < 256) (h9 : i = 9 → x % 128 ≤ 1) (hF : F = 128 ^ i) : Hid (IntKind.u64.wrap ((n : Int) + IntKind.u64.wrap ((F : Int) * ((x : Int) % 128))) = ((n + x % 128 * 128 ^ i : Nat) : Int)) := by
  have hb := grp_bd n (x % 128) i hn hi (by omega) h9
  show _ = _
  rw [wr_u64, wr_u64]
  have e1 : ((F : Int) * ((x : Int) % 128)) = ((x % 128 * 128 ^ i : Nat) : Int) := by rw [hF, Nat.mul_comm]; simp
  rw [e1]
  omega
theorem powu (i F : Nat) (hi : i ≤ 8) (hF : F = 128 ^ i) : Hid (IntKind.u64.wrap (128 * (F : Int)) = ((128 ^ (i + 1) : Nat) : Int)) := by
  show _ = _
  have hp : 128 ^ i ≤ 128 ^ 8 := Nat.pow_le_pow_right (by decide) hi
  have e8 : (128 : Nat) ^ 8 = 72057594037927936 := by decide
  rw [e8, ← hF] at hp
  rw [wr_u64, Nat.pow_succ, ← hF]
  omega
/-- A reader of the reference in a block of its own. -/
structure Bx (w : World) (b : Nat) (g : Bool) (s : Value) (p c : Int) : Prop where
  box : w.heap[b]? = some (.cells #[.bool g, s, .int .i64 p, .int .i64 c] 140 (0, 0))
theorem Bx.c0 {w : World} {b : Nat} {g : Bool} {s : Value} {p c : Int} (h : Bx w b g s p c) : w.cell? ⟨b, 0, none⟩ = some (.bool g) := by simp [World.cell?, h.box]
theorem Bx.c1 {w : World} {b : Nat} {g : Bool} {s : Value} {p c : Int} (h : Bx w b g s p c) : w.cell? ⟨b, 1, none⟩ = some s := by simp [World.cell?, h.box]
theorem Bx.c2 {w : World} {b : Nat} {g : Bool} {s : Value} {p c : Int} (h : Bx w b g s p c) : w.cell? ⟨b, 2, none⟩ = some (.int .i64 p) := by simp [World.cell?, h.box]
theorem Bx.c3 {w : World} {b : Nat} {g : Bool} {s : Value} {p c : Int} (h : Bx w b g s p c) : w.cell? ⟨b, 3, none⟩ = some (.int .i64 c) := by simp [World.cell?, h.box]
theorem Bx.f {w : World} {b : Nat} {g : Bool} {s : Value} {p c : Int} (h : Bx w b g s p c) (j : Nat) : w.frozen? ⟨b, j, none⟩ = false := by simp [World.frozen?, h.box]
theorem Bx.keep {S : List Nat} {w w' : World} {b : Nat} {g : Bool} {s : Value} {p c : Int} (h : Bx w b g s p c) (hf : Fr S w w') (hb : b ∉ S) : Bx w' b g s p c := ⟨hf.keep h.box hb⟩
theorem Fr.sets4 (w : World) (b : Nat) (a0 a1 a2 a3 : Value) : Fr [b] w ((((w.setCell ⟨b, 0, none⟩ a0).setCell ⟨b, 1, none⟩ a1).setCell ⟨b, 2, none⟩ a2).setCell ⟨b, 3, none⟩ a3) :=
  (((Fr.set w _ _ (by simp)).then (Fr.set _ _ _ (by simp))).then (Fr.set _ _ _ (by simp))).then (Fr.set _ _ _ (by simp))
theorem Bx.lt {w : World} {b : Nat} {g : Bool} {s : Value} {p c : Int} (h : Bx w b g s p c) : b < w.heap.size := lt_of_block h.box
set_option maxHeartbeats 2000000 in
set_option maxRecDepth 100000 in
theorem xVar_dead (g : Bool) (ao : Option Addr) (L cap : Nat) (p c : Int) (w : World) (hd : g = true ∨ c ≠ 0) : Calls Tryz.prog 115 #[(.agg #[.bool g, .slice ao L cap, .int .i64 p, .int .i64 c])] w fun e w' => e = .returned (.tuple #[(.agg #[.bool g, .slice ao L cap, .int .i64 p, .int .i64 c]), .int .u64 0]) ∧ Fr [] w w' := by
  have hD : ∀ w, Calls Tryz.prog 98 #[(.agg #[.bool g, .slice ao L cap, .int .i64 p, .int .i64 c])] w fun e w' => e = .returned (.bool true) ∧ Fr [] w w' := by
    intro w
    cases g with
    | true => exact xDead_gone ao L cap p c w
    | false => exact xDead_yes ao L cap p c w (by rcases hd with h | h; cases h; exact h)
  have HD : Hid _ := hD
  clear hD hd
  go_enter Tryz.func115, Tryz.ntmps115
  go_wp2_with fail
  refine Calls.mono (HD.out _) ?_
  rintro e w1 ⟨rfl, hF1⟩
  have B1 : Bx w1 w.heap.size g (.slice ao L cap) p c := ⟨hF1.keep ((Below.heap_alloc _ _ _ (by simp)).trans (heap_alloc_new w _)) (by simp)⟩
  have B2 : Bx w1 (w.heap.size + 1) false (.slice none 0 0) 0 0 := ⟨hF1.keep (by simpa using heap_alloc_new (w.alloc (.cells #[.bool g, .slice ao L cap, .int .i64 p, .int .i64 c] 140)) (.cells #[.bool false, .slice none 0 0, .int .i64 0, .int .i64 0] 140)) (by simp)⟩
  have x0 := B1.c0
  have x1 := B1.c1
  have x2 := B1.c2
  have x3 := B1.c3
  have xf0 := B1.f 0
  have xf1 := B1.f 1
  have xf2 := B1.f 2
  have xf3 := B1.f 3
  have y0 := B2.c0
  have y1 := B2.c1
  have y2 := B2.c2
  have y3 := B2.c3
  have yf0 := B2.f 0
  have yf1 := B2.f 1
  have yf2 := B2.f 2
  have yf3 := B2.f 3
  go_wp2
  refine bodyPost_ret (v := .tuple #[(.agg #[.bool g, .slice ao L cap, .int .i64 p, .int .i64 c]), .int .u64 0]) (by rw [results_cell_tmp rfl]; go_simp) rfl ⟨rfl, ?_⟩
  exact (((Fr.alloc [] w _).then (Fr.alloc [] _ _)).then hF1).on (Fr.sets4 _ _ _ _ _ _) (by intro x hx; simp at hx; omega)
set_option maxHeartbeats 8000000 in
set_option maxRecDepth 100000 in
theorem xVar_live (ao : Option Addr) (L cap p : Nat) (xs : List Nat) (w : World) (h : Rs w ao xs) (hb : ∀ x ∈ xs, x < 256) (hL : L = xs.length) (hp : p ≤ L) :
    Calls Tryz.prog 115 #[(.agg #[.bool false, .slice ao L cap, .int .i64 (p : Int), .int .i64 0])] w fun e w' => e = .returned (.tuple #[(.agg #[.bool false, .slice ao L cap, .int .i64 ((stepAt (shortF 0 0 (xs.drop p)).2 p : Nat) : Int), .int .i64 ((shortF 0 0 (xs.drop p)).2.2 : Int)]), .int .u64 ((shortF 0 0 (xs.drop p)).1 : Int)]) ∧ Fr [] w w' := by
  have hLl := h.len
  rw [← hL] at hLl
  have HL : Hid (L = xs.length) := hL
  obtain ⟨R, hR⟩ : ∃ R, R = shortF 0 0 (xs.drop p) := ⟨_, rfl⟩
  rw [← hR]
  have HR : Hid (R = shortF 0 0 ((xs.drop p).drop 0)) := hR
  clear hR hL
  go_enter Tryz.func115, Tryz.ntmps115
  go_wp2_with fail
  refine (xDead_no ao L cap (p : Int) _).mono ?_
  rintro e w1 ⟨rfl, hF1⟩
  have B1 : Bx w1 w.heap.size false (.slice ao L cap) p 0 := ⟨hF1.keep ((Below.heap_alloc _ _ _ (by simp)).trans (heap_alloc_new w _)) (by simp)⟩
  have B2 : Bx w1 (w.heap.size + 1) false (.slice none 0 0) 0 0 := ⟨hF1.keep (by simpa using heap_alloc_new (w.alloc (.cells #[.bool false, .slice ao L cap, .int .i64 p, .int .i64 0] 140)) (.cells #[.bool false, .slice none 0 0, .int .i64 0, .int .i64 0] 140)) (by simp)⟩
  have h01 : Fr [] w w1 := ((Fr.alloc [] w _).then (Fr.alloc [] _ _)).then hF1
  have x0 := B1.c0
  have x1 := B1.c1
  have x2 := B1.c2
  have x3 := B1.c3
  have xf0 := B1.f 0
  have xf1 := B1.f 1
  have xf2 := B1.f 2
  have xf3 := B1.f 3
  go_wp2_with fail
  go_loop [4, 5, 6] (fun vn vf vi => ∃ (n i : Nat), vn = .int .u64 n ∧ vf = .int .u64 ((128 ^ i : Nat) : Int) ∧ vi = .int .i64 i ∧ i ≤ L - p ∧ i ≤ 9 ∧ n < 128 ^ i ∧ Hid (R = shortF i n ((xs.drop p).drop i))) (fun _ _ vi => L - p - (Lib.intOf vi).toNat)
  case atStart => exact ⟨0, 0, rfl, rfl, rfl, by omega, by omega, by omega, HR⟩
  case round =>
    obtain ⟨n, i, rfl, rfl, rfl, hi, hi9, hn, E⟩ := hrel
    obtain ⟨F, hF⟩ : ∃ F, F = 128 ^ i := ⟨_, rfl⟩
    rw [← hF]
    have HF : Hid (F = 128 ^ i) := hF
    by_cases hil : i < L - p
    · obtain ⟨rb, off, e, hc⟩ := h.lies (by rw [← HL.out]; omega)
      subst e
      have hcx : w1.cell? ⟨rb, off + (p + i), none⟩ = some (.int .u8 ((xs.getD (p + i) 0 : Nat) : Int)) := by
        have h1 := hc (p + i) (by rw [← HL.out]; omega)
        exact (World.cell?_of_block (h01.block rb (World.block_lt_of_cell? w _ h1) (by simp))).trans h1
      obtain ⟨x, hx⟩ : ∃ x, x = xs.getD (p + i) 0 := ⟨_, rfl⟩
      rw [← hx] at hcx
      have hget : xs[p + i]? = some x := by rw [hx, List.getD, List.getElem?_eq_getElem (by rw [← HL.out]; omega)]; rfl
      have hx256 : x < 256 := hb x (List.mem_of_getElem? hget)
      have hdr : (xs.drop p).drop i = x :: (xs.drop p).drop (i + 1) := by
        rw [List.drop_drop, List.drop_drop]
        obtain ⟨hlt, hge⟩ := List.getElem?_eq_some_iff.1 hget
        rw [List.drop_eq_getElem_cons hlt, hge]
        rfl
      have E2 : R = shortF i n (x :: (xs.drop p).drop (i + 1)) := by rw [← hdr]; exact E.out
      rw [shortF_cons] at E2
      have HE : Hid (R = _) := E2
      clear E2 hdr hget hx hc E HR
      have hpi : (p : Int) + i < L := by omega
      clear hF
      by_cases h9 : i = 9
      · by_cases hx1 : 1 < x
        · have h9b : ((i : Int) == 9) = true := by rw [beq_iff_eq]; omega
          have h0b : (0 : Int) < i := by omega
          have hx1b : (1 : Int) < x := by omega
          have HR' : Hid (R = (0, 0, 4)) := by have := HE.out; rw [if_pos (by omega)] at this; exact this
          clear HE
          (try clear h9); (try clear hx0); (try clear h00)
          go_wp2_with fail
          refine (xWrong_any false (some ⟨rb, off, none⟩) L cap (p : Int) 0 4 _).mono ?_
          rintro e w2 ⟨rfl, hF2⟩
          have B2' := B2.keep hF2 (by simp)
          have y0 := B2'.c0
          have y1 := B2'.c1
          have y2 := B2'.c2
          have y3 := B2'.c3
          have yf0 := B2'.f 0
          have yf1 := B2'.f 1
          have yf2 := B2'.f 2
          have yf3 := B2'.f 3
          clear h
          go_wp2
          refine bodyPost_ret (v := .tuple #[.agg #[.bool false, .slice (some ⟨rb, off, none⟩) L cap, .int .i64 (p : Int), .int .i64 4], .int .u64 0]) (by rw [results_cell_tmp rfl]; go_simp) rfl ⟨?_, ?_⟩
          · rw [HR'.out]; simp [stepAt]
          · exact (h01.then hF2).on (Fr.sets4 _ _ _ _ _ _) (by intro x hx; simp at hx; omega)
        · by_cases hx0 : x = 0
          · have h9b : ((i : Int) == 9) = true := by rw [beq_iff_eq]; omega
            have h0b : (0 : Int) < i := by omega
            have hx1b : (x : Int) ≤ 1 := by omega
            have hx0b : ((x : Int) == 0) = true := by rw [beq_iff_eq]; omega
            have HR' : Hid (R = (0, 0, 4)) := by have := HE.out; rw [if_pos (by omega)] at this; exact this
            clear HE
            (try clear h9); (try clear hx0); (try clear h00)
            go_wp2_with fail
            refine (xWrong_any false (some ⟨rb, off, none⟩) L cap (p : Int) 0 4 _).mono ?_
            rintro e w2 ⟨rfl, hF2⟩
            have B2' := B2.keep hF2 (by simp)
            have y0 := B2'.c0
            have y1 := B2'.c1
            have y2 := B2'.c2
            have y3 := B2'.c3
            have yf0 := B2'.f 0
            have yf1 := B2'.f 1
            have yf2 := B2'.f 2
            have yf3 := B2'.f 3
            clear h
            go_wp2
            refine bodyPost_ret (v := .tuple #[.agg #[.bool false, .slice (some ⟨rb, off, none⟩) L cap, .int .i64 (p : Int), .int .i64 4], .int .u64 0]) (by rw [results_cell_tmp rfl]; go_simp) rfl ⟨?_, ?_⟩
            · rw [HR'.out]; simp [stepAt]
            · exact (h01.then hF2).on (Fr.sets4 _ _ _ _ _ _) (by intro x hx; simp at hx; omega)
          · have h9b : ((i : Int) == 9) = true := by rw [beq_iff_eq]; omega
            have h0b : (0 : Int) < i := by omega
            have hx1b : (x : Int) ≤ 1 := by omega
            have hx0b : ((x : Int) == 0) = false := by rw [beq_eq_false_iff_ne]; omega
            have hx128 : (x : Int) < 128 := by omega
            have HG := sumw n x i F hn hi9 hx256 (by omega) HF.out
            have HR' : Hid (R = (n + x * 128 ^ i, i + 1, 0)) := by have := HE.out; rw [if_neg (by omega), if_pos (by omega)] at this; exact this
            clear HE h
            (try clear h9); (try clear hx0); (try clear h00)
            have y0 := B2.c0
            have y1 := B2.c1
            have y2 := B2.c2
            have y3 := B2.c3
            have yf0 := B2.f 0
            have yf1 := B2.f 1
            have yf2 := B2.f 2
            have yf3 := B2.f 3
            go_wp2
            refine bodyPost_ret (v := .tuple #[.agg #[.bool false, .slice (some ⟨rb, off, none⟩) L cap, .int .i64 ((p : Int) + i + 1), .int .i64 0], .int .u64 ((n + x % 128 * 128 ^ i : Nat) : Int)]) (by rw [results_cell_tmp rfl, ← HG.out]; go_simp) rfl ⟨?_, ?_⟩
            · rw [HR'.out, Nat.mod_eq_of_lt (by omega)]
              simp [stepAt]
              omega
            · exact (h01.on (Fr.set (S := [w.heap.size]) _ _ _ (by simp)) (by simp)).on (Fr.sets4 _ _ _ _ _ _) (by intro x hx; simp at hx; omega)
      · have hi8 : i ≤ 8 := by omega
        by_cases h00 : 0 < i ∧ x = 0
        · have h9b : ((i : Int) == 9) = false := by rw [beq_eq_false_iff_ne]; omega
          have h0b : (0 : Int) < i := by omega
          have hx0b : ((x : Int) == 0) = true := by rw [beq_iff_eq]; omega
          have HR' : Hid (R = (0, 0, 4)) := by have := HE.out; rw [if_pos (by omega)] at this; exact this
          clear HE
          (try clear h9); (try clear hx0); (try clear h00)
          go_wp2_with fail
          refine (xWrong_any false (some ⟨rb, off, none⟩) L cap (p : Int) 0 4 _).mono ?_
          rintro e w2 ⟨rfl, hF2⟩
          have B2' := B2.keep hF2 (by simp)
          have y0 := B2'.c0
          have y1 := B2'.c1
          have y2 := B2'.c2
          have y3 := B2'.c3
          have yf0 := B2'.f 0
          have yf1 := B2'.f 1
          have yf2 := B2'.f 2
          have yf3 := B2'.f 3
          clear h
          go_wp2
          refine bodyPost_ret (v := .tuple #[.agg #[.bool false, .slice (some ⟨rb, off, none⟩) L cap, .int .i64 (p : Int), .int .i64 4], .int .u64 0]) (by rw [results_cell_tmp rfl]; go_simp) rfl ⟨?_, ?_⟩
          · rw [HR'.out]; simp [stepAt]
          · exact (h01.then hF2).on (Fr.sets4 _ _ _ _ _ _) (by intro x hx; simp at hx; omega)
        · by_cases hx128 : x < 128
          · have hx128' : (x : Int) < 128 := by omega
            by_cases hi0 : 0 < i
            · have h9b : ((i : Int) == 9) = false := by rw [beq_eq_false_iff_ne]; omega
              have h0b : (0 : Int) < i := by omega
              have hx0b : ((x : Int) == 0) = false := by rw [beq_eq_false_iff_ne]; omega
              have HG := sumw n x i F hn hi9 hx256 (by omega) HF.out
              have HR' : Hid (R = (n + x * 128 ^ i, i + 1, 0)) := by have := HE.out; rw [if_neg (by omega), if_pos (by omega)] at this; exact this
              clear HE h
              (try clear h9); (try clear hx0); (try clear h00)
              have y0 := B2.c0
              have y1 := B2.c1
              have y2 := B2.c2
              have y3 := B2.c3
              have yf0 := B2.f 0
              have yf1 := B2.f 1
              have yf2 := B2.f 2
              have yf3 := B2.f 3
              go_wp2
              refine bodyPost_ret (v := .tuple #[.agg #[.bool false, .slice (some ⟨rb, off, none⟩) L cap, .int .i64 ((p : Int) + i + 1), .int .i64 0], .int .u64 ((n + x % 128 * 128 ^ i : Nat) : Int)]) (by rw [results_cell_tmp rfl, ← HG.out]; go_simp) rfl ⟨?_, ?_⟩
              · rw [HR'.out, Nat.mod_eq_of_lt (by omega)]
                simp [stepAt]
                omega
              · exact (h01.on (Fr.set (S := [w.heap.size]) _ _ _ (by simp)) (by simp)).on (Fr.sets4 _ _ _ _ _ _) (by intro x hx; simp at hx; omega)
            · have h9b : ((i : Int) == 9) = false := by rw [beq_eq_false_iff_ne]; omega
              have h0b : (i : Int) ≤ 0 := by omega
              have HG := sumw n x i F hn hi9 hx256 (by omega) HF.out
              have HR' : Hid (R = (n + x * 128 ^ i, i + 1, 0)) := by have := HE.out; rw [if_neg (by omega), if_pos (by omega)] at this; exact this
              clear HE h
              (try clear h9); (try clear hx0); (try clear h00)
              have y0 := B2.c0
              have y1 := B2.c1
              have y2 := B2.c2
              have y3 := B2.c3
              have yf0 := B2.f 0
              have yf1 := B2.f 1
              have yf2 := B2.f 2
              have yf3 := B2.f 3
              go_wp2
              refine bodyPost_ret (v := .tuple #[.agg #[.bool false, .slice (some ⟨rb, off, none⟩) L cap, .int .i64 ((p : Int) + i + 1), .int .i64 0], .int .u64 ((n + x % 128 * 128 ^ i : Nat) : Int)]) (by rw [results_cell_tmp rfl, ← HG.out]; go_simp) rfl ⟨?_, ?_⟩
              · rw [HR'.out, Nat.mod_eq_of_lt (by omega)]
                simp [stepAt]
                omega
              · exact (h01.on (Fr.set (S := [w.heap.size]) _ _ _ (by simp)) (by simp)).on (Fr.sets4 _ _ _ _ _ _) (by intro x hx; simp at hx; omega)
          · have hx128' : (128 : Int) ≤ x := by omega
            by_cases hi0 : 0 < i
            · have h9b : ((i : Int) == 9) = false := by rw [beq_eq_false_iff_ne]; omega
              have h0b : (0 : Int) < i := by omega
              have hx0b : ((x : Int) == 0) = false := by rw [beq_eq_false_iff_ne]; omega
              have HG := sumw n x i F hn hi9 hx256 (by omega) HF.out
              have HG2 := powu i F hi8 HF.out
              have hbd := grp_bd n (x % 128) i hn hi9 (by omega) (by omega)
              have HB : Hid (n + x % 128 * 128 ^ i < 128 ^ (i + 1)) := hbd.2.1
              have HR' : Hid (R = shortF (i + 1) (n + x % 128 * 128 ^ i) ((xs.drop p).drop (i + 1))) := by have := HE.out; rw [if_neg (by omega), if_neg (by omega)] at this; exact this
              clear HE hbd
              (try clear h9); (try clear hx0); (try clear h00)
              go_wp2
              go_round
              case rel => exact ⟨_, i + 1, congrArg (Value.int .u64) HG.out, congrArg (Value.int .u64) HG2.out, by simp, by omega, by omega, HB.out, HR'⟩
              case measure => simp [Lib.intOf]; omega
            · have h9b : ((i : Int) == 9) = false := by rw [beq_eq_false_iff_ne]; omega
              have h0b : (i : Int) ≤ 0 := by omega
              have HG := sumw n x i F hn hi9 hx256 (by omega) HF.out
              have HG2 := powu i F hi8 HF.out
              have hbd := grp_bd n (x % 128) i hn hi9 (by omega) (by omega)
              have HB : Hid (n + x % 128 * 128 ^ i < 128 ^ (i + 1)) := hbd.2.1
              have HR' : Hid (R = shortF (i + 1) (n + x % 128 * 128 ^ i) ((xs.drop p).drop (i + 1))) := by have := HE.out; rw [if_neg (by omega), if_neg (by omega)] at this; exact this
              clear HE hbd
              (try clear h9); (try clear hx0); (try clear h00)
              go_wp2
              go_round
              case rel => exact ⟨_, i + 1, congrArg (Value.int .u64) HG.out, congrArg (Value.int .u64) HG2.out, by simp, by omega, by omega, HB.out, HR'⟩
              case measure => simp [Lib.intOf]; omega
    · have hpi : (L : Int) ≤ p + i := by omega
      have HR' : Hid (R = (0, 0, 5)) := by have := E.out; rw [List.drop_drop, List.drop_eq_nil_of_le (by rw [← HL.out]; omega)] at this; exact this
      clear E
      (try clear h9); (try clear hx0); (try clear h00)
      go_wp2_with fail
      refine (xWrong_any false ao L cap (p : Int) 0 5 _).mono ?_
      rintro e w2 ⟨rfl, hF2⟩
      have B2' := B2.keep hF2 (by simp)
      have y0 := B2'.c0
      have y1 := B2'.c1
      have y2 := B2'.c2
      have y3 := B2'.c3
      have yf0 := B2'.f 0
      have yf1 := B2'.f 1
      have yf2 := B2'.f 2
      have yf3 := B2'.f 3
      clear h
      go_wp2
      refine bodyPost_ret (v := .tuple #[.agg #[.bool false, .slice ao L cap, .int .i64 (p : Int), .int .i64 5], .int .u64 0]) (by rw [results_cell_tmp rfl]; go_simp) rfl ⟨?_, ?_⟩
      · rw [HR'.out]; simp [stepAt]
      · exact (h01.then hF2).on (Fr.sets4 _ _ _ _ _ _) (by intro x hx; simp at hx; omega)
end Go.Proofs.YtdojhkgnnbdfkaaGreat
