/- Texts of this claim laid together, one behind the other: contracts and plain lemmas; conditions as each names them. -/
import Derived.Test.YtdojhkgnnbdfkaaGreatGp3
/- What the codec's reader does, call by call: contracts of short, NewReader, there, Left, End, take, Var, Int, Fixed, Text. Conditions: the reader's bytes are fewer than 2^41. -/
namespace Go.Proofs.YtdojhkgnnbdfkaaGreat
open Go.ChangeShapes Go.WideShapes Go.ChangeAt Go.RowKit Go.Lib

set_option maxHeartbeats 2000000 in
set_option maxRecDepth 100000 in
theorem short_any (r off cap : Nat) (xs : List Nat) (w : World) (hb : ∀ x ∈ xs, x < 256) (hlen : xs.length < 2^41)
    (hc : ∀ j, j < xs.length → w.cell? ⟨r, off + j, none⟩ = some (.int .u8 ((xs.getD j 0 : Nat) : Int))) :
    Calls Tryz.prog 127 #[.slice (some ⟨r, off, none⟩) xs.length cap] w fun e w' => e = .returned (.tuple #[.int .u64 ((shortF 0 0 xs).1 : Nat), .int .i64 ((shortF 0 0 xs).2.1 : Nat), .int .i64 ((shortF 0 0 xs).2.2 : Nat)]) ∧ w = w' := by
  obtain ⟨R, hR⟩ : ∃ R, R = shortF 0 0 xs := ⟨_, rfl⟩
  rw [← hR]
  have HR : Hid (R = shortF 0 0 (xs.drop 0)) := hR
  clear hR
  obtain ⟨L, hL⟩ : ∃ L, L = xs.length := ⟨_, rfl⟩
  rw [← hL] at hlen hc ⊢
  have HL : Hid (L = xs.length) := hL
  clear hL
  go_enter Tryz.func127, Tryz.ntmps127
  go_wp2_with fail
  go_loop [5, 10] (fun vv ii => ∃ (n i : Nat), vv = .int .u64 n ∧ ii = .int .i64 i ∧ i ≤ L ∧ i ≤ 9 ∧ n < 128 ^ i ∧ Hid (R = shortF i n (xs.drop i))) (fun _ ii => L - (RowKit.intOf ii).toNat)
  case atStart => exact ⟨0, 0, rfl, rfl, Nat.zero_le _, by omega, by omega, HR⟩
  case round =>
    obtain ⟨n, i, rfl, rfl, hiL, hi9, hn, E⟩ := hrel
    by_cases hiL' : i < L
    · have hcx := hc i hiL'
      obtain ⟨x, hx⟩ : ∃ x, x = xs.getD i 0 := ⟨_, rfl⟩
      rw [← hx] at hcx
      have hget : xs[i]? = some x := by rw [hx, List.getD, List.getElem?_eq_getElem (by rw [← HL.out]; exact hiL')]; rfl
      have hx256 : x < 256 := hb x (List.mem_of_getElem? hget)
      have hdr : xs.drop i = x :: xs.drop (i + 1) := by
        obtain ⟨hlt, hge⟩ := List.getElem?_eq_some_iff.1 hget
        rw [List.drop_eq_getElem_cons hlt, hge]
      have E2 : R = shortF i n (x :: xs.drop (i + 1)) := by rw [← hdr]; exact E.out
      rw [shortF_cons] at E2
      have HE : Hid (R = _) := E2
      clear E2 hdr hget hx hc E HR hb HL
      by_cases h9 : i = 9
      · have h9b : ((i : Int) == 9) = true := by rw [beq_iff_eq]; omega
        have h0b : (0 : Int) < i := by omega
        by_cases hx1 : 1 < x
        · have hx1b : (1 : Int) < x := by omega
          have HR' : Hid (R = (0, 0, 4)) := by have := HE.out; rw [if_pos (Or.inl ⟨h9, hx1⟩)] at this; exact this
          clear HE h9
          go_wp2
          go_ret3
          rw [HR'.out]
          exact ⟨rfl, rfl⟩
        · have hx1b : (x : Int) ≤ 1 := by omega
          by_cases hx0 : x = 0
          · have hx0b : ((x : Int) == 0) = true := by rw [beq_iff_eq]; omega
            have HR' : Hid (R = (0, 0, 4)) := by have := HE.out; rw [if_pos (Or.inr ⟨by omega, hx0⟩)] at this; exact this
            clear HE h9 hx0
            go_wp2
            go_ret3
            rw [HR'.out]
            exact ⟨rfl, rfl⟩
          · have hx0b : ((x : Int) == 0) = false := by rw [beq_eq_false_iff_ne]; omega
            have hx128 : (x : Int) < 128 := by omega
            have hg := grp n x i hn hi9 hx256 (by omega)
            have HR' : Hid (R = (n + x * 128 ^ i, i + 1, 0)) := by have := HE.out; rw [if_neg (by omega), if_pos (by omega)] at this; exact this
            have HG : Hid (_ = _) := hg
            clear HE h9 hg
            go_wp2
            go_ret3
            rw [HR'.out, HG.out, Nat.mod_eq_of_lt (by omega)]
            exact ⟨rfl, rfl⟩
      · have h9b : ((i : Int) == 9) = false := by rw [beq_eq_false_iff_ne]; omega
        have hi8 : i ≤ 8 := by omega
        by_cases h00 : 0 < i ∧ x = 0
        · have h0b : (0 : Int) < i := by omega
          have hx0b : ((x : Int) == 0) = true := by rw [beq_iff_eq]; omega
          have HR' : Hid (R = (0, 0, 4)) := by have := HE.out; rw [if_pos (Or.inr h00)] at this; exact this
          clear HE h9 h00
          go_wp2
          go_ret3
          rw [HR'.out]
          exact ⟨rfl, rfl⟩
        · have hg := grp n x i hn hi9 hx256 (by omega)
          have hbd := grp_bd n (x % 128) i hn hi9 (by omega) (by omega)
          have HG : Hid (_ = _) := hg
          clear hg
          by_cases hx128 : x < 128
          · have hx128' : (x : Int) < 128 := by omega
            have HR' : Hid (R = (n + x * 128 ^ i, i + 1, 0)) := by have := HE.out; rw [if_neg (by omega), if_pos (by omega)] at this; exact this
            by_cases hi0 : 0 < i
            · have h0b : (0 : Int) < i := by omega
              have hx0b : ((x : Int) == 0) = false := by rw [beq_eq_false_iff_ne]; omega
              clear HE h9 h00
              go_wp2
              go_ret3
              rw [HR'.out, HG.out, Nat.mod_eq_of_lt hx128]
              exact ⟨rfl, rfl⟩
            · have h0b : (i : Int) ≤ 0 := by omega
              clear HE h9 h00
              go_wp2
              go_ret3
              rw [HR'.out, HG.out, Nat.mod_eq_of_lt hx128]
              exact ⟨rfl, rfl⟩
          · have hx128' : (128 : Int) ≤ x := by omega
            have HR' : Hid (R = shortF (i + 1) (n + x % 128 * 128 ^ i) (xs.drop (i + 1))) := by have := HE.out; rw [if_neg (by omega), if_neg (by omega)] at this; exact this
            have hx0b : ((x : Int) == 0) = false := by rw [beq_eq_false_iff_ne]; omega
            have HB : Hid (n + x % 128 * 128 ^ i < 128 ^ (i + 1)) := hbd.2.1
            by_cases hi0 : 0 < i
            · have h0b : (0 : Int) < i := by omega
              clear HE h9 h00 hbd
              go_wp2
              go_round
              case rel => exact ⟨_, i + 1, congrArg (Value.int .u64) HG.out, by simp, by omega, by omega, HB.out, HR'⟩
              case measure => simp [RowKit.intOf]; omega
            · have h0b : (i : Int) ≤ 0 := by omega
              clear HE h9 h00 hbd
              go_wp2
              go_round
              case rel => exact ⟨_, i + 1, congrArg (Value.int .u64) HG.out, by simp, by omega, by omega, HB.out, HR'⟩
              case measure => simp [RowKit.intOf]; omega
    · have HR' : Hid (R = (0, 0, 5)) := by
        have := E.out
        rw [List.drop_eq_nil_of_le (by rw [← HL.out]; omega)] at this
        exact this
      clear E HR
      go_wp2
      go_ret3
      rw [HR'.out]
      exact ⟨rfl, rfl⟩

/-- No bytes: whatever the address. -/
theorem short_none (ao : Option Addr) (cap : Nat) (w : World) :
    Calls Tryz.prog 127 #[.slice ao 0 cap] w fun e w' => e = .returned (.tuple #[.int .u64 0, .int .i64 0, .int .i64 5]) ∧ w = w' := by
  go_enter Tryz.func127, Tryz.ntmps127
  go_wp2_with fail
  refine wp_loop_rounds 1 ?_
  rw [rounds_succ]
  go_wp2
  go_ret3
  exact ⟨rfl, rfl⟩

/-- The slice v reads as the bytes xs, which lie in block r. -/
structure Sl (w : World) (r : Nat) (ao : Option Addr) (xs : List Nat) : Prop where
  lies : 0 < xs.length → ∃ off, ao = some ⟨r, off, none⟩ ∧ ∀ j, j < xs.length → w.cell? ⟨r, off + j, none⟩ = some (.int .u8 ((xs.getD j 0 : Nat) : Int))
  low : ∀ x ∈ xs, x < 256
  len : xs.length < 2^41
  blk : r < w.heap.size
theorem Sl.keep {S : List Nat} {w w' : World} {r : Nat} {ao : Option Addr} {xs : List Nat} (h : Sl w r ao xs) (hf : Fr S w w') (hr : r ∉ S) : Sl w' r ao xs := by
  refine ⟨fun h0 => ?_, h.low, h.len, Nat.lt_of_lt_of_le h.blk hf.size⟩
  obtain ⟨off, e, hc⟩ := h.lies h0
  exact ⟨off, e, fun j hj => (World.cell?_of_block (hf.block r h.blk hr)).trans (hc j hj)⟩

theorem short_sl (r : Nat) (ao : Option Addr) (L cap : Nat) (xs : List Nat) (w : World) (h : Sl w r ao xs) (hL : L = xs.length) :
    Calls Tryz.prog 127 #[.slice ao L cap] w fun e w' => e = .returned (.tuple #[.int .u64 ((shortF 0 0 xs).1 : Nat), .int .i64 ((shortF 0 0 xs).2.1 : Nat), .int .i64 ((shortF 0 0 xs).2.2 : Nat)]) ∧ w = w' := by
  subst hL
  by_cases h0 : 0 < xs.length
  · obtain ⟨off, rfl, hc⟩ := h.lies h0
    exact short_any r off cap xs w h.low h.len hc
  · have : xs = [] := List.eq_nil_of_length_eq_zero (by omega)
    subst this
    exact short_none ao cap w

/-- A reader: its struct lies in block g, the bytes ahead of it are xs, in block r; er went wrong. -/
structure Rd (w : World) (g r : Nat) (xs : List Nat) (er : Nat) (ao : Option Addr) (cap : Nat) : Prop where
  box : w.heap[g]? = some (.cells #[.bool true, .slice ao xs.length cap, .int .i64 (er : Int)] 178 (0, 0))
  sl : Sl w r ao xs
  ne : r ≠ g
  cap : xs.length ≤ cap
theorem Rd.lt {w : World} {g r : Nat} {xs : List Nat} {er : Nat} {ao : Option Addr} {cap : Nat} (h : Rd w g r xs er ao cap) : g < w.heap.size := lt_of_block h.box
theorem Rd.c0 {w : World} {g r : Nat} {xs : List Nat} {er : Nat} {ao : Option Addr} {cap : Nat} (h : Rd w g r xs er ao cap) : w.cell? ⟨g, 0, none⟩ = some (.bool true) := by simp [World.cell?, h.box]
theorem Rd.c1 {w : World} {g r : Nat} {xs : List Nat} {er : Nat} {ao : Option Addr} {cap : Nat} (h : Rd w g r xs er ao cap) : w.cell? ⟨g, 1, none⟩ = some (.slice ao xs.length cap) := by simp [World.cell?, h.box]
theorem Rd.c2 {w : World} {g r : Nat} {xs : List Nat} {er : Nat} {ao : Option Addr} {cap : Nat} (h : Rd w g r xs er ao cap) : w.cell? ⟨g, 2, none⟩ = some (.int .i64 (er : Int)) := by simp [World.cell?, h.box]
theorem Rd.f1 {w : World} {g r : Nat} {xs : List Nat} {er : Nat} {ao : Option Addr} {cap : Nat} (h : Rd w g r xs er ao cap) : w.frozen? ⟨g, 1, none⟩ = false := by simp [World.frozen?, h.box]
theorem Rd.f2 {w : World} {g r : Nat} {xs : List Nat} {er : Nat} {ao : Option Addr} {cap : Nat} (h : Rd w g r xs er ao cap) : w.frozen? ⟨g, 2, none⟩ = false := by simp [World.frozen?, h.box]
theorem Rd.keep {S : List Nat} {w w' : World} {g r : Nat} {xs : List Nat} {er : Nat} {ao : Option Addr} {cap : Nat} (h : Rd w g r xs er ao cap) (hf : Fr S w w') (hg : g ∉ S) (hr : r ∉ S) : Rd w' g r xs er ao cap :=
  ⟨hf.keep h.box hg, h.sl.keep hf hr, h.ne, h.cap⟩

set_option maxHeartbeats 1000000 in
theorem rThere_any (g : Nat) (w : World) (h : w.cell? ⟨g, 0, none⟩ = some (.bool true)) : Calls Tryz.prog 123 #[.pointer (some ⟨g, 0, none⟩)] w fun e w' => e = .returned (.bool true) ∧ w = w' := by
  go_enter Tryz.func123, Tryz.ntmps123
  go_wp2
  go_ret
  exact ⟨rfl, rfl⟩
set_option maxHeartbeats 1000000 in
theorem left_any (g r : Nat) (xs : List Nat) (er : Nat) (ao : Option Addr) (cap : Nat) (w : World) (h : Rd w g r xs er ao cap) : Calls Tryz.prog 124 #[.pointer (some ⟨g, 0, none⟩)] w fun e w' => e = .returned (.int .i64 (xs.length : Nat)) ∧ w = w' := by
  have c1 := h.c1
  go_enter Tryz.func124, Tryz.ntmps124
  go_wp2_with fail
  refine (rThere_any g _ h.c0).mono ?_
  rintro e w' ⟨rfl, rfl⟩
  go_wp2
  go_ret
  exact ⟨rfl, rfl⟩
def endOf (er : Nat) (n : Nat) : Nat := if er ≠ 0 then er else if 0 < n then 4 else 0
set_option maxHeartbeats 1000000 in
theorem end_any (g r : Nat) (xs : List Nat) (er : Nat) (ao : Option Addr) (cap : Nat) (w : World) (h : Rd w g r xs er ao cap) : Calls Tryz.prog 110 #[.pointer (some ⟨g, 0, none⟩)] w fun e w' => e = .returned (.int .i64 (endOf er xs.length : Nat)) ∧ w = w' := by
  have c1 := h.c1
  have c2 := h.c2
  have c0 := h.c0
  obtain ⟨L, hL⟩ : ∃ L, L = xs.length := ⟨_, rfl⟩
  rw [← hL] at c1 ⊢
  clear hL h
  by_cases he : er = 0
  · subst he
    by_cases hl : 0 < L
    · have hl' : (0 : Int) < L := by omega
      have H : Hid (endOf 0 L = 4) := by simp [Hid, endOf, hl]
      go_enter Tryz.func110, Tryz.ntmps110
      go_wp2_with fail
      refine (rThere_any g _ c0).mono ?_
      rintro e w' ⟨rfl, rfl⟩
      go_wp2
      go_ret
      rw [H.out]
      exact ⟨rfl, rfl⟩
    · have hl' : (L : Int) ≤ 0 := by omega
      have H : Hid (endOf 0 L = 0) := by simp [Hid, endOf, hl]
      go_enter Tryz.func110, Tryz.ntmps110
      go_wp2_with fail
      refine (rThere_any g _ c0).mono ?_
      rintro e w' ⟨rfl, rfl⟩
      go_wp2
      go_ret
      rw [H.out]
      exact ⟨rfl, rfl⟩
  · have heb : ((er : Int) != 0) = true := by rw [bne_iff_ne]; omega
    have H : Hid (endOf er L = er) := by simp [Hid, endOf, he]
    clear he
    go_enter Tryz.func110, Tryz.ntmps110
    go_wp2_with fail
    refine (rThere_any g _ c0).mono ?_
    rintro e w' ⟨rfl, rfl⟩
    go_wp2
    go_ret
    rw [H.out]
    exact ⟨rfl, rfl⟩
set_option maxHeartbeats 1000000 in
theorem cVar_any (r : Nat) (ao : Option Addr) (L cap : Nat) (xs : List Nat) (w : World) (h : Sl w r ao xs) (hL : L = xs.length) :
    Calls Tryz.prog 126 #[.slice ao L cap] w fun e w' => e = .returned (.tuple #[.int .u64 ((shortF 0 0 xs).1 : Nat), .int .i64 ((shortF 0 0 xs).2.1 : Nat), .int .i64 ((shortF 0 0 xs).2.2 : Nat)]) ∧ w = w' := by
  have HL : Hid (L = xs.length) := hL
  clear hL
  go_enter Tryz.func126, Tryz.ntmps126
  go_wp2_with fail
  refine (short_sl r ao L cap xs w h HL.out).mono ?_
  rintro e w' ⟨rfl, rfl⟩
  go_wp2
  go_ret3
  exact ⟨rfl, rfl⟩
theorem newReader_end {w w1 : World} {xs : List Nat} {L : Nat} (hgrow : w.grownBy w1 none) (hrow : (w1.setRow w.heap.size (bts xs).toArray).heap[w.heap.size]? = some (.cells (bts xs).toArray 5 (0, 0))) (hL : L = xs.length) (hb : ∀ x ∈ xs, x < 256) (hlen : xs.length < 2^41) :
    w.heap.size < w1.heap.size ∧ Rd ((w1.setRow w.heap.size (bts xs).toArray).alloc (.cells #[.bool true, .slice (some ⟨w.heap.size, 0, none⟩) L L, .int .i64 0] 178)) w1.heap.size w.heap.size xs 0 (some ⟨w.heap.size, 0, none⟩) xs.length ∧
      Fr [] w ((w1.setRow w.heap.size (bts xs).toArray).alloc (.cells #[.bool true, .slice (some ⟨w.heap.size, 0, none⟩) L L, .int .i64 0] 178)) := by
  subst hL
  have hsz : (w1.setRow w.heap.size (bts xs).toArray).heap.size = w1.heap.size := by simp [World.setRow]
  have hlt : w.heap.size < w1.heap.size := by have := lt_of_block hrow; omega
  refine ⟨hlt, ⟨?_, ⟨fun h0 => ⟨0, rfl, fun j hj => ?_⟩, hb, hlen, by simp; omega⟩, by omega, Nat.le_refl _⟩, ?_⟩
  · rw [← hsz]; exact heap_alloc_new _ _
  · have h1 : ((w1.setRow w.heap.size (bts xs).toArray).alloc (.cells #[.bool true, .slice (some ⟨w.heap.size, 0, none⟩) xs.length xs.length, .int .i64 0] 178)).heap[w.heap.size]? = some (.cells (bts xs).toArray 5 (0, 0)) := by
      rw [Below.heap_alloc _ _ _ (by omega)]; exact hrow
    rw [cell_of_row _ _ _ _ _ _ h1, Nat.zero_add]
    simpa using bts_get xs j hj
  · exact ((Fr.grown (S := []) hgrow (by simp)).trans (T := [w.heap.size]) (U := []) (Fr.setRow _ _ _) (by simp) (by intro x hx; simp at hx; omega)).then (Fr.alloc _ _ _)
set_option maxHeartbeats 1000000 in
set_option maxRecDepth 100000 in
theorem newReader_any (ao : Option Addr) (L cap : Nat) (xs : List Nat) (w : World) (hL : L = xs.length) (hsrc : 0 < L → ∃ a, ao = some a ∧ ∀ j u, (bts xs)[j]? = some u → w.cell? (a.add j) = some u) (hb : ∀ x ∈ xs, x < 256) (hlen : xs.length < 2^41) :
    Calls Tryz.prog 105 #[.slice ao L cap] w fun e w' => ∃ g, e = .returned (.pointer (some ⟨g, 0, none⟩)) ∧ w.heap.size < g ∧ Rd w' g w.heap.size xs 0 (some ⟨w.heap.size, 0, none⟩) xs.length ∧ Fr [] w w' := by
  obtain ⟨i0, hi, hz0, hz1, hz2⟩ := info_parts Tryz.infoB
  rw [← hL] at hlen
  have HL : Hid (L = xs.length) := hL
  clear hL
  go_enter Tryz.func105, Tryz.ntmps105
  go_wp2_with (at_make; refine wpList_make_full _ rfl (.tmp 5) (.tmp 5) 76 rfl 0 5 i0 (.int .u8 0) 1 Tryz.undBs hi hz0 hz1 .i64 .i64 L L L rfl rfl rfl rfl ?b2 ?b3 ?b4 ?_)
  case b2 => rw [hz2]; omega
  case b3 => unfold maxLen; omega
  case b4 => exact Nat.zero_le _
  intro w1 hown hgrow
  obtain ⟨cur, hcur, hcs⟩ := own_lit hown
  have hcl : (bts xs).length = L := by rw [bts_length, HL.out]
  by_cases h0 : 0 < L
  · obtain ⟨a, rfl, hrow⟩ := hsrc h0
    have hrow1 : ∀ j u, (bts xs)[j]? = some u → w1.cell? (a.add j) = some u := fun j u hj => hgrow.cell (hrow j u hj) (by simp)
    have hcp := run_copy_row (P := Tryz.prog) w1 76 76 3 5 w.heap.size 0 L L a L cap cur 5 (bts xs) Tryz.undBs Tryz.sizeB hcur (by rw [hcl]; exact (Nat.min_self L).symm) hrow1 (by omega) (bts_oneCell xs)
    rw [hcl] at hcp
    have hcur2 : cur.toList.drop (0 + L) = [] := by simp [hcs]
    rw [hcur2, List.take_zero, List.append_nil, List.nil_append] at hcp
    have HF : Hid ((w1.setRow w.heap.size (bts xs).toArray).heap[w.heap.size]? = some (.cells (bts xs).toArray 5 (0, 0))) := setRow_heap w1 _ _ _ _ _ hcur
    clear hcur hown
    go_wp2
    go_ret
    exact ⟨_, rfl, newReader_end hgrow HF.out HL.out hb (by rw [← HL.out]; exact hlen)⟩
  · obtain rfl : L = 0 := by omega
    have hx0 : xs = [] := List.eq_nil_of_length_eq_zero HL.out.symm
    subst hx0
    have hcp := run_copy_none (P := Tryz.prog) w1 76 76 3 5 (some ⟨w.heap.size, 0, none⟩) ao 0 0 0 cap Tryz.undBs Tryz.sizeB rfl
    have hc0 : cur = (bts []).toArray := by have : cur = #[] := Array.eq_empty_of_size_eq_zero hcs; rw [this]; rfl
    subst hc0
    have HC : Hid (w1.heap[w.heap.size]? = some (.cells (bts []).toArray 5 (0, 0))) := hcur
    clear hcur hown
    go_wp2
    go_ret
    refine ⟨_, rfl, ?_⟩
    have hF : Fr [] w w1 := Fr.grown (S := []) hgrow (by simp)
    have hlt := lt_of_block HC.out
    refine ⟨hlt, ⟨heap_alloc_new _ _, ⟨fun h => by simp at h, by simp, by simp, by simp; omega⟩, by omega, Nat.le_refl _⟩, hF.then (Fr.alloc _ _ _)⟩
theorem three_setCell1 {w : World} {b : Nat} {u v x y : Value} {t : TypeId} (h : w.heap[b]? = some (.cells #[u, v, x] t (0, 0))) : (w.setCell ⟨b, 1, none⟩ y).heap[b]? = some (.cells #[u, y, x] t (0, 0)) := by
  have hlt := lt_of_block h
  have h' : w.heap[b] = .cells #[u, v, x] t (0, 0) := by simpa [Array.getElem?_eq_getElem hlt] using h
  show (w.heap.modify b _)[b]? = _
  rw [Array.getElem?_eq_getElem (by simpa using hlt), Array.getElem_modify_self, h']
  rfl
theorem three_setCell2 {w : World} {b : Nat} {u v x y : Value} {t : TypeId} (h : w.heap[b]? = some (.cells #[u, v, x] t (0, 0))) : (w.setCell ⟨b, 2, none⟩ y).heap[b]? = some (.cells #[u, v, y] t (0, 0)) := by
  have hlt := lt_of_block h
  have h' : w.heap[b] = .cells #[u, v, x] t (0, 0) := by simpa [Array.getElem?_eq_getElem hlt] using h
  show (w.heap.modify b _)[b]? = _
  rw [Array.getElem?_eq_getElem (by simpa using hlt), Array.getElem_modify_self, h']
  rfl
theorem Rd.wrong {w : World} {g r : Nat} {xs : List Nat} {ao : Option Addr} {cap : Nat} (h : Rd w g r xs 0 ao cap) (c q : Nat) :
    Rd ((w.setCell ⟨g, 2, none⟩ (.int .i64 c)).drewN q) g r xs c ao cap ∧ Fr [g] w ((w.setCell ⟨g, 2, none⟩ (.int .i64 c)).drewN q) := by
  have hF : Fr [g] w ((w.setCell ⟨g, 2, none⟩ (.int .i64 c)).drewN q) := (Fr.set w _ _ (by simp)).then (Fr.drewN _ _ _)
  exact ⟨⟨three_setCell2 h.box, h.sl.keep hF (by simpa using h.ne), h.ne, h.cap⟩, hF⟩
theorem getDN_drop (xs : List Nat) (k j : Nat) : (xs.drop k).getD j 0 = xs.getD (k + j) 0 := by simp [List.getD, List.getElem?_drop]
theorem Rd.went {w : World} {g r off : Nat} {xs : List Nat} {cap : Nat} (h : Rd w g r xs 0 (some ⟨r, off, none⟩) cap) (h0 : 0 < xs.length) (k q : Nat) (hk : k ≤ xs.length) :
    Rd ((w.setCell ⟨g, 1, none⟩ (.slice (if xs.length = k then some ⟨r, off, none⟩ else some ⟨r, off + k, none⟩) (xs.length - k) (xs.length - k))).drewN q) g r (xs.drop k) 0 (if xs.length = k then some ⟨r, off, none⟩ else some ⟨r, off + k, none⟩) (xs.length - k) ∧
      Fr [g] w ((w.setCell ⟨g, 1, none⟩ (.slice (if xs.length = k then some ⟨r, off, none⟩ else some ⟨r, off + k, none⟩) (xs.length - k) (xs.length - k))).drewN q) := by
  have hF : Fr [g] w ((w.setCell ⟨g, 1, none⟩ (.slice (if xs.length = k then some ⟨r, off, none⟩ else some ⟨r, off + k, none⟩) (xs.length - k) (xs.length - k))).drewN q) := (Fr.set w _ _ (by simp)).then (Fr.drewN _ _ _)
  have hS := h.sl.keep hF (by simpa using h.ne)
  refine ⟨⟨?_, ⟨?_, fun x hx => h.sl.low x (List.mem_of_mem_drop hx), ?_, hS.blk⟩, h.ne, by rw [List.length_drop]; exact Nat.le_refl _⟩, hF⟩
  · rw [List.length_drop]; exact three_setCell1 h.box
  · intro hl
    rw [List.length_drop] at hl
    obtain ⟨off', e, hc⟩ := hS.lies h0
    cases e
    refine ⟨off + k, by rw [if_neg (by omega)], fun j hj => ?_⟩
    rw [List.length_drop] at hj
    rw [getDN_drop, Nat.add_assoc]
    exact hc (k + j) (by omega)
  · rw [List.length_drop]; have := h.sl.len; omega

/-- What a reader answers by one call, and what stands ahead of it then, and what went wrong. -/
def rdBy {α : Type} (f : List Nat → α × Nat × Nat) (z : α) (xs : List Nat) (er : Nat) : α × List Nat × Nat :=
  if er ≠ 0 then (z, xs, er) else if (f xs).2.2 ≠ 0 then (z, xs, (f xs).2.2) else ((f xs).1, xs.drop (f xs).2.1, 0)

end Go.Proofs.YtdojhkgnnbdfkaaGreat
