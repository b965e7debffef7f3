/- The statements' own helpers SameInts and alive. Conditions as each names them. -/
import Derived.Test.YtdcmjoildfofcaaTi11
import Derived.Test.YtdcmjoildfofcaaTx11
namespace Go.Proofs.Ytdcmjoildfofcaa
open Go.ChangeShapes Go.WideShapes Go.ChangeAt Go.RowKit Go.Lib Go.Maps
set_option linter.unusedVariables false
set_option linter.unusedSimpArgs false

/-- The slice at ao reads as the numbers xs. -/
structure Is11 (w : World) (ao : Option Addr) (xs : List Int) : Prop where
  lies : 0 < xs.length → ∃ b off, ao = some ⟨b, off, none⟩ ∧ ∀ j, j < xs.length → w.cell? ⟨b, off + j, none⟩ = some (.int .i64 (xs.getD j 0))
theorem Is11.drewN {w : World} {ao : Option Addr} {xs : List Int} (h : Is11 w ao xs) (q : Nat) : Is11 (w.drewN q) ao xs := ⟨h.lies⟩
theorem IOw.is {base : Nat} {w : World} {o : Option Addr} {n c : Nat} {xs : List Int} (h : IOw base w o n c xs) : Is11 w o xs := by
  refine ⟨fun h0 => ?_⟩
  obtain ⟨g, e, _, _, hc⟩ := h.cells (by rw [h.len]; exact h0)
  exact ⟨g, 0, e, fun j hj => by rw [Nat.zero_add]; exact hc j (by rw [h.len]; exact hj)⟩
set_option maxHeartbeats 2000000 in
set_option maxRecDepth 100000 in
theorem same11 (a b : Option Addr) (L ca cb : Nat) (xs : List Int) (w : World) (ha : Is11 w a xs) (hb : Is11 w b xs) (hL : L = xs.length) (hLl : L < 2 ^ 40) :
    Calls Try.prog 19 #[.slice a L ca, .slice b L cb] w fun e w' => e = .returned (.bool true) ∧ Fr [] w w' := by
  have HL : Hid (L = xs.length) := hL
  have hne : ((L : Int) != L) = false := by simp
  clear hL
  by_cases h0 : 0 < L
  · obtain ⟨ba, oa, rfl, hca⟩ := ha.lies (by rw [← HL.out]; exact h0)
    obtain ⟨bb, ob, rfl, hcb⟩ := hb.lies (by rw [← HL.out]; exact h0)
    rw [← HL.out] at hca hcb
    go_enter Try.func19, Try.ntmps19
    go_wp2_with fail
    go_loopw [5] (fun ii wr => ∃ (i q : Nat), ii = .int .i64 i ∧ i ≤ L ∧ wr = w.drewN q) (fun ii _ => L - (RowKit.intOf ii).toNat)
    case atStart => exact ⟨0, 0, rfl, Nat.zero_le _, rfl⟩
    case round =>
      obtain ⟨i, q, rfl, hiL, rfl⟩ := hrel
      by_cases hi : i < L
      · have hx := hca i hi
        have hy := hcb i hi
        obtain ⟨x, hxx⟩ : ∃ x, x = xs.getD i 0 := ⟨_, rfl⟩
        rw [← hxx] at hx hy
        clear hxx hca hcb
        have hb1 : (x != x) = false := by simp
        go_wp2_with fail
        go_quiet (fail)
        go_wp2
        go_roundw
        case rel => exact ⟨i + 1, q + nq, by simp, by omega, by simp⟩
        case measure => simp [RowKit.intOf]; omega
      · go_wp2
        go_ret
        exact ⟨rfl, Fr.drewN _ _ _⟩
  · obtain rfl : L = 0 := by omega
    go_enter Try.func19, Try.ntmps19
    go_wp2_with fail
    refine wp_loop_rounds 1 ?_
    rw [rounds_succ]
    go_wp2
    go_ret
    exact ⟨rfl, Fr.refl _ _⟩
def ka : ByteArray := ⟨#[97]⟩
def kb : ByteArray := ⟨#[98]⟩
def L1 : Lg := [(1, [ka])]
def L2 : Lg := L1 ++ [(2, [kb])]
def L3 : Lg := L2 ++ [(3, [ka, kb, ka])]
theorem ka_ne : ka ≠ kb := by
  intro h
  have : ka.data = kb.data := by rw [h]
  simp [ka, kb] at this
theorem kw1 : keysW (lets ⟨#[97]⟩ 1) = [ka] := by rfl
theorem kw2 : keysW (lets ⟨#[98]⟩ 1) = [kb] := by rfl
theorem kw3 : keysW (lets ⟨#[97, 98, 97]⟩ 3) = [ka, kb, ka] := by rfl
theorem lets_ok (s : ByteArray) (n : Nat) (h : n ≤ s.size) : ∀ x ∈ lets s n, okW x := by
  intro x hx
  obtain ⟨i, hi, rfl⟩ := List.mem_map.1 hx
  have hi : i < n := by simpa using hi
  have : (s.extract i (i + 1)).size = 1 := by rw [ByteArray.size_extract]; omega
  exact ⟨by show 1 ≤ (s.extract i (i + 1)).size; omega, by show (s.extract i (i + 1)).size ≤ 64; omega, by show (0 : Nat) ≤ 1024; omega, fun h => rfl⟩
theorem lets_length (s : ByteArray) (n : Nat) : (lets s n).length = n := by simp [lets]
theorem lets_okT (m : Int) (s : ByteArray) (n : Nat) (h : n ≤ s.size) (hm : 1 ≤ m ∧ m ≤ 65536) (hn : n ≤ 32) : okT m (lets s n) := ⟨hm.1, hm.2, by rw [lets_length]; exact hn, lets_ok s n h⟩
theorem WOw.rs11 {w0 w : World} {ro : Option Addr} {rc : Nat} {s : ByteArray} {n : Nat} (h : WOw w0 w ro n rc (lets s n)) (hn : n ≤ s.size) (hl : n ≤ 32) : WRs w ro (lets s n) := h.rs (by rw [lets_length]; omega) (fun x hx => by have := lets_ok s n hn x hx; exact ⟨by have := this.2.1; omega, by have := this.2.2.1; omega⟩)
theorem WOw.far11 {w0 w : World} {ro : Option Addr} {N rc : Nat} {ws : List Wt} (h : WOw w0 w ro N rc ws) {B : List Nat} (hB : ∀ j ∈ B, j < w0.heap.size) : 0 < ws.length → ∀ a, ro = some a → a.block ∉ B := by
  intro h0 a ha hm
  have hN := h.len
  rcases h.row.2 with ⟨hh, h1⟩ | ⟨g, cap, cur, hh, hb, _⟩
  · omega
  · cases hh
    cases ha
    have hm2 : g < w0.heap.size := hB _ hm
    omega
theorem lst1a : lst L1 ka = 1 := by
  rw [show L1 = [] ++ [((1 : Int), [ka])] from rfl, lst_snoc, if_pos (by simp)]
theorem lst1b : lst L1 kb = 0 := by
  rw [show L1 = [] ++ [((1 : Int), [ka])] from rfl, lst_snoc, if_neg (by simpa using ka_ne.symm), lst_nil]
theorem lst2a : lst L2 ka = 1 := by
  rw [L2, lst_snoc, if_neg (by simpa using ka_ne), lst1a]
theorem lst2b : lst L2 kb = 2 := by
  rw [L2, lst_snoc, if_pos (by simp)]
theorem lst3a : lst L3 ka = 3 := by
  rw [L3, lst_snoc, if_pos (by simp)]
abbrev no11 : Int → Prop := fun _ => False
theorem op2 (m : Int) : Op11 L2 no11 m ↔ m = 1 ∨ m = 2 := by
  simp [Op11, L2, L1, no11, eq_comm]
theorem op3 (m : Int) : Op11 L3 no11 m ↔ m = 1 ∨ m = 2 ∨ m = 3 := by
  simp [Op11, L3, L2, L1, no11, eq_comm]
theorem op1 (m : Int) : Op11 L1 no11 m ↔ m = 1 := by
  simp [Op11, L1, no11, eq_comm]
theorem ad1 {xs : List Int} (h : AdT [] no11 [ka] xs) : xs = [] := by
  refine List.eq_nil_iff_forall_not_mem.2 (fun m hm => ?_)
  obtain ⟨⟨⟨p, hp, _⟩, _⟩, _⟩ := (h.2 m).1 hm
  simp at hp
theorem ad2 {xs : List Int} (h : AdT L1 no11 [kb] xs) : xs = [] := by
  refine List.eq_nil_iff_forall_not_mem.2 (fun m hm => ?_)
  obtain ⟨h1, k, hk, e⟩ := (h.2 m).1 hm
  simp at hk
  rw [hk, lst1b] at e
  have := (op1 m).1 h1
  omega
theorem ad3 {xs : List Int} (h : AdT L2 no11 [ka, kb, ka] xs) : xs = [1, 2] := by
  refine Ris.one h.1 (by simp [Ris]) (fun m => ?_)
  rw [h.2 m, op2]
  constructor
  · rintro ⟨h1, _⟩; simpa using h1
  · intro h1
    have h1 : m = 1 ∨ m = 2 := by simpa using h1
    refine ⟨h1, ?_⟩
    rcases h1 with rfl | rfl
    · exact ⟨ka, by simp, lst2a⟩
    · exact ⟨kb, by simp, lst2b⟩
theorem dep3 (m : Int) : Dep L3 3 m ↔ m = 1 ∨ m = 2 := by
  rw [L3, dep_snoc]
  constructor
  · rintro (h | ⟨_, _, k, hk, e⟩)
    · obtain ⟨A, js, C, e, _⟩ := h
      have : ((3 : Int), js) ∈ L2 := by rw [e]; simp
      simp [L2, L1] at this
    · simp at hk
      rcases hk with rfl | rfl | rfl
      · rw [lst2a] at e; omega
      · rw [lst2b] at e; omega
      · rw [lst2a] at e; omega
  · rintro (rfl | rfl)
    · exact Or.inr ⟨rfl, by decide, ka, by simp, lst2a⟩
    · exact Or.inr ⟨rfl, by decide, kb, by simp, lst2b⟩
theorem wt3 {ys : List Int} (h : WtT L3 (Op11 L3 no11) 3 ys) : ys = [1, 2] := by
  refine Ris.one h.1 (by simp [Ris]) (fun m => ?_)
  rw [h.2 m, op3, dep3]
  simp
  omega
set_option maxHeartbeats 4000000 in
set_option maxRecDepth 100000 in
theorem alive11_any (w : World) : Calls Try.prog 6 #[] w fun e w' => e = .returned (.bool true) ∧ Fr [] w w' := by
  go_enter Try.func6, Try.ntmps6
  go_wp2_with fail
  refine (tl_new w).mono ?_
  rintro e w1 ⟨tb, B, rfl, hT, hB, hF1⟩
  have HT1 : Hid (Tl w1 tb B 0 [] no11) := hT
  have HB1 : Hid (∀ j ∈ B, w.heap.size ≤ j) := hB
  clear hT hB
  go_wp2_with fail
  refine (txn_any 1 ⟨#[97]⟩ _ ⟨by omega, by omega⟩ (by decide)).mono ?_
  rintro e w2 ⟨ro, rc, rfl, hO, hF2⟩
  rw [show ByteArray.size ⟨#[97]⟩ = 1 from rfl] at hO ⊢
  have HT2 := HT1.out.quiet hF2
  have HA : Hid (Calls _ _ _ _ _) := tl_add 1 ro 1 rc (lets ⟨#[97]⟩ 1) w2 HT2 (hO.rs11 (by decide) (by decide)) (by rw [lets_length]) (lets_okT 1 _ 1 (by decide) ⟨by omega, by omega⟩ (by decide)) (by simp) (by omega) (hO.far11 HT1.out.mine)
  have hG2 := hF1.then hF2
  clear hO HT2 hF1 hF2 HT1
  go_wp2_with fail
  refine Calls.mono HA.out ?_
  rintro e w3 ⟨xs, B3, rfl, hA, hT, hB, hF3⟩
  rw [kw1] at hA hT
  obtain rfl := ad1 hA
  have hG3 : Fr [] w w3 := hG2.on hF3 HB1.out
  have HB3 : Hid (∀ j ∈ B3, w.heap.size ≤ j) := fun j hj => by
    rcases hB j hj with h1 | h1
    · exact HB1.out j h1
    · exact Nat.le_trans hG2.size h1
  have HT3 : Hid (Tl w3 tb B3 65 L1 no11) := hT
  rw [show (((([] : List Int).length) : Nat) : Int) = 0 from rfl]
  clear hA hT hB hF3 HA HB1 hG2
  go_wp2_with fail
  refine (txn_any 2 ⟨#[98]⟩ _ ⟨by omega, by omega⟩ (by decide)).mono ?_
  rintro e w4 ⟨ro, rc, rfl, hO, hF4⟩
  rw [show ByteArray.size ⟨#[98]⟩ = 1 from rfl] at hO ⊢
  have HT4 := HT3.out.quiet hF4
  have HA : Hid (Calls _ _ _ _ _) := tl_add 2 ro 1 rc (lets ⟨#[98]⟩ 1) w4 HT4 (hO.rs11 (by decide) (by decide)) (by rw [lets_length]) (lets_okT 2 _ 1 (by decide) ⟨by omega, by omega⟩ (by decide)) (by simp [L1]) (by omega) (hO.far11 HT3.out.mine)
  have hG4 := hG3.then hF4
  clear hO HT4 hG3 hF4 HT3
  go_wp2_with fail
  refine Calls.mono HA.out ?_
  rintro e w5 ⟨xs, B5, rfl, hA, hT, hB, hF5⟩
  rw [kw2] at hA hT
  obtain rfl := ad2 hA
  have hG5 : Fr [] w w5 := hG4.on hF5 HB3.out
  have HB5 : Hid (∀ j ∈ B5, w.heap.size ≤ j) := fun j hj => by
    rcases hB j hj with h1 | h1
    · exact HB3.out j h1
    · exact Nat.le_trans hG4.size h1
  have HT5 : Hid (Tl w5 tb B5 130 L2 no11) := hT
  rw [show (((([] : List Int).length) : Nat) : Int) = 0 from rfl]
  clear hA hT hB hF5 HA HB3 hG4
  go_wp2_with fail
  refine (txn_any 3 ⟨#[97, 98, 97]⟩ _ ⟨by omega, by omega⟩ (by decide)).mono ?_
  rintro e w6 ⟨ro, rc, rfl, hO, hF6⟩
  rw [show ByteArray.size ⟨#[97, 98, 97]⟩ = 3 from rfl] at hO ⊢
  have HT6 := HT5.out.quiet hF6
  have HA : Hid (Calls _ _ _ _ _) := tl_add 3 ro 3 rc (lets ⟨#[97, 98, 97]⟩ 3) w6 HT6 (hO.rs11 (by decide) (by decide)) (by rw [lets_length]) (lets_okT 3 _ 3 (by decide) ⟨by omega, by omega⟩ (by decide)) (by simp [L2, L1]) (by omega) (hO.far11 HT5.out.mine)
  have hG6 := hG5.then hF6
  clear hO HT6 hG5 hF6 HT5
  go_wp2_with fail
  refine Calls.mono HA.out ?_
  rintro e w7 ⟨xs, B7, rfl, hA, hT, hB, hF7⟩
  rw [kw3] at hA hT
  obtain rfl := ad3 hA
  have hG7 : Fr [] w w7 := hG6.on hF7 HB5.out
  have HT7 : Hid (Tl w7 tb B7 195 L3 no11) := hT
  rw [show (((([1, 2] : List Int).length) : Nat) : Int) = 2 from rfl]
  clear hA hT hB hF7 HA HB5 hG6
  go_wp2_with fail
  refine (tl_waits 3 _ HT7.out ((op3 3).2 (by omega))).mono ?_
  rintro e w8 ⟨so, N, c, ys, rfl, hO, hW, hF8⟩
  obtain rfl := wt3 hW
  obtain rfl : N = 2 := hO.len
  have HO8 : Hid (IOw w7.heap.size w8 so 2 c [1, 2]) := hO
  have HT8 : Hid (Tl w8 tb B7 195 L3 no11) := HT7.out.quiet hF8
  have hG8 := hG7.then hF8
  clear hO hW hF8 hG7 HT7
  go_wp2_with fail
  refine (tl_done_no 3 1 _ HT8.out ((op3 3).2 (by omega)) ((op3 1).2 (by omega)) ((dep3 1).2 (by omega))).mono ?_
  rintro e w9 ⟨rfl, hF9⟩
  have HT9 : Hid (∀ W, Fr [] w9 W → Tl W tb B7 195 L3 no11) := fun W hf => HT8.out.quiet (hF9.then hf)
  have HO9 : Hid (IOw w7.heap.size w9 so 2 c [1, 2]) := HO8.out.keep hF9
  have hG9 := hG8.then hF9
  have hla := lst3a
  have HLa : Hid (lst L3 ka = 3) := hla
  clear HT8 HO8 hF9 hG8 hla
  have HS : Hid (Calls _ _ _ _ _) := same11 so (some ⟨w9.heap.size, 0, none⟩) 2 c 2 [1, 2] (w9.alloc (.cells #[.int .i64 1, .int .i64 2] 3)) (HO9.out.keep (Fr.alloc _ _ _)).is ⟨fun _ => ⟨w9.heap.size, 0, rfl, fun j hj => by
    rw [cell_of_row _ _ _ _ _ _ (heap_alloc_new w9 _)]
    match j, hj with
    | 0, _ => rfl
    | 1, _ => rfl⟩⟩ rfl (by decide)
  go_wp2_with fail
  refine Calls.mono HS.out ?_
  rintro e wa ⟨rfl, hFa⟩
  have hFa' : Fr [] w9 wa := (Fr.alloc [] _ _).then hFa
  have HLs : Hid (Calls _ _ _ _ _) := tl_last ka wa (HT9.out _ hFa') (by decide)
  rw [HLa.out] at HLs
  go_wp2_with fail
  refine Calls.mono HLs.out ?_
  rintro e wb ⟨rfl, hFb⟩
  have hGb := hG9.then (hFa'.then hFb)
  go_wp2
  go_ret
  exact ⟨rfl, hGb⟩
end Go.Proofs.Ytdcmjoildfofcaa
