/- Texts of this claim laid together, one behind the other: contracts and plain lemmas; conditions as each names them. -/
import Derived.Test.YtomajifklajilaaGreatDoorGp3
import Derived.Deep.LoopGhost
import Derived.Deep.QuietTactic
import Derived.BigQuiet
/- What versions may be, how many have at most a number, what is read at a mark. Plain lemmas. -/
namespace Go.Proofs.YtomajifklajilaaGreatDoor
set_option linter.unusedVariables false
/-- May a version be? -/
def okX (x : Vn) : Prop := 1 ≤ x.num ∧ x.num ≤ 65536 ∧ x.val.size ≤ 1024 ∧ (x.drop = true → x.val = noS)
/-- Numbers rise. -/
def Ris (vs : List Vn) : Prop := vs.Pairwise fun a b => a.num < b.num
def okV (vs : List Vn) : Prop := (∀ x ∈ vs, okX x) ∧ Ris vs
/-- What Check tells. -/
def CkT (vs : List Vn) (c : Nat) : Prop := (c = 0 ∧ okV vs) ∨ (c = 1 ∧ ¬ okV vs)
theorem CkT.ex (vs : List Vn) : ∃ c, CkT vs c := by
  by_cases h : okV vs
  · exact ⟨0, Or.inl ⟨rfl, h⟩⟩
  · exact ⟨1, Or.inr ⟨rfl, h⟩⟩
theorem CkT.ok {vs : List Vn} (h : CkT vs 0) : okV vs := by
  rcases h with ⟨_, h⟩ | ⟨h, _⟩
  · exact h
  · cases h
theorem CkT.of {vs : List Vn} (h : okV vs) : CkT vs 0 := Or.inl ⟨rfl, h⟩
theorem CkT.one {vs : List Vn} {a b : Nat} (h : CkT vs a) (k : CkT vs b) : a = b := by
  rcases h with ⟨rfl, h⟩ | ⟨rfl, h⟩ <;> rcases k with ⟨rfl, k⟩ | ⟨rfl, k⟩
  · rfl
  · exact absurd h k
  · exact absurd k h
  · rfl
theorem ris_get {vs : List Vn} (h : Ris vs) {i j : Nat} (hij : i < j) (hj : j < vs.length) : (vs.getD i Vn.zero).num < (vs.getD j Vn.zero).num := by
  have := List.pairwise_iff_getElem.1 h i j (by omega) hj hij
  simpa [List.getD, hj, show i < vs.length by omega] using this
theorem ris_of {vs : List Vn} (h : ∀ i j, i < j → j < vs.length → (vs.getD i Vn.zero).num < (vs.getD j Vn.zero).num) : Ris vs := by
  refine List.pairwise_iff_getElem.2 fun i j hi hj hij => ?_
  have := h i j hij hj
  simpa [List.getD, hi, hj] using this
theorem okV_ge {vs : List Vn} (h : okV vs) : ∀ i, i < vs.length → (i : Int) + 1 ≤ (vs.getD i Vn.zero).num := by
  intro i
  induction i with
  | zero => intro hi; have := (h.1 _ (vgetD_mem vs 0 hi)).1; omega
  | succ i ih =>
    intro hi
    have h1 := ih (by omega)
    have h2 := ris_get h.2 (show i < i + 1 by omega) hi
    omega
theorem okV_few {vs : List Vn} (h : okV vs) : vs.length ≤ 65536 := by
  by_cases h0 : vs.length = 0
  · omega
  · have h1 := okV_ge h (vs.length - 1) (by omega)
    have h2 := (h.1 _ (vgetD_mem vs (vs.length - 1) (by omega))).2.1
    omega
theorem okV_nil : okV [] := ⟨by simp, List.Pairwise.nil⟩
theorem okV_sub {vs us : List Vn} (h : okV vs) (hs : us.Sublist vs) : okV us := ⟨fun x hx => h.1 x (hs.subset hx), h.2.sublist hs⟩
theorem okV_drop {vs : List Vn} (h : okV vs) (k : Nat) : okV (vs.drop k) := okV_sub h (List.drop_sublist _ _)
theorem getD_drop (vs : List Vn) (k j : Nat) : (vs.drop k).getD j Vn.zero = vs.getD (k + j) Vn.zero := by simp [List.getD, List.getElem?_drop]
theorem okX_each {x : Vn} (h : okX x) : VEach x := ⟨by have := h.2.2.1; omega, by have := h.1; omega, by have := h.2.1; omega⟩
/-- So many have at most this number, and they stand ahead. -/
structure UpTo (vs : List Vn) (k : Int) (c : Nat) : Prop where
  le : c ≤ vs.length
  lo : ∀ j, j < c → (vs.getD j Vn.zero).num ≤ k
  hi : ∀ j, c ≤ j → j < vs.length → k < (vs.getD j Vn.zero).num
theorem UpTo.one {vs : List Vn} {k : Int} {a b : Nat} (h : UpTo vs k a) (g : UpTo vs k b) : a = b := by
  rcases Nat.lt_trichotomy a b with h1 | h1 | h1
  · have := h.hi a (Nat.le_refl _) (by have := g.le; omega)
    have := g.lo a h1
    omega
  · exact h1
  · have := g.hi b (Nat.le_refl _) (by have := h.le; omega)
    have := h.lo b h1
    omega
theorem UpTo.ex {vs : List Vn} (h : Ris vs) (k : Int) : ∃ c, UpTo vs k c := by
  induction vs with
  | nil => exact ⟨0, Nat.le_refl _, fun j hj => by omega, fun j _ hj => by simp at hj⟩
  | cons x r ih =>
    obtain ⟨c, hc⟩ := ih (List.Pairwise.of_cons h)
    by_cases hx : x.num ≤ k
    · refine ⟨c + 1, by have := hc.le; simp; omega, fun j hj => ?_, fun j h1 h2 => ?_⟩
      · cases j with
        | zero => simpa using hx
        | succ j => simpa using hc.lo j (by omega)
      · cases j with
        | zero => omega
        | succ j => simpa using hc.hi j (by omega) (by simpa using h2)
    · refine ⟨0, Nat.zero_le _, fun j hj => by omega, fun j _ h2 => ?_⟩
      cases j with
      | zero => simp; omega
      | succ j =>
        have := ris_get h (show 0 < j + 1 by omega) h2
        simp only [List.getD_cons_zero] at this
        omega
theorem UpTo.mono {vs : List Vn} {k l : Int} {a b : Nat} (h : UpTo vs k a) (g : UpTo vs l b) (hkl : k ≤ l) : a ≤ b := by
  by_cases h1 : a ≤ b
  · exact h1
  · have := g.hi b (Nat.le_refl _) (by have := h.le; omega)
    have := h.lo b (by omega)
    omega
theorem UpTo.drop {vs : List Vn} {k : Int} {c d : Nat} (h : UpTo vs k c) (hd : d ≤ c) : UpTo (vs.drop d) k (c - d) := by
  refine ⟨by have := h.le; simp; omega, fun j hj => ?_, fun j h1 h2 => ?_⟩
  · rw [getD_drop]; exact h.lo _ (by omega)
  · rw [getD_drop]; exact h.hi _ (by omega) (by simp at h2; omega)
/-- By the search's test. -/
theorem UpTo.count {vs : List Vn} (h : Ris vs) (k : Int) : UpTo vs k ((List.range vs.length).countP fun i => !decide (k < (vs.getD i Vn.zero).num)) := by
  obtain ⟨c, hc⟩ := UpTo.ex h k
  have e : (List.range vs.length).countP (fun i => !decide (k < (vs.getD i Vn.zero).num)) = c := by
    have hle := hc.le
    have e1 : List.range vs.length = List.range c ++ (List.range (vs.length - c)).map (c + ·) := by
      rw [← List.range_add]
      congr 1
      omega
    rw [e1, List.countP_append]
    have a1 : (List.range c).countP (fun i => !decide (k < (vs.getD i Vn.zero).num)) = c := by
      rw [List.countP_eq_length.2]
      · simp
      · intro j hj
        have := hc.lo j (by simpa using hj)
        rw [Bool.not_eq_true', decide_eq_false_iff_not]
        omega
    have a2 : ((List.range (vs.length - c)).map (c + ·)).countP (fun i => !decide (k < (vs.getD i Vn.zero).num)) = 0 := by
      rw [List.countP_eq_zero]
      intro j hj
      obtain ⟨i, hi, rfl⟩ := List.mem_map.1 hj
      have := hc.hi (c + i) (by omega) (by simp at hi; omega)
      rw [Bool.not_eq_true', decide_eq_false_iff_not]
      omega
    omega
  rw [e]
  exact hc
/-- What is read at a mark, of which so many are at it. -/
def atV (vs : List Vn) (c : Nat) : Vn := if c = 0 then Vn.zero else vs.getD (c - 1) Vn.zero
theorem atV_drop (vs : List Vn) (c d : Nat) (h : d < c ∨ d = 0) : atV (vs.drop d) (c - d) = atV vs c := by
  unfold atV
  by_cases h0 : c = 0
  · rw [if_pos (by omega), if_pos h0]
  · rw [if_neg (by omega), if_neg h0, getD_drop]
    congr 1
    omega
end Go.Proofs.YtomajifklajilaaGreatDoor
/- Contracts of package chain's inner functions: Check, passed, sort.Search over it, upTo, stands. Conditions as each names them. -/
namespace Go.Proofs.YtomajifklajilaaGreatDoor
open Go.ChangeShapes Go.WideShapes Go.ChangeAt Go.RowKit Go.Lib
set_option linter.unusedVariables false
set_option linter.unusedSimpArgs false

theorem Fr.cell {w w' : World} (h : Fr [] w w') {a : Addr} {v : Value} (hc : w.cell? a = some v) : w'.cell? a = some v := by
  have hb := World.block_lt_of_cell? _ _ hc
  rw [World.cell?_of_block (h.block a.block hb (by simp))]
  exact hc
set_option maxHeartbeats 2000000 in
set_option maxRecDepth 100000 in
theorem passed_any (ao : Option Addr) (L cap : Nat) (k : Int) (i : Nat) (B : Bool) (vs : List Vn) (w : World) (hV : VRs w ao vs) (hL : L = vs.length) (hi : i < vs.length) (hB : decide (k < (vs.getD i Vn.zero).num) = B) :
    Calls Tryz.prog 129 #[.agg #[.slice ao L cap, .int .i64 k], .int .i64 (i : Int)] w fun e w' => e = .returned (.bool B) ∧ Fr [] w w' := by
  obtain ⟨b, off, rfl, hbl, hat⟩ := hV.lies (by omega)
  obtain ⟨c0, _, _⟩ := hat i hi
  obtain ⟨n, hn⟩ : ∃ n, n = (vs.getD i Vn.zero).num := ⟨_, rfl⟩
  rw [← hn] at c0 hB
  have hLL : L ≤ 4398046511104 := by have := hV.few; omega
  have hiL : i < L := by omega
  have HB : Hid (decide (k < n) = B) := hB
  clear hat hV hL hi hn hB
  obtain ⟨W, hW⟩ : ∃ W, W = w.alloc (.cells #[.slice (some ⟨b, off, none⟩) L cap, .int .i64 k] 193) := ⟨_, rfl⟩
  have hF : Fr [] w W := by rw [hW]; exact Fr.alloc _ _ _
  have d0 := hF.cell c0
  have d1 : W.cell? ⟨w.heap.size, 0, none⟩ = some (.slice (some ⟨b, off, none⟩) L cap) := by rw [hW, World.cell?_alloc_at _ _ _ _ (by simp)]; rfl
  have d2 : W.cell? ⟨w.heap.size, 1, none⟩ = some (.int .i64 k) := by rw [hW, World.cell?_alloc_at _ _ _ _ (by simp)]; rfl
  have HW : Hid (W = _) := hW
  have HF : Hid (Fr [] w W) := hF
  clear hW hF
  go_enter Tryz.func129, Tryz.ntmps129
  go_wp2_with fail
  rw [← HW.out]
  go_quiet (fail)
  all_goals (
    go_wp2
    go_ret
    rw [HB.out]
    exact ⟨rfl, HF.out.then (Fr.drewN _ _ _)⟩)
set_option maxHeartbeats 4000000 in
set_option maxRecDepth 1000000 in
theorem search_any (n : Nat) (x : Value) (p : Nat → Bool) (w : World) (hsz : n < 4611686018427387904)
    (hf : ∀ (W : World) (i : Nat), Fr [] w W → i < n → Calls Tryz.prog 129 #[x, .int .i64 (i : Int)] W fun e w' => e = .returned (.bool (p i)) ∧ Fr [] W w')
    (hmono : ∀ a b, a ≤ b → b < n → p a = true → p b = true) :
    Calls Tryz.prog 128 #[.int .i64 (n : Int), .func (.func 129) #[x] #[]] w fun e w' => ∃ c : Nat, e = .returned (.int .i64 (c : Int)) ∧ c ≤ n ∧ (∀ t, t < c → p t = false) ∧ (∀ t, c ≤ t → t < n → p t = true) ∧ Fr [] w w' := by
  have HF : Hid _ := hf
  have M : Hid _ := hmono
  clear hf hmono
  go_enter Tryz.func128, Tryz.ntmps128
  go_wp2
  go_loopg [5, 6] n (fun kx s5 s6 wr => ∃ (lo hi : Nat), s5 = .int .i64 lo ∧ s6 = .int .i64 hi ∧ lo ≤ hi ∧ hi ≤ n ∧ hi - lo ≤ kx ∧ Fr [] w wr ∧
    Hid ((∀ t, t < lo → p t = false) ∧ (∀ t, hi ≤ t → t < n → p t = true)))
  case atStart => exact ⟨0, n, rfl, rfl, Nat.zero_le _, Nat.le_refl _, by omega, Fr.refl _ _, (⟨fun t ht => absurd ht (Nat.not_lt_zero _), fun t h1 h2 => by omega⟩ : (∀ t, t < 0 → p t = false) ∧ (∀ t, n ≤ t → t < n → p t = true))⟩
  case round =>
    obtain ⟨lo, hi, rfl, rfl, hlh, hin, hg, hFr, I⟩ := hrel
    by_cases hlt : lo < hi
    · have hc := HF.out _ ((lo + hi) / 2) hFr (by omega)
      rw [show (((lo + hi) / 2 : Nat) : Int) = ((lo : Int) + (hi : Int)) / 2 by omega] at hc
      cases hp : p ((lo + hi) / 2) <;> rw [hp] at hc
      · have HP : Hid (p ((lo + hi) / 2) = false) := hp
        have HC : Hid _ := hc
        clear hp hc
        go_wp2_with (go_at_call 129; refine Calls.mono HC.out ?_; rintro e w' ⟨rfl, hF1⟩)
        go_roundg (hi - ((lo + hi) / 2 + 1))
        case measure => omega
        case rel =>
          have I2 : Hid ((∀ t, t < (lo + hi) / 2 + 1 → p t = false) ∧ (∀ t, hi ≤ t → t < n → p t = true)) := ⟨fun t ht => (by
            cases h : p t with
            | false => rfl
            | true => have := M.out t ((lo + hi) / 2) (by omega) (by omega) h; rw [HP.out] at this; cases this), I.out.2⟩
          exact ⟨(lo + hi) / 2 + 1, hi, by rw [show ((lo : Int) + (hi : Int)) / 2 + 1 = (((lo + hi) / 2 + 1 : Nat) : Int) by omega], rfl, by omega, hin, Nat.le_refl _, hFr.then hF1, I2⟩
      · have HP : Hid (p ((lo + hi) / 2) = true) := hp
        have HC : Hid _ := hc
        clear hp hc
        go_wp2_with (go_at_call 129; refine Calls.mono HC.out ?_; rintro e w' ⟨rfl, hF1⟩)
        go_roundg ((lo + hi) / 2 - lo)
        case measure => omega
        case rel =>
          have I2 : Hid ((∀ t, t < lo → p t = false) ∧ (∀ t, (lo + hi) / 2 ≤ t → t < n → p t = true)) := ⟨I.out.1, fun t ht htn => M.out ((lo + hi) / 2) t ht htn HP.out⟩
          exact ⟨lo, (lo + hi) / 2, rfl, by rw [show ((lo : Int) + (hi : Int)) / 2 = (((lo + hi) / 2 : Nat) : Int) by omega], by omega, by omega, Nat.le_refl _, hFr.then hF1, I2⟩
    · obtain rfl : hi = lo := by omega
      go_wp2
      go_ret
      exact ⟨hi, rfl, hin, I.out.1, I.out.2, hFr⟩
set_option maxHeartbeats 1000000 in
theorem upTo_any (ao : Option Addr) (L cap : Nat) (k : Int) (vs : List Vn) (w : World) (hV : VRs w ao vs) (hL : L = vs.length) (hR : Ris vs) :
    Calls Tryz.prog 121 #[.slice ao L cap, .int .i64 k] w fun e w' => ∃ c : Nat, e = .returned (.int .i64 (c : Int)) ∧ UpTo vs k c ∧ Fr [] w w' := by
  have HS : Hid (Calls _ _ _ _ _) := search_any L (.agg #[.slice ao L cap, .int .i64 k]) (fun i => decide (k < (vs.getD i Vn.zero).num)) w (by have := hV.few; omega)
    (fun W i hF hi => passed_any ao L cap k i _ vs W (hV.keep hF) hL (by omega) rfl)
    (fun a b hab hb h => by
      simp only [decide_eq_true_eq] at h ⊢
      by_cases e : a = b
      · subst e; exact h
      · have := ris_get hR (show a < b by omega) (by omega)
        omega)
  have HL : Hid (L = vs.length) := hL
  have hLL : L ≤ 4398046511104 := by have := hV.few; omega
  clear hV hL hR
  go_enter Tryz.func121, Tryz.ntmps121
  go_wp2_with fail
  refine Calls.mono HS.out ?_
  rintro e w1 ⟨c, rfl, hcL, h1, h2, hF⟩
  have HU : Hid (UpTo vs k c) := ⟨by have := HL.out; omega, fun j hj => by have := h1 j hj; simp only [decide_eq_false_iff_not] at this; omega, fun j hj hj2 => by have := h2 j hj (by have := HL.out; omega); simpa using this⟩
  clear h1 h2 HS
  go_wp2
  go_ret
  exact ⟨c, rfl, HU.out, hF⟩
set_option maxHeartbeats 1000000 in
set_option maxRecDepth 100000 in
theorem stands_any (ao : Option Addr) (L cap c : Nat) (k : Int) (B : Bool) (vs : List Vn) (w : World) (hV : VRs w ao vs) (hL : L = vs.length) (hc : c ≤ L) (hB : B = true ↔ 0 < c ∧ (vs.getD (c - 1) Vn.zero).num = k) :
    Calls Tryz.prog 126 #[.slice ao L cap, .int .i64 (c : Int), .int .i64 k] w fun e w' => e = .returned (.bool B) ∧ Fr [] w w' := by
  have hLL : L ≤ 4398046511104 := by have := hV.few; omega
  by_cases h0 : c = 0
  · subst h0
    obtain rfl : B = false := by
      cases B with
      | false => rfl
      | true => have := hB.1 rfl; omega
    clear hB hV hL
    go_enter Tryz.func126, Tryz.ntmps126
    go_wp2
    go_ret
    exact ⟨rfl, Fr.refl _ _⟩
  · obtain ⟨d, rfl⟩ : ∃ d, c = d + 1 := ⟨c - 1, by omega⟩
    obtain ⟨b, off, rfl, hbl, hat⟩ := hV.lies (by omega)
    obtain ⟨c0, _, _⟩ := hat d (by omega)
    simp only [Nat.add_sub_cancel] at hB
    obtain ⟨n, hn⟩ : ∃ n, n = (vs.getD d Vn.zero).num := ⟨_, rfl⟩
    rw [← hn] at c0 hB
    have HB : Hid ((n == k) = B) := by
      show _ = _
      cases B with
      | true => simpa using (hB.1 rfl).2
      | false =>
        rw [beq_eq_false_iff_ne]
        intro e
        have := hB.2 ⟨by omega, e⟩
        cases this
    clear hB hV hL hat hn h0
    have hdL : d < L := by omega
    go_enter Tryz.func126, Tryz.ntmps126
    go_wp2
    go_ret
    rw [HB.out]
    exact ⟨rfl, Fr.refl _ _⟩
end Go.Proofs.YtomajifklajilaaGreatDoor
