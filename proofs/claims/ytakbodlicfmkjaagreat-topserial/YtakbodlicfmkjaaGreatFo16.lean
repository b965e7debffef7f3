/- The program's feed: contract of New. Conditions as each names them. -/
import Derived.Test.YtakbodlicfmkjaaGreatFn16
namespace Go.Proofs.YtakbodlicfmkjaaGreat.F
open Go.ChangeShapes Go.WideShapes Go.ChangeAt Go.RowKit Go.Lib Go.Maps
set_option linter.unusedVariables false
set_option linter.unusedSimpArgs false

set_option maxHeartbeats 2000000 in
set_option maxRecDepth 100000 in
theorem fNew_none {p : Value} (mark : Int) (x : Value) (win : Int) (w : World) (h : NoS p w) :
    Calls Tryz.prog 56 #[p, .int .i64 mark, x, .int .i64 win] w fun e w' => e = .returned (.tuple #[.pointer none, .int .i64 2]) ∧ Fr [] w w' := by
  have HT : Hid (Calls _ _ _ _ _) := fIsThere_no h
  clear h
  go_enter Tryz.func56, Tryz.ntmps56
  go_wp2_with fail
  refine Calls.mono HT.out ?_
  rintro e w1 ⟨rfl, hF1⟩
  go_wp2
  go_ret2
  exact ⟨rfl, hF1⟩
section
variable {w0 w : World} {g lb L : Nat} {ts : List Tm} {v : Value} {qs : List Nat}
set_option maxHeartbeats 4000000 in
set_option maxRecDepth 100000 in
theorem fNew_no (mark : Int) (bo : Option Addr) (M bc : Nat) (bs : List Int) (win : Int) (h : Src w0 w g lb L ts v qs) (hR : IRs w bo bs) (hM : M = bs.length) (hi : ∀ x ∈ bs, i64 x) (hm : i64 mark) (c : Nat) (hc : newC mark bs win L = c) (hc0 : c ≠ 0) :
    Calls Tryz.prog 56 #[.pointer (some ⟨g, 0, none⟩), .int .i64 mark, .slice bo M bc, .int .i64 win] w fun e w' => e = .returned (.tuple #[.pointer none, .int .i64 (c : Int)]) ∧ Fr [] w w' := by
  have HT : Hid (Calls _ _ _ _ _) := fIsThere_any h
  have HR : Hid (∀ W, Fr [] w W → IRs W bo bs) := fun W hf => hR.keep hf
  have HM : Hid (M = bs.length) := hM
  have HI : Hid (∀ x ∈ bs, i64 x) := hi
  have HL : Hid (∀ W, Fr [] w W → Calls Tryz.prog 66 #[.pointer (some ⟨g, 0, none⟩)] W fun e w' => e = .returned (.int .i64 (L : Int)) ∧ W = w') := fun W hf => sLast_any (h.keep hf)
  have hfew := h.few
  by_cases h1 : mark < 0
  · obtain rfl : c = 1 := by rw [← hc]; simp [newC, h1]
    clear hc hc0 h hR hM hi
    go_enter Tryz.func56, Tryz.ntmps56
    go_wp2_with fail
    refine Calls.mono HT.out ?_
    rintro e w1 ⟨rfl, hF1⟩
    go_wp2
    go_ret2
    exact ⟨rfl, hF1⟩
  · by_cases h2 : MayB mark bs
    · have HB : Hid (∀ W, Fr [] w W → Calls Tryz.prog 95 #[.int .i64 mark, .slice bo M bc] W fun e w' => e = .returned (.bool true) ∧ Fr [] W w') := fun W hf => fMayBe_any mark bo M bc bs W (hR.keep hf) hM hi hm true ⟨fun _ => h2, fun _ => rfl⟩
      have hd : decide (mark < 0) = false := by simpa using h1
      by_cases h3 : win < 1
      · obtain rfl : c = 1 := by rw [← hc]; simp [newC, h3]
        clear hc hc0 h hR hM hi
        go_enter Tryz.func56, Tryz.ntmps56
        go_wp2_with fail
        refine Calls.mono HT.out ?_
        rintro e w1 ⟨rfl, hF1⟩
        go_wp2_with fail
        refine Calls.mono (HB.out _ hF1) ?_
        rintro e w2 ⟨rfl, hF2⟩
        go_wp2
        go_ret2
        exact ⟨rfl, hF1.then hF2⟩
      · have hd3 : decide (win < 1) = false := by simpa using h3
        by_cases h4 : 64 < win
        · obtain rfl : c = 1 := by rw [← hc]; simp [newC, h4]
          clear hc hc0 h hR hM hi
          go_enter Tryz.func56, Tryz.ntmps56
          go_wp2_with fail
          refine Calls.mono HT.out ?_
          rintro e w1 ⟨rfl, hF1⟩
          go_wp2_with fail
          refine Calls.mono (HB.out _ hF1) ?_
          rintro e w2 ⟨rfl, hF2⟩
          go_wp2
          go_ret2
          exact ⟨rfl, hF1.then hF2⟩
        · have hd4 : decide (64 < win) = false := by simpa using h4
          have hx : newC mark bs win L = if (L : Int) < grB mark bs then 6 else 0 := by simp [newC, h1, h2, h3, h4]
          have h5 : (L : Int) < grB mark bs := by
            by_cases h5 : (L : Int) < grB mark bs
            · exact h5
            · rw [hx, if_neg h5] at hc; exact absurd hc.symm hc0
          obtain rfl : c = 6 := by rw [← hc, hx, if_pos h5]
          obtain ⟨G, hG⟩ : ∃ G, grB mark bs = G := ⟨_, rfl⟩
          have HG : Hid (∀ W, Fr [] w W → Calls Tryz.prog 96 #[.int .i64 mark, .slice bo M bc] W fun e w' => e = .returned (.int .i64 G) ∧ W = w') := fun W hf => by rw [← hG]; exact fGreatest_any mark bo M bc bs W (hR.keep hf) hM
          rw [hG] at h5
          clear hc hc0 h hR hM hi hx hG
          go_enter Tryz.func56, Tryz.ntmps56
          go_wp2_with fail
          refine Calls.mono HT.out ?_
          rintro e w1 ⟨rfl, hF1⟩
          go_wp2_with fail
          refine Calls.mono (HB.out _ hF1) ?_
          rintro e w2 ⟨rfl, hF2⟩
          have hF2 := hF1.then hF2
          go_wp2_with fail
          refine Calls.mono (HG.out _ hF2) ?_
          rintro e w3 ⟨rfl, rfl⟩
          go_wp2_with fail
          refine Calls.mono (HL.out _ hF2) ?_
          rintro e w3 ⟨rfl, rfl⟩
          go_wp2
          go_ret2
          exact ⟨rfl, hF2⟩
    · obtain rfl : c = 1 := by rw [← hc]; simp [newC, h2]
      have HB : Hid (∀ W, Fr [] w W → Calls Tryz.prog 95 #[.int .i64 mark, .slice bo M bc] W fun e w' => e = .returned (.bool false) ∧ Fr [] W w') := fun W hf => fMayBe_any mark bo M bc bs W (hR.keep hf) hM hi hm false ⟨(fun h => by cases h), fun h => absurd h h2⟩
      have hd : decide (mark < 0) = false := by simpa using h1
      clear hc hc0 h hR hM hi
      go_enter Tryz.func56, Tryz.ntmps56
      go_wp2_with fail
      refine Calls.mono HT.out ?_
      rintro e w1 ⟨rfl, hF1⟩
      go_wp2_with fail
      refine Calls.mono (HB.out _ hF1) ?_
      rintro e w2 ⟨rfl, hF2⟩
      go_wp2
      go_ret2
      exact ⟨rfl, hF1.then hF2⟩
set_option maxHeartbeats 4000000 in
set_option maxRecDepth 100000 in
theorem fNew_ok (mark : Int) (bo : Option Addr) (M bc : Nat) (bs : List Int) (win : Int) (h : Src w0 w g lb L ts v qs) (hok : okL 1 (txs ts)) (hR : IRs w bo bs) (hM : M = bs.length) (hi : ∀ x ∈ bs, i64 x) (hm : i64 mark) (hc : newC mark bs win L = 0) :
    Calls Tryz.prog 56 #[.pointer (some ⟨g, 0, none⟩), .int .i64 mark, .slice bo M bc, .int .i64 win] w fun e w' => ∃ f mb, e = .returned (.tuple #[.pointer (some ⟨f, 0, none⟩), .int .i64 0]) ∧ FdM w0 w' f g lb L ts v qs mb bs ⟨mark.toNat, mark.toNat, win.toNat, false, false⟩ (.slice none 0 0) ∧ Fr [] w w' := by
  have HT : Hid (Calls _ _ _ _ _) := fIsThere_any h
  have HS : Hid (∀ W, Fr [] w W → Src w0 W g lb L ts v qs) := fun W hf => h.keep hf
  have HL : Hid (∀ W, Fr [] w W → Calls Tryz.prog 66 #[.pointer (some ⟨g, 0, none⟩)] W fun e w' => e = .returned (.int .i64 (L : Int)) ∧ W = w') := fun W hf => sLast_any (h.keep hf)
  obtain ⟨h1, h2, h3, h4, h5⟩ := newC_ok hc
  have HB : Hid (∀ W, Fr [] w W → Calls Tryz.prog 95 #[.int .i64 mark, .slice bo M bc] W fun e w' => e = .returned (.bool true) ∧ Fr [] W w') := fun W hf => fMayBe_any mark bo M bc bs W (hR.keep hf) hM hi hm true ⟨fun _ => h2, fun _ => rfl⟩
  have HK : Hid (∀ W, Fr [] w W → Calls Tryz.prog 97 #[.slice bo M bc] W fun e w' => ∃ mb, e = .returned (.map (some mb)) ∧ W.heap.size ≤ mb ∧ MapG kBey w' mb M (inF bs) ∧ Fr [] W w') := fun W hf => fKept_any bo M bc bs W (hR.keep hf) hM hi
  obtain ⟨G, hG⟩ : ∃ G, grB mark bs = G := ⟨_, rfl⟩
  have HG : Hid (∀ W, Fr [] w W → Calls Tryz.prog 96 #[.int .i64 mark, .slice bo M bc] W fun e w' => e = .returned (.int .i64 G) ∧ W = w') := fun W hf => by rw [← hG]; exact fGreatest_any mark bo M bc bs W (hR.keep hf) hM
  have hgr := h2.gr.1
  rw [hG] at h5 hgr
  have hfew := h.few
  have HOK : Hid (okL 1 (txs ts)) := hok
  have HW0 : Hid (w0.heap.size ≤ w.heap.size) := by have := h.gn; have := h.lt; show _ ≤ _; omega
  obtain ⟨m, rfl⟩ : ∃ m : Nat, mark = m := ⟨mark.toNat, by omega⟩
  obtain ⟨n, rfl⟩ : ∃ n : Nat, win = n := ⟨win.toNat, by omega⟩
  simp only [Int.toNat_natCast]
  have hd : decide ((m : Int) < 0) = false := by simp
  have hd3 : decide ((n : Int) < 1) = false := by simp; omega
  have hd4 : decide ((64 : Int) < n) = false := by simp; omega
  clear hc h hR hM hi hG h2 hm hok
  go_enter Tryz.func56, Tryz.ntmps56
  go_wp2_with fail
  refine Calls.mono HT.out ?_
  rintro e w1 ⟨rfl, hF1⟩
  go_wp2_with fail
  refine Calls.mono (HB.out _ hF1) ?_
  rintro e w2 ⟨rfl, hF2⟩
  have hF2 := hF1.then hF2
  go_wp2_with fail
  refine Calls.mono (HG.out _ hF2) ?_
  rintro e w3 ⟨rfl, rfl⟩
  go_wp2_with fail
  refine Calls.mono (HL.out _ hF2) ?_
  rintro e w3 ⟨rfl, rfl⟩
  go_wp2_with fail
  refine Calls.mono (HK.out _ hF2) ?_
  rintro e w4 ⟨mb, rfl, hmb, hmap, hF4⟩
  have hF4 := hF2.then hF4
  have hF5 : Fr [] w4 (w4.alloc (.cells #[.pointer (some ⟨g, 0, none⟩), .int .i64 (m : Int), .int .i64 (m : Int), .int .i64 (n : Int), .map (some mb), .int .i64 0, .slice none 0 0, .bool false] 163)) := Fr.alloc _ _ _
  have HE : Hid (FdM w0 (w4.alloc (.cells #[.pointer (some ⟨g, 0, none⟩), .int .i64 (m : Int), .int .i64 (m : Int), .int .i64 (n : Int), .map (some mb), .int .i64 0, .slice none 0 0, .bool false] 163)) w4.heap.size g lb L ts v qs mb bs ⟨m, m, n, false, false⟩ (.slice none 0 0) ∧ Fr [] w (w4.alloc (.cells #[.pointer (some ⟨g, 0, none⟩), .int .i64 (m : Int), .int .i64 (m : Int), .int .i64 (n : Int), .map (some mb), .int .i64 0, .slice none 0 0, .bool false] 163))) := by
    refine ⟨⟨HS.out _ (hF4.then hF5), HOK.out, heap_alloc_new _ _, ⟨M, inF bs, hmap.keep hF5 (by simp), ⟨fun x hx hlt => ?_, fun e => by cases e⟩⟩, Nat.le_refl _, by show m ≤ L; omega, ⟨by show 1 ≤ n; omega, by show n ≤ 64; omega⟩, (fun e => by cases e), ⟨_, _, _, rfl⟩, ?_, ?_⟩, hF4.then hF5⟩
    · unfold inF
      by_cases hx : x ∈ bs <;> simp [hx]
    · have := HW0.out; have := hF4.size; omega
    · have := HW0.out; have := hF2.size; omega
  clear hmap hF1 hF2 hF4 hF5 HS
  go_wp2
  go_ret2
  exact ⟨_, mb, rfl, HE.out.1, HE.out.2⟩
end
end Go.Proofs.YtakbodlicfmkjaaGreat.F
