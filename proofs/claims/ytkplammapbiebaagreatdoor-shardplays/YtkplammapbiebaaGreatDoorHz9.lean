/- How great parts are together; how many versions a shard has: contracts of size and Size; Beyond of three. Conditions as each names them. -/
import Derived.Test.YtkplammapbiebaaGreatDoorHf9
import Derived.Test.YtkplammapbiebaaGreatDoorHc9
namespace Go.Proofs.YtkplammapbiebaaGreatDoor
open Go.ChangeShapes Go.WideShapes Go.ChangeAt Go.RowKit Go.Lib Go.Maps
set_option linter.unusedVariables false
set_option linter.unusedSimpArgs false

set_option maxHeartbeats 2000000 in
theorem beyond3_any (k N M P : Nat) (w : World) (hN : N ≤ 9007199254740992) (hM : M ≤ 9007199254740992) (hP : P ≤ 9007199254740992) (h0 : w.cell? ⟨k, 0, none⟩ = some (.int .i64 (N : Int))) (h1 : w.cell? ⟨k, 1, none⟩ = some (.int .i64 (M : Int))) (h2 : w.cell? ⟨k, 2, none⟩ = some (.int .i64 (P : Int))) :
    Calls Tryz.prog 5 #[.slice (some ⟨k, 0, none⟩) 3 3] w fun e w' => ∃ B : Bool, e = .returned (.bool B) ∧ (B = false → N + M + P ≤ 1048576) ∧ w = w' := by
  by_cases h : 1048576 < N
  · have h' : (1048576 : Int) < N := by omega
    go_enter Tryz.func5, Tryz.ntmps5
    go_wp2_with fail
    refine wp_loop_rounds 1 ?_
    rw [rounds_succ]
    go_wp2
    go_ret
    exact ⟨true, rfl, fun hh => (by cases hh), rfl⟩
  · have h' : (N : Int) ≤ 1048576 := by omega
    by_cases h3 : 1048576 < N + M
    · have h3' : (1048576 : Int) < (N : Int) + M := by omega
      go_enter Tryz.func5, Tryz.ntmps5
      go_wp2_with fail
      refine wp_loop_rounds 2 ?_
      rw [rounds_succ]
      go_wp2
      rw [rounds_succ]
      go_wp2
      go_ret
      exact ⟨true, rfl, fun hh => (by cases hh), rfl⟩
    · have h3' : (N : Int) + M ≤ 1048576 := by omega
      by_cases h4 : 1048576 < N + M + P
      · have h4' : (1048576 : Int) < (N : Int) + M + P := by omega
        go_enter Tryz.func5, Tryz.ntmps5
        go_wp2_with fail
        refine wp_loop_rounds 3 ?_
        rw [rounds_succ]
        go_wp2
        rw [rounds_succ]
        go_wp2
        rw [rounds_succ]
        go_wp2
        go_ret
        exact ⟨true, rfl, fun hh => (by cases hh), rfl⟩
      · have h4' : (N : Int) + M + P ≤ 1048576 := by omega
        go_enter Tryz.func5, Tryz.ntmps5
        go_wp2_with fail
        refine wp_loop_rounds 4 ?_
        rw [rounds_succ]
        go_wp2
        rw [rounds_succ]
        go_wp2
        rw [rounds_succ]
        go_wp2
        rw [rounds_succ]
        go_wp2
        go_ret
        exact ⟨false, rfl, fun _ => (by omega), rfl⟩
set_option maxHeartbeats 8000000 in
set_option maxRecDepth 100000 in
theorem hsize_any {w0 : World} {sb b n : Nat} {M : ByteArray → List Vn} (w : World) (h : Sh w0 w sb b n M) (hn : n < 1073741824) :
    Calls Tryz.prog 14 #[.pointer (some ⟨sb, 0, none⟩)] w fun e w' => ∃ S : Nat, e = .returned (.int .i64 (S : Int)) ∧ SzT M S ∧ Fr [] w w' := by
  have HT : Hid (Calls _ _ _ _ _) := hthere_any w h
  have HS : Hid (∀ W, Fr [] w W → Sh w0 W sb b n M) := fun W hf => h.keep hf
  clear h
  go_enter Tryz.func14, Tryz.ntmps14
  go_wp2_with fail
  refine Calls.mono HT.out ?_
  rintro e w1 ⟨rfl, hF1⟩
  have h := HS.out _ hF1
  have cs := h.cell
  obtain ⟨G, ⟨D0, hown, hH, hA⟩, hG0, hGr, _⟩ := h.map
  have HFw : Hid (Fr [] w w1) := hF1
  have HLe : Hid (∀ s : ByteArray, (has D0 (kl7 s) = true ↔ M s ≠ []) ∧ ∀ x : Sl3, D0.atKey (kl7 s) (.lit (.bool true)) = slD x → has D0 (kl7 s) = true → ∃ g L c, x = some (g, L, c) ∧ L = (M s).length ∧ L ≤ 65536) := by
    intro s
    constructor
    · rw [hH s]
      constructor
      · intro h1
        obtain ⟨⟨g, L, c⟩, hg⟩ := Option.isSome_iff_exists.1 h1
        obtain ⟨hV, hL, _⟩ := hGr s g L c hg
        intro e
        have := hV.len
        rw [e] at this
        simp at this
        omega
      · intro h1
        cases hg : G s with
        | some x => rfl
        | none => exact absurd (hG0 s hg) h1
    · intro x hx hh
      rw [hH s] at hh
      obtain ⟨⟨g, L, c⟩, hg⟩ := Option.isSome_iff_exists.1 hh
      have h2 := hA s (by rw [hg]; rfl) (.lit (.bool true))
      rw [hx, hg] at h2
      have h3 := slD_inj h2
      obtain ⟨hV, hL, _⟩ := hGr s g L c hg
      exact ⟨g, L, c, h3, hV.len, by have := okV_few (h.ok s); have := hV.len; omega⟩
  have HSz : Hid (Maps.size D0 ≤ n) := hown.size_le
  clear h hH hA hG0 hGr HT hF1 HS
  go_wp2_with (first
    | (at_range; refine wpList_range_own _ rfl _ 51 rfl 9 69 Tryz.keyedStr Tryz.undVMap _ b n _ rfl hown ?_; intro w2 hrg0 hg0 hs0)
    | fail)
  go_frame
  have HF0 : Hid (Fr [] w1 w2) := Fr.grown hg0 (by simp)
  have hcnt := HSz.out
  go_loopw [3] (fun nn wr => ∃ (left : Lit → Bool) (cnt : Nat) (S : Nat) (ms : List ByteArray), nn = .int .i64 S ∧ wr.ranges Tryz.prog 9 slElem b w1.heap.size n D0 left cnt ∧ ms.length + cnt ≤ n ∧ S ≤ 65536 * ms.length ∧ Hid (Collected D0 left (ms.map (·.data.toList))) ∧ Hid (S = (ms.map fun k => (M k).length).sum) ∧ Hid (Fr [] w1 wr))
    (fun _ wr => wr.rangeLeft b w1.heap.size)
  case atStart => exact ⟨_, _, 0, [], rfl, hrg0, by simpa using hcnt, Nat.zero_le _, Collected.start D0, rfl, HF0⟩
  case round =>
    obtain ⟨left, cnt, S, ms, rfl, hrg, hmc, hSm, HC, HSum, HF⟩ := hrel
    go_wp2_with (first
      | (at_next; refine wpList_next_ranges _ rfl _ rfl 9 Tryz.keyedStr slElem encStr slV (fun key kl hk => by obtain ⟨x, hx, _⟩ := Maps.keyOf_str Tryz.undStr hk; exact ⟨x, hx⟩) (fun v y hv => by obtain ⟨s, rfl, _⟩ := slElem_inv hv; exact ⟨s, rfl⟩) b w1.heap.size n _ _ _ rfl hrg ?_ ?_)
      | fail)
    · intro hc0 hl0
      have HR : Hid (SzT M S ∧ Fr [] w wr) := by
        refine ⟨⟨ms, List.Pairwise.imp (fun hne he => hne (by rw [he])) (List.pairwise_map.1 HC.out.1), fun s => ?_, HSum.out⟩, HFw.out.then HF.out⟩
        rw [← (HLe.out s).1]
        have h1 := HC.out.2 s.data.toList
        constructor
        · intro hs
          exact (h1.1 (List.mem_map.2 ⟨s, hs, rfl⟩)).1
        · intro hs
          obtain ⟨q, hq, he⟩ := List.mem_map.1 (h1.2 ⟨hs, hl0 _⟩)
          rw [← bytes_eq he]
          exact hq
      clear hc0 hl0 HC HSum HF hrg hrg0
      go_wp2
      go_ret
      exact ⟨S, rfl, HR.out⟩
    · intro x cv kl yd yp w3 cnt2 hkey hlk hv hat hrg2 hlt hg2 hs2 hen
      obtain ⟨x', ex, hkl, _⟩ := Maps.keyOf_str Tryz.undStr hkey
      obtain rfl : x = x' := encStr_inj ex
      subst hkl
      obtain ⟨s, hs, hsx, hks⟩ := encStr_bytes x
      have hC2 := HC.out.step hlk hat
      have hhas : has D0 (.string x) = true := ((hC2.2 x).1 (by simp)).1
      obtain ⟨g, L, c, rfl, hLl, hL6⟩ : ∃ g L c, cv = some (g, L, c) ∧ L = (M s).length ∧ L ≤ 65536 := by
        refine (HLe.out s).2 cv ?_ (by rw [hks]; exact hhas)
        rw [hks, hat]
        rw [slElem_mk] at hv
        simp only [Option.some.injEq, Prod.mk.injEq] at hv
        exact hv.1.symm
      have HC2 : Hid (Collected D0 (fun z => left z && !z.sameKey (.string x)) ((ms ++ [s]).map (·.data.toList))) := by
        show Collected _ _ _
        have e : (ms ++ [s]).map (·.data.toList) = ms.map (·.data.toList) ++ [x] := by simp [hsx]
        rw [e]
        exact hC2
      have HF2 : Hid (Fr [] w1 w3) := HF.out.on (Fr.grown (S := [w1.heap.size]) hg2 (by intro k hk _; cases hk; simp)) (by simp)
      have HS2 : Hid (S + L = ((ms ++ [s]).map fun k => (M k).length).sum) := by
        show _ = _
        rw [List.map_append, List.sum_append, ← HSum.out, hLl]
        simp
      rw [hs] at hen ⊢
      simp only [slV] at hen ⊢
      clear hkey hlk hv hat hg2 hs2 ex hsx hks HC HF hC2 hhas hLl HSum hrg0
      go_wp2_with fail
      go_roundw
      case rel => exact ⟨_, cnt2, S + L, ms ++ [s], by simp, hrg2, by simp; omega, by simp; omega, HC2, HS2, HF2⟩
      case measure => rw [hrg2.left_eq, hrg.left_eq]; exact hlt
end Go.Proofs.YtkplammapbiebaaGreatDoor
