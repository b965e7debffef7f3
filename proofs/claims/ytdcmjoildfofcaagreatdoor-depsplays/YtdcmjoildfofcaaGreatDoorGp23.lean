/- Texts of this claim laid together, one behind the other: contracts and plain lemmas; conditions as each names them. -/
import Derived.Test.YtdcmjoildfofcaaGreatDoorGp22
/- The document's with: rising numbers, and one more, once. Conditions as it names them. -/
namespace Go.Proofs.YtdcmjoildfofcaaGreatDoor
open Go.ChangeShapes Go.WideShapes Go.ChangeAt Go.RowKit Go.Lib Go.Maps
set_option linter.unusedVariables false
set_option linter.unusedSimpArgs false

set_option maxHeartbeats 4000000 in
set_option maxRecDepth 100000 in
theorem with_any (ao : Option Addr) (N c : Nat) (xs : List Int) (n : Int) (w : World) (hX : IRd w ao xs) (hN : N = xs.length) (hNf : N < 1099511627776) (hR : Ris xs) :
    Calls Tryz.prog 65 #[.slice ao N c, .int .i64 n] w fun e w' => ∃ so M sc ys, e = .returned (.slice so M sc) ∧ M = ys.length ∧ IRd w' so ys ∧ Ris ys ∧ (∀ m, m ∈ ys ↔ m ∈ xs ∨ m = n) ∧ ((so = ao ∧ ys = xs) ∨ IOw w.heap.size w' so M sc ys) ∧ Fr [] w w' := by
  have HN : Hid (N = xs.length) := hN
  have HR : Hid (Ris xs) := hR
  have HX : Hid (∀ W, Fr [] w W → IRd W ao xs) := fun W hf => hX.keep hf
  clear hX hN hR
  go_enter Tryz.func65, Tryz.ntmps65
  go_wp2_with fail
  go_loopw [5, 6, 7] (fun ll pp ii wr => ∃ (i : Nat) (so : Option Addr) (M sc : Nat) (pt : Bool) (ys : List Int), ii = .int .i64 i ∧ i ≤ N ∧ ll = .slice so M sc ∧ pp = .bool pt ∧ M ≤ i + 1 ∧ Hid (n ∉ xs.take i) ∧ Hid ((pt = false ∧ ys = xs.take i ∧ ∀ x ∈ xs.take i, x < n) ∨ (pt = true ∧ ys = insl n (xs.take i) ∧ ∃ x ∈ xs.take i, n < x)) ∧ Hid (IOw w.heap.size wr so M sc ys) ∧ Hid (Fr [] w wr)) (fun _ _ ii _ => N - (RowKit.intOf ii).toNat)
  case atStart => exact ⟨0, none, 0, 0, false, [], rfl, Nat.zero_le _, rfl, rfl, by omega, (show n ∉ xs.take 0 from by simp), Or.inl ⟨rfl, rfl, by simp⟩, IOw.nil _ _, Fr.refl _ _⟩
  case round =>
    obtain ⟨i, so, M, sc, pt, ys, rfl, hiN, rfl, rfl, hMi, HNi, HYs, HO, HF⟩ := hrel
    by_cases hi : i < N
    · have hil : i < xs.length := by rw [← HN.out]; exact hi
      obtain ⟨b, off, rfl, _, hc⟩ := (HX.out _ HF.out).lies (by omega)
      have hci := hc i hil
      have HT := itake_snoc11 xs i hil
      have hmx := igetD_mem xs i hil
      have hup : ∀ y ∈ xs.take i, y < xs.getD i 0 := fun y hy => by
        obtain ⟨j, hj, e⟩ := List.mem_iff_getElem.1 hy
        rw [List.getElem_take] at e
        have hj2 : j < i := by rw [List.length_take] at hj; omega
        have := List.pairwise_iff_getElem.1 HR.out j i (by omega) hil hj2
        rw [e] at this
        simpa [List.getD, hil] using this
      obtain ⟨x, hx⟩ : ∃ x, x = xs.getD i 0 := ⟨_, rfl⟩
      rw [← hx] at hci HT hmx hup
      have HCi : Hid (∀ W, Fr [] w W → W.cell? ⟨b, off + i, none⟩ = some (.int .i64 x)) := fun W hf => by
        obtain ⟨b', off', e', _, hc'⟩ := (HX.out W hf).lies (by omega)
        cases e'
        rw [hc' i hil, hx]
      have HO2 : Hid (∀ W, Fr [] wr W → IOw w.heap.size W so M sc ys) := fun W hf => HO.out.keep hf
      have HB : Hid (∀ W W', Fr [] wr W → Fr (Value.slice so M sc).ownBlock.toList W W' → Fr [] w W') := fun W W' h1 h2 => HO.out.on (Nat.le_refl _) HF.out h1 h2
      have hsz := HF.out.size
      have HT : Hid (xs.take (i + 1) = xs.take i ++ [x]) := HT
      have HU : Hid (∀ y ∈ xs.take i, y < x) := hup
      clear hx hc hup
      by_cases he : x = n
      · have heq : (x == n) = true := by rw [he]; simp
        have HMn : Hid (n ∈ xs) := by show n ∈ xs; rw [← he]; exact hmx
        clear he hmx
        go_wp2
        go_ret
        exact ⟨_, N, c, xs, rfl, HN.out, HX.out _ HF.out, HR.out, fun m => ⟨Or.inl, fun h => h.elim id (fun e => by rw [e]; exact HMn.out)⟩, Or.inl ⟨rfl, rfl⟩, HF.out⟩
      · have heq : (x == n) = false := by simpa using he
        have HNi2 : Hid (n ∉ xs.take (i + 1)) := by
          show n ∉ _
          rw [HT.out, List.mem_append, not_or]
          exact ⟨HNi.out, by simpa using fun e => he e.symm⟩
        clear hmx
        cases pt with
        | true =>
          have hgt : n < x := by
            rcases HYs.out with ⟨h, _⟩ | ⟨_, _, y, hy, h⟩
            · cases h
            · have := HU.out y hy; omega
          have HYs2 : Hid (ys ++ [x] = insl n (xs.take (i + 1)) ∧ ∃ y ∈ xs.take (i + 1), n < y) := by
            rcases HYs.out with ⟨h, _⟩ | ⟨_, e, _⟩
            · cases h
            · rw [HT.out, e]
              exact ⟨(insl_up hgt).symm, x, by simp, hgt⟩
          clear he
          go_wp2_with (first
            | (at_builtin; refine wpList_appI w.heap.size _ rfl _ _ rfl so M sc _ rfl (HO2.out _ (Fr.alloc [] _ _)) _ _ x rfl ?hcell (by omega) ?hsize ?_
               case hcell => exact cell_new1 _ _ _
               case hsize => simp; omega
               intro o' c' w3 hO3 hF3 _
               have HR3 : Hid (_ ∧ _) := ⟨hO3, HB.out _ _ (Fr.alloc [] _ _) hF3⟩
               clear hO3 hF3
               go_frame)
            | fail)
          go_roundw
          case rel => exact ⟨i + 1, o', M + 1, c', true, ys ++ [x], by simp, by omega, rfl, rfl, by omega, HNi2.out, Or.inr ⟨rfl, HYs2.out.1, HYs2.out.2⟩, HR3.out.1, HR3.out.2⟩
          case measure => simp [RowKit.intOf]; omega
        | false =>
          have hMy : M = ys.length := HO.out.len
          by_cases hlt : x < n
          · have hlt' : ¬ (n < x) := by omega
            have hd : decide (n < x) = false := by simpa using hlt'
            have HYs2 : Hid (ys ++ [x] = xs.take (i + 1) ∧ ∀ y ∈ xs.take (i + 1), y < n) := by
              rcases HYs.out with ⟨_, e, h⟩ | ⟨h, _⟩
              · rw [HT.out, e]
                refine ⟨rfl, fun y hy => ?_⟩
                rcases List.mem_append.1 hy with h1 | h1
                · exact h y h1
                · simp at h1; rw [h1]; exact hlt
              · cases h
            clear he hMy
            go_wp2_with (first
              | (at_builtin; refine wpList_appI w.heap.size _ rfl _ _ rfl so M sc _ rfl (HO2.out _ (Fr.alloc [] _ _)) _ _ x rfl ?hcell (by omega) ?hsize ?_
                 case hcell => exact cell_new1 _ _ _
                 case hsize => simp; omega
                 intro o' c' w3 hO3 hF3 _
                 have HR3 : Hid (_ ∧ _) := ⟨hO3, HB.out _ _ (Fr.alloc [] _ _) hF3⟩
                 clear hO3 hF3
                 go_frame)
              | fail)
            go_roundw
            case rel => exact ⟨i + 1, o', M + 1, c', false, ys ++ [x], by simp, by omega, rfl, rfl, by omega, HNi2.out, Or.inl ⟨rfl, HYs2.out.1, HYs2.out.2⟩, HR3.out.1, HR3.out.2⟩
            case measure => simp [RowKit.intOf]; omega
          · have hgt : n < x := by omega
            have hd : decide (n < x) = true := by simpa using hgt
            have hMi2 : M ≤ i := by
              rcases HYs.out with ⟨_, e, h⟩ | ⟨h, _⟩
              · rw [hMy, e, List.length_take]; omega
              · cases h
            have HYs2 : Hid (ys ++ [n] ++ [x] = insl n (xs.take (i + 1)) ∧ ∃ y ∈ xs.take (i + 1), n < y) := by
              rcases HYs.out with ⟨_, e, h⟩ | ⟨h, _⟩
              · rw [HT.out, e, insl_up hgt, insl_low h]
                exact ⟨rfl, x, by simp, hgt⟩
              · cases h
            clear he hMy hlt
            go_upto_region 11 with (first
              | (at_builtin; refine wpList_appI w.heap.size _ rfl _ _ rfl so M sc _ rfl (HO2.out _ (Fr.alloc [] _ _)) _ _ n rfl ?hcell (by omega) ?hsize ?_
                 case hcell => exact cell_new1 _ _ _
                 case hsize => simp; omega
                 intro o' c' w3 hO3 hF3 _
                 have HR3 : Hid (IOw w.heap.size w3 o' (M + 1) c' (ys ++ [n]) ∧ Fr [] w w3) := ⟨hO3, HB.out _ _ (Fr.alloc [] _ _) hF3⟩
                 clear hO3 hF3
                 go_frame)
              | fail)
            have hci3 := HCi.out _ HR3.out.2
            have hsz3 := HR3.out.2.size
            have HO4 : Hid (∀ W, Fr [] w3 W → IOw w.heap.size W o' (M + 1) c' (ys ++ [n])) := fun W hf => HR3.out.1.keep hf
            have HB4 : Hid (∀ W W', Fr [] w3 W → Fr (Value.slice o' (M + 1) c').ownBlock.toList W W' → Fr [] w W') := fun W W' h1 h2 => HR3.out.1.on (Nat.le_refl _) HR3.out.2 h1 h2
            go_wp2_with (first
              | (at_builtin; refine wpList_appI w.heap.size _ rfl _ _ rfl o' (M + 1) c' _ rfl (HO4.out _ (Fr.alloc [] _ _)) _ _ x rfl ?hcell (by omega) ?hsize ?_
                 case hcell => exact cell_new1 _ _ _
                 case hsize => simp; omega
                 intro o2 c2 w4 hO4 hF4 _
                 have HR4 : Hid (_ ∧ _) := ⟨hO4, HB4.out _ _ (Fr.alloc [] _ _) hF4⟩
                 clear hO4 hF4
                 go_frame)
              | fail)
            go_roundw
            case rel => exact ⟨i + 1, o2, M + 1 + 1, c2, true, ys ++ [n] ++ [x], by simp, by omega, rfl, rfl, by omega, HNi2.out, Or.inr ⟨rfl, HYs2.out.1, HYs2.out.2⟩, HR4.out.1, HR4.out.2⟩
            case measure => simp [RowKit.intOf]; omega
    · obtain rfl : N = i := by omega
      rw [List.take_of_length_le (by rw [← HN.out]; exact Nat.le_refl _)] at HNi HYs
      obtain ⟨hI1, hI2⟩ := insl_is HR.out HNi.out
      have HI : Hid (Ris (insl n xs) ∧ ∀ m, m ∈ insl n xs ↔ m ∈ xs ∨ m = n) := ⟨hI1, hI2⟩
      clear hI1 hI2
      cases pt with
      | true =>
        have hye : ys = insl n xs := by
          rcases HYs.out with ⟨h, _⟩ | ⟨_, e, _⟩
          · cases h
          · exact e
        subst hye
        go_wp2
        go_ret
        exact ⟨so, M, sc, rfl, _, HO.out.len, HO.out.rd, HI.out.1, HI.out.2, Or.inr HO.out, HF.out⟩
      | false =>
        have hye : ys ++ [n] = insl n xs := by
          rcases HYs.out with ⟨_, e, h⟩ | ⟨h, _⟩
          · rw [e]; exact (insl_low h).symm
          · cases h
        have HYe : Hid (ys ++ [n] = insl n xs) := hye
        have hMN : M ≤ N := by
          rcases HYs.out with ⟨_, e, h⟩ | ⟨h, _⟩
          · rw [HO.out.len, e, HN.out]; exact Nat.le_refl _
          · cases h
        have HO2 : Hid (∀ W, Fr [] wr W → IOw w.heap.size W so M sc ys) := fun W hf => HO.out.keep hf
        have HB : Hid (∀ W W', Fr [] wr W → Fr (Value.slice so M sc).ownBlock.toList W W' → Fr [] w W') := fun W W' h1 h2 => HO.out.on (Nat.le_refl _) HF.out h1 h2
        have hsz := HF.out.size
        clear hye
        go_wp2_with (first
          | (at_builtin; refine wpList_appI w.heap.size _ rfl _ _ rfl so M sc _ rfl (HO2.out _ (Fr.alloc [] _ _)) _ _ n rfl ?hcell (by omega) ?hsize ?_
             case hcell => exact cell_new1 _ _ _
             case hsize => simp; omega
             intro o' c' w3 hO3 hF3 _
             have HR3 : Hid (IOw w.heap.size w3 o' (M + 1) c' (ys ++ [n]) ∧ Fr [] w w3) := ⟨hO3, HB.out _ _ (Fr.alloc [] _ _) hF3⟩
             clear hO3 hF3
             go_frame)
          | fail)
        go_ret
        obtain ⟨h1, h2⟩ := HR3.out
        rw [HYe.out] at h1
        exact ⟨o', M + 1, c', rfl, _, h1.len, h1.rd, HI.out.1, HI.out.2, Or.inr h1, h2⟩
end Go.Proofs.YtdcmjoildfofcaaGreatDoor
