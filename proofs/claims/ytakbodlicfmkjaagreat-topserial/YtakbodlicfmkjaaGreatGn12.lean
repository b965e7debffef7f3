/- A gate's New. Conditions as each names them. -/
import Derived.Test.YtakbodlicfmkjaaGreatGb12
namespace Go.Proofs.YtakbodlicfmkjaaGreat
open Go.ChangeShapes Go.WideShapes Go.ChangeAt Go.RowKit Go.Lib Go.Maps
set_option linter.unusedVariables false
set_option linter.unusedSimpArgs false

/-- These may be a mark and those beyond it. -/
def Gok (m : Int) (xs : List Int) : Prop := Gt m xs ∧ m + 1 ∉ xs
def newC (m : Int) : Array Value := (Value.bool true :: Value.int .i64 m :: u64s (List.replicate 1024 0)).toArray
set_option maxRecDepth 100000 in
theorem zero_gate (m : Int) : (Tryz.zeroCells123.setIfInBounds 0 (Value.bool true)).setIfInBounds 1 (Value.int .i64 m) = newC m := by kernel_rfl
set_option maxHeartbeats 4000000 in
set_option maxRecDepth 100000 in
theorem anew_any (m : Int) (ao : Option Addr) (L cap : Nat) (xs : List Int) (w : World) (hX : IRs w ao xs) (hL : L = xs.length) :
    Calls Tryz.prog 60 #[.int .i64 m, .slice ao L cap] w fun e w' => Fr [] w w' ∧ ((Gok m xs ∧ ∃ g ws, e = .returned (.tuple #[.pointer (some ⟨g, 0, none⟩), .int .i64 0]) ∧ w.heap.size ≤ g ∧ GM w' g m ws ∧ Wds ws xs) ∨ (¬ Gok m xs ∧ e = .returned (.tuple #[.pointer none, .int .i64 1]))) := by
  by_cases h0 : m < 0
  · have HN : Hid (¬ Gok m xs) := fun h => by have := h.1.low; omega
    go_enter Tryz.func60, Tryz.ntmps60
    go_wp2
    refine bodyPost_ret (results_tmp2 rfl _ _ _) rfl ?_
    exact ⟨Fr.refl _ _, Or.inr ⟨HN.out, rfl⟩⟩
  by_cases h1 : 65536 < m
  · have HN : Hid (¬ Gok m xs) := fun h => by have := h.1.top; omega
    go_enter Tryz.func60, Tryz.ntmps60
    go_wp2
    refine bodyPost_ret (results_tmp2 rfl _ _ _) rfl ?_
    exact ⟨Fr.refl _ _, Or.inr ⟨HN.out, rfl⟩⟩
  have HL : Hid (L = xs.length) := hL
  have hLL : L ≤ 17592186044416 := by rw [hL]; exact hX.few
  have HX : Hid (∀ W, Fr [] w W → IRs W ao xs) := fun W hf => hX.keep hf
  have HM : Hid (GM (w.alloc (.cells ((Tryz.zeroCells123.setIfInBounds 0 (Value.bool true)).setIfInBounds 1 (Value.int .i64 m)) 123)) w.heap.size m (List.replicate 1024 0)) := ⟨by rw [zero_gate]; exact heap_alloc_new w _⟩
  clear hX hL
  go_enter Tryz.func60, Tryz.ntmps60
  go_wp2_with fail
  obtain ⟨g, hg⟩ : ∃ g, g = w.heap.size := ⟨_, rfl⟩
  have hgw : w.heap.size ≤ g := by omega
  rw [← hg] at HM ⊢
  clear hg
  have HI0 : Hid (Fr [] w (w.alloc (.cells ((Tryz.zeroCells123.setIfInBounds 0 (Value.bool true)).setIfInBounds 1 (Value.int .i64 m)) 123))) := Fr.alloc _ _ _
  go_loopw [7, 9, 23] (fun ll nn ii wr => ∃ (i : Nat) (lst : Int) (ws : List Nat), ll = .int .i64 lst ∧ ii = .int .i64 i ∧ i ≤ L ∧ m + 2 ≤ lst ∧ lst ≤ 65537 + 1 ∧ Hid (GM wr g m ws ∧ Wds ws (xs.take i)) ∧ Hid (Fr [] w wr) ∧ Hid (Gok m (xs.take i) ∧ (∀ x ∈ xs.take i, x < lst) ∧ (lst = m + 2 ∨ lst - 1 ∈ xs.take i))) (fun _ _ ii _ => L - (RowKit.intOf ii).toNat)
  case atStart => exact ⟨0, m + 2, List.replicate 1024 0, rfl, rfl, Nat.zero_le _, by omega, by omega, ⟨HM.out, Wds.zero⟩, HI0, ⟨⟨⟨h0, h1, List.Pairwise.nil, by simp⟩, by simp⟩, by simp, Or.inl rfl⟩⟩
  case round =>
    obtain ⟨i, lst, ws, rfl, rfl, hi1, hl1, hl2, HG, HF, HI⟩ := hrel
    by_cases hi : i < L
    · have hix : i < xs.length := by rw [← HL.out]; exact hi
      obtain ⟨b, off, rfl, _, hc⟩ := (HX.out _ HF.out).lies (by omega)
      have hci := hc i hix
      have HT := itake_snoc xs i hix
      have hmem : xs.getD i 0 ∈ xs := by simp [List.getD, hix]
      have hprec : ∀ y ∈ xs.take i, Ris xs → y < xs.getD i 0 := by
        intro y hy hr
        have h3 : Ris (xs.take (i + 1)) := List.Pairwise.sublist (List.take_sublist _ _) hr
        rw [HT] at h3
        exact (List.pairwise_append.1 h3).2.2 y hy _ (by simp)
      obtain ⟨x, hx⟩ : ∃ x, x = xs.getD i 0 := ⟨_, rfl⟩
      rw [← hx] at hci HT hmem hprec
      have HT : Hid (xs.take (i + 1) = xs.take i ++ [x]) := HT
      clear hx hc
      by_cases h2 : x < lst
      · have HN : Hid (¬ Gok m xs) := by
          intro hG
          have hb := hG.1.bey x hmem
          have hne : x ≠ m + 1 := fun e => hG.2 (e ▸ hmem)
          rcases HI.out.2.2 with e | e
          · omega
          · have := hprec _ e hG.1.ris
            omega
        clear hprec hmem
        go_wp2
        refine bodyPost_ret (results_tmp2 rfl _ _ _) rfl ?_
        exact ⟨HF.out, Or.inr ⟨HN.out, rfl⟩⟩
      by_cases h3 : 65536 < x
      · have HN : Hid (¬ Gok m xs) := by
          intro hG
          have hb := hG.1.bey x hmem
          omega
        clear hprec hmem
        go_wp2
        refine bodyPost_ret (results_tmp2 rfl _ _ _) rfl ?_
        exact ⟨HF.out, Or.inr ⟨HN.out, rfl⟩⟩
      have HS : Hid (Calls _ _ _ _ _) := aset_any x wr HG.out.1 HG.out.2 (by omega) (by omega)
      have HW : Hid (Wds (ws.set (wdOf x) (ws.getD (wdOf x) 0 ||| pw2 (btOf x))) (xs.take (i + 1))) := by
        show Wds _ _
        rw [HT.out]
        exact HG.out.2.put (by omega) (by omega) (fun y => by simp [or_comm])
      have HI2 : Hid (Gok m (xs.take (i + 1)) ∧ (∀ y ∈ xs.take (i + 1), y < x + 1) ∧ (x + 1 = m + 2 ∨ x + 1 - 1 ∈ xs.take (i + 1))) := by
        obtain ⟨⟨g1, g2⟩, g3, _⟩ := HI.out
        rw [Hid, HT.out]
        refine ⟨⟨⟨g1.low, g1.top, Ris.snoc g1.ris (fun y hy => by have := g3 y hy; omega), fun y hy => ?_⟩, fun hy => ?_⟩, fun y hy => ?_, Or.inr (by rw [show x + 1 - 1 = x by omega]; simp)⟩
        · rcases List.mem_append.1 hy with e | e
          · exact g1.bey y e
          · simp at e; subst e; omega
        · rcases List.mem_append.1 hy with e | e
          · exact g2 e
          · simp at e; omega
        · rcases List.mem_append.1 hy with e | e
          · have := g3 y e; omega
          · simp at e; omega
      clear hprec hmem HI
      go_wp2_with fail
      refine Calls.mono HS.out ?_
      rintro e w3 ⟨rfl, hG3, hF3⟩
      have HG3 : Hid (GM w3 g m (ws.set (wdOf x) (ws.getD (wdOf x) 0 ||| pw2 (btOf x))) ∧ Wds (ws.set (wdOf x) (ws.getD (wdOf x) 0 ||| pw2 (btOf x))) (xs.take (i + 1))) := ⟨hG3, HW.out⟩
      have HF3 : Hid (Fr [] w w3) := HF.out.on hF3 (by simpa using hgw)
      clear hG3 hF3 HG HF HS HW
      go_wp2
      go_roundw
      case rel => exact ⟨i + 1, x + 1, _, rfl, by simp, by omega, by omega, by omega, HG3, HF3, HI2⟩
      case measure => simp [RowKit.intOf]; omega
    · have HE : Hid (xs.take i = xs) := List.take_of_length_le (by rw [← HL.out]; omega)
      go_wp2
      refine bodyPost_ret (results_tmp2 rfl _ _ _) rfl ?_
      have h5 := HI.out.1
      have h6 := HG.out
      rw [HE.out] at h5 h6
      exact ⟨HF.out, Or.inl ⟨h5, g, ws, rfl, hgw, h6.1, h6.2⟩⟩
end Go.Proofs.YtakbodlicfmkjaaGreat
