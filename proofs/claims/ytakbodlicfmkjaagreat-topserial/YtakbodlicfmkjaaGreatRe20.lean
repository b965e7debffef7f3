/- Who can do something: Ready. Conditions as each names them. -/
import Derived.Test.YtakbodlicfmkjaaGreatRp21
namespace Go.Proofs.YtakbodlicfmkjaaGreat
open Go.ChangeShapes Go.WideShapes Go.ChangeAt Go.RowKit Go.Lib Go.Maps
set_option linter.unusedVariables false
set_option linter.unusedSimpArgs false
/-- Of the first i tasks those that can do something. -/
def rdyL (c : Cf) (s : Ms) (i : Nat) : List Int := ((List.range i).filter fun q => decide (canT c s q ≠ 0)).map fun (q : Nat) => (q : Int)
theorem rdyL_yes {c : Cf} {s : Ms} {i : Nat} (h : canT c s i ≠ 0) : rdyL c s (i + 1) = rdyL c s i ++ [(i : Int)] := by
  unfold rdyL
  rw [List.range_succ, List.filter_append, List.map_append]
  simp [h]
theorem rdyL_no {c : Cf} {s : Ms} {i : Nat} (h : canT c s i = 0) : rdyL c s (i + 1) = rdyL c s i := by
  unfold rdyL
  rw [List.range_succ, List.filter_append, List.map_append]
  simp [h]
theorem rdyL_mem {c : Cf} {s : Ms} {n : Nat} {x : Int} (h : x ∈ rdyL c s n) : ∃ q : Nat, x = q ∧ q < n ∧ canT c s q ≠ 0 := by
  obtain ⟨q, h1, rfl⟩ := List.mem_map.1 h
  obtain ⟨h2, h3⟩ := List.mem_filter.1 h1
  exact ⟨q, rfl, List.mem_range.1 h2, of_decide_eq_true h3⟩
theorem rdyL_nil {c : Cf} {s : Ms} {n : Nat} (h : rdyL c s n = []) : ∀ q, q < n → canT c s q = 0 := fun q hq => by
  apply Classical.byContradiction
  intro hne
  have : (q : Int) ∈ rdyL c s n := List.mem_map.2 ⟨q, List.mem_filter.2 ⟨List.mem_range.2 hq, decide_eq_true hne⟩, rfl⟩
  rw [h] at this
  cases this
section
variable {w0 w w' : World} {p : Nat} {c : Cf} {T : List Tx} {Z : Lay} {s : Ms}
set_option maxHeartbeats 4000000 in
set_option maxRecDepth 100000 in
theorem ready_any (h : RP w0 w p c T Z s) (hW : Wf c T s) : Calls Tryz.prog 18 #[.pointer (some ⟨p, 0, none⟩)] w fun e w' => ∃ so n cc, e = .returned (.slice so n cc) ∧ IOw w.heap.size w' so n cc (rdyL c s (c.l.toNat + c.s.toNat + 2)) ∧ Fr [] w w' := by
  have HT : Hid (Calls _ _ _ _ _) := wrong_any h
  have c0 := h.c0
  obtain ⟨N, hN⟩ : ∃ N, c.l.toNat + c.s.toNat + 2 = N := ⟨_, rfl⟩
  have c13 : w.cell? ⟨Z.z.mb, 13, none⟩ = some (.slice (some ⟨Z.z.orB, 0, none⟩) N Z.z.orC) := by rw [← hN]; exact h.m.mc rfl
  have hNC : N ≤ Z.z.orC := by have := h.m.st.caps.2.2; omega
  have hNl : N ≤ 100 := by have := h.m.may; have := this.1; have := h.m.may.2.1; omega
  have HR : Hid (∀ wr i, Fr [] w wr → i < N → ∃ ty b cf, wr.cell? ⟨Z.z.orB, i, none⟩ = some (.iface ty (.pointer (some ⟨b, 0, none⟩))) ∧ (∀ W, (method 609 ty (.pointer (some ⟨b, 0, none⟩)) "towpath/replica.can").run Tryz.prog W = .ok (cf, .pointer (some ⟨b, 0, none⟩)) W) ∧ (∀ args W, (callFunc cf args).run Tryz.prog W = .ok (.enter cf args) W) ∧ Hid (Calls Tryz.prog cf #[.pointer (some ⟨b, 0, none⟩)] wr fun e w' => e = .returned (.int .u8 (canT c s i : Int)) ∧ Fr [] wr w' ∧ (method 609 ty (.pointer (some ⟨b, 0, none⟩)) "towpath/replica.number").run Tryz.prog w' = .ok (250, .agg #[.pointer (some ⟨Z.z.mb, 0, none⟩), .int .i64 (i : Int)]) w')) := fun wr i hf hi => by
    have hm := h.m.quiet hf
    refine ⟨tyT c i, bT c Z.z i, canF c i, by rw [← taskV_eq]; exact hm.orc (by omega), fun W => m_can c Z.z i W, enter_can c i, ?_⟩
    refine Calls.mono (can_any hm hW (by omega)) ?_
    rintro e w' ⟨rfl, hf2⟩
    exact ⟨rfl, hf2, m_num (hm.quiet hf2) (by omega)⟩
  have HN0 : Hid (c.l.toNat + c.s.toNat + 2 = N) := hN
  clear h hN hW
  go_enter Tryz.func18, Tryz.ntmps18
  go_wp2_with fail
  refine Calls.mono HT.out ?_
  rintro e w1 ⟨rfl, rfl⟩
  clear HT
  go_wp2_with fail
  go_loopw [3, 17] (fun ll ii wr => ∃ (i : Nat) (so : Option Addr) (n cc : Nat), ii = .int .i64 i ∧ i ≤ N ∧ ll = .slice so n cc ∧ Hid (IOw w.heap.size wr so n cc (rdyL c s i)) ∧ n ≤ i ∧ Fr [] w wr) (fun _ ii _ => N - (intOf ii).toNat)
  case atStart => exact ⟨0, none, 0, 0, rfl, Nat.zero_le _, rfl, IOw.nil _ _, Nat.le_refl _, Fr.refl _ _⟩
  case round =>
    obtain ⟨i, so, n, cc, rfl, hiN, rfl, HO, hni, hF⟩ := hrel
    by_cases hi : i < N
    · obtain ⟨ty, b, cf, hc, MC, EC, HC⟩ := HR.out wr i hF hi
      by_cases h0 : canT c s i = 0
      · have HS : Hid (rdyL c s (i + 1) = rdyL c s i) := rdyL_no h0
        rw [h0] at HC
        clear h0
        go_wp2_with (simp [go_sem, MC, EC])
        refine Calls.mono HC.out ?_
        rintro e w2 ⟨rfl, hf2, _⟩
        have HN : Hid (IOw w.heap.size w2 so n cc (rdyL c s (i + 1))) := by rw [HS.out]; exact HO.out.keep hf2
        have HF2 : Hid (Fr [] w w2) := hF.then hf2
        clear HO HS hf2 HC EC MC hc
        go_wp2_with fail
        go_roundw
        case rel => exact ⟨i + 1, so, n, cc, rfl, by omega, rfl, HN.out, by omega, HF2.out⟩
        case measure => first | omega | (simp [RowKit.intOf]; omega) | (simp only [RowKit.intOf, intOf]; omega)
      · have HS : Hid (rdyL c s (i + 1) = rdyL c s i ++ [(i : Int)]) := rdyL_yes h0
        obtain ⟨k, hk⟩ : ∃ k : Int, (canT c s i : Int) = k := ⟨_, rfl⟩
        rw [hk] at HC
        have hk0 : ¬ k = 0 := by omega
        clear h0 hk
        go_wp2_with (simp [go_sem, MC, EC])
        refine Calls.mono HC.out ?_
        rintro e w2 ⟨rfl, hf2, MN⟩
        have HF2 : Hid (Fr [] w w2) := hF.then hf2
        have HO2 : Hid (∀ W, Fr [] w2 W → IOw w.heap.size W so n cc (rdyL c s i)) := fun W hf => (HO.out.keep hf2).keep hf
        clear HO hf2 HC EC MC hc
        go_wp2_with (simp [go_sem, MN])
        refine (snum_any _ _ _).mono ?_
        rintro e w3 ⟨rfl, hf3⟩
        have HF3 : Hid (Fr [] w w3) := HF2.out.then hf3
        have HO3 : Hid (∀ W, Fr [] w3 W → IOw w.heap.size W so n cc (rdyL c s i)) := fun W hf => HO2.out W (hf3.then hf)
        have HB : Hid (∀ W W', Fr [] w3 W → Fr (Value.slice so n cc).ownBlock.toList W W' → Fr [] w W') := fun W W' h1 h2 => (HO3.out w3 (Fr.refl _ _)).on (Nat.le_refl _) HF3.out h1 h2
        clear hf3 HO2 HF2 MN
        go_wp2_with (first
          | (at_builtin; refine wpList_appI w.heap.size _ rfl _ _ rfl so n cc _ rfl (HO3.out _ (Fr.alloc [] _ _)) _ _ (i : Int) rfl ?hcell (by omega) ?hsize ?_
             case hcell => exact cell_new1 _ _ _
             case hsize => have := HF3.out.size; simp; omega
             intro o' c' w4 hO4 hF4 _
             have HR3 : Hid (_ ∧ _) := ⟨hO4, HB.out _ _ (Fr.alloc [] _ _) hF4⟩
             clear hO4 hF4
             go_frame)
          | fail)
        go_roundw
        case rel => exact ⟨i + 1, o', n + 1, c', rfl, by omega, rfl, (by rw [HS.out]; exact HR3.out.1), by omega, HR3.out.2⟩
        case measure => first | omega | (simp [RowKit.intOf]; omega) | (simp only [RowKit.intOf, intOf]; omega)
    · obtain rfl : i = N := by omega
      go_wp2
      go_ret
      exact ⟨so, n, cc, rfl, by rw [HN0.out]; exact HO.out, hF⟩
end
end Go.Proofs.YtakbodlicfmkjaaGreat
