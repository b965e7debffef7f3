/- slices.Sort and slices.Compact of a row of numbers of one's own; contract of a table's writers. Conditions as each names them. -/
import Derived.Test.YtakbodlicfmkjaaGreatTo11
import Derived.Test.YtakbodlicfmkjaaGreatChk
namespace Go.Proofs.YtakbodlicfmkjaaGreat
open Go.ChangeShapes Go.WideShapes Go.ChangeAt Go.RowKit Go.Lib Go.Maps Go.Sort Go.Shelf
set_option linter.unusedVariables false
set_option linter.unusedSimpArgs false

theorem sortI_any (base : Nat) (so : Option Addr) (N c : Nat) (zs : List Int) (w : World) (h : IOw base w so N c zs) (hN : N < 1099511627776) :
    Calls Tryz.prog 108 #[.slice so N c] w fun e w' => e = .returned (.tuple #[]) ∧ IOw base w' so N c (zs.mergeSort fun x y => decide (x ≤ y)) ∧ Fr (Value.slice so N c).ownBlock.toList w w' := by
  obtain ⟨hlen, hrow⟩ := h
  rcases hrow.2 with ⟨hv, h0⟩ | ⟨g, cap, cur, hv, hbase, hb, h1, h2, h3, h4⟩
  · cases hv
    obtain rfl : zs = [] := List.eq_nil_of_length_eq_zero (by omega)
    have hcon := AnyM.slices_Sort_int_none Tryz.sortA none 0 w
    change Calls Tryz.prog 108 _ _ _ at hcon
    refine hcon.mono ?_
    rintro e w' ⟨rfl, rfl⟩
    exact ⟨rfl, ⟨by simp, by simpa using hrow⟩, Fr.refl _ _⟩
  · cases hv
    have ht : cur.toList.take zs.length = zs.map (Value.int .i64) := by
      rw [← hlen]
      simpa [ints] using h4
    have hcon := AnyM.slices_Sort_int Tryz.sortA g 0 c zs w (holds_of_blockI hb ht) (lt_of_block hb) (by omega)
    change Calls Tryz.prog 108 _ _ _ at hcon
    rw [← hlen] at hcon
    refine hcon.mono ?_
    rintro e w' ⟨rfl, n, os, rfl⟩
    have hl2 : (zs.mergeSort fun x y => decide (x ≤ y)).length = zs.length := List.length_mergeSort _
    have hso := ownsRow_sortedI (n := n) (os := os) (base := base) (cap := c) (e := 3) (ss := zs) (ts := zs.mergeSort fun x y => decide (x ≤ y)) hl2 hbase hb (by omega) h2 (by simpa using h3)
    rw [← hlen] at hso
    exact ⟨rfl, ⟨by rw [hl2]; exact hlen, hso⟩, Fr.grown (grownBy_sortedI _) (fun k hk _ => by simpa [Value.ownBlock] using hk.symm)⟩
theorem compact_is (zs : List Int) (h : zs.Pairwise fun x y => x ≤ y) : Ris (Lib.compact zs) ∧ ∀ x, x ∈ Lib.compact zs ↔ x ∈ zs := by
  have hg : ∀ m, m < zs.length → zs.toArray[m]! = zs.getD m 0 := fun m hm => by simp [List.getD, hm]
  have hle : ∀ i j, i < j → j < zs.length → zs.getD i 0 ≤ zs.getD j 0 := fun i j hij hj => by
    have := List.pairwise_iff_getElem.1 h i j (by omega) hj hij
    simpa [List.getD, hj, show i < zs.length by omega] using this
  have key : ∀ m, m ≤ zs.length → Ris (Lib.compactUpTo zs.toArray m) ∧ ∀ x, x ∈ Lib.compactUpTo zs.toArray m ↔ ∃ j, j < m ∧ zs.getD j 0 = x := by
    intro m
    induction m with
    | zero => intro _; exact ⟨by simp [Lib.compactUpTo, Ris], fun x => by simp [Lib.compactUpTo]⟩
    | succ m ih =>
      intro hm
      obtain ⟨h1, h2⟩ := ih (by omega)
      rw [Lib.compactUpTo_succ]
      by_cases hk : Lib.keeps zs.toArray m = true
      · rw [if_pos hk, hg m (by omega)]
        refine ⟨h1.snoc (fun x hx => ?_), fun x => ?_⟩
        · obtain ⟨j, hj, rfl⟩ := (h2 x).1 hx
          have hne : zs.getD m 0 ≠ zs.getD (m - 1) 0 := fun e => by
            have := Lib.keeps_neg (d := zs.toArray) (m := m) (by omega) (by rw [hg m (by omega), hg (m - 1) (by omega)]; exact e)
            rw [this] at hk
            cases hk
          have e1 := hle (m - 1) m (by omega) (by omega)
          by_cases hj2 : j = m - 1
          · rw [hj2]; omega
          · have := hle j (m - 1) (by omega) (by omega)
            omega
        · rw [List.mem_append, h2 x]
          simp only [List.mem_singleton]
          constructor
          · rintro (⟨j, hj, e⟩ | e)
            · exact ⟨j, by omega, e⟩
            · exact ⟨m, by omega, e.symm⟩
          · rintro ⟨j, hj, e⟩
            by_cases hjm : j = m
            · subst hjm; exact Or.inr e.symm
            · exact Or.inl ⟨j, by omega, e⟩
      · rw [if_neg hk, List.append_nil]
        refine ⟨h1, fun x => ?_⟩
        rw [h2 x]
        constructor
        · rintro ⟨j, hj, e⟩; exact ⟨j, by omega, e⟩
        · rintro ⟨j, hj, e⟩
          by_cases hjm : j = m
          · subst hjm
            have h0 : 0 < j := by
              rcases Nat.eq_zero_or_pos j with h0 | h0
              · subst h0; exact absurd (by simp [Lib.keeps]) hk
              · exact h0
            refine ⟨j - 1, by omega, ?_⟩
            rw [← e, ← hg j (by omega), ← hg (j - 1) (by omega)]
            exact Classical.byContradiction fun hne => hk (Lib.keeps_pos (fun e2 => hne e2.symm))
          · exact ⟨j, by omega, e⟩
  obtain ⟨h1, h2⟩ := key zs.length (Nat.le_refl _)
  refine ⟨h1, fun x => ?_⟩
  rw [show Lib.compact zs = Lib.compactUpTo zs.toArray zs.length from rfl, h2 x, List.mem_iff_getElem]
  constructor
  · rintro ⟨j, hj, e⟩; exact ⟨j, hj, by simpa [List.getD, hj] using e⟩
  · rintro ⟨j, hj, e⟩; exact ⟨j, hj, by simpa [List.getD, hj] using e⟩
theorem compactI_any (base : Nat) (so : Option Addr) (N c : Nat) (zs : List Int) (w : World) (h : IOw base w so N c zs) (hN : N < 1099511627776) (hle : (Lib.compact zs).length ≤ N) :
    Calls Tryz.prog 262 #[.slice so N c] w fun e w' => ∃ N', e = .returned (.slice so N' c) ∧ N' ≤ N ∧ IOw base w' so N' c (Lib.compact zs) ∧ Fr (Value.slice so N c).ownBlock.toList w w' := by
  have hcap := h.cap
  obtain ⟨hlen, hrow⟩ := h
  rcases hrow.2 with ⟨hv, h0⟩ | ⟨g, cap, cur, hv, hbase, hb, h1, h2, h3, h4⟩
  · cases hv
    obtain rfl : zs = [] := List.eq_nil_of_length_eq_zero (by omega)
    have hcon := Any.slices_Compact_int_empty Tryz.compactA none 0 w
    change Calls Tryz.prog 262 _ _ _ at hcon
    refine hcon.mono ?_
    rintro e w' ⟨rfl, rfl⟩
    exact ⟨0, rfl, Nat.le_refl _, ⟨rfl, hrow⟩, Fr.refl _ _⟩
  · cases hv
    have ht : cur.toList.take zs.length = zs.map (Value.int .i64) := by
      rw [← hlen]
      simpa [ints] using h4
    have hcon := Any.slices_Compact_int Tryz.compactA g 0 c zs w (holds_of_blockI hb ht) (by omega) (by omega)
    change Calls Tryz.prog 262 _ _ _ at hcon
    rw [← hlen] at hcon
    refine hcon.mono ?_
    rintro e w' ⟨rfl, q, rfl⟩
    have hcs : cur.size = c := by simpa using h3
    have hlL : (Lib.compact zs ++ List.replicate (N - (Lib.compact zs).length) 0).length = N := by simp; omega
    refine ⟨_, rfl, hle, ⟨rfl, by simp [ints], .inr ⟨g, c, putCells (Value.int .i64) 0 (Lib.compact zs ++ List.replicate (N - (Lib.compact zs).length) 0).toArray cur, rfl, hbase, ?_, by omega, h2, by simp [putCells, hcs], ?_⟩⟩, ?_⟩
    · have := heap_sortedI (w := w) (g := g) (n := q) (os := #[]) (cur := cur) (e := 3) (fr := (0, 0)) (Lib.compact zs ++ List.replicate (N - (Lib.compact zs).length) 0).toArray hb
      rw [grow_empty] at this
      exact this
    · have := take_putCellsI cur (Lib.compact zs ++ List.replicate (N - (Lib.compact zs).length) 0) (by rw [hlL]; omega)
      rw [hlL] at this
      have h6 := congrArg (List.take (Lib.compact zs).length) this
      rw [List.take_take, Nat.min_eq_left hle] at h6
      rw [Nat.mul_one, h6]
      simp [ints]
    · have := grownBy_sortedI (w := w) (g := g) (n := q) (os := #[]) (Lib.compact zs ++ List.replicate (N - (Lib.compact zs).length) 0).toArray
      rw [grow_empty] at this
      exact Fr.grown this (fun k hk _ => by simpa [Value.ownBlock] using hk.symm)
theorem compact_few (zs : List Int) : (Lib.compact zs).length ≤ zs.length := by
  unfold Lib.compact Lib.compactUpTo
  rw [List.length_map]
  exact Nat.le_trans (List.length_filter_le _ _) (by simp)
/-- The keys that are written. -/
def keysW (ws : List Wt) : List ByteArray := ws.map (·.key)
theorem wgetD_mem11 (ws : List Wt) (i : Nat) (h : i < ws.length) : ws.getD i Wt.zero ∈ ws := by simp [List.getD, h]
set_option maxHeartbeats 4000000 in
set_option maxRecDepth 100000 in
theorem twriters_any {tb : Nat} {B : List Nat} {n : Nat} {D : Dt} (wo : Option Addr) (M mc : Nat) (ws : List Wt) (w : World) (h : Tb w tb B n D) (hW : WRs w wo ws) (hM : M = ws.length) (hMf : M ≤ 65536) (hl : ∀ k, i64 (D.last k)) :
    Calls Tryz.prog 259 #[.pointer (some ⟨tb, 0, none⟩), .slice wo M mc] w fun e w' => ∃ so N c xs, e = .returned (.slice so N c) ∧ IOw w.heap.size w' so N c xs ∧ AhT D (keysW ws) xs ∧ N ≤ M ∧ Fr [] w w' := by
  classical
  obtain ⟨p, hp⟩ : ∃ p : Int → Bool, ∀ x, p x = decide (D.op x) := ⟨fun x => decide (D.op x), fun _ => rfl⟩
  obtain ⟨zs, hzs⟩ : ∃ zs, zs = ws.map (fun x => D.last x.key) := ⟨_, rfl⟩
  have HP : Hid (∀ x, p x = true ↔ D.op x) := fun x => by rw [hp]; simp
  have HZ : Hid (zs = ws.map (fun x => D.last x.key)) := hzs
  have HM : Hid (M = ws.length) := hM
  have HL : Hid (∀ k, i64 (D.last k)) := hl
  have HK : Hid (∀ W, Fr [] w W → Tb W tb B n D) := fun W hf => h.quiet hf
  have HW : Hid (∀ W, Fr [] w W → WRs W wo ws) := fun W hf => hW.keep hf
  clear h hp hzs hM hl hW
  go_enter Tryz.func259, Tryz.ntmps259
  go_wp2_with fail
  go_loopw [5, 11] (fun ll ii wr => ∃ (i : Nat) (so : Option Addr) (N c : Nat), ii = .int .i64 i ∧ i ≤ M ∧ ll = .slice so N c ∧ Hid (IOw w.heap.size wr so N c ((zs.take i).filter p)) ∧ N ≤ i ∧ Fr [] w wr) (fun _ ii _ => M - (RowKit.intOf ii).toNat)
  case atStart => exact ⟨0, none, 0, 0, rfl, Nat.zero_le _, rfl, IOw.nil _ _, Nat.le_refl _, Fr.refl _ _⟩
  case round =>
    obtain ⟨i, so, N, c, rfl, hiM, rfl, HO, hNi, hF⟩ := hrel
    by_cases hi : i < M
    · have hi' : i < ws.length := by rw [← HM.out]; exact hi
      obtain ⟨b2, o2, e2, _, hc2⟩ := (HW.out _ hF).lies (by omega)
      obtain ⟨d0, d1, d2⟩ := hc2 i hi'
      have hm := wgetD_mem11 ws i hi'
      have hkz := ((HW.out _ hF).each _ hm).1
      obtain ⟨y, hyy⟩ : ∃ y, y = ws.getD i Wt.zero := ⟨_, rfl⟩
      rw [← hyy] at d0 d1 d2 hkz
      have hzy : zs.getD i 0 = D.last y.key := by rw [HZ.out, hyy]; simp [List.getD, hi']
      have HS := ifilter_snoc zs p i (by rw [HZ.out]; simpa using hi')
      rw [hzy] at HS
      obtain ⟨key, val, drop⟩ := y
      simp only at d0 d1 d2 hkz hzy HS
      obtain ⟨x, hx⟩ : ∃ x, D.last key = x := ⟨_, rfl⟩
      rw [hx] at HS
      have hxi : i64 x := by rw [← hx]; exact HL.out key
      have HS : Hid ((zs.take (i + 1)).filter p = _) := HS
      obtain ⟨lb, ob, wb, E, hT⟩ := HK.out _ hF
      have HT : Hid (∀ W, Fr [] wr W → TbI W tb lb ob wb B n D E) := fun W hf => hT.keep hf (by simp)
      clear hyy hc2 hm hzy hT
      subst e2
      obtain ⟨w1, HW1⟩ : ∃ w1, Hid (wr.alloc (.cells #[.string key, .string val, .bool drop] 56) = w1) := ⟨_, rfl⟩
      have hF1 : Fr [] wr w1 := by rw [← HW1.out]; exact Fr.alloc _ _ _
      have hT1 := HT.out _ hF1
      have t0 := hT1.c0
      have tl : ∀ q, (Instr.lookup 177 (.map (some lb)) (.string key) false).run Tryz.prog (w1.drewN q) = .ok (.int .i64 x) (w1.drewN q) := fun q => by
        have := (hT1.keep (Fr.drewN [] w1 q) (by simp)).lookL key (by unfold maxLen; omega)
        rwa [hx] at this
      have hb1 : w1.heap[wr.heap.size]? = some (.cells #[.string key, .string val, .bool drop] 56 (0, 0)) := by rw [← HW1.out]; exact heap_alloc_new _ _
      have k0 : w1.cell? ⟨wr.heap.size, 0, none⟩ = some (.string key) := by rw [cell_of_row _ _ _ _ _ _ hb1]; rfl
      have HX : Hid (D.last key = x) := hx
      have HB : Hid (∀ W W', Fr [] wr W → Fr (Value.slice so N c).ownBlock.toList W W' → Fr [] w W') := fun W W' h1 h2 => HO.out.on (Nat.le_refl _) hF h1 h2
      have HO2 : Hid (∀ W, Fr [] wr W → IOw w.heap.size W so N c ((zs.take i).filter p)) := fun W hf => HO.out.keep hf
      clear hT1 hx hb1 HO
      go_upto_region 5 with fail
      rw [HW1.out]
      go_quiet (fail)
      obtain ⟨w2, HW2⟩ : ∃ w2, Hid (w1.drewN nq = w2) := ⟨_, rfl⟩
      rw [HW2.out]
      have hF2 : Fr [] wr w2 := by rw [← HW2.out]; exact hF1.then (Fr.drewN _ _ _)
      clear HW2 HW1 hF1 t0 tl k0
      obtain ⟨q, hq⟩ : ∃ q, p x = q := ⟨_, rfl⟩
      have HQ : Hid (p x = q) := hq
      rw [hq] at HS
      clear hq
      have HIs : Hid (Calls _ _ _ _ _) := tisopen_any x q w2 (HK.out _ (hF.then hF2)) hxi (by rw [← HQ.out]; exact HP.out x)
      cases q with
      | true =>
        rw [if_pos rfl] at HS
        go_wp2_with fail
        refine Calls.mono HIs.out ?_
        rintro e w3 ⟨rfl, hF3⟩
        have hG3 := hF2.then hF3
        clear HIs hF2 hF3 d0 d1 d2
        go_wp2_with (first
          | (at_builtin; refine wpList_appI w.heap.size _ rfl _ _ rfl so N c _ rfl (HO2.out _ (hG3.then (Fr.alloc [] _ _))) _ _ x rfl ?hcell (by omega) ?hsize ?_
             case hcell => exact cell_new1 _ _ _
             case hsize => have := hF.size; have := hG3.size; simp; omega
             intro o' c' w4 hO3 hF3 _
             have HR3 : Hid (_ ∧ _) := ⟨hO3, HB.out _ _ (hG3.then (Fr.alloc [] _ _)) hF3⟩
             clear hO3 hF3
             go_frame)
          | fail)
        go_roundw
        case rel => exact ⟨i + 1, o', N + 1, c', rfl, by omega, rfl, (by rw [HS.out]; exact HR3.out.1), by omega, HR3.out.2⟩
        case measure => simp [RowKit.intOf]; omega
      | false =>
        rw [if_neg (by simp)] at HS
        go_wp2_with fail
        refine Calls.mono HIs.out ?_
        rintro e w3 ⟨rfl, hF3⟩
        have hG3 := hF2.then hF3
        have HR3 : Hid (_ ∧ _) := ⟨HO2.out _ hG3, hF.then hG3⟩
        rw [← HS.out] at HR3
        clear HIs hF2 hF3 d0 d1 d2
        go_wp2_with fail
        go_roundw
        case rel => exact ⟨i + 1, so, N, c, rfl, by omega, rfl, HR3.out.1, by omega, HR3.out.2⟩
        case measure => simp [RowKit.intOf]; omega
    · obtain rfl : i = M := by omega
      rw [List.take_of_length_le (by rw [HZ.out, List.length_map, ← HM.out]; exact Nat.le_refl _)] at HO
      have HSo : Hid (Calls _ _ _ _ _) := sortI_any w.heap.size so N c _ wr HO.out (by omega)
      have HB : Hid (∀ W', Fr (Value.slice so N c).ownBlock.toList wr W' → Fr [] w W') := fun W' h2 => HO.out.on (Nat.le_refl _) hF (Fr.refl _ _) h2
      have HNl : Hid (N = (zs.filter p).length) := HO.out.len
      clear HO
      go_wp2_with fail
      refine Calls.mono HSo.out ?_
      rintro e w1 ⟨rfl, hO1, hF1⟩
      obtain ⟨ms, hms⟩ : ∃ ms, ms = (zs.filter p).mergeSort fun x y => decide (x ≤ y) := ⟨_, rfl⟩
      rw [← hms] at hO1
      have hG1 := HB.out _ hF1
      have hsl : ms.Pairwise fun x y => x ≤ y := by rw [hms]; exact sortI_le _
      have hmm : ∀ x, x ∈ ms ↔ x ∈ zs.filter p := fun x => by rw [hms]; exact (List.mergeSort_perm _ _).mem_iff
      obtain ⟨hcr, hcm⟩ := compact_is ms hsl
      have HCo : Hid (Calls _ _ _ _ _) := compactI_any w.heap.size so N c ms w1 hO1 (by omega) (by rw [hO1.len]; exact compact_few _)
      have HB1 : Hid (∀ W', Fr (Value.slice so N c).ownBlock.toList w1 W' → Fr [] w W') := fun W' h2 => hO1.on (Nat.le_refl _) hG1 (Fr.refl _ _) h2
      have HR : Hid (AhT D (keysW ws) (Lib.compact ms)) := by
        refine ⟨hcr, fun x => ?_⟩
        rw [hcm, hmm, List.mem_filter, HP.out, HZ.out, keysW]
        simp only [List.mem_map]
        constructor
        · rintro ⟨⟨y, hy, e⟩, h2⟩; exact ⟨h2, y.key, ⟨y, hy, rfl⟩, e⟩
        · rintro ⟨h2, k, ⟨y, hy, rfl⟩, e⟩; exact ⟨⟨y, hy, e⟩, h2⟩
      clear HSo hO1 hF1 hms hsl hmm hcr hcm HB
      go_wp2_with fail
      refine Calls.mono HCo.out ?_
      rintro e w2 ⟨N', rfl, hN', hO2, hF2⟩
      have HR2 : Hid (_ ∧ _) := ⟨hO2, HB1.out _ hF2⟩
      clear hO2 hF2
      go_wp2
      go_ret
      exact ⟨so, N', c, _, rfl, HR2.out.1, HR.out, by omega, HR2.out.2⟩
end Go.Proofs.YtakbodlicfmkjaaGreat
