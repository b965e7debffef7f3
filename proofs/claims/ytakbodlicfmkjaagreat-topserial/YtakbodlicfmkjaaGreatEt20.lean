/- The entries at a mark: entriesAt. Conditions as each names them. -/
import Derived.Test.YtakbodlicfmkjaaGreatNw20
import Derived.Test.YtakbodlicfmkjaaGreatEn9
import Derived.Test.YtakbodlicfmkjaaGreatHm9
namespace Go.Proofs.YtakbodlicfmkjaaGreat
open Go.ChangeShapes Go.WideShapes Go.ChangeAt Go.RowKit Go.Lib
set_option linter.unusedVariables false
set_option linter.unusedSimpArgs false
theorem vAt_of {vs : List O.Vn} {mark : Int} {v : O.Vn} {ok : Bool} (h : NwP vs mark v ok) : O.vAt vs mark = if ok = true then some v else none := by
  unfold O.vAt
  rcases h with ⟨rfl, k, hk, rfl, hle, hall⟩ | ⟨rfl, _, hall⟩
  · have e : vs = vs.take k ++ vs.getD k O.Vn.zero :: vs.drop (k + 1) := by
      rw [show vs.getD k O.Vn.zero = vs[k] by simp [List.getD, hk], ← List.drop_eq_getElem_cons hk, List.take_append_drop]
    have hd : (vs.drop (k + 1)).filter (fun v => decide (v.num ≤ mark)) = [] := by
      refine List.filter_eq_nil_iff.2 fun x hx => ?_
      obtain ⟨j, hj, rfl⟩ := List.mem_iff_getElem.1 hx
      rw [List.length_drop] at hj
      have := hall (k + 1 + j) (by omega) (by omega)
      rw [show vs.getD (k + 1 + j) O.Vn.zero = vs[k + 1 + j]'(by omega) by simp [List.getD, show k + 1 + j < vs.length by omega]] at this
      rw [List.getElem_drop]
      simpa using this
    generalize vs.getD k O.Vn.zero = x at *
    rw [e, List.filter_append, List.filter_cons, if_pos (by simpa using hle), hd]
    simp
  · have hd : vs.filter (fun v => decide (v.num ≤ mark)) = [] := by
      refine List.filter_eq_nil_iff.2 fun x hx => ?_
      obtain ⟨j, hj, rfl⟩ := List.mem_iff_getElem.1 hx
      have := hall j hj
      rw [show vs.getD j O.Vn.zero = vs[j] by simp [List.getD, hj]] at this
      simpa using this
    rw [hd]
    simp
/-- Of a key's versions a mark's entry, if it has one. -/
def enOf (mark : Int) (h : O.Hd) : Option O.Pr := (O.valAt h.vs mark).map fun v => (h.key, v)
theorem enOf_yes {mark : Int} {h : O.Hd} {v : O.Vn} (hN : NwP h.vs mark v true) (hd : v.drop = false) : enOf mark h = some (h.key, v.val) := by
  unfold enOf O.valAt
  rw [vAt_of hN]
  simp [O.valOf, hd]
theorem enOf_no {mark : Int} {h : O.Hd} {v : O.Vn} {ok : Bool} (hN : NwP h.vs mark v ok) (hd : ok = false ∨ v.drop = true) : enOf mark h = none := by
  unfold enOf O.valAt
  rw [vAt_of hN]
  rcases hd with rfl | hd
  · simp [O.valOf]
  · cases ok <;> simp [O.valOf, hd]
theorem newest_any {w : World} {vo : Option Addr} {L cap : Nat} {vs : List O.Vn} (hV : O.VRs w vo vs) (hne : 0 < vs.length) (hL : L = vs.length) (hc : L ≤ cap) (mark : Int) : Calls Tryz.prog 46 #[.slice vo L cap, .int .i64 mark] w fun e w' => (∃ v ok, e = .returned (.tuple #[.agg (vnA v), .bool ok]) ∧ NwP vs mark v ok) ∧ Fr [] w w' := by
  obtain ⟨b, off, rfl, hb, hat⟩ := hV.lies hne
  exact callsIn_wide.1 (newest_in hL (by rw [hL]; exact hV.few) hc hb (fun k hk => hat k (by omega)) mark)
set_option maxHeartbeats 4000000 in
set_option maxRecDepth 100000 in
theorem entries_any {w : World} {ao : Option Addr} {N cap : Nat} {hs : List O.Hd} (hH : O.HRs w ao hs) (hN : N = hs.length) (hc : N ≤ cap) (hne : ∀ h ∈ hs, h.vs ≠ []) (mark : Int) : Calls Tryz.prog 24 #[.slice ao N cap, .int .i64 mark] w fun e w' => ∃ v, e = .returned v ∧ w'.ownsRow w.heap.size 61 2 v (hs.filterMap (enOf mark)).length (O.celsE (hs.filterMap (enOf mark))) ∧ Fr [] w w' := by
  have HN : Hid (N = hs.length) := hN
  have hNl : N ≤ 3518437208882 := by rw [hN]; exact hH.few
  have HH : Hid (∀ W, Fr [] w W → O.HRs W ao hs) := fun W hf => hH.keep hf
  have HX : Hid (∀ h ∈ hs, h.vs ≠ []) := hne
  have HL : Hid (0 < N → ∃ g off, ao = some ⟨g, off, none⟩ ∧ ∀ W, Fr [] w W → ∀ i, i < N → W.cell? ⟨g, off + i * 2, none⟩ = some (.string (hs.getD i O.Hd.zero).key) ∧ W.cell? ⟨g, off + i * 2 + 1, none⟩ = some (.slice (hs.getD i O.Hd.zero).vo (hs.getD i O.Hd.zero).L (hs.getD i O.Hd.zero).cap)) := fun h0 => by
    obtain ⟨g, off, e, hg, hat⟩ := hH.lies (by rw [← HN.out]; exact h0)
    refine ⟨g, off, e, fun W hf i hi => ?_⟩
    have hk : ∀ o, W.cell? ⟨g, o, none⟩ = w.cell? ⟨g, o, none⟩ := fun o => World.cell?_of_block (hf.block g hg (by simp))
    have := hat i (by rw [← HN.out]; exact hi)
    exact ⟨(hk _).trans this.1, (hk _).trans this.2⟩
  clear hH hN hne
  go_enter Tryz.func24, Tryz.ntmps24
  go_wp2_with fail
  go_loopw [5, 12] (fun ll ii wr => ∃ (i : Nat), ii = .int .i64 i ∧ i ≤ N ∧ Hid (wr.ownsRow w.heap.size 61 2 ll ((hs.take i).filterMap (enOf mark)).length (O.celsE ((hs.take i).filterMap (enOf mark)))) ∧ (∃ o n k, ll = .slice o n k) ∧ Fr [] w wr) (fun _ ii _ => N - (intOf ii).toNat)
  case atStart => exact ⟨0, rfl, Nat.zero_le _, ⟨rfl, Or.inl ⟨rfl, rfl⟩⟩, ⟨none, 0, 0, rfl⟩, Fr.refl _ _⟩
  case round =>
    obtain ⟨i, rfl, hiN, HO, ⟨so, sn, sc, rfl⟩, hF⟩ := hrel
    by_cases hi : i < N
    · obtain ⟨g, off, rfl, hcells⟩ := HL.out (by omega)
      obtain ⟨d0, d1⟩ := hcells wr hF i hi
      have hmem : hs.getD i O.Hd.zero ∈ hs := O.hgetD_mem hs i (by rw [← HN.out]; exact hi)
      have hsn : hs.take (i + 1) = hs.take i ++ [hs.getD i O.Hd.zero] := O.htake_snoc hs i (by rw [← HN.out]; exact hi)
      obtain ⟨⟨key, vo, L, cp, vs⟩, hh⟩ : ∃ h, hs.getD i O.Hd.zero = h := ⟨_, rfl⟩
      rw [hh] at d0 d1 hmem hsn
      simp only at d0 d1
      have HSn : Hid (hs.take (i + 1) = hs.take i ++ [⟨key, vo, L, cp, vs⟩]) := hsn
      have HNw : Hid (∀ W, Fr [] w W → Calls Tryz.prog 46 #[.slice vo L cp, .int .i64 mark] W fun e w' => (∃ v ok, e = .returned (.tuple #[.agg (vnA v), .bool ok]) ∧ NwP vs mark v ok) ∧ Fr [] W w') := fun W hf => by
        have he := (HH.out W hf).each _ hmem
        exact newest_any he.rs (List.length_pos_iff.2 (HX.out _ hmem)) he.len he.cp mark
      clear hh hmem hsn hcells
      go_wp2_with fail
      obtain ⟨w1, HW1⟩ : ∃ w1, Hid (wr.alloc (.cells #[.string key, .slice vo L cp] 126) = w1) := ⟨_, rfl⟩
      obtain ⟨hb, HHb⟩ : ∃ hb, Hid (wr.heap.size = hb) := ⟨_, rfl⟩
      have hF1 : Fr [] wr w1 := by rw [← HW1.out]; exact Fr.alloc _ _ _
      have hb1 : w1.heap[hb]? = some (.cells #[.string key, .slice vo L cp] 126 (0, 0)) := by rw [← HW1.out, ← HHb.out]; exact heap_alloc_new _ _
      rw [HW1.out, HHb.out]
      refine (HNw.out w1 (hF.then hF1)).mono ?_
      rintro e w2 ⟨⟨⟨num, val, drop⟩, ok, rfl, hP⟩, hF2⟩
      simp only [vnA]
      have k0 : w2.cell? ⟨hb, 0, none⟩ = some (.string key) := by rw [cell_of_row _ _ _ _ _ _ (hF2.keep hb1 (by simp))]; rfl
      have k0' : ∀ o, (w2.alloc o).cell? ⟨hb, 0, none⟩ = some (.string key) := fun o => by rw [cell_of_row _ _ _ _ _ _ ((Fr.alloc [] w2 o).keep (hF2.keep hb1 (by simp)) (by simp))]; rfl
      have HF2 : Hid (Fr [] wr w2) := hF1.then hF2
      have HP : Hid (NwP vs mark ⟨num, val, drop⟩ ok) := hP
      clear HNw HW1 HHb hF1 hF2 hb1 hP d0 d1
      by_cases hyes : ok = true ∧ drop = false
      · obtain ⟨rfl, rfl⟩ := hyes
        have HS : Hid ((hs.take (i + 1)).filterMap (enOf mark) = (hs.take i).filterMap (enOf mark) ++ [(key, val)]) := by
          show _ = _
          rw [HSn.out, List.filterMap_append]
          congr 1
          have := enOf_yes (h := ⟨key, vo, L, cp, vs⟩) HP.out rfl
          simp [this]
        have hlen : ((hs.take i).filterMap (enOf mark)).length ≤ i := Nat.le_trans (List.length_filterMap_le _ _) (by rw [List.length_take]; omega)
        obtain ⟨qs, hqs⟩ : ∃ qs, (hs.take i).filterMap (enOf mark) = qs := ⟨_, rfl⟩
        rw [hqs] at HS HO hlen
        have HOk : Hid (∀ W, Fr [] w2 W → W.ownsRow w.heap.size 61 2 (.slice so sn sc) qs.length (O.celsE qs)) := fun W hf => O.owns_keepB HO.out (HF2.out.then hf) (by simp)
        have HOn : Hid (∀ W W', Fr [] w2 W → Fr (Value.slice so sn sc).ownBlock.toList W W' → Fr [] w W') := fun W W' h1 h2 => ((hF.then HF2.out).then h1).on h2 (fun x hx => by
          have := (O.owns_cells (HOk.out w2 (Fr.refl _ _)) (Option.mem_toList.1 hx)).1
          exact this)
        have HSz : Hid (w.heap.size ≤ w2.heap.size) := (hF.then HF2.out).size
        have HEs : Hid (O.ESl ((w2.alloc (.cells #[.int .i64 num, .string val, .bool false] 128)).alloc (.cells #[.string key, .string val] 61)) (some ⟨w2.heap.size + 1, 0, none⟩) 1 [(key, val)]) := by
          have := O.esl_new (w2.alloc (.cells #[.int .i64 num, .string val, .bool false] 128)) (key, val)
          rw [World.size_alloc] at this
          exact this
        clear HO hqs HP HSn
        go_wp2_with (first
          | (at_builtin; refine O.wpList_appE _ rfl _ _ rfl w.heap.size (.slice so sn sc) qs rfl (HOk.out _ ((Fr.alloc [] _ _).then (Fr.alloc [] _ _))) (some ⟨w2.heap.size + 1, 0, none⟩) 1 1 [(key, val)] rfl HEs.out (by omega) ?hsize ?_
             case hsize => have := HSz.out; simp; omega
             intro o' n' c' w4 hn' hO4 hF4
             have HR3 : Hid (_ ∧ _ ∧ _) := ⟨hn', hO4, HOn.out _ _ ((Fr.alloc [] _ _).then (Fr.alloc [] _ _)) hF4⟩
             clear hn' hO4 hF4
             go_frame)
          | fail)
        go_roundw
        case rel => exact ⟨i + 1, rfl, by omega, (by show World.ownsRow _ _ _ _ _ _ _; rw [HS.out, ← HR3.out.1]; exact HR3.out.2.1), ⟨_, _, _, rfl⟩, HR3.out.2.2⟩
        case measure => first | omega | (simp [RowKit.intOf]; omega) | (simp only [RowKit.intOf, intOf]; omega)
      · have hno : ok = false ∨ drop = true := by
          cases ok
          · exact Or.inl rfl
          · cases drop
            · exact absurd ⟨rfl, rfl⟩ hyes
            · exact Or.inr rfl
        have HS : Hid ((hs.take (i + 1)).filterMap (enOf mark) = (hs.take i).filterMap (enOf mark)) := by
          show _ = _
          rw [HSn.out, List.filterMap_append]
          have := enOf_no (h := ⟨key, vo, L, cp, vs⟩) HP.out hno
          simp [this]
        have HO2 : Hid (∀ W, Fr [] w2 W → W.ownsRow w.heap.size 61 2 (.slice so sn sc) ((hs.take (i + 1)).filterMap (enOf mark)).length (O.celsE ((hs.take (i + 1)).filterMap (enOf mark)))) := fun W hf => by
          rw [HS.out]
          exact O.owns_keepB HO.out (HF2.out.then hf) (by simp)
        have HFF : Hid (Fr [] w w2) := hF.then HF2.out
        clear HO HP HSn HS hyes
        rcases hno with rfl | rfl
        · go_wp2_with fail
          go_roundw
          case rel => exact ⟨i + 1, rfl, by omega, HO2.out _ (Fr.alloc [] _ _), ⟨_, _, _, rfl⟩, HFF.out.then (Fr.alloc [] _ _)⟩
          case measure => first | omega | (simp [RowKit.intOf]; omega) | (simp only [RowKit.intOf, intOf]; omega)
        · cases ok
          · go_wp2_with fail
            go_roundw
            case rel => exact ⟨i + 1, rfl, by omega, HO2.out _ (Fr.alloc [] _ _), ⟨_, _, _, rfl⟩, HFF.out.then (Fr.alloc [] _ _)⟩
            case measure => first | omega | (simp [RowKit.intOf]; omega) | (simp only [RowKit.intOf, intOf]; omega)
          · go_wp2_with fail
            go_roundw
            case rel => exact ⟨i + 1, rfl, by omega, HO2.out _ (Fr.alloc [] _ _), ⟨_, _, _, rfl⟩, HFF.out.then (Fr.alloc [] _ _)⟩
            case measure => first | omega | (simp [RowKit.intOf]; omega) | (simp only [RowKit.intOf, intOf]; omega)
    · obtain rfl : i = N := by omega
      go_wp2
      go_ret
      refine ⟨_, rfl, ?_, hF⟩
      have := HO.out
      rw [List.take_of_length_le (by rw [← HN.out]; exact Nat.le_refl _)] at this
      exact this
end Go.Proofs.YtakbodlicfmkjaaGreat
