/- All that the shards have, by rising keys: the walk of versions. Conditions as each names them. -/
import Derived.Test.YtakbodlicfmkjaaGreatVs20
namespace Go.Proofs.YtakbodlicfmkjaaGreat
open Go.ChangeShapes Go.WideShapes Go.ChangeAt Go.RowKit Go.Lib
set_option linter.unusedVariables false
set_option linter.unusedSimpArgs false
section
variable {w0 w w' : World} {p : Nat} {c : Cf} {T : List Tx} {Z : Lay} {s : Ms}
/-- Each of them may be read. -/
theorem CatH.ok (hW : Wf c T s) {acc : List O.Hd} (h : CatH s.M c.s.toNat acc) : ∀ x ∈ acc, O.okV x.vs ∧ x.vs ≠ [] ∧ x.key.size ≤ 64 := by
  obtain ⟨f, h1, rfl⟩ := h
  intro x hx
  obtain ⟨j, hj, hxj⟩ := List.mem_flatMap.1 hx
  have hj' := List.mem_range.1 hj
  obtain ⟨e1, e2, _⟩ := (h1 j hj').is x hxj
  refine ⟨by rw [e1]; exact hW.okv j x.key, by rw [e1]; exact e2, ?_⟩
  obtain ⟨v, hv⟩ := List.exists_mem_of_ne_nil _ e2
  obtain ⟨⟨b1, b2⟩, y, hy, hk, _⟩ := hW.ver j x.key v hj' hv
  have hdT := hW.dT
  have hok := hW.txn b1 (by omega)
  have := (hok.2.2.2 y (dd_mem _ y hy)).2.1
  rw [← hk]
  exact this
theorem hrs_own {base : Nat} {ro : Option Addr} {n rc : Nat} {ds : List O.Hd} (h : w'.ownsRow base 126 2 (.slice ro n rc) n (O.hdsC ds)) (hn : n = ds.length) (hl : n ≤ 3518437208882) (he : ∀ x ∈ ds, O.VOut w w' x.vo x.L x.cap x.vs ∧ O.okV x.vs ∧ x.key.size ≤ 64) : O.HRs w' ro ds := by
  refine ⟨fun h0 => ?_, by omega, fun x hx => ?_⟩
  · rcases h.2 with ⟨_, h1⟩ | ⟨g, cap, cur, hv, _, hg, _, _, _, ht⟩
    · omega
    · cases hv
      refine ⟨g, 0, rfl, lt_of_block hg, fun i hi => ?_⟩
      obtain ⟨e1, e2⟩ := O.hdsC_get ds i hi
      constructor
      · rw [cell_of_row _ _ _ _ _ _ hg, Nat.zero_add, ← Array.getElem?_toList, ← e1, ← ht, List.getElem?_take_of_lt (by omega)]
      · rw [cell_of_row _ _ _ _ _ _ hg, Nat.zero_add, ← Array.getElem?_toList, ← e2, ← ht, List.getElem?_take_of_lt (by omega)]
  · obtain ⟨h1, h2, h3⟩ := he x hx
    exact ⟨by omega, h1.len, h1.cap, h1.each h2⟩
set_option maxHeartbeats 4000000 in
set_option maxRecDepth 100000 in
theorem versions_any (h : MaM w0 w c T Z s) (hW : Wf c T s) (hk : s.k < 16000000) : Calls Tryz.prog 25 #[.pointer (some ⟨Z.z.mb, 0, none⟩)] w fun e w' => ∃ ro n rc hs, e = .returned (.slice ro n rc) ∧ O.HRs w' ro hs ∧ n = hs.length ∧ n ≤ rc ∧ So.Sd hs ∧ (∀ x ∈ hs, x.vs ≠ []) ∧ (∃ acc, CatH s.M c.s.toNat acc ∧ hs.Perm acc) ∧ Fr [] w w' := by
  obtain ⟨SN, hSN⟩ : ∃ SN, c.s.toNat = SN := ⟨_, rfl⟩
  have hSl : SN ≤ 16 := by have := h.may.2.1; omega
  have hSc : SN ≤ Z.z.osC := by have := h.st.caps.2.1; omega
  have c11 : w.cell? ⟨Z.z.mb, 11, none⟩ = some (.slice (some ⟨Z.z.osB, 0, none⟩) SN Z.z.osC) := by rw [← hSN]; exact h.lsc
  have HR : Hid (∀ W i, Fr [] w W → i < SN → W.cell? ⟨Z.z.osB, i, none⟩ = some (.pointer (some ⟨Z.z.ob i, 0, none⟩)) ∧ Hid (Calls Tryz.prog 47 #[.pointer (some ⟨Z.z.ob i, 0, none⟩)] W fun e w' => ∃ ro N rc hs, e = .returned (.slice ro N rc) ∧ O.HOut W w' ro N rc hs ∧ N ≤ 16000000 ∧ O.PkT (s.M i) (s.M i) hs ∧ Fr [] W w')) := fun W i hf hi =>
    ⟨(h.quiet hf).osc (by omega), all_any (h.quiet hf) hk (by omega)⟩
  have HSN : Hid (c.s.toNat = SN) := hSN
  have HW : Hid (Wf c T s) := hW
  clear h hSN hk hW
  go_enter Tryz.func25, Tryz.ntmps25
  go_wp2_with fail
  go_loopw [3, 11] (fun ll ii wr => ∃ (i : Nat), ii = .int .i64 i ∧ i ≤ SN ∧ (∃ o n k, ll = .slice o n k) ∧ Hid (∃ acc, Gh w wr s.M i ll acc) ∧ Fr [] w wr) (fun _ ii _ => SN - (intOf ii).toNat)
  case atStart => exact ⟨0, rfl, Nat.zero_le _, ⟨none, 0, 0, rfl⟩, ⟨[], CatH.zero _, ⟨rfl, Or.inl ⟨rfl, rfl⟩⟩, fun x hx => (by cases hx), Nat.zero_le _⟩, Fr.refl _ _⟩
  case round =>
    obtain ⟨i, rfl, hiS, ⟨so, sn, sc, rfl⟩, HG, hF⟩ := hrel
    by_cases hi : i < SN
    · obtain ⟨d0, HC⟩ := HR.out wr i hF hi
      go_wp2_with fail
      refine Calls.mono HC.out ?_
      rintro e w2 ⟨ro, N, rc, hs, rfl, hO, hN, hP, hF2⟩
      obtain ⟨acc, hG⟩ := HG.out
      have hG2 := hG.keep hF2
      have hNl := hO.len
      have hrd := own_reads hO.row (by rw [So.hdsC_length]; omega)
      have hF3 := hF.then hF2
      have hacc := hG.few
      have HA : Hid (∀ (bo : Option Addr) (n' cap' : Nat) (w4 : World), n' = (acc ++ hs).length → w4.ownsRow w.heap.size 126 2 (.slice bo n' cap') n' (O.hdsC (acc ++ hs)) → Fr (Value.slice so sn sc).ownBlock.toList w2 w4 → (∃ acc, Gh w w4 s.M (i + 1) (.slice bo n' cap') acc) ∧ Fr [] w w4) := fun bo n' cap' w4 e1 e2 e3 => by
        have hb : ∀ x ∈ (Value.slice so sn sc).ownBlock.toList, w.heap.size ≤ x ∧ ∃ cur, w2.heap[x]? = some (.cells cur 126 (0, 0)) := fun x hx => O.owns_cells hG2.row (Option.mem_toList.1 hx)
        have hv : ∀ y : O.Hd, O.VOut w w2 y.vo y.L y.cap y.vs → O.VOut w w4 y.vo y.L y.cap y.vs := fun y hy => hy.keepS e3 (fun k hk hm => by
          obtain ⟨_, cur, h1⟩ := hb k hm
          obtain ⟨_, cur', h2⟩ := hy.blk k hk
          rw [h1] at h2
          simp only [Option.some.injEq, Obj.cells.injEq] at h2
          exact absurd h2.2.1 (by decide))
        refine ⟨⟨acc ++ hs, hG.cat.next hP, by rw [e1] at e2; rw [e1]; exact e2, fun y hy => ?_, by rw [List.length_append]; omega⟩, hF3.on e3 (fun x hx => (hb x hx).1)⟩
        rcases List.mem_append.1 hy with hy | hy
        · exact hv y (hG2.each y hy)
        · exact hv y ((hO.each y hy).later hF.size)
      have HR1 : Hid (w2.ownsRow w.heap.size 126 2 (.slice so sn sc) acc.length (O.hdsC acc)) := hG2.row
      have HR2 : Hid (_ ∧ _) := hrd
      have hsz : w.heap.size ≤ w2.heap.size := hF3.size
      have hlen : acc.length + N < 3518437208884 := by omega
      have HNl : Hid (N = hs.length) := hNl
      clear hNl hG hG2 hO hP hF2 hF3 hrd HG HC d0 hacc hF
      go_wp2_with (first
        | (at_builtin; refine wpList_appH _ rfl _ _ rfl w.heap.size (.slice so sn sc) acc rfl HR1.out ro N rc hs rfl HNl.out HR2.out.1 HR2.out.2 hlen hsz ?_
           intro o' n' c' w4 hn' hO4 hF4
           have HR3 : Hid (_ ∧ _) := HA.out o' n' c' w4 hn' hO4 hF4
           clear hn' hO4 hF4
           go_frame)
        | fail)
      go_roundw
      case rel => exact ⟨i + 1, rfl, by omega, ⟨_, _, _, rfl⟩, HR3.out.1, HR3.out.2⟩
      case measure => first | omega | (simp [RowKit.intOf]; omega) | (simp only [RowKit.intOf, intOf]; omega)
    · obtain rfl : i = SN := by omega
      go_wp2_with fail
      obtain ⟨acc, hG⟩ := HG.out
      have hfew := hG.few
      have hoks := CatH.ok HW.out (acc := acc) (by rw [HSN.out]; exact hG.cat)
      have hb : ∀ x ∈ (Value.slice so sn sc).ownBlock.toList, w.heap.size ≤ x ∧ ∃ cur, wr.heap[x]? = some (.cells cur 126 (0, 0)) := fun x hx => O.owns_cells hG.row (Option.mem_toList.1 hx)
      refine (So.sortH_any w.heap.size (.slice so sn sc) acc wr hG.row (by omega)).mono ?_
      rintro e w4 ⟨rfl, ds, hp, hsd, hrow, hf4⟩
      have hlen := hp.length_eq
      have hsn : sn = acc.length := by
        rcases hG.row.2 with ⟨e, h0⟩ | ⟨g, cap, cur, e, _⟩
        · cases e; exact h0.symm
        · cases e; rfl
      have hrow' : w4.ownsRow w.heap.size 126 2 (.slice so acc.length sc) acc.length (O.hdsC ds) := by rw [hsn] at hrow; exact hrow
      have hcap : sn ≤ sc := by
        rcases hG.row.2 with ⟨e, h0⟩ | ⟨g, cap, cur, e, _, _, h1, h2, _⟩
        · cases e; exact Nat.le_refl _
        · cases e; omega
      have HFin : Hid (∃ ro n rc hs, (Value.slice so sn sc) = .slice ro n rc ∧ O.HRs w4 ro hs ∧ n = hs.length ∧ n ≤ rc ∧ So.Sd hs ∧ (∀ x ∈ hs, x.vs ≠ []) ∧ (∃ acc, CatH s.M c.s.toNat acc ∧ hs.Perm acc) ∧ Fr [] w w4) := by
        refine ⟨so, sn, sc, ds, rfl, hrs_own (w := w) hrow' hlen.symm (by omega) (fun x hx => ?_), by omega, hcap, hsd, fun x hx => (hoks x (hp.mem_iff.1 hx)).2.1, ⟨acc, by rw [HSN.out]; exact hG.cat, hp⟩, hF.on hf4 (fun x hx => (hb x hx).1)⟩
        have hx' := hp.mem_iff.1 hx
        refine ⟨(hG.each x hx').keepS hf4 (fun k hk hm => ?_), (hoks x hx').1, (hoks x hx').2.2⟩
        obtain ⟨_, cur, h1⟩ := hb k hm
        obtain ⟨_, cur', h2⟩ := (hG.each x hx').blk k hk
        rw [h1] at h2
        simp only [Option.some.injEq, Obj.cells.injEq] at h2
        exact absurd h2.2.1 (by decide)
      clear hp hsd hrow hrow' hf4 hoks hb hG hfew hlen hsn hcap
      go_wp2_with fail
      go_ret
      obtain ⟨ro, n, rc, hs, e, hrest⟩ := HFin.out
      exact ⟨ro, n, rc, hs, by rw [← e]; rfl, hrest⟩
end
end Go.Proofs.YtakbodlicfmkjaaGreat
