/- How many writes of a transaction count: the program's counting. Conditions: at most 32 writes, keys of 64 letters at most. -/
import Derived.Test.YtdojhkgnnbdfkaaGreatQCm22
import Derived.Test.YtdojhkgnnbdfkaaGreatQMg11
import Derived.Test.YtdojhkgnnbdfkaaGreatVn2
namespace Go.Proofs.YtdojhkgnnbdfkaaGreat.Q
open Go.ChangeShapes Go.WideShapes Go.ChangeAt Go.RowKit Go.Lib Go.Maps
set_option linter.unusedVariables false
set_option linter.unusedSimpArgs false

theorem Tryz.undSSet : Tryz.prog.underlying 146 = some (.map 9 147) := by kernel_rfl
theorem Tryz.undStr22 : Tryz.prog.underlying 9 = some .string := by kernel_rfl
/-- Block b is a set of the texts ks. -/
def SetN (w : World) (b n : Nat) (ks : List ByteArray) : Prop :=
  ∃ D : DataW Unit, w.ownsMap Tryz.prog 9 unElem b n D ∧ (∀ x : ByteArray, x.size ≤ maxLen → (has D (.string x.data.toList) = true ↔ x ∈ ks)) ∧ Maps.size D = ks.length
theorem SetN.lt {w : World} {b n : Nat} {ks : List ByteArray} (h : SetN w b n ks) : b < w.heap.size := by
  obtain ⟨D, hD, _⟩ := h
  exact hD.lt
theorem SetN.keep {S : List Nat} {w w' : World} {b n : Nat} {ks : List ByteArray} (h : SetN w b n ks) (hf : Fr S w w') (hn : b ∉ S) : SetN w' b n ks := by
  have hlt := h.lt
  obtain ⟨D, ⟨es, clock, hb, hr⟩, h2⟩ := h
  exact ⟨D, ⟨es, clock, (hf.block b hlt hn).trans hb, hr⟩, h2⟩
theorem SetN.made (w : World) : SetN (w.alloc (.map #[] 0)) w.heap.size 0 [] :=
  ⟨.map [], World.ownsMap_made w _ _ _, fun s _ => by simp [has], rfl⟩
theorem SetN.len {w : World} {b n : Nat} {ks : List ByteArray} (h : SetN w b n ks) (ty : TypeId) : (Builtin.len_ #[146] ty #[.map (some b)]).run Tryz.prog w = .ok (.int .i64 (ks.length : Int)) w := by
  obtain ⟨D, hD, _, h3⟩ := h
  rw [hD.len Tryz.undSSet, h3]
open Classical in
theorem SetN.store {w : World} {b n : Nat} {ks : List ByteArray} (h : SetN w b n ks) (x : ByteArray) (hx : x.size ≤ maxLen) (hn : n < maxLen) :
    ∃ w', (Instr.mapUpdate 146 (.map (some b)) (.string x) (.agg #[])).run Tryz.prog w = .ok () w' ∧ SetN w' b (n + 1) (if x ∈ ks then ks else ks ++ [x]) ∧ Fr [b] w w' := by
  obtain ⟨D, hD, hA, hS⟩ := h
  have K := string_keyed (P := Tryz.prog) Tryz.undStr22
  have hI := hD.isMap
  have hk := Go.WideMaps.keyOf_string_mk (P := Tryz.prog) Tryz.undStr22 hx
  obtain ⟨w', hrun, hO, hg⟩ := hD.update K Tryz.undSSet hn hk (val := .agg #[]) (d := .agg []) (ps := []) rfl
  refine ⟨w', hrun, ⟨_, hO, fun y hy => ?_, ?_⟩, Fr.grown hg (by intro k hk _; cases hk; simp)⟩
  · by_cases he : y = x
    · subst he
      rw [has_put_same hI (K.key hk)]
      split <;> simp_all
    · have hne : Lit.string y.data.toList ≠ Lit.string x.data.toList := fun e => he (by
        have : y.data.toList = x.data.toList := by simpa using e
        have h2 : y.data = x.data := Array.toList_inj.1 this
        cases y; cases x; simp_all)
      rw [has_put_other hne, hA y hy]
      split
      · exact Iff.rfl
      · simp [he]
  · rw [size_put (hD.tidy K)]
    by_cases hm : x ∈ ks
    · rw [if_pos ((hA x hx).2 hm), if_pos hm, hS]
    · rw [if_neg (fun h => hm ((hA x hx).1 h)), if_neg hm, hS, List.length_append]
      rfl
theorem run_makeSet (w : World) : (Instr.makeMap 146 Option.none).run Tryz.prog w = .ok (.map (some w.heap.size)) (w.alloc (.map #[] 0)) := by
  simp [Instr.makeMap, run_underlying Tryz.undSSet]
open Classical in
theorem fl22_succ (ws : List Wt) (i : Nat) : fl22 ws (i + 1) = if kAt ws i ∈ fl22 ws i then fl22 ws i else fl22 ws i ++ [kAt ws i] := by simp only [fl22]

set_option maxHeartbeats 8000000 in
set_option maxRecDepth 100000 in
theorem ncounting_any (ao : Option Addr) (L cap : Nat) (ws : List Wt) (w : World) (hW : WRs w ao ws) (hL : L = ws.length) (hLb : L ≤ 32) (hks : ∀ x ∈ ws, x.key.size ≤ 64) :
    Calls Tryz.prog 67 #[.slice ao L cap] w fun e w' => e = .returned (.int .i64 ((dd ws).length : Int)) ∧ Fr [] w w' := by
  have HL : Hid (L = ws.length) := hL
  have HKs : Hid (∀ x ∈ ws, x.key.size ≤ 64) := hks
  have hmm := fun w => run_makeSet w
  have HI : Hid (∀ W, Fr [] w W → WRs W ao ws) := fun W hf => hW.keep hf
  have hM0 : SetN (w.alloc (.map #[] 0)) w.heap.size 0 (fl22 ws 0) := SetN.made w
  have hF0 : Fr [] w (w.alloc (.map #[] 0)) := Fr.alloc [] w _
  clear hL hW hks
  go_enter Tryz.func67, Tryz.ntmps67
  go_wp2_with fail
  obtain ⟨b, hb⟩ : ∃ b, b = w.heap.size := ⟨_, rfl⟩
  rw [← hb] at hM0 ⊢
  have hbw : w.heap.size ≤ b := by omega
  clear hb
  go_loopw [9] (fun ii wr => ∃ (i : Nat), ii = .int .i64 i ∧ i ≤ L ∧ Hid (SetN wr b i (fl22 ws i)) ∧ Fr [] w wr) (fun ii _ => L - (intOf ii).toNat)
  case atStart => exact ⟨0, rfl, Nat.zero_le _, hM0, hF0⟩
  case round =>
    obtain ⟨i, rfl, hiL, HM, hFr⟩ := hrel
    by_cases hi : i < L
    · have hi' : i < ws.length := by rw [← HL.out]; exact hi
      obtain ⟨bb, off, rfl, _, hc⟩ := (HI.out _ hFr).lies (by omega)
      obtain ⟨d0, d1, d2⟩ := hc i hi'
      have hkz := HKs.out _ (wgetD_mem ws i hi')
      have HKa : Hid (kAt ws i = (ws.getD i Wt.zero).key) := rfl
      obtain ⟨y, hyy⟩ : ∃ y, y = ws.getD i Wt.zero := ⟨_, rfl⟩
      rw [← hyy] at d0 d1 d2 hkz HKa
      clear hyy hc
      obtain ⟨key, val, drop⟩ := y
      simp only at d0 d1 d2 hkz HKa
      obtain ⟨w3, HW3⟩ : ∃ w3, Hid (wr.alloc (.cells #[.string key, .string val, .bool drop] 51) = w3) := ⟨_, rfl⟩
      obtain ⟨B9, HB9⟩ : ∃ B9, Hid (B9 = wr.heap.size) := ⟨_, rfl⟩
      have hF3 : Fr [] wr w3 := by rw [← HW3.out]; exact Fr.alloc [] wr _
      have hby : w3.heap[B9]? = some (.cells #[.string key, .string val, .bool drop] 51 (0, 0)) := by rw [← HW3.out, HB9.out]; exact heap_alloc_new wr _
      have e0 : w3.cell? ⟨B9, 0, none⟩ = some (.string key) := by rw [cell_of_row _ _ _ _ _ _ hby]; rfl
      have hG3 : Fr [] w w3 := hFr.then hF3
      have hM3 := HM.out.keep hF3 (by simp)
      obtain ⟨w4, hst, hM4, hF4⟩ := hM3.store key (by unfold maxLen; omega) (by unfold maxLen; omega)
      have HM4 : Hid (SetN w4 b (i + 1) (fl22 ws (i + 1))) := by
        show SetN _ _ _ _
        rw [fl22_succ, HKa.out]
        exact hM4
      have hG4 : Fr [] w w4 := hG3.on hF4 (by intro x hx; simp at hx; omega)
      clear hM3 hM4 hF4 HM hF3 hG3 hby
      go_upto_region 5 with fail
      rw [HW3.out, ← HB9.out]
      clear HW3 HB9 d0 d1 d2
      go_wp2_with fail
      go_roundw
      case rel => exact ⟨i + 1, by simp, by omega, HM4, hG4⟩
      case measure => simp [intOf]; omega
    · obtain rfl : i = L := by omega
      clear hi hiL
      have hlen := fun ty => HM.out.len ty
      have HE : Hid ((fl22 ws i).length = (dd ws).length) := by
        show _ = _
        rw [HL.out]; exact fl22_dd ws
      rw [HE.out] at hlen
      have HF1 : Hid (Fr [] w wr) := hFr
      clear hFr
      go_wp2_with fail
      go_ret
      exact ⟨rfl, HF1.out⟩
end Go.Proofs.YtdojhkgnnbdfkaaGreat.Q
