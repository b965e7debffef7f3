/- For every task and every row of asks the law CallPlays returns true, and they read as they did. What comes in: of bulk at most 1048576. -/
import Derived.Test.YtpdkdgmaofhlkaaGp49
import Derived.Deep.CondSized
import Derived.JoinedCond
namespace Go.Proofs.Ytpdkdgmaofhlkaa.callPlays
open Go.ChangeShapes Go.WideShapes Go.ChangeAt Go.RowKit Go.Lib Go.ChangeMaps
set_option linter.unusedVariables false
set_option linter.unusedSimpArgs false

theorem md_cells {W : World} {b : Nat} {v0 v1 v2 v3 v4 v5 v6 v7 : Value} {ty : TypeId} (h : W.heap[b]? = some (.cells #[v0, v1, v2, v3, v4, v5, v6, v7] ty (0, 0))) : W.cell? ⟨b, 0, none⟩ = some v0 ∧ W.cell? ⟨b, 1, none⟩ = some v1 ∧ W.cell? ⟨b, 2, none⟩ = some v2 ∧ W.cell? ⟨b, 3, none⟩ = some v3 ∧ W.cell? ⟨b, 4, none⟩ = some v4 ∧ W.cell? ⟨b, 5, none⟩ = some v5 ∧ W.cell? ⟨b, 6, none⟩ = some v6 ∧ W.cell? ⟨b, 7, none⟩ = some v7 := by
  refine ⟨?_, ?_, ?_, ?_, ?_, ?_, ?_, ?_⟩ <;> (rw [cell_of_row _ _ _ _ _ _ h]; rfl)
set_option maxHeartbeats 8000000 in
set_option maxRecDepth 100000 in
theorem walk (n l s x q k : Int) (key en : ByteArray) (ao : Option Addr) (L cap : Nat) (os : List Aj) (w : World) (hI : I6 n ∧ Cf.ok ⟨l, s, x, q⟩) (hk : 0 ≤ k ∧ k ≤ 255) (h1 : key.size ≤ reachBytes) (h2 : en.size ≤ reachBytes) (hA : JRs w ao os) (hL : L = os.length) (hM : ∀ a ∈ os, a.r.el ≤ 1048576 ∧ a.r.hl ≤ 1048576) :
    Calls Try.prog 4 #[.agg #[.int .i64 n, .int .i64 l, .int .i64 s, .int .i64 x, .int .i64 q, .int .u8 k, .string key, .string en], .slice ao L cap] w fun e w' => e = .returned (.bool true) ∧ Fr [] w w' := by
  have HM : Hid (∀ a ∈ os, a.r.el ≤ 4194304 ∧ a.r.hl ≤ 4194304) := fun a ha => ⟨by have := (hM a ha).1; omega, by have := (hM a ha).2; omega⟩
  have HA : Hid (JRs w ao os) := hA
  have HL : Hid (L = os.length) := hL
  have hLm : L ≤ 140737488355328 := by have := hA.few; omega
  have HLv : Hid (∀ W, Calls Try.prog 9 #[] W fun e w' => e = .returned (.bool true) ∧ Fr [] W w') := fun W => lives_any W
  have HF0 : Hid (Fr [] w (w.alloc (.cells #[.int .i64 n, .int .i64 l, .int .i64 s, .int .i64 x, .int .i64 q, .int .u8 k, .string key, .string en] 32))) := Fr.alloc [] w _
  have HQm : Hid (∀ W, Fr [] (w.alloc (.cells #[.int .i64 n, .int .i64 l, .int .i64 s, .int .i64 x, .int .i64 q, .int .u8 k, .string key, .string en] 32)) W → W.cell? ⟨w.heap.size, 0, none⟩ = some (.int .i64 n) ∧ W.cell? ⟨w.heap.size, 1, none⟩ = some (.int .i64 l) ∧ W.cell? ⟨w.heap.size, 2, none⟩ = some (.int .i64 s) ∧ W.cell? ⟨w.heap.size, 3, none⟩ = some (.int .i64 x) ∧ W.cell? ⟨w.heap.size, 4, none⟩ = some (.int .i64 q) ∧ W.cell? ⟨w.heap.size, 5, none⟩ = some (.int .u8 k) ∧ W.cell? ⟨w.heap.size, 6, none⟩ = some (.string key) ∧ W.cell? ⟨w.heap.size, 7, none⟩ = some (.string en)) := fun W hW => md_cells (hW.keep (heap_alloc_new w _) (by simp))
  clear hA hL hM hI h1 h2
  by_cases hnew : newE n l s x q k key en = 0
  · have HN : Hid (∀ W, Calls Try.prog 10 #[.int .i64 n, .agg #[.int .i64 l, .int .i64 s, .int .i64 x, .int .i64 q], .agg #[.int .u8 k, .string key, .string en]] W fun e w' => ∃ t, e = .returned (.tuple #[.pointer (some ⟨t, 0, none⟩), .int .i64 0]) ∧ W.heap.size ≤ t ∧ TkM w' t (Tk.new n l s x q k key en) ∧ Fr [] W w') := fun W => qnew_any n l s x q k key en W hk hnew
    have HY : Hid (∀ W, Calls Try.prog 11 #[.int .i64 n, .agg #[.int .i64 l, .int .i64 s, .int .i64 x, .int .i64 q], .agg #[.int .u8 k, .string key, .string en]] W fun e w' => ∃ t, e = .returned (.tuple #[.pointer (some ⟨t, 0, none⟩), .int .i64 0]) ∧ W.heap.size ≤ t ∧ YtM w' t (Yt.new n l s x q k key en) ∧ Fr [] W w') := fun W => ynew_any n l s x q k key en W hk hnew
    have HW : Hid (newE n l s x q k key en = 0) := hnew
    clear hnew hk
    go_enter Try.func4, Try.ntmps4
    go_wp2_with fail
    refine (HN.out _).mono ?_
    rintro e w1 ⟨t, rfl, ht, hT, hf1⟩
    obtain ⟨a0, a1, a2, a3, a4, a5, a6, a7⟩ := HQm.out _ hf1
    have HT1 : Hid (w.heap.size ≤ t ∧ TkM w1 t (Tk.new n l s x q k key en) ∧ Fr [] w w1) := ⟨(by have h := ht; have := HF0.out.size; omega : w.heap.size ≤ t), hT, HF0.out.then hf1⟩
    clear ht hT hf1 HN
    go_wp2_with fail
    refine (HY.out _).mono ?_
    rintro e w2 ⟨y, rfl, hy, hY, hf2⟩
    have HN2 : Hid (Pn w w2 (some ⟨t, 0, none⟩) (some ⟨y, 0, none⟩)) := Pn.new HW.out HT1.out.1 HT1.out.2.1 HT1.out.2.2 hy hY hf2
    have HSt : Hid (∀ W, Pn w W (some ⟨t, 0, none⟩) (some ⟨y, 0, none⟩) → Calls Try.prog 13 #[.pointer (some ⟨t, 0, none⟩), .pointer (some ⟨y, 0, none⟩)] W fun e w' => e = .returned (.bool true) ∧ Pn w w' (some ⟨t, 0, none⟩) (some ⟨y, 0, none⟩)) := fun W h => h.stands
    clear hy hY hf2 HY HT1 HW a0 a1 a2 a3 a4 a5 a6 a7 HQm HF0
    go_wp2_with fail
    go_loopw [9] (fun ii wr => ∃ (i : Nat), ii = .int .i64 i ∧ i ≤ L ∧ i ≤ 100 ∧ Hid (Pn w wr (some ⟨t, 0, none⟩) (some ⟨y, 0, none⟩))) (fun ii _ => 100 - (RowKit.intOf ii).toNat)
    case atStart => exact ⟨0, rfl, Nat.zero_le _, Nat.zero_le _, HN2⟩
    case round =>
      obtain ⟨i, rfl, hiL, hi5, HF⟩ := hrel
      by_cases hi : i < L
      · by_cases hj : i < 100
        · have hi' : i < os.length := by rw [← HL.out]; exact hi
          have HX : Hid (∀ W, Fr [] w W → ∃ ab off, ao = some ⟨ab, off, none⟩ ∧ ∀ j, j < 9 → W.cell? ⟨ab, off + i * 9 + j, none⟩ = (os.getD i Aj.zero).c[j]?) := fun W hf => by
            obtain ⟨ab, off, e, _, h2⟩ := (HA.out.keep hf).lies (by omega)
            exact ⟨ab, off, e, h2 i hi'⟩
          have HB : Hid (AjB w (os.getD i Aj.zero) ∧ (os.getD i Aj.zero).r.el ≤ 4194304 ∧ (os.getD i Aj.zero).r.hl ≤ 4194304) := ⟨HA.out.each _ (jgetD_mem os i hi'), HM.out _ (jgetD_mem os i hi')⟩
          obtain ⟨a, ha⟩ : ∃ a, a = os.getD i Aj.zero := ⟨_, rfl⟩
          rw [← ha] at HX HB
          clear ha
          have HQ : Hid (Calls Try.prog 12 #[.pointer (some ⟨t, 0, none⟩), .pointer (some ⟨y, 0, none⟩), .agg a.v] wr fun e w' => e = .returned (.bool true) ∧ Pn w w' (some ⟨t, 0, none⟩) (some ⟨y, 0, none⟩)) := HF.out.asks a HB.out.1 HB.out.2.1 HB.out.2.2
          obtain ⟨ab, off, rfl, hx⟩ := HX.out _ HF.out.fr
          obtain ⟨ak, ma, le, bo, bl, bc, ns, ⟨rt, rk, eo, el, ec, ho, hl, hc, ct⟩, es, hs⟩ := a
          have HX3 : Hid (wr.cell? ⟨ab, off + i * 9, none⟩ = some (.int .u8 ak) ∧ wr.cell? ⟨ab, off + i * 9 + 1, none⟩ = some (.int .i64 ma) ∧ wr.cell? ⟨ab, off + i * 9 + 2, none⟩ = some (.int .i64 le) ∧ wr.cell? ⟨ab, off + i * 9 + 3, none⟩ = some (.slice bo bl bc) ∧ wr.cell? ⟨ab, off + i * 9 + 4, none⟩ = some (.int .i64 rt) ∧ wr.cell? ⟨ab, off + i * 9 + 5, none⟩ = some (.bool rk) ∧ wr.cell? ⟨ab, off + i * 9 + 6, none⟩ = some (.slice eo el ec) ∧ wr.cell? ⟨ab, off + i * 9 + 7, none⟩ = some (.slice ho hl hc) ∧ wr.cell? ⟨ab, off + i * 9 + 8, none⟩ = some (.int .i64 ct)) :=
            ⟨hx 0 (by omega), hx 1 (by omega), hx 2 (by omega), hx 3 (by omega), hx 4 (by omega), hx 5 (by omega), hx 6 (by omega), hx 7 (by omega), hx 8 (by omega)⟩
          have H1 : Hid (Calls Try.prog 12 #[.pointer (some ⟨t, 0, none⟩), .pointer (some ⟨y, 0, none⟩), .agg #[.int .u8 ak, .int .i64 ma, .int .i64 le, .slice bo bl bc, .int .i64 rt, .bool rk, .slice eo el ec, .slice ho hl hc, .int .i64 ct]] wr fun e w' => e = .returned (.bool true) ∧ Pn w w' (some ⟨t, 0, none⟩) (some ⟨y, 0, none⟩)) := HQ.out
          obtain ⟨a0, a1, a2, a3, a4, a5, a6, a7, a8⟩ := HX3.out
          clear hx HX HB HQ
          go_wp2_with fail
          refine Calls.mono H1.out ?_
          rintro e w3 ⟨rfl, hF3⟩
          have HF3 : Hid (Pn w w3 (some ⟨t, 0, none⟩) (some ⟨y, 0, none⟩)) := hF3
          clear a0 a1 a2 a3 a4 a5 a6 a7 a8 hF3 H1 HX3 HF HN2
          go_wp2_with fail
          refine Calls.mono (HSt.out _ HF3.out) ?_
          rintro e w4 ⟨rfl, hF4⟩
          have HF4 : Hid (Pn w w4 (some ⟨t, 0, none⟩) (some ⟨y, 0, none⟩)) := hF4
          clear hF4
          go_wp2_with fail
          go_roundw
          case rel => exact ⟨i + 1, by simp, by omega, by omega, HF4⟩
          case measure => simp [RowKit.intOf]; omega
        · have hj2 : ((i : Int) < 100) = False := by simp; omega
          go_wp2_with fail
          refine (HSt.out _ HF.out).mono ?_
          rintro e w3 ⟨rfl, hF3⟩
          have HF3 : Hid (Fr [] w w3) := hF3.fr
          clear hF3
          go_wp2_with fail
          refine (HLv.out _).mono ?_
          rintro e w4 ⟨rfl, hF4⟩
          have HF4 : Hid (Fr [] w w4) := HF3.out.then hF4
          clear hF4
          go_wp2
          go_ret
          exact ⟨rfl, HF4.out⟩
      · go_wp2_with fail
        refine (HSt.out _ HF.out).mono ?_
        rintro e w3 ⟨rfl, hF3⟩
        have HF3 : Hid (Fr [] w w3) := hF3.fr
        clear hF3
        go_wp2_with fail
        refine (HLv.out _).mono ?_
        rintro e w4 ⟨rfl, hF4⟩
        have HF4 : Hid (Fr [] w w4) := HF3.out.then hF4
        clear hF4
        go_wp2
        go_ret
        exact ⟨rfl, HF4.out⟩
  · have HN : Hid (∀ W, Calls Try.prog 10 #[.int .i64 n, .agg #[.int .i64 l, .int .i64 s, .int .i64 x, .int .i64 q], .agg #[.int .u8 k, .string key, .string en]] W fun e w' => e = .returned (.tuple #[.pointer none, .int .i64 (newE n l s x q k key en)]) ∧ Fr [] W w') := fun W => qnew_no n l s x q k key en W hk hnew
    have HY : Hid (∀ W, Calls Try.prog 11 #[.int .i64 n, .agg #[.int .i64 l, .int .i64 s, .int .i64 x, .int .i64 q], .agg #[.int .u8 k, .string key, .string en]] W fun e w' => e = .returned (.tuple #[.pointer none, .int .i64 (newE n l s x q k key en)]) ∧ Fr [] W w') := fun W => ynew_no n l s x q k key en W hk hnew
    obtain ⟨E, HE⟩ : ∃ E, Hid (newE n l s x q k key en = E) := ⟨_, rfl⟩
    rw [HE.out] at HN HY
    clear hnew hk HE
    go_enter Try.func4, Try.ntmps4
    go_wp2_with fail
    refine (HN.out _).mono ?_
    rintro e w1 ⟨rfl, hf1⟩
    obtain ⟨a0, a1, a2, a3, a4, a5, a6, a7⟩ := HQm.out _ hf1
    have HT1 : Hid (Fr [] w w1) := HF0.out.then hf1
    clear hf1 HN
    go_wp2_with fail
    refine (HY.out _).mono ?_
    rintro e w2 ⟨rfl, hf2⟩
    have HN2 : Hid (Pn w w2 none none) := Or.inl ⟨rfl, rfl, HT1.out.then hf2⟩
    have HSt : Hid (∀ W, Pn w W none none → Calls Try.prog 13 #[.pointer none, .pointer none] W fun e w' => e = .returned (.bool true) ∧ Pn w w' none none) := fun W h => h.stands
    clear hf2 HY HT1 a0 a1 a2 a3 a4 a5 a6 a7 HQm HF0
    go_wp2_with fail
    go_loopw [9] (fun ii wr => ∃ (i : Nat), ii = .int .i64 i ∧ i ≤ L ∧ i ≤ 100 ∧ Hid (Pn w wr none none)) (fun ii _ => 100 - (RowKit.intOf ii).toNat)
    case atStart => exact ⟨0, rfl, Nat.zero_le _, Nat.zero_le _, HN2⟩
    case round =>
      obtain ⟨i, rfl, hiL, hi5, HF⟩ := hrel
      by_cases hi : i < L
      · by_cases hj : i < 100
        · have hi' : i < os.length := by rw [← HL.out]; exact hi
          have HX : Hid (∀ W, Fr [] w W → ∃ ab off, ao = some ⟨ab, off, none⟩ ∧ ∀ j, j < 9 → W.cell? ⟨ab, off + i * 9 + j, none⟩ = (os.getD i Aj.zero).c[j]?) := fun W hf => by
            obtain ⟨ab, off, e, _, h2⟩ := (HA.out.keep hf).lies (by omega)
            exact ⟨ab, off, e, h2 i hi'⟩
          have HB : Hid (AjB w (os.getD i Aj.zero) ∧ (os.getD i Aj.zero).r.el ≤ 4194304 ∧ (os.getD i Aj.zero).r.hl ≤ 4194304) := ⟨HA.out.each _ (jgetD_mem os i hi'), HM.out _ (jgetD_mem os i hi')⟩
          obtain ⟨a, ha⟩ : ∃ a, a = os.getD i Aj.zero := ⟨_, rfl⟩
          rw [← ha] at HX HB
          clear ha
          have HQ : Hid (Calls Try.prog 12 #[.pointer none, .pointer none, .agg a.v] wr fun e w' => e = .returned (.bool true) ∧ Pn w w' none none) := HF.out.asks a HB.out.1 HB.out.2.1 HB.out.2.2
          obtain ⟨ab, off, rfl, hx⟩ := HX.out _ HF.out.fr
          obtain ⟨ak, ma, le, bo, bl, bc, ns, ⟨rt, rk, eo, el, ec, ho, hl, hc, ct⟩, es, hs⟩ := a
          have HX3 : Hid (wr.cell? ⟨ab, off + i * 9, none⟩ = some (.int .u8 ak) ∧ wr.cell? ⟨ab, off + i * 9 + 1, none⟩ = some (.int .i64 ma) ∧ wr.cell? ⟨ab, off + i * 9 + 2, none⟩ = some (.int .i64 le) ∧ wr.cell? ⟨ab, off + i * 9 + 3, none⟩ = some (.slice bo bl bc) ∧ wr.cell? ⟨ab, off + i * 9 + 4, none⟩ = some (.int .i64 rt) ∧ wr.cell? ⟨ab, off + i * 9 + 5, none⟩ = some (.bool rk) ∧ wr.cell? ⟨ab, off + i * 9 + 6, none⟩ = some (.slice eo el ec) ∧ wr.cell? ⟨ab, off + i * 9 + 7, none⟩ = some (.slice ho hl hc) ∧ wr.cell? ⟨ab, off + i * 9 + 8, none⟩ = some (.int .i64 ct)) :=
            ⟨hx 0 (by omega), hx 1 (by omega), hx 2 (by omega), hx 3 (by omega), hx 4 (by omega), hx 5 (by omega), hx 6 (by omega), hx 7 (by omega), hx 8 (by omega)⟩
          have H1 : Hid (Calls Try.prog 12 #[.pointer none, .pointer none, .agg #[.int .u8 ak, .int .i64 ma, .int .i64 le, .slice bo bl bc, .int .i64 rt, .bool rk, .slice eo el ec, .slice ho hl hc, .int .i64 ct]] wr fun e w' => e = .returned (.bool true) ∧ Pn w w' none none) := HQ.out
          obtain ⟨a0, a1, a2, a3, a4, a5, a6, a7, a8⟩ := HX3.out
          clear hx HX HB HQ
          go_wp2_with fail
          refine Calls.mono H1.out ?_
          rintro e w3 ⟨rfl, hF3⟩
          have HF3 : Hid (Pn w w3 none none) := hF3
          clear a0 a1 a2 a3 a4 a5 a6 a7 a8 hF3 H1 HX3 HF HN2
          go_wp2_with fail
          refine Calls.mono (HSt.out _ HF3.out) ?_
          rintro e w4 ⟨rfl, hF4⟩
          have HF4 : Hid (Pn w w4 none none) := hF4
          clear hF4
          go_wp2_with fail
          go_roundw
          case rel => exact ⟨i + 1, by simp, by omega, by omega, HF4⟩
          case measure => simp [RowKit.intOf]; omega
        · have hj2 : ((i : Int) < 100) = False := by simp; omega
          go_wp2_with fail
          refine (HSt.out _ HF.out).mono ?_
          rintro e w3 ⟨rfl, hF3⟩
          have HF3 : Hid (Fr [] w w3) := hF3.fr
          clear hF3
          go_wp2_with fail
          refine (HLv.out _).mono ?_
          rintro e w4 ⟨rfl, hF4⟩
          have HF4 : Hid (Fr [] w w4) := HF3.out.then hF4
          clear hF4
          go_wp2
          go_ret
          exact ⟨rfl, HF4.out⟩
      · go_wp2_with fail
        refine (HSt.out _ HF.out).mono ?_
        rintro e w3 ⟨rfl, hF3⟩
        have HF3 : Hid (Fr [] w w3) := hF3.fr
        clear hF3
        go_wp2_with fail
        refine (HLv.out _).mono ?_
        rintro e w4 ⟨rfl, hF4⟩
        have HF4 : Hid (Fr [] w w4) := HF3.out.then hF4
        clear hF4
        go_wp2
        go_ret
        exact ⟨rfl, HF4.out⟩

theorem own : ownKnob Try.prog.godebug = none := by kernel_rfl
theorem laidOut : laidOutB Try.prog = true := by kernel_rfl
set_option maxHeartbeats 4000000 in
set_option maxRecDepth 100000 in
theorem lifted (os : Os) (started : os.Started) (H : Type) (enc : TypeId × Value → H) (F : Stop.Interp) :
    ReturnsInHanded {} Try.checked os 4 .any ((Rows.OpenSpec.upto Rows.callPlaysSpec).pre6 enc Try.prog Try.f4 Rows.callPlaysUptoRow.domain false) (((Rows.OpenSpec.upto Rows.callPlaysSpec).at F).post enc Try.prog Try.f4 false true false false) := by
  refine returnsInHanded_of_cond_sized (C := Try.checked) (s := Rows.OpenSpec.upto Rows.callPlaysSpec) (k := Rows.uptoSmall) rfl own started (by kernel_rfl) Try.func4
    (OpenSpec.witness (enc := enc) (C := Try.checked) (s := Rows.OpenSpec.upto Rows.callPlaysSpec) (k := Rows.uptoSmall) rfl false ⟨#[], #[.agg #[.int .i64 0, .int .i64 0, .int .i64 0, .int .i64 0, .int .i64 0, .int .u8 0, .string ⟨#[]⟩, .string ⟨#[]⟩], .slice none 0 0], []⟩ 8 (by kernel_rfl) (by kernel_rfl) (by kernel_rfl)
      (x := ([.agg [.lit (.int .i64 0), .agg [.lit (.int .i64 0), .lit (.int .i64 0), .lit (.int .i64 0), .lit (.int .i64 0)], .agg [.lit (.int .u8 0), .lit (.string []), .lit (.string [])]], .nil], [], [])) (by kernel_rfl) rfl (by kernel_rfl)) ?_
  intro W base args ds gs before hval0 hW0 hcnd hk hsz0 _
  have hW : DataW.Whole enc Try.prog Try.f4.params.toList Rows.callPlaysSpec.vars false W args.toList ds gs before := hW0
  show Calls Try.prog 4 args W fun e W' => ∃ v, e = .returned v ∧ Rows.callPlaysSpec.post enc Try.prog Try.f4 false true false false W args v W'
  have hval : ∀ (j : Nat) t v, Try.f4.params[j]? = some t → args[j]? = some v → Value.okWide Try.prog W .any base t v := hval0
  have hsz : (DataW.weightsEach Try.prog (Try.f4.params.toList ++ Rows.callPlaysSpec.plain.varTypes Try.prog) (ds ++ gs)).all (· ≤ reachBytes) = true := hsz0
  have hW' := hW
  obtain ⟨p, q, hA0, hV, rfl, hfz, hnd⟩ := hW
  have hA : DataW.TrodAll enc Try.prog W 0 (fun _ => true) true Try.f4.params.toList args.toList ds p := hA0
  rw [Try.params4] at hA hval hsz
  obtain ⟨v0, vs0, d0, ds0, p0, q0, hargs, rfl, rfl, h0, r0⟩ := trodAll_cons hA
  obtain ⟨v1, vs1, d1, ds1, p1, q1, rfl, rfl, rfl, h1, r1⟩ := trodAll_cons r0
  obtain ⟨rfl, rfl, rfl⟩ := trodAll_nil r1
  obtain rfl : args = #[v0, v1] := by cases args; simp_all
  obtain ⟨rfl, rfl⟩ := trodVars_none hV
  obtain ⟨cs0, rfl, _⟩ := okWide_struct Try.underlying32 (hval 0 32 v0 rfl rfl)
  have k0 := h0
  have lt0 : ∀ x ∈ p0, x.block < W.heap.size := by obtain ⟨m, hm⟩ := k0; exact DataW.trod_lt m _ _ _ hm
  obtain ⟨mn0, ml0, ms0, mx0, mq0, ck0, key0, en0, rfl, hI0, hB0, hK0, hE0⟩ : ∃ (n l s x q k : Int) (key en : ByteArray), cs0 = #[.int .i64 n, .int .i64 l, .int .i64 s, .int .i64 x, .int .i64 q, .int .u8 k, .string key, .string en] ∧ (I6 n ∧ Cf.ok ⟨l, s, x, q⟩) ∧ (0 ≤ k ∧ k ≤ 255) ∧ key.size ≤ reachBytes ∧ en.size ≤ reachBytes := by
    obtain ⟨fuel, hf⟩ := h0
    obtain ⟨n, l, s, x, q, k, key, en, e, h0, h1, h2, h3⟩ := made17_open hf (fun n hn => of_decide_eq_true (List.all_eq_true.1 hsz n (DataW.weights_mem_each (j := 0) (t := 32) rfl rfl n hn)))
    exact ⟨n, l, s, x, q, k, key, en, by cases cs0; simpa [Value.cells] using e, h0, h1, h2, h3⟩
  have k1 := h1
  have lt1 : ∀ x ∈ p1, x.block < W.heap.size := by obtain ⟨m, hm⟩ := k1; exact DataW.trod_lt m _ _ _ hm
  obtain ⟨a1, len1, cap1, xs1, rfl, hB1, hL1⟩ : ∃ ao L cap xs, v1 = .slice ao L cap ∧ JRs W ao xs ∧ L = xs.length := by
    obtain ⟨fuel, hf⟩ := h1
    obtain ⟨ao, L, cap, rfl⟩ := okWide_slice Try.undAjs (hval 1 33 v1 rfl rfl)
    obtain ⟨ao', L', cap', xs, e, h1, h2, _⟩ := asks17_open hf (fun n hn => of_decide_eq_true (List.all_eq_true.1 hsz n (DataW.weights_mem_each (j := 1) (t := 33) rfl rfl n hn)))
    exact ⟨ao', L', cap', xs, e, h1, h2⟩
  have hM1 : ∀ a ∈ xs1, a.r.el ≤ 1048576 ∧ a.r.hl ≤ 1048576 := fun a ha => by
    have hb : Rows.uptoBulkAll ([d0, d1] ++ []) ≤ 1048576 := of_decide_eq_true hk
    simp only [List.append_nil, Rows.uptoBulkAll] at hb
    obtain ⟨m, hm⟩ := k1
    have := bulk_asks (x := (d1, p1)) hm hB1 hL1 a ha
    simp only at this
    omega
  clear hA0 hval0 hW0
  refine (walk mn0 ml0 ms0 mx0 mq0 ck0 key0 en0 a1 len1 cap1 xs1 W hI0 hB0 hK0 hE0 hB1 hL1 hM1).mono fun e W' ⟨he, hf⟩ => ?_
  subst he
  have bel : Below W.heap.size W W' := hf.below (Nat.le_refl _) (by simp)
  exact ⟨_, rfl, _, _, _, [], _, [], hW', trodAll_mk1 (shut_bool Try.underlying4 _), (trodAll_cons_mk (Below.trod laidOut (by kernel_rfl) (of_decide_eq_true (by kernel_rfl)) k0 bel lt0) (trodAll_cons_mk (Below.trod laidOut (by kernel_rfl) (of_decide_eq_true (by kernel_rfl)) k1 bel lt1) trodAll_mk0)), rfl, bel.frame _, fun h => by cases h⟩

theorem over : Rows.CallPlaysUptoSaid :=
  OpenClaim.holds_of_cond 4 Try.f4 rfl rfl rfl rfl rfl rfl rfl ⟨rfl, rfl, rfl, rfl, rfl⟩ rfl rfl rfl rfl rfl (by kernel_rfl) Try.func4 (by kernel_rfl)
    (of_decide_eq_true (by kernel_rfl)) (by unfold Func.isWrapper; first | (rw [if_pos (by decide +kernel)]; kernel_rfl) | (rw [if_neg (by decide +kernel)]; exact ⟨rfl, rfl⟩))
    (fun os started H enc _ F => lifted os started H enc F)
end Go.Proofs.Ytpdkdgmaofhlkaa.callPlays
namespace Go.Proofs.Ytpdkdgmaofhlkaa
theorem callplaysupto_holds : Rows.CallPlaysUptoSaid := callPlays.over
#print axioms callplaysupto_holds
end Go.Proofs.Ytpdkdgmaofhlkaa
