/- How many steps a log takes, as mathematics; slices cut at the head. No conditions. -/
import Derived.Test.YtdojhkgnnbdfkaaTx22
import Derived.Test.YtdojhkgnnbdfkaaChk6
import Derived.Test.YtdojhkgnnbdfkaaRi11
namespace Go.Proofs.Ytdojhkgnnbdfkaa
open Go.ChangeShapes Go.WideShapes Go.ChangeAt Go.RowKit Go.Lib
set_option linter.unusedVariables false
set_option linter.unusedSimpArgs false

/-- They rise from p on, up to N. -/
def Rise (p N : Int) : List Int → Prop
  | [] => True
  | x :: r => p < x ∧ x ≤ N ∧ Rise x N r
theorem idrop_cons (xs : List Int) (i : Nat) (h : i < xs.length) : xs.drop i = xs.getD i 0 :: xs.drop (i + 1) := by
  rw [List.drop_eq_getElem_cons h]
  simp [List.getD, h]
theorem tdrop22 (xs : List Tm) (i : Nat) (h : i < xs.length) : xs.drop i = xs.getD i Tm.zero :: xs.drop (i + 1) := by
  rw [List.drop_eq_getElem_cons h]
  simp [List.getD, h]
/-- Is the next of them this number? -/
def hits (n : Int) : List Int → Bool
  | [] => false
  | b :: _ => b == n
def nxt (n : Int) (bs : List Int) : List Int := if hits n bs then bs.tail else bs
/-- The steps of each. -/
noncomputable def stL : List Tm → List Int → List Int
  | [], _ => []
  | t :: r, bs => ((tnC t.ws (hits t.n bs) : Nat) : Int) :: stL r (nxt t.n bs)
theorem stL_len : ∀ (ts : List Tm) (bs : List Int), (stL ts bs).length = ts.length
  | [], _ => rfl
  | t :: r, bs => by simp [stL, stL_len r]
theorem stL_le : ∀ (ts : List Tm) (bs : List Int), (∀ t ∈ ts, okT t.n t.ws) → ∀ x ∈ stL ts bs, 0 ≤ x ∧ x ≤ ((1048576 : Nat) : Int)
  | [], _, _, x, hx => by cases hx
  | t :: r, bs, h, x, hx => by
    rcases List.mem_cons.1 hx with rfl | hx
    · have := tnC_le (h t List.mem_cons_self).2.2.1 (hits t.n bs)
      omega
    · exact stL_le r _ (fun u hu => h u (List.mem_cons_of_mem _ hu)) x hx
/-- May this be asked? -/
def LgOk (ts : List Tm) (m : Int) (bs : List Int) : Prop := okL 1 (txs ts) ∧ 0 ≤ m ∧ m ≤ (ts.length : Int) ∧ Rise (m + 1) (ts.length : Int) bs
/-- What a call of Log answers. -/
def LgP (ts : List Tm) (m : Int) (bs : List Int) (r e : Int) : Prop := (LgOk ts m bs ∧ r = sumI (stL (ts.drop m.toNat) bs) ∧ e = 0) ∨ (¬ LgOk ts m bs ∧ r = 0 ∧ e = 1)
theorem LgP.uniq {ts : List Tm} {m : Int} {bs : List Int} {r e r' e' : Int} (h : LgP ts m bs r e) (h' : LgP ts m bs r' e') : r = r' ∧ e = e' := by
  rcases h with ⟨h1, h2, h3⟩ | ⟨h1, h2, h3⟩ <;> rcases h' with ⟨g1, g2, g3⟩ | ⟨g1, g2, g3⟩ <;> first | (exact ⟨by omega, by omega⟩) | (exact absurd g1 h1) | (exact absurd h1 g1)
theorem okL_each : ∀ {l : List Tx} {k : Nat}, okL k l → ∀ t ∈ l, t.ok
  | [], _, _, t, ht => by cases ht
  | x :: r, k, h, t, ht => by
    rcases List.mem_cons.1 ht with rfl | ht
    · exact h.1
    · exact okL_each h.2.2 t ht
theorem okL_ts {ts : List Tm} (h : okL 1 (txs ts)) : (∀ t ∈ ts, okT t.n t.ws) ∧ ts.length ≤ 65536 := by
  refine ⟨fun t ht => okL_each h t.tx (List.mem_map.2 ⟨t, ht, rfl⟩), ?_⟩
  have := okL_few h
  rw [txs_length] at this
  exact this
theorem TRs.drop22 {w : World} {ao so : Option Addr} {ts : List Tm} (h : TRs w ao ts) (K : Nat) (hso : K < ts.length → ∀ b off, ao = some ⟨b, off, none⟩ → so = some ⟨b, off + K * 2, none⟩) : TRs w so (ts.drop K) := by
  refine ⟨fun h0 => ?_, by have := h.few; rw [List.length_drop]; omega, fun t ht => h.each t (List.mem_of_mem_drop ht)⟩
  rw [List.length_drop] at h0
  obtain ⟨b, off, e, hb, hc⟩ := h.lies (by omega)
  refine ⟨b, off + K * 2, hso (by omega) b off e, hb, fun i hi => ?_⟩
  rw [List.length_drop] at hi
  have e2 : (ts.drop K).getD i Tm.zero = ts.getD (K + i) Tm.zero := by simp [List.getD]
  rw [e2, show off + K * 2 + i * 2 = off + (K + i) * 2 from by omega]
  exact hc _ (by omega)
theorem IRs.drop22 {w : World} {ao so : Option Addr} {x : Int} {xs : List Int} (h : IRs w ao (x :: xs)) (hso : 0 < xs.length → ∀ b off, ao = some ⟨b, off, none⟩ → so = some ⟨b, off + 1, none⟩) : IRs w so xs := by
  refine ⟨fun h0 => ?_, by have := h.few; simp at this; omega⟩
  obtain ⟨b, off, e, hb, hc⟩ := h.lies (by simp)
  refine ⟨b, off + 1, hso h0 b off e, hb, fun i hi => ?_⟩
  have := hc (i + 1) (by simp; omega)
  rw [show off + 1 + i = off + (i + 1) from by omega, this]
  simp [List.getD]
theorem IRs.cell22 {w : World} {ao : Option Addr} {x : Int} {xs : List Int} (h : IRs w ao (x :: xs)) : ∃ b off, ao = some ⟨b, off, none⟩ ∧ w.cell? ⟨b, off, none⟩ = some (.int .i64 x) := by
  obtain ⟨b, off, e, hb, hc⟩ := h.lies (by simp)
  exact ⟨b, off, e, by simpa using hc 0 (by simp)⟩
theorem IOw.irs22 {base : Nat} {w : World} {o : Option Addr} {n c : Nat} {xs : List Int} (h : IOw base w o n c xs) (hn : n ≤ 17592186044416) : IRs w o xs := by
  refine ⟨fun h0 => ?_, by rw [← h.len]; exact hn⟩
  obtain ⟨g, e, _, hg, hc⟩ := h.cells (by rw [h.len]; exact h0)
  exact ⟨g, 0, e, hg, fun i hi => by simpa using hc i (by rw [h.len]; exact hi)⟩
theorem Try.undTs22 : Try.prog.underlying 30 = some (.slice (Try.prog.elem 30)) := by kernel_rfl
theorem Try.elemTs22 : Try.prog.elem 30 = 24 := by kernel_rfl
theorem Try.sizeT22 (w : World) : (sizeOf 24).run Try.prog w = .ok 2 w := by kernel_rfl
theorem Try.undIs22 : Try.prog.underlying 31 = some (.slice (Try.prog.elem 31)) := by kernel_rfl
theorem Try.elemIs22 : Try.prog.elem 31 = 3 := by kernel_rfl
theorem Try.sizeI22 (w : World) : (sizeOf 3).run Try.prog w = .ok 1 w := by kernel_rfl
theorem slice_lowT (ao : Option Addr) (L cap K : Nat) (h1 : K ≤ L) (h2 : L ≤ cap) :
    ∃ so, (∀ w, (Instr.slice 30 (.slice ao L cap) (some (.int .i64 (K : Int))) Option.none Option.none).run Try.prog w = .ok (.slice so (L - K) (cap - K)) w) ∧ (∀ w, (Instr.sliceAt 30 (.slice ao L cap) (some (.int .i64 (K : Int))) Option.none Option.none).run Try.prog w = .ok (.slice so (L - K) (cap - K)) w) ∧ (K < L → ∀ b off, ao = some ⟨b, off, none⟩ → so = some ⟨b, off + K * 2, none⟩) := by
  have key : ∀ w, (Instr.slice 30 (.slice ao L cap) (some (.int .i64 (K : Int))) Option.none Option.none).run Try.prog w = .ok (.slice (if cap = K then ao else ao.map (·.add (K * 2))) (L - K) (cap - K)) w := fun w => by
    rw [run_slice_l w 30 _ _ _ Try.undTs22 .i64 (K : Int) (by omega) (by omega), Try.elemTs22, Try.sizeT22]
    simp [Result.andThen, sliced]
  refine ⟨_, key, fun w => by rw [run_sliceAt_slice w 30 _ _ _ _ Try.undTs22]; exact key w, fun h b off e => ?_⟩
  rw [if_neg (by omega), e]
  simp [Addr.add]
theorem slice_oneI (ao : Option Addr) (L cap : Nat) (h1 : 1 ≤ L) (h2 : L ≤ cap) :
    ∃ so, (∀ w, (Instr.slice 31 (.slice ao L cap) (some (.int .i64 1)) Option.none Option.none).run Try.prog w = .ok (.slice so (L - 1) (cap - 1)) w) ∧ (∀ w, (Instr.sliceAt 31 (.slice ao L cap) (some (.int .i64 1)) Option.none Option.none).run Try.prog w = .ok (.slice so (L - 1) (cap - 1)) w) ∧ (1 < L → ∀ b off, ao = some ⟨b, off, none⟩ → so = some ⟨b, off + 1, none⟩) := by
  have key : ∀ w, (Instr.slice 31 (.slice ao L cap) (some (.int .i64 1)) Option.none Option.none).run Try.prog w = .ok (.slice (if cap = 1 then ao else ao.map (·.add 1)) (L - 1) (cap - 1)) w := fun w => by
    rw [run_slice_l w 31 _ _ _ Try.undIs22 .i64 1 (by omega) (by omega), Try.elemIs22, Try.sizeI22]
    simp [Result.andThen, sliced]
  refine ⟨_, key, fun w => by rw [run_sliceAt_slice w 31 _ _ _ _ Try.undIs22]; exact key w, fun h b off e => ?_⟩
  rw [if_neg (by omega), e]
  simp [Addr.add]
/-- It tells whether. -/
def TellsR (e : Ending) (P : Prop) : Prop := ∃ B : Bool, e = .returned (.bool B) ∧ (B = true ↔ P)
set_option maxHeartbeats 4000000 in
set_option maxRecDepth 100000 in
theorem nmayb_any (bo : Option Addr) (Lb cb : Nat) (bs : List Int) (m N : Int) (w : World) (hI : IRs w bo bs) (hL : Lb = bs.length) (hm : 0 ≤ m ∧ m ≤ 140737488355328) :
    Calls Try.prog 24 #[.slice bo Lb cb, .int .i64 m, .int .i64 N] w fun e w' => TellsR e (Rise (m + 1) N bs) ∧ Fr [] w w' := by
  have HL : Hid (Lb = bs.length) := hL
  have HI : Hid (∀ W, Fr [] w W → IRs W bo bs) := fun W hf => hI.keep hf
  have hfew := hI.few
  rw [← hL] at hfew
  have HR0 : Hid (Rise (m + 1) N bs ↔ Rise (m + 1) N (bs.drop 0)) := by show _ ↔ _; simp
  clear hI hL
  go_enter Try.func24, Try.ntmps24
  go_wp2_with fail
  go_loopw [7, 14] (fun vv ii wr => ∃ (v : Int) (i : Nat), vv = .int .i64 v ∧ ii = .int .i64 i ∧ i ≤ Lb ∧ Hid (Rise (m + 1) N bs ↔ Rise v N (bs.drop i)) ∧ Fr [] w wr) (fun _ ii _ => Lb - (intOf ii).toNat)
  case atStart => exact ⟨m + 1, 0, rfl, rfl, Nat.zero_le _, HR0, Fr.refl _ _⟩
  case round =>
    obtain ⟨v, i, rfl, rfl, hiL, HR, hF⟩ := hrel
    by_cases hi : i < Lb
    · obtain ⟨bb, off, rfl, _, hc⟩ := (HI.out _ hF).lies (by rw [← HL.out]; omega)
      have d0 := hc i (by rw [← HL.out]; exact hi)
      have HD : Hid (bs.drop i = bs.getD i 0 :: bs.drop (i + 1)) := idrop_cons bs i (by rw [← HL.out]; exact hi)
      generalize bs.getD i 0 = x at d0 HD
      have HR2 : Hid (Rise (m + 1) N bs ↔ v < x ∧ x ≤ N ∧ Rise x N (bs.drop (i + 1))) := by
        show _ ↔ _
        rw [HR.out, HD.out]
        exact Iff.rfl
      clear hc HR HD HR0
      by_cases h1 : x ≤ v
      · have e1 : decide (x ≤ v) = true := by simp [h1]
        have HN : Hid (¬ Rise (m + 1) N bs) := fun h => by have := (HR2.out.1 h).1; omega
        clear HR2
        go_wp2_with fail
        go_ret
        exact ⟨⟨false, rfl, ⟨fun h => (by cases h), fun h => absurd h HN.out⟩⟩, hF⟩
      · have e1 : decide (x ≤ v) = false := by simp [h1]
        by_cases h2 : N < x
        · have e2 : decide (N < x) = true := by simp [h2]
          have HN : Hid (¬ Rise (m + 1) N bs) := fun h => by have := (HR2.out.1 h).2.1; omega
          clear HR2
          go_wp2_with fail
          go_ret
          exact ⟨⟨false, rfl, ⟨fun h => (by cases h), fun h => absurd h HN.out⟩⟩, hF⟩
        · have e2 : decide (N < x) = false := by simp [h2]
          have HR3 : Hid (Rise (m + 1) N bs ↔ Rise x N (bs.drop (i + 1))) := by
            show _ ↔ _
            rw [HR2.out]
            exact ⟨fun h => h.2.2, fun h => ⟨by omega, by omega, h⟩⟩
          clear HR2
          go_wp2_with fail
          go_roundw
          case rel => exact ⟨x, i + 1, rfl, by simp, by omega, HR3, hF⟩
          case measure => simp [intOf]; omega
    · obtain rfl : i = Lb := by omega
      have HY : Hid (Rise (m + 1) N bs) := by
        rw [HL.out, List.drop_length] at HR
        exact HR.out.2 trivial
      clear HR HR0 hi hiL
      go_wp2_with fail
      go_ret
      exact ⟨⟨true, rfl, ⟨fun _ => HY.out, fun _ => rfl⟩⟩, hF⟩
end Go.Proofs.Ytdojhkgnnbdfkaa
