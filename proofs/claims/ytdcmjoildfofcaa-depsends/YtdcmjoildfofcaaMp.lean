/- A map keyed by a key and a number (who wrote the key ahead of a transaction), as a function; contract of note. Conditions as each names them. -/
import Derived.Test.YtdcmjoildfofcaaChk7
import Derived.Maps.OwnOps
import Derived.Maps.Views
import Derived.DeepKeys4
namespace Go.Proofs.Ytdcmjoildfofcaa
open Go.ChangeShapes Go.WideShapes Go.ChangeAt Go.RowKit Go.Lib Go.Maps
set_option linter.unusedVariables false
set_option linter.unusedSimpArgs false

theorem Try.laid7 : laidOutB Try.prog = true := by kernel_rfl
theorem Try.rowTurn : (77 : TypeId) < Try.prog.types.size := of_decide_eq_true (by kernel_rfl)
theorem Try.undTurn : Try.prog.underlying 77 = some (.struct (Try.prog.fieldsOf 77)) := by kernel_rfl
theorem Try.fieldsTurn : (Try.prog.fieldsOf 77).toList.map (fun f => (f.name != "_", f.type, f.offset)) = [(true, 9, 0), (true, 3, 1)] := by kernel_rfl
theorem Try.wideTurn : (match Try.prog.underlying 77 with | some (.array _ _) | some (.struct _) => true | _ => false) = true := by rw [Try.undTurn]
set_option maxRecDepth 100000 in
theorem Try.keyedTurn : Keyed Try.prog 77 := Keyed.of_law (deep_law_laid Try.laid7 (m := 2) (by omega) Try.rowTurn (by kernel_rfl) Try.wideTurn)
theorem Try.undTMap : Try.prog.underlying 70 = some (.map 77 3) := by kernel_rfl
theorem Try.undI7 : Try.prog.underlying 3 = some (.int .i64) := by kernel_rfl
theorem Try.undS7 : Try.prog.underlying 9 = some .string := by kernel_rfl
theorem Try.cellsTurn : Try.prog.cellsOf 77 = 2 := by kernel_rfl
theorem Try.cellsS7 : Try.prog.cellsOf 9 = 1 := by kernel_rfl
theorem Try.cellsI7 : Try.prog.cellsOf 3 = 1 := by kernel_rfl
theorem Try.typesPos : ∃ m, Try.prog.types.size = m + 1 := ⟨Try.prog.types.size - 1, by have h : (77 : Nat) < Try.prog.types.size := Try.rowTurn; omega⟩
theorem Try.keyTurn : Try.prog.keyType 77 = true := by kernel_rfl
theorem Try.zeroI7 (w : World) : (zeroValue 3).run Try.prog w = .ok (.int .i64 0) w := by kernel_rfl
set_option maxRecDepth 100000 in
theorem keyOf_turn (s : ByteArray) (m : Int) (hs : s.size ≤ maxLen) (hm : (Lit.int .i64 m).wf = true) : keyOf Try.prog 77 (.agg #[.string s, .int .i64 m]) = some (.string (keyBytes [.string s.data.toList, .int .i64 m])) := by
  obtain ⟨q, hq⟩ := Try.typesPos
  have hF := Try.fieldsTurn
  unfold keyOf
  simp only [Try.undTurn]
  rw [if_pos (by simp [Try.keyTurn, Value.formed, Try.undTurn, Try.cellsTurn]), hq]
  unfold Program.keyLits
  simp only [Try.undTurn, Value.cells]
  obtain ⟨fs, hfs⟩ : ∃ fs, fs = Try.prog.fieldsOf 77 := ⟨_, rfl⟩
  rw [← hfs] at hF ⊢
  obtain ⟨l⟩ := fs
  simp only at hF ⊢
  match l, hF with
  | [f0, f1], hF =>
    simp only [List.map_cons, List.map_nil, List.cons.injEq, Prod.mk.injEq, and_true] at hF
    obtain ⟨⟨n0, t0, o0⟩, ⟨n1, t1, o1⟩⟩ := hF
    rw [if_pos ⟨by rw [Try.cellsTurn]; rfl, by simp [n0, n1]⟩]
    rw [List.mapM_cons, List.mapM_cons, List.mapM_nil, t0, t1, o0, o1, Try.cellsS7, Try.cellsI7]
    simp [Program.keyLits, Try.undS7, Try.undI7, hs, hm]
theorem key_inj {s t : ByteArray} {m n : Int} {kl : Lit} (h1 : keyOf Try.prog 77 (.agg #[.string s, .int .i64 m]) = some kl) (h2 : keyOf Try.prog 77 (.agg #[.string t, .int .i64 n]) = some kl) : s = t ∧ m = n := by
  have := Try.keyedTurn.inj h1 h2
  simp at this
  exact this
/-- Block b is a map of at most n entries that reads as F. -/
def MapF (w : World) (b n : Nat) (F : ByteArray → Int → Int) : Prop :=
  ∃ D : DataW Unit, w.ownsMap Try.prog 77 (plainElem Try.prog 3) b n D ∧ IsMap D ∧ ∀ s m kl, keyOf Try.prog 77 (.agg #[.string s, .int .i64 m]) = some kl → D.atKey kl (.lit (.int .i64 0)) = .lit (.int .i64 (F s m))
theorem MapF.lt {w : World} {b n : Nat} {F : ByteArray → Int → Int} (h : MapF w b n F) : b < w.heap.size := by
  obtain ⟨D, hD, _⟩ := h
  exact hD.lt
theorem MapF.keep {S : List Nat} {w w' : World} {b n : Nat} {F : ByteArray → Int → Int} (h : MapF w b n F) (hf : Fr S w w') (hn : b ∉ S) : MapF w' b n F := by
  have hlt := h.lt
  obtain ⟨D, ⟨es, clock, hb, hr⟩, h2⟩ := h
  exact ⟨D, ⟨es, clock, (hf.block b hlt hn).trans hb, hr⟩, h2⟩
theorem MapF.mono {w : World} {b n m : Nat} {F : ByteArray → Int → Int} (h : MapF w b n F) (hn : n ≤ m) : MapF w b m F := by
  obtain ⟨D, hD, h2⟩ := h
  exact ⟨D, hD.mono hn, h2⟩
theorem MapF.made (w : World) : MapF (w.alloc (.map #[] 0)) w.heap.size 0 (fun _ _ => 0) :=
  ⟨.map [], World.ownsMap_made w _ _ _, ⟨_, rfl⟩, fun s m kl h => rfl⟩
def upd (F : ByteArray → Int → Int) (s : ByteArray) (m v : Int) : ByteArray → Int → Int := fun s' m' => if s' = s ∧ m' = m then v else F s' m'
theorem MapF.look {w : World} {b n : Nat} {F : ByteArray → Int → Int} (h : MapF w b n F) (s : ByteArray) (m : Int) (hs : s.size ≤ maxLen) (hm : (Lit.int .i64 m).wf = true) :
    (Instr.lookup 70 (.map (some b)) (.agg #[.string s, .int .i64 m]) false).run Try.prog w = .ok (.int .i64 (F s m)) w := by
  obtain ⟨D, hD, _, hF⟩ := h
  have hk := keyOf_turn s m hs hm
  obtain ⟨c, hrun, hat, _⟩ := hD.lookup_int Try.keyedTurn Try.undTMap Try.undI7 (Try.zeroI7 _) hk
  rw [hF s m _ hk] at hat
  simp only [DataW.lit.injEq, Lit.int.injEq, true_and] at hat
  rw [hrun, hat]
theorem MapF.store {w : World} {b n : Nat} {F : ByteArray → Int → Int} (h : MapF w b n F) (s : ByteArray) (m v : Int) (hs : s.size ≤ maxLen) (hm : (Lit.int .i64 m).wf = true) (hv : (Lit.int .i64 v).wf = true) (hn : n < maxLen) :
    ∃ w', (Instr.mapUpdate 70 (.map (some b)) (.agg #[.string s, .int .i64 m]) (.int .i64 v)).run Try.prog w = .ok () w' ∧ MapF w' b (n + 1) (upd F s m v) ∧ Fr [b] w w' := by
  obtain ⟨D, hD, hI, hF⟩ := h
  have hk := keyOf_turn s m hs hm
  obtain ⟨w', hrun, hO, hg⟩ := hD.update Try.keyedTurn Try.undTMap hn hk (plainElem_int Try.undI7 hv)
  refine ⟨w', hrun, ⟨_, hO, ?_, ?_⟩, Fr.grown hg (by intro k hk _; cases hk; simp)⟩
  · obtain ⟨es, rfl⟩ := hI
    exact ⟨_, rfl⟩
  · intro s' m' kl hkl
    unfold upd
    by_cases he : s' = s ∧ m' = m
    · obtain ⟨rfl, rfl⟩ := he
      rw [hk] at hkl
      cases hkl
      rw [if_pos ⟨rfl, rfl⟩]
      exact atKey_put_same hI (Try.keyedTurn.key hk) _ _
    · rw [if_neg he]
      rw [atKey_put_other (fun e => he (key_inj hkl (by rw [e]; exact hk))), hF s' m' kl hkl]
/-- What note makes of it. -/
def noteF (F : ByteArray → Int → Int) (s : ByteArray) (k : Int) : ByteArray → Int → Int := if F s 0 = k then F else upd (upd F s k (F s 0)) s 0 k
theorem wf_i64' {x : Int} (h0 : -9223372036854775808 ≤ x) (h1 : x ≤ 9223372036854775807) : (Lit.int .i64 x).wf = true := WalkArith.wf_i64 ⟨h0, h1⟩

set_option maxHeartbeats 4000000 in
set_option maxRecDepth 100000 in
theorem note_any (b n : Nat) (F : ByteArray → Int → Int) (s : ByteArray) (k : Int) (w : World) (h : MapF w b n F) (hs : s.size ≤ 9007199254740992) (hk0 : 0 ≤ k) (hk1 : k ≤ 9007199254740992) (hF0 : 0 ≤ F s 0) (hF1 : F s 0 ≤ 9007199254740992) (hn : n < 9007199254740992) :
    Calls Try.prog 38 #[.map (some b), .string s, .int .i64 k] w fun e w' => e = .returned (.tuple #[]) ∧ MapF w' b (n + 2) (noteF F s k) ∧ Fr [b] w w' := by
  have hsm : s.size ≤ maxLen := by unfold maxLen; omega
  obtain ⟨w0, HW0⟩ : ∃ w0, Hid (w.alloc (.cells #[.string s, .int .i64 0] 77) = w0) := ⟨_, rfl⟩
  have hF0' : Fr [] w w0 := by rw [← HW0.out]; exact Fr.alloc [] w _
  have hb0 : w0.heap[w.heap.size]? = some (.cells #[.string s, .int .i64 0] 77 (0, 0)) := by rw [← HW0.out]; exact heap_alloc_new w _
  have c0 : w0.cell? ⟨w.heap.size, 0, none⟩ = some (.string s) := by rw [cell_of_row _ _ _ _ _ _ hb0]; rfl
  have c1 : w0.cell? ⟨w.heap.size, 1, none⟩ = some (.int .i64 0) := by rw [cell_of_row _ _ _ _ _ _ hb0]; rfl
  have h0 := h.keep hF0' (by simp)
  have hne : b ≠ w.heap.size := by have := h.lt; omega
  have hl0 := h0.look s 0 hsm (by decide)
  obtain ⟨x, hx⟩ : ∃ x, x = F s 0 := ⟨_, rfl⟩
  rw [← hx] at hl0 hF0 hF1
  have HX : Hid (x = F s 0) := hx
  clear hx
  by_cases he : x = k
  · have heq : (x == k) = true := by simp [he]
    have HR : Hid (MapF w0 b (n + 2) (noteF F s k)) := by
      show MapF _ _ _ _
      unfold noteF
      rw [if_pos (by rw [← HX.out]; exact he)]
      exact h0.mono (by omega)
    clear he h h0
    go_enter Try.func38, Try.ntmps38
    go_upto_region 1 with fail
    rw [HW0.out]
    go_wp2
    refine bodyPost_ret (results_none rfl _ _ _) rfl ?_
    exact ⟨rfl, HR.out, hF0'.mono (by simp)⟩
  · have heq : (x == k) = false := by simp [he]
    obtain ⟨w1, hr1, hM1, hG1⟩ := h0.store s k x hsm (wf_i64' (by omega) (by omega)) (wf_i64' (by omega) (by omega)) (by unfold maxLen; omega)
    obtain ⟨w2, hr2, hM2, hG2⟩ := hM1.store s 0 k hsm (by decide) (wf_i64' (by omega) (by omega)) (by unfold maxLen; omega)
    have hb1 := hG1.keep hb0 (by simp; omega)
    have d0 : w1.cell? ⟨w.heap.size, 0, none⟩ = some (.string s) := by rw [cell_of_row _ _ _ _ _ _ hb1]; rfl
    have d1 : w1.cell? ⟨w.heap.size, 1, none⟩ = some (.int .i64 0) := by rw [cell_of_row _ _ _ _ _ _ hb1]; rfl
    have HR : Hid (MapF w2 b (n + 2) (noteF F s k) ∧ Fr [b] w w2) := by
      refine ⟨?_, (hF0'.mono (by simp)).then (hG1.then hG2)⟩
      unfold noteF
      rw [if_neg (by rw [← HX.out]; exact he), ← HX.out]
      exact hM2
    clear he h h0 hM1 hM2 hG1 hG2 hb0 hb1
    go_enter Try.func38, Try.ntmps38
    go_upto_region 1 with fail
    rw [HW0.out]
    go_wp2
    go_end0
    exact ⟨rfl, HR.out⟩
end Go.Proofs.Ytdcmjoildfofcaa
