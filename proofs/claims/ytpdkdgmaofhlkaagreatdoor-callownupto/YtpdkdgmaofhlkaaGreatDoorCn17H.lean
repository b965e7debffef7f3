/- slices.Concat of rows of keys with their versions. Conditions as each names them. -/
import Derived.Test.YtpdkdgmaofhlkaaGreatDoorCc17H
namespace Go.Proofs.YtpdkdgmaofhlkaaGreatDoor
open Go.ChangeShapes Go.WideShapes Go.ChangeAt Go.RowKit Go.Lib
set_option linter.unusedVariables false
set_option linter.unusedSimpArgs false
/-- A row as it lies in a list of rows. -/
structure ElH where
  ro : Option Addr
  L : Nat
  rc : Nat
  xs : List Hd
def ElH.v (e : ElH) : Value := .slice e.ro e.L e.rc
def ElH.zero : ElH := ⟨none, 0, 0, []⟩
/-- All that the rows have, one row behind the other. -/
def flaH (es : List ElH) : List Hd := es.flatMap ElH.xs
theorem elgetH (es : List ElH) (i : Nat) (h : i < es.length) : es.getD i ElH.zero ∈ es := by simp [List.getD, h]
theorem flaH_snoc (es : List ElH) (i : Nat) (h : i < es.length) : flaH (es.take (i + 1)) = flaH (es.take i) ++ (es.getD i ElH.zero).xs := by
  unfold flaH
  rw [List.take_add_one, List.flatMap_append]
  simp [List.getD, h]
theorem flaH_app (es : List ElH) (e : ElH) : flaH (es ++ [e]) = flaH es ++ e.xs := by simp [flaH]
/-- The slice at ao is of rows that can be read. -/
structure LLH (w : World) (ao : Option Addr) (es : List ElH) : Prop where
  lies : 0 < es.length → ∃ b, ao = some ⟨b, 0, none⟩ ∧ b < w.heap.size ∧ ∀ i, i < es.length → w.cell? ⟨b, i, none⟩ = some (es.getD i ElH.zero).v
  each : ∀ e ∈ es, RrH w e.ro e.xs ∧ e.L = e.xs.length ∧ e.L ≤ 4194304
  few : es.length ≤ 17
theorem LLH.keep {w w' : World} {ao : Option Addr} {es : List ElH} (h : LLH w ao es) (hf : Fr [] w w') : LLH w' ao es := by
  refine ⟨fun h0 => ?_, fun e he => ⟨(h.each e he).1.keep hf, (h.each e he).2⟩, h.few⟩
  obtain ⟨b, e, hb, hc⟩ := h.lies h0
  exact ⟨b, e, Nat.lt_of_lt_of_le hb hf.size, fun i hi => (World.cell?_of_block (hf.block b hb (by simp))).trans (hc i hi)⟩
set_option maxRecDepth 100000 in
theorem LLH.bound {w : World} {ao : Option Addr} {es : List ElH} (h : LLH w ao es) (i : Nat) : (flaH (es.take i)).length ≤ i * 4194304 := by
  induction i with
  | zero => simp [flaH]
  | succ i ih =>
    by_cases hi : i < es.length
    · rw [flaH_snoc es i hi, List.length_append, Nat.succ_mul]
      have h1 := (h.each _ (elgetH es i hi)).2.1
      have h2 := (h.each _ (elgetH es i hi)).2.2
      rw [← h1]
      exact Nat.add_le_add ih h2
    · rw [List.take_of_length_le (by omega)] at ih ⊢
      rw [Nat.succ_mul]
      exact Nat.le_trans ih (Nat.le_add_right _ _)
theorem growH_gen (n : Nat) (w : World) (hb : n ≤ 2199023255552) :
    Calls Tryz.prog 120 #[.slice none 0 0, .int .i64 (n : Int)] w fun e w' => ∃ ro cap, e = .returned (.slice ro 0 cap) ∧ w'.ownsRow w.heap.size 97 2 (.slice ro 0 cap) 0 [] ∧ Fr [] w w' := by
  rcases Nat.eq_zero_or_pos n with rfl | hn
  · refine (growH_none w).mono ?_
    rintro e w' ⟨rfl, hf⟩
    exact ⟨none, 0, rfl, ⟨rfl, .inl ⟨rfl, rfl⟩⟩, hf⟩
  · refine (growH_any n w hn hb).mono ?_
    rintro e w' ⟨cap, rfl, ho, hf⟩
    exact ⟨_, cap, rfl, ho, hf⟩
set_option maxHeartbeats 4000000 in
set_option maxRecDepth 100000 in
theorem concatH_any (ao : Option Addr) (N cap : Nat) (es : List ElH) (w : World) (h : LLH w ao es) (hN : N = es.length) :
    Calls Tryz.prog 112 #[.slice ao N cap] w fun e w' => ∃ ro M rc, e = .returned (.slice ro M rc) ∧ M = (flaH es).length ∧ w'.ownsRow w.heap.size 97 2 (.slice ro M rc) M (hdsC (flaH es)) ∧ Fr [] w w' := by
  have hN17 : N ≤ 17 := by have := h.few; omega
  have HN : Hid (N = es.length) := hN
  have HB : Hid (∀ i, (flaH (es.take i)).length ≤ i * 4194304) := fun i => h.bound i
  have HX : Hid (∀ W i, Fr [] w W → i < N → ∃ b ro L rc xs, ao = some ⟨b, 0, none⟩ ∧ W.cell? ⟨b, i, none⟩ = some (.slice ro L rc) ∧ RrH W ro xs ∧ L = xs.length ∧ L ≤ 4194304 ∧ flaH (es.take (i + 1)) = flaH (es.take i) ++ xs) := fun W i hf hi => by
    have hi' : i < es.length := by rw [← hN]; exact hi
    have hk := h.keep hf
    obtain ⟨b, e, _, hc⟩ := hk.lies (by omega)
    exact ⟨b, _, _, _, _, e, hc i hi', (hk.each _ (elgetH es i hi')).1, (hk.each _ (elgetH es i hi')).2.1, (hk.each _ (elgetH es i hi')).2.2, flaH_snoc es i hi'⟩
  have HG : Hid (∀ n : Nat, n ≤ 71303168 → Calls Tryz.prog 120 #[.slice none 0 0, .int .i64 (n : Int)] w fun e w' => ∃ ro cap, e = .returned (.slice ro 0 cap) ∧ w'.ownsRow w.heap.size 97 2 (.slice ro 0 cap) 0 [] ∧ Fr [] w w') := fun n hn => growH_gen n w (by omega)
  have HE : Hid (es.take N = es) := by show _ = _; rw [hN]; exact List.take_length
  clear h hN
  go_enter Tryz.func112, Tryz.ntmps112
  go_wp2_with fail
  go_loopw [11, 3] (fun ii ss wr => ∃ (i n : Nat), ii = .int .i64 i ∧ ss = .int .i64 n ∧ i ≤ N ∧ n ≤ 71303168 ∧ Hid (n = (flaH (es.take i)).length) ∧ w = wr) (fun ii _ _ => N - (RowKit.intOf ii).toNat)
  case atStart => exact ⟨0, 0, rfl, by first | rfl | simp, Nat.zero_le _, by omega, rfl, rfl⟩
  case round =>
    obtain ⟨i, n, rfl, rfl, hiN, hn, HSz, rfl⟩ := hrel
    by_cases hi : i < N
    · obtain ⟨b, ro, L, rc, xs, rfl, hc, hR, hL, hLm, hfl⟩ := HX.out w i (Fr.refl _ _) hi
      have HS2 : Hid (n + L = (flaH (es.take (i + 1))).length) := by show _ = _; rw [hfl, List.length_append, ← HSz.out, ← hL]
      have hb2 : n + L ≤ 71303168 := by have h1 := HB.out (i + 1); have h2 := HS2.out; omega
      have hnn : ¬ ((n : Int) + (L : Int) < 0) := by omega
      clear hR hL hfl HSz
      go_wp2
      go_roundw
      case rel => exact ⟨i + 1, n + L, by simp, by simp, by omega, hb2, HS2, by first | trivial | rfl⟩
      case measure => simp [RowKit.intOf]; omega
    · have HSz2 : Hid (n = (flaH es).length) := by show _ = _; rw [HSz.out, show i = N by omega, HE.out]
      clear HSz
      go_wp2_with fail
      refine (HG.out n hn).mono ?_
      rintro e w1 ⟨ro1, cap1, rfl, hO1, hF1⟩
      have HO1 : Hid (w1.ownsRow w.heap.size 97 2 (.slice ro1 0 cap1) 0 [] ∧ Fr [] w w1) := ⟨hO1, hF1⟩
      clear hO1 hF1 HG
      go_wp2_with fail
      go_loopw [27, 6] (fun ii ss wr => ∃ (k m : Nat) (bo : Option Addr) (bc : Nat), ii = .int .i64 k ∧ ss = .slice bo m bc ∧ k ≤ N ∧ Hid (m = (flaH (es.take k)).length ∧ wr.ownsRow w.heap.size 97 2 (.slice bo m bc) m (hdsC (flaH (es.take k))) ∧ Fr [] w wr)) (fun ii _ _ => N - (RowKit.intOf ii).toNat)
      case atStart => exact ⟨0, 0, ro1, cap1, by first | rfl | simp, rfl, Nat.zero_le _, rfl, by rw [List.take_zero]; exact HO1.out.1, HO1.out.2⟩
      case round =>
        clear HO1
        obtain ⟨k, m, bo, bc, rfl, rfl, hkN, HO⟩ := hrel
        by_cases hk : k < N
        · obtain ⟨b, ro, L, rc, xs, rfl, hc, hR, hL, hLm, hfl⟩ := HX.out wr k HO.out.2.2 hk
          have HR : Hid (RrH wr ro xs ∧ L = xs.length ∧ flaH (es.take (k + 1)) = flaH (es.take k) ++ xs) := ⟨hR, hL, hfl⟩
          have HM : Hid ((flaH (es.take k)).length + L < 2199023255552) := by have h1 := HB.out k; show _ < _; omega
          clear hR hL hfl
          go_wp2_with (at_builtin; refine wpList_appH _ rfl _ _ rfl w.heap.size (.slice bo m bc) (flaH (es.take k)) rfl (by rw [← HO.out.1]; exact HO.out.2.1) ro L rc xs rfl HR.out.1 HR.out.2.1 HM.out HO.out.2.2.size ?_
                       intro bo1 n1 cap1 w2 hn1 hO2 hf2
                       have HO2 : Hid (n1 = (flaH (es.take (k + 1))).length ∧ w2.ownsRow w.heap.size 97 2 (.slice bo1 n1 cap1) n1 (hdsC (flaH (es.take (k + 1)))) ∧ Fr [] w w2) := ⟨by rw [HR.out.2.2]; exact hn1, by rw [HR.out.2.2]; exact hO2, HO.out.2.2.on hf2 (own_blocksH HO.out.2.1)⟩
                       clear hO2 hf2 hn1
                       go_frame)
          go_roundw
          case rel => exact ⟨k + 1, n1, bo1, cap1, by simp, rfl, by omega, HO2⟩
          case measure => simp [RowKit.intOf]; omega
        · have HO3 : Hid (m = (flaH es).length ∧ wr.ownsRow w.heap.size 97 2 (.slice bo m bc) m (hdsC (flaH es)) ∧ Fr [] w wr) := by
            have h := HO.out
            rw [show k = N by omega, HE.out] at h
            exact h
          clear HO
          go_wp2
          go_ret
          exact ⟨bo, m, bc, rfl, HO3.out⟩
end Go.Proofs.YtpdkdgmaofhlkaaGreatDoor
