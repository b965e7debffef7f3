/- Contracts of the document's ring. Conditions as each names them. -/
import Derived.Test.YtgdffhmbhknfcaaDoorQ10
namespace Go.Proofs.YtgdffhmbhknfcaaDoor
open Go.ChangeShapes Go.WideShapes Go.ChangeAt Go.RowKit Go.Lib
set_option linter.unusedVariables false
set_option linter.unusedSimpArgs false
theorem qall_nil (w : World) : Calls Tryd.prog 11 #[.pointer none] w fun e w' => e = .returned (.slice none 0 0) ∧ Fr [] w w' := by
  go_enter Tryd.func11, Tryd.ntmps11
  go_wp2
  go_ret
  exact ⟨rfl, Fr.refl _ _⟩
theorem qput_nil (x : Int) (w : World) : Calls Tryd.prog 10 #[.pointer none, .int .i64 x] w fun e w' => e = .returned (.bool false) ∧ Fr [] w w' := by
  go_enter Tryd.func10, Tryd.ntmps10
  go_wp2_with fail
  go_quiet (fail)
  go_wp2
  go_ret
  exact ⟨rfl, Fr.drewN _ _ _⟩
theorem qfirst_nil (w : World) : Calls Tryd.prog 15 #[.pointer none] w fun e w' => e = .returned (.tuple #[.int .i64 0, .bool false]) ∧ Fr [] w w' := by
  go_enter Tryd.func15, Tryd.ntmps15
  go_wp2
  refine bodyPost_ret (results_tmp2 rfl _ _ _) rfl ?_
  exact ⟨rfl, Fr.refl _ _⟩
theorem qtake_nil (w : World) : Calls Tryd.prog 7 #[.pointer none] w fun e w' => e = .returned (.tuple #[.int .i64 0, .bool false]) ∧ Fr [] w w' := by
  have HT : Hid (Calls _ _ _ _ _) := qfirst_nil w
  go_enter Tryd.func7, Tryd.ntmps7
  go_wp2_with fail
  refine Calls.mono HT.out ?_
  rintro e w1 ⟨rfl, hF⟩
  go_wp2
  refine bodyPost_ret (results_tmp2 rfl _ _ _) rfl ?_
  exact ⟨rfl, hF⟩
section
variable {q n c M : Nat} {lo : Option Addr} {xs : List Int} {cl : Bool}
theorem qall_any (w : World) (h : QM w q lo n c M xs cl) : Calls Tryd.prog 11 #[.pointer (some ⟨q, 0, none⟩)] w fun e w' => e = .returned (.slice lo n c) ∧ Fr [] w w' := by
  have c0 := h.c0
  clear h
  go_enter Tryd.func11, Tryd.ntmps11
  go_wp2
  go_ret
  exact ⟨rfl, Fr.refl _ _⟩
theorem qfirst_zero (w : World) (h : QM w q lo 0 c M xs cl) : Calls Tryd.prog 15 #[.pointer (some ⟨q, 0, none⟩)] w fun e w' => e = .returned (.tuple #[.int .i64 0, .bool false]) ∧ Fr [] w w' := by
  have c0 := h.c0
  clear h
  go_enter Tryd.func15, Tryd.ntmps15
  go_wp2
  refine bodyPost_ret (results_tmp2 rfl _ _ _) rfl ?_
  exact ⟨rfl, Fr.refl _ _⟩
theorem qfirst_any (w : World) {x : Int} (h : QM w q lo n c M (x :: xs) cl) : Calls Tryd.prog 15 #[.pointer (some ⟨q, 0, none⟩)] w fun e w' => e = .returned (.tuple #[.int .i64 x, .bool true]) ∧ Fr [] w w' := by
  have c0 := h.c0
  obtain ⟨n, rfl⟩ : ∃ n', n = n' + 1 := ⟨xs.length, by have := h.row.len; simpa using this⟩
  obtain ⟨b, off, rfl, hc⟩ := h.row.lies (by omega)
  have c5 := hc 0 (by omega)
  simp only [Nat.add_zero] at c5
  have e : (x :: xs).getD 0 0 = x := rfl
  rw [e] at c5
  have hn0 : ¬ (n : Int) + 1 = 0 := by omega
  clear h hc
  go_enter Tryd.func15, Tryd.ntmps15
  go_wp2
  refine bodyPost_ret (results_tmp2 rfl _ _ _) rfl ?_
  exact ⟨rfl, Fr.refl _ _⟩
theorem qtake_zero (w : World) (h : QM w q lo 0 c M xs cl) : Calls Tryd.prog 7 #[.pointer (some ⟨q, 0, none⟩)] w fun e w' => e = .returned (.tuple #[.int .i64 0, .bool false]) ∧ Fr [] w w' := by
  have HT : Hid (Calls _ _ _ _ _) := qfirst_zero w h
  clear h
  go_enter Tryd.func7, Tryd.ntmps7
  go_wp2_with fail
  refine Calls.mono HT.out ?_
  rintro e w1 ⟨rfl, hF⟩
  go_wp2
  refine bodyPost_ret (results_tmp2 rfl _ _ _) rfl ?_
  exact ⟨rfl, hF⟩
/-- Cut at its head. -/
theorem QM.cut {w W : World} {x : Int} {b off : Nat} (h : QM w q (some ⟨b, off, none⟩) (n + 1) c M (x :: xs) cl) (hf : Fr [] w W) (so : Option Addr) (hso : so = if c = 1 then some ⟨b, off, none⟩ else some ⟨b, off + 1, none⟩) :
    QM (W.setCell ⟨q, 0, none⟩ (.slice so n (c - 1))) q so n (c - 1) M xs cl ∧ Fr [q] w (W.setCell ⟨q, 0, none⟩ (.slice so n (c - 1))) ∧ qb so = some b := by
  have hW := h.keep hf (by simp) (by simp)
  have hfs : Fr [q] W (W.setCell ⟨q, 0, none⟩ (.slice so n (c - 1))) := Fr.set _ _ _ (by simp)
  have hbq : b ≠ q := by rintro rfl; exact h.ne rfl
  have hqb : qb so = some b := by rw [hso]; split <;> rfl
  refine ⟨⟨?_, ⟨?_, ?_, ?_⟩, ?_⟩, (hf.mono (by simp)).then hfs, hqb⟩
  · rw [qrow_setCell _ hW.box]
    rfl
  · have := h.row.len; simp at this; exact this
  · have := h.row.fit; omega
  · rcases hW.row.row with ⟨hh, _⟩ | ⟨b', off', cur, hh, hb, hoc, hc⟩
    · cases hh
    · cases hh
      have hfit := h.row.fit
      by_cases h1 : c = 1
      · rw [if_pos h1] at hso
        exact .inr ⟨b, off, cur, hso, hfs.keep hb (by simp; exact hbq), by omega, fun i hi => by omega⟩
      · rw [if_neg h1] at hso
        refine .inr ⟨b, off + 1, cur, hso, hfs.keep hb (by simp; exact hbq), by omega, fun i hi => ?_⟩
        have := hc (i + 1) (by omega)
        rw [show off + 1 + i = off + (i + 1) by omega, this]
        rfl
  · have := h.few; omega
set_option maxHeartbeats 2000000 in
theorem qtake_any (w : World) {x : Int} (h : QM w q lo n c M (x :: xs) cl) : Calls Tryd.prog 7 #[.pointer (some ⟨q, 0, none⟩)] w fun e w' => e = .returned (.tuple #[.int .i64 x, .bool true]) ∧ ∃ lo' n' c', QM w' q lo' n' c' M xs cl ∧ Fr [q] w w' ∧ qb lo' = qb lo := by
  have HT : Hid (Calls _ _ _ _ _) := qfirst_any w h
  obtain ⟨n, rfl⟩ : ∃ n', n = n' + 1 := ⟨xs.length, by have := h.row.len; simpa using this⟩
  obtain ⟨b, off, rfl, _⟩ := h.row.lies (by omega)
  have hfit := h.row.fit
  have HC : Hid (∀ W, Fr [] w W → W.cell? ⟨q, 0, none⟩ = some (.slice (some ⟨b, off, none⟩) (n + 1) c) ∧ W.frozen? ⟨q, 0, none⟩ = false) := fun W hf => ⟨(h.keep hf (by simp) (by simp)).c0, (h.keep hf (by simp) (by simp)).fz 0⟩
  by_cases h1 : c = 1
  · subst h1
    have hn : n = 0 := by omega
    subst hn
    have HM : Hid (∀ W, Fr [] w W → _ ∧ _ ∧ _) := fun W hf => h.cut hf (some ⟨b, off, none⟩) (by rw [if_pos rfl])
    clear h
    go_enter Tryd.func7, Tryd.ntmps7
    go_wp2_with fail
    refine Calls.mono HT.out ?_
    rintro e w1 ⟨rfl, hF⟩
    obtain ⟨c0, z0⟩ := HC.out w1 hF
    go_wp2
    refine bodyPost_ret (results_tmp2 rfl _ _ _) rfl ?_
    obtain ⟨m1, m2, m3⟩ := HM.out w1 hF
    exact ⟨rfl, _, _, _, m1, m2, m3⟩
  · have HM : Hid (∀ W, Fr [] w W → _ ∧ _ ∧ _) := fun W hf => h.cut hf (some ⟨b, off + 1, none⟩) (by rw [if_neg h1])
    clear h
    have hc1 : 1 ≤ c := by omega
    go_enter Tryd.func7, Tryd.ntmps7
    go_wp2_with fail
    refine Calls.mono HT.out ?_
    rintro e w1 ⟨rfl, hF⟩
    obtain ⟨c0, z0⟩ := HC.out w1 hF
    go_wp2
    refine bodyPost_ret (results_tmp2 rfl _ _ _) rfl ?_
    obtain ⟨m1, m2, m3⟩ := HM.out w1 hF
    exact ⟨rfl, _, _, _, m1, m2, m3⟩
theorem qput_full (x : Int) (w : World) (h : QM w q lo n c M xs cl) (hf : cl = true ∨ n = M) : Calls Tryd.prog 10 #[.pointer (some ⟨q, 0, none⟩), .int .i64 x] w fun e w' => e = .returned (.bool false) ∧ Fr [] w w' := by
  have c0 := h.c0
  have c1 := h.c1
  have c2 := h.c2
  obtain ⟨h1, h2, h3⟩ := h.few
  clear h
  cases cl with
  | true =>
    clear hf
    go_enter Tryd.func10, Tryd.ntmps10
    go_wp2_with fail
    go_quiet (fail)
    go_wp2
    go_ret
    exact ⟨rfl, Fr.drewN _ _ _⟩
  | false =>
    have hd1 : (M : Int) ≤ (n : Int) := by rcases hf with h | h; (cases h); omega
    have hd2 : decide (M ≤ n) = true := by simp; omega
    have hd3 : M ≤ n := by omega
    clear hf
    go_enter Tryd.func10, Tryd.ntmps10
    go_wp2_with fail
    go_quiet (fail)
    go_wp2
    go_ret
    exact ⟨rfl, Fr.drewN _ _ _⟩
set_option maxHeartbeats 2000000 in
theorem qput_any (x : Int) (w : World) (h : QM w q lo n c M xs false) (hn : n < M) : Calls Tryd.prog 10 #[.pointer (some ⟨q, 0, none⟩), .int .i64 x] w fun e w' => e = .returned (.bool true) ∧ ∃ lo' n' c', QM w' q lo' n' c' M (xs ++ [x]) false ∧ Fr (q :: (qb lo).toList) w w' ∧ (qb lo' = qb lo ∨ ∃ k, qb lo' = some k ∧ w.heap.size ≤ k) := by
  have c0 := h.c0
  have c1 := h.c1
  have c2 := h.c2
  obtain ⟨h1, h2, h3⟩ := h.few
  have hd1 : ¬ (M : Int) ≤ (n : Int) := by omega
  have hd2 : decide (M ≤ n) = false := by simp; omega
  have HM : Hid (∀ W, Fr [] w W → QM W q lo n c M xs false) := fun W hf => h.keep hf (by simp) (by simp)
  have HK : Hid (∀ W lo' c' w', Fr [] w W → QR w' lo' (n + 1) c' (xs ++ [x]) → Fr (qb lo).toList W w' → (qb lo' = qb lo ∨ ∃ k, qb lo' = some k ∧ W.heap.size ≤ k) →
      QM (w'.setCell ⟨q, 0, none⟩ (.slice lo' (n + 1) c')) q lo' (n + 1) c' M (xs ++ [x]) false ∧ Fr (q :: (qb lo).toList) w (w'.setCell ⟨q, 0, none⟩ (.slice lo' (n + 1) c')) ∧ w'.cell? ⟨q, 0, none⟩ = some (.slice lo n c) ∧ w'.frozen? ⟨q, 0, none⟩ = false) := by
    intro W lo' c' w' hf hQ hf2 hm
    have hW := HM.out W hf
    have hqn : q ∉ (qb lo).toList := by simp only [Option.mem_toList]; exact h.ne
    have hb := hf2.keep hW.box hqn
    have hne : qb lo' ≠ some q := by
      rcases hm with e | ⟨k, e, hk⟩
      · rw [e]; exact h.ne
      · rw [e]; intro e2; cases e2; have := h.lt; have := hf.size; omega
    have hfs : Fr [q] w' (w'.setCell ⟨q, 0, none⟩ (.slice lo' (n + 1) c')) := Fr.set _ _ _ (by simp)
    refine ⟨⟨by rw [qrow_setCell _ hb]; rfl, hQ.keep hfs (fun b e => by simp; rintro rfl; exact hne e), by omega, h2, h3⟩, (hf.mono (by simp)).then ((hf2.mono (by intro y hy _; exact List.mem_cons_of_mem _ hy)).then (hfs.mono (by simp))), by rw [cell_of_row _ _ _ _ _ _ hb]; rfl, by simp [World.frozen?, hb]⟩
  clear h
  go_enter Tryd.func10, Tryd.ntmps10
  go_wp2_with fail
  go_quiet (fail)
  have hF1 : Fr [] w (w.drewN nq) := Fr.drewN _ _ _
  have hM1 := HM.out _ hF1
  obtain ⟨w1, HW1⟩ : ∃ w1, Hid (w.drewN nq = w1) := ⟨_, rfl⟩
  rw [HW1.out] at hF1 hM1 ⊢
  have d0 := hM1.c0
  have z0 := hM1.fz 0
  have HR : Hid (QR w1 lo n c xs) := hM1.row
  have hs1 : Hid (w.heap.size ≤ w1.heap.size) := hF1.size
  clear c0 c1 c2 HW1 hM1
  go_wp2_with (at_builtin; refine wpList_appQ w1 rfl _ _ rfl lo n c xs x rfl HR.out (by omega) rfl ?_; intro lo' c' w2 hQ2 hF2 hm2; obtain ⟨m1, m2, m3, m4⟩ := HK.out w1 lo' c' w2 hF1 hQ2 hF2 hm2; have HMm : Hid (_ ∧ _) := And.intro m1 m2; clear m1 m2)
  go_wp2
  go_ret
  refine ⟨rfl, _, _, _, HMm.out.1, HMm.out.2, ?_⟩
  rcases hm2 with e | ⟨k, e, hk⟩
  · exact Or.inl e
  · exact Or.inr ⟨k, e, by have := hs1.out; omega⟩
end
end Go.Proofs.YtgdffhmbhknfcaaDoor
