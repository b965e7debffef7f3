/- The document's lane: contracts of New, Take, Acked, Done. Conditions as each names them. -/
import Derived.Test.YtgladhebgnngdaaRl14
namespace Go.Proofs.Ytgladhebgnngdaa
open Go.ChangeShapes Go.WideShapes Go.ChangeAt Go.RowKit Go.Lib Go.Maps
set_option linter.unusedVariables false
set_option linter.unusedSimpArgs false
section
variable {w : World} {rb : Nat} {nm l s x q h : Int} {v : Value} {sn ak : Int} {st : Option Hl} {S : List Nat}
theorem rlnew_bad (hE : newE ⟨l, s, x, q⟩ nm ≠ 0) (w : World) : Calls Try.prog 8 #[.int .i64 nm, .agg #[.int .i64 l, .int .i64 s, .int .i64 x, .int .i64 q]] w fun e w' => e = .returned (.tuple #[.pointer none, .int .i64 (newE ⟨l, s, x, q⟩ nm)]) ∧ Fr [] w w' := by
  have HC := fun w => ocheck_cells l s x q w
  by_cases hm : Cf.may ⟨l, s, x, q⟩
  · have E : Cf.err ⟨l, s, x, q⟩ = 0 := if_pos hm
    rw [E] at HC
    have hn : ¬ (1 ≤ nm ∧ nm ≤ l) := fun hn => hE (by simp only [newE, hm]; simp [hn])
    have E2 : newE ⟨l, s, x, q⟩ nm = 1 := by simp only [newE, hm]; simp [hn]
    rw [E2]
    clear hE E E2 hm
    by_cases h1 : nm < 1
    · clear hn
      go_enter Try.func8, Try.ntmps8
      go_wp2_with fail
      refine (HC _).mono ?_
      rintro e w1 ⟨rfl, hF1⟩
      have HF : Hid (Fr [] w w1) := (Fr.alloc _ _ _).then hF1
      clear hF1
      go_wp2
      refine bodyPost_ret (results_tmp2 rfl _ _ _) rfl ?_
      exact ⟨rfl, HF.out⟩
    · have h2 : l < nm := by omega
      have h1' : 1 ≤ nm := by omega
      clear h1 hn
      go_enter Try.func8, Try.ntmps8
      go_wp2_with fail
      refine (HC _).mono ?_
      rintro e w1 ⟨rfl, hF1⟩
      have HF : Hid (Fr [] w w1) := (Fr.alloc _ _ _).then hF1
      have c0 : w1.cell? ⟨w.heap.size, 0, none⟩ = some (.int .i64 l) := ((CfM.new w l s x q 23).keep hF1).2.1
      clear hF1
      go_wp2
      refine bodyPost_ret (results_tmp2 rfl _ _ _) rfl ?_
      exact ⟨rfl, HF.out⟩
  · have E : Cf.err ⟨l, s, x, q⟩ = 7 := if_neg hm
    rw [E] at HC
    have E2 : newE ⟨l, s, x, q⟩ nm = 7 := by simp only [newE, hm]; simp
    rw [E2]
    clear hE E E2 hm
    go_enter Try.func8, Try.ntmps8
    go_wp2_with fail
    refine (HC _).mono ?_
    rintro e w1 ⟨rfl, hF1⟩
    have HF : Hid (Fr [] w w1) := (Fr.alloc _ _ _).then hF1
    clear hF1
    go_wp2
    refine bodyPost_ret (results_tmp2 rfl _ _ _) rfl ?_
    exact ⟨rfl, HF.out⟩
theorem rlnew_any (hE : newE ⟨l, s, x, q⟩ nm = 0) (w : World) : Calls Try.prog 8 #[.int .i64 nm, .agg #[.int .i64 l, .int .i64 s, .int .i64 x, .int .i64 q]] w fun e w' => ∃ rb, e = .returned (.tuple #[.pointer (some ⟨rb, 0, none⟩), .int .i64 0]) ∧ w.heap.size ≤ rb ∧ RlM w' rb nm l s x q none [] ∧ Fr [] w w' := by
  have HC := fun w => ocheck_cells l s x q w
  have hm : Cf.may ⟨l, s, x, q⟩ := Classical.byContradiction fun hm => by simp only [newE, hm] at hE; simp at hE
  have hn : 1 ≤ nm ∧ nm ≤ l := Classical.byContradiction fun hn => by simp only [newE, hm] at hE; simp [hn] at hE
  have E : Cf.err ⟨l, s, x, q⟩ = 0 := if_pos hm
  rw [E] at HC
  have h1 : ¬ (nm < 1) := by omega
  have h2 : ¬ (l < nm) := by omega
  clear hE E hm hn
  go_enter Try.func8, Try.ntmps8
  go_wp2_with fail
  refine (HC _).mono ?_
  rintro e w1 ⟨rfl, hF1⟩
  have HF : Hid (Fr [] w w1) := (Fr.alloc _ _ _).then hF1
  obtain ⟨_, c0, c1, c2, c3⟩ := (CfM.new w l s x q 23).keep hF1
  have HB : Hid (RlM (w1.alloc (.cells #[.int .i64 nm, .int .i64 l, .int .i64 s, .int .i64 x, .int .i64 q, .int .i64 0, .slice none 0 0, .int .i64 0, .int .i64 0] 73)) w1.heap.size nm l s x q none []) := ⟨.slice none 0 0, 0, 0, heap_alloc_new w1 _⟩
  clear hF1
  go_wp2
  refine bodyPost_ret (results_tmp2 rfl _ _ _) rfl ?_
  exact ⟨_, rfl, HF.out.size, HB.out, HF.out.then (Fr.alloc _ _ _)⟩
theorem rlacked_any (r : RlM w rb nm l s x q st S) : Calls Try.prog 30 #[.pointer (some ⟨rb, 0, none⟩)] w fun e w' => e = .returned (.int .i64 (ackE st)) ∧ RlM w' rb nm l s x q (ackS st) S ∧ Fr [rb] w w' := by
  cases st with
  | none =>
    have HR : Hid (RlM w rb nm l s x q none S) := r
    obtain ⟨v, sn, ak, b⟩ := r
    have c5 := b.c5
    clear b
    go_enter Try.func30, Try.ntmps30
    go_wp2_with fail
    go_quiet (fail)
    go_wp2
    go_ret
    exact ⟨rfl, HR.out.kept _ (Fr.drewN _ _ _), Fr.drewN _ _ _⟩
  | some hl =>
    have HR : Hid (RlM w rb nm l s x q (some hl) S) := r
    obtain ⟨ro, N, rc, al, sn, ak, b, hh⟩ := r
    obtain ⟨n, ls, o⟩ := hl
    have c5 := b.c5
    have c7 := b.c7
    have c8 := b.c8
    have z8 := b.fz 8
    have hn : (n == 0) = false := by have := hh.n0; simpa using this
    have ho := hh.out
    have hmo := hh.most
    have hfe := hh.few
    simp only at c5 ho
    cases o with
    | zero =>
      have e1 : ((ak : Int) == (sn : Int)) = true := by rw [beq_iff_eq]; omega
      clear b hh ho
      go_enter Try.func30, Try.ntmps30
      go_wp2_with fail
      go_quiet (fail)
      go_wp2
      go_ret
      exact ⟨rfl, HR.out.kept _ (Fr.drewN _ _ _), Fr.drewN _ _ _⟩
    | succ o =>
      have e1 : ((ak : Int) == (sn : Int)) = false := by rw [beq_eq_false_iff_ne]; omega
      have HX : Hid (∀ W z, W = w.drewN z → RlM (W.setCell ⟨rb, 8, none⟩ (.int .i64 ((ak : Int) + 1))) rb nm l s x q (some ⟨n, ls, o⟩) S ∧ Fr [rb] w (W.setCell ⟨rb, 8, none⟩ (.int .i64 ((ak : Int) + 1)))) := by
        rintro W z rfl
        have f0 : Fr [] w (w.drewN z) := Fr.drewN _ _ _
        have f1 : Fr [rb] (w.drewN z) ((w.drewN z).setCell ⟨rb, 8, none⟩ (.int .i64 ((ak : Int) + 1))) := Fr.set _ _ _ (by simp)
        have hk := (hh.keep f0 (by simp)).keepB f1
        have hb := (b.keep f0 (by simp)).set8 ((ak : Int) + 1)
        refine ⟨⟨ro, N, rc, al, sn, ak + 1, ?_, ⟨hk.rs, hk.len, hk.few, hk.n0, hk.left, hk.most, ?_, hk.own⟩⟩, (f0.mono (by simp)).then f1⟩
        · rw [show ((ak + 1 : Nat) : Int) = (ak : Int) + 1 by simp]
          exact hb
        · simp only
          omega
      have ho2 : ak ≤ 1000000 := by omega
      clear b hh ho
      go_enter Try.func30, Try.ntmps30
      go_wp2_with fail
      go_quiet (fail)
      go_wp2
      go_ret
      obtain ⟨m1, m2⟩ := HX.out _ _ rfl
      exact ⟨rfl, m1, m2⟩
theorem rldone_any (r : RlM w rb nm l s x q st S) : Calls Try.prog 31 #[.pointer (some ⟨rb, 0, none⟩)] w fun e w' => e = .returned (.tuple #[.int .i64 (doneN st), .int .i64 (doneE st)]) ∧ RlM w' rb nm l s x q (doneS st) S ∧ Fr [rb] w w' := by
  have HRd : Hid (Calls _ _ _ _ _) := rlready_any r
  cases st with
  | none =>
    have HR : Hid (RlM w rb nm l s x q none S) := r
    obtain ⟨v, sn, ak, b⟩ := r
    have c5 := b.c5
    clear b
    go_enter Try.func31, Try.ntmps31
    go_wp2
    refine bodyPost_ret (results_tmp2 rfl _ _ _) rfl ?_
    exact ⟨rfl, HR.out, Fr.refl _ _⟩
  | some hl =>
    have HR : Hid (∀ W, Fr [] w W → RlM W rb nm l s x q (some hl) S) := r.kept
    obtain ⟨ro, N, rc, al, sn, ak, b, hh⟩ := r
    have c5 := b.c5
    have hn : (hl.n == 0) = false := by have := hh.n0; simpa using this
    have HB : Hid (∀ W, Fr [] w W → RlB W rb nm l s x q hl.n (.slice ro N rc) sn ak) := fun W hf => b.keep hf (by simp)
    cases hR : readyB (some hl) with
    | false =>
      have E1 : doneN (some hl) = 0 := by simp [doneN, hR]
      have E2 : doneE (some hl) = 10 := by simp [doneE, hR]
      have E3 : doneS (some hl) = some hl := by simp [doneS, hR]
      rw [hR] at HRd
      rw [E1, E2, E3]
      clear b hh E1 E2 E3 hR
      go_enter Try.func31, Try.ntmps31
      go_wp2_with fail
      refine Calls.mono HRd.out ?_
      rintro e w1 ⟨rfl, hF1⟩
      have HR1 := HR.out _ hF1
      go_wp2
      refine bodyPost_ret (results_tmp2 rfl _ _ _) rfl ?_
      exact ⟨rfl, HR1, hF1.mono (by simp)⟩
    | true =>
      have E1 : doneN (some hl) = hl.n := by simp [doneN, hR, holdsN]
      have E2 : doneE (some hl) = 0 := by simp [doneE, hR]
      have E3 : doneS (some hl) = none := by simp [doneS, hR]
      rw [hR] at HRd
      rw [E1, E2, E3]
      clear b hh E1 E2 E3 hR
      go_enter Try.func31, Try.ntmps31
      go_wp2_with fail
      refine Calls.mono HRd.out ?_
      rintro e w1 ⟨rfl, hF1⟩
      have hb1 := HB.out _ hF1
      have d5 := hb1.c5
      have z5 := hb1.fz 5
      have HM : Hid (RlM (w1.setCell ⟨rb, 5, none⟩ (.int .i64 0)) rb nm l s x q none S) := ⟨_, _, _, hb1.set5 0⟩
      have HF : Hid (Fr [rb] w (w1.setCell ⟨rb, 5, none⟩ (.int .i64 0))) := (hF1.mono (by simp)).then (Fr.set _ _ _ (by simp))
      clear hb1
      go_wp2
      refine bodyPost_ret (results_tmp2 rfl _ _ _) rfl ?_
      exact ⟨rfl, HM.out, HF.out⟩
theorem rltake_busy {hl : Hl} (n : Int) (ao : Option Addr) (L cap : Nat) (r : RlM w rb nm l s x q (some hl) S) : Calls Try.prog 27 #[.pointer (some ⟨rb, 0, none⟩), .agg #[.int .i64 n, .slice ao L cap]] w fun e w' => e = .returned (.int .i64 10) ∧ Fr [] w w' := by
  have r1 := r.kept _ (Fr.alloc [] w (.cells #[.int .i64 n, .slice ao L cap] 40))
  obtain ⟨ro, N, rc, al, sn, ak, b, hh⟩ := r1
  have c5 := b.c5
  have hn : (hl.n != 0) = true := by have := hh.n0; simpa using this
  clear b hh r
  go_enter Try.func27, Try.ntmps27
  go_wp2
  go_ret
  exact ⟨rfl, Fr.alloc _ _ _⟩
theorem rltake_bad (n : Int) (ao : Option Addr) (L cap : Nat) (ws : List Wt) (r : RlM w rb nm l s x q none S) (hT : TArg w n ao L cap ws) (hno : ¬ okT n ws) : Calls Try.prog 27 #[.pointer (some ⟨rb, 0, none⟩), .agg #[.int .i64 n, .slice ao L cap]] w fun e w' => e = .returned (.int .i64 1) ∧ Fr [] w w' := by
  have hF0 := Fr.alloc [] w (.cells #[.int .i64 n, .slice ao L cap] 40)
  have r1 := r.kept _ hF0
  obtain ⟨v, sn, ak, b⟩ := r1
  have c5 := b.c5
  have HC : Hid (Calls _ _ _ _ _) := xCheck_any n ao L cap 1 ws _ (hT.rs.keep hF0) hT.len hT.n0 hT.n1 (.inr ⟨hno, rfl⟩)
  clear b r hT hno
  go_enter Try.func27, Try.ntmps27
  go_wp2_with fail
  refine Calls.mono HC.out ?_
  rintro e w1 ⟨rfl, hF1⟩
  go_wp2
  go_ret
  exact ⟨rfl, hF0.then hF1⟩
set_option maxHeartbeats 4000000 in
set_option maxRecDepth 100000 in
theorem rltake_any (n : Int) (ao : Option Addr) (L cap : Nat) (ws : List Wt) (r : RlM w rb nm l s x q none S) (hT : TArg w n ao L cap ws) (hok : okT n ws) (hx : 0 < ws.length → ∀ a, ao = some a → a.block ≠ rb) : Calls Try.prog 27 #[.pointer (some ⟨rb, 0, none⟩), .agg #[.int .i64 n, .slice ao L cap]] w fun e w' => ∃ S', e = .returned (.int .i64 0) ∧ RlM w' rb nm l s x q (some ⟨n, dd ws, 0⟩) S' ∧ (∀ k ∈ S', w.heap.size ≤ k ∧ k < w'.heap.size) ∧ Fr [rb] w w' := by
  have hF0 := Fr.alloc [] w (.cells #[.int .i64 n, .slice ao L cap] 40)
  have hrow0 : (w.alloc (.cells #[.int .i64 n, .slice ao L cap] 40)).heap[w.heap.size]? = some (.cells #[.int .i64 n, .slice ao L cap] 40 (0, 0)) := heap_alloc_new w _
  have hrb := r.lt
  obtain ⟨v, sn, ak, b⟩ := r
  have c5 := (b.keep hF0 (by simp)).c5
  have HC : Hid (Calls _ _ _ _ _) := xCheck_any n ao L cap 0 ws _ (hT.rs.keep hF0) hT.len hT.n0 hT.n1 (.inl ⟨hok, rfl⟩)
  have HK : Hid (∀ W, Fr [] w W → RlB W rb nm l s x q 0 v sn ak) := fun W hf => b.keep hf (by simp)
  have HQ : Hid (∀ W, Fr [rb] w W → Calls Try.prog 46 #[.agg #[.int .i64 n, .slice ao L cap]] W fun e w' => ∃ ro N rc, e = .returned (.slice ro N rc) ∧ WOw W w' ro N rc (dd ws) ∧ Fr [] W w') := fun W hf => zcounting_any n ao L cap ws W (hT.rs.keepS hf (fun hp a ha => by simpa using hx hp a ha)) hT.len (by have := hok.2.2.1; have := hT.len; omega)
  have HE : Hid (∀ y ∈ dd ws, y.key.size ≤ 140737488355328 ∧ y.val.size ≤ 140737488355328) := fun y hy => hT.rs.each y (dd_mem ws y hy)
  have hdl : (dd ws).length ≤ 32 := by have := dd_len ws; have := hok.2.2.1; omega
  have hn1 : n ≠ 0 := by have := hok.1; omega
  clear b hT hok hx
  go_enter Try.func27, Try.ntmps27
  go_wp2_with fail
  refine Calls.mono HC.out ?_
  rintro e w1 ⟨rfl, hF1⟩
  have hG1 : Fr [] w w1 := hF0.then hF1
  have hrow1 := hF1.keep hrow0 (by simp)
  have hb1 := HK.out _ hG1
  have d5 := hb1.c5
  have z5 := hb1.fz 5
  have k0 : w1.cell? ⟨w.heap.size, 0, none⟩ = some (.int .i64 n) := by rw [cell_of_row _ _ _ _ _ _ hrow1]; rfl
  have f2 : Fr [rb] w1 (w1.setCell ⟨rb, 5, none⟩ (.int .i64 n)) := Fr.set _ _ _ (by simp)
  have hrow2 := f2.keep hrow1 (by simp; omega)
  have k0' : (w1.setCell ⟨rb, 5, none⟩ (.int .i64 n)).cell? ⟨w.heap.size, 0, none⟩ = some (.int .i64 n) := by rw [cell_of_row _ _ _ _ _ _ hrow2]; rfl
  have k1' : (w1.setCell ⟨rb, 5, none⟩ (.int .i64 n)).cell? ⟨w.heap.size, 1, none⟩ = some (.slice ao L cap) := by rw [cell_of_row _ _ _ _ _ _ hrow2]; rfl
  have hb2 := hb1.set5 n
  have hG2 : Fr [rb] w (w1.setCell ⟨rb, 5, none⟩ (.int .i64 n)) := (hG1.mono (by simp)).then f2
  clear hF0 hrow0 hF1 hG1 hrow1 hb1 hrow2 f2 HC HK c5
  go_wp2_with fail
  refine Calls.mono (HQ.out _ hG2) ?_
  rintro e w3 ⟨ro, N, rc, rfl, hO, hF3⟩
  have hb3 := hb2.keep hF3 (by simp)
  have hb4 := hb3.set6 (.slice ro N rc)
  have hb5 := hb4.set7 0
  have hb6 := hb5.set8 0
  have x6 := hb3.c6
  have z6 := hb3.fz 6
  have x7 := hb4.c7
  have z7 := hb4.fz 7
  have x8 := hb5.c8
  have z8 := hb5.fz 8
  have g4 : Fr [rb] w3 (w3.setCell ⟨rb, 6, none⟩ (.slice ro N rc)) := Fr.set _ _ _ (by simp)
  have g5 := g4.set1 7 (.int .i64 0)
  have g6 := g5.set1 8 (.int .i64 0)
  have HF6 : Hid (Fr [rb] w (((w3.setCell ⟨rb, 6, none⟩ (.slice ro N rc)).setCell ⟨rb, 7, none⟩ (.int .i64 0)).setCell ⟨rb, 8, none⟩ (.int .i64 0))) := hG2.then ((hF3.mono (by simp)).then g6)
  have hrs3 : WRs w3 ro (dd ws) := hO.rs (by omega) HE.out
  have hs2 := hG2.size
  have HM6 : Hid (RlM (((w3.setCell ⟨rb, 6, none⟩ (.slice ro N rc)).setCell ⟨rb, 7, none⟩ (.int .i64 0)).setCell ⟨rb, 8, none⟩ (.int .i64 0)) rb nm l s x q (some ⟨n, dd ws, 0⟩) (ro.map (·.block)).toList ∧ (∀ k ∈ (ro.map (·.block)).toList, w.heap.size ≤ k ∧ k < (((w3.setCell ⟨rb, 6, none⟩ (.slice ro N rc)).setCell ⟨rb, 7, none⟩ (.int .i64 0)).setCell ⟨rb, 8, none⟩ (.int .i64 0)).heap.size)) := by
    have hne : ∀ a, ro = some a → a.block ≠ rb := fun a ha => by have := hO.new a ha; omega
    refine ⟨⟨ro, N, rc, dd ws, 0, 0, hb6, ⟨hrs3.keepS g6 (fun hp a ha => by simpa using hne a ha), hO.len, by have := hO.len; omega, hn1, rfl, Nat.zero_le _, rfl, fun hp a ha => ⟨by rw [ha]; simp, hne a ha⟩⟩⟩, ?_⟩
    intro k hk
    simp only [Option.mem_toList, Option.map_eq_some_iff] at hk
    obtain ⟨a, ha, rfl⟩ := hk
    have h1 := hO.new a ha
    have h2 := hO.old a ha
    have h3 := g6.size
    exact ⟨by omega, by omega⟩
  clear hb2 hb3 hb4 hb5 hb6 g4 g5 g6 hG2 hO hF3 hrs3 HQ HE k0 k0' k1' d5 z5 hs2
  go_wp2
  go_ret
  exact ⟨_, rfl, HM6.out.1, HM6.out.2, HF6.out⟩
end
end Go.Proofs.Ytgladhebgnngdaa
