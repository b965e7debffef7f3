/- What a lane answers and becomes: contracts of New, Take, Sent, Acked, Done. Conditions as each names them. -/
import Derived.Test.YtakbodlicfmkjaaGreatLn14
namespace Go.Proofs.YtakbodlicfmkjaaGreat
open Go.ChangeShapes Go.WideShapes Go.ChangeAt Go.RowKit Go.Lib Go.Maps
set_option linter.unusedVariables false
set_option linter.unusedSimpArgs false

/-- Sent: the answer, and what the lane holds then. -/
def sentE : Option Hl → Int
  | some ⟨_, _ :: _, _⟩ => 0
  | _ => 9
def sentS : Option Hl → Option Hl
  | some ⟨n, _ :: r, o⟩ => some ⟨n, r, o + 1⟩
  | s => s
/-- Acked. -/
def ackE : Option Hl → Int
  | some ⟨_, _, _ + 1⟩ => 0
  | _ => 9
def ackS : Option Hl → Option Hl
  | some ⟨n, r, o + 1⟩ => some ⟨n, r, o⟩
  | s => s
/-- Done. -/
def doneN (st : Option Hl) : Int := if readyB st = true then holdsN st else 0
def doneE (st : Option Hl) : Int := match st with | none => 9 | some h => if readyB (some h) = true then 0 else 10
def doneS (st : Option Hl) : Option Hl := if readyB st = true then none else st
section
variable {w : World} {lb : Nat} {nm l s x q : Int} {v : Value} {st : Option Hl} {S : List Nat}
theorem lsent_no (p : Option Addr) (h : NoL w p) : Calls Tryz.prog 279 #[.pointer p] w fun e w' => e = .returned (.int .i64 2) ∧ w = w' := by
  have HT : Hid (Calls _ _ _ _ _) := lthere_no p h
  clear h
  go_enter Tryz.func279, Tryz.ntmps279
  go_wp2_with fail
  refine Calls.mono HT.out ?_
  rintro e w1 ⟨rfl, rfl⟩
  go_wp2
  go_ret
  exact ⟨rfl, rfl⟩
theorem lacked_no (p : Option Addr) (h : NoL w p) : Calls Tryz.prog 306 #[.pointer p] w fun e w' => e = .returned (.int .i64 2) ∧ w = w' := by
  have HT : Hid (Calls _ _ _ _ _) := lthere_no p h
  clear h
  go_enter Tryz.func306, Tryz.ntmps306
  go_wp2_with fail
  refine Calls.mono HT.out ?_
  rintro e w1 ⟨rfl, rfl⟩
  go_wp2
  go_ret
  exact ⟨rfl, rfl⟩
theorem ldone_no (p : Option Addr) (h : NoL w p) : Calls Tryz.prog 280 #[.pointer p] w fun e w' => e = .returned (.tuple #[.int .i64 0, .int .i64 2]) ∧ w = w' := by
  have HT : Hid (Calls _ _ _ _ _) := lthere_no p h
  clear h
  go_enter Tryz.func280, Tryz.ntmps280
  go_wp2_with fail
  refine Calls.mono HT.out ?_
  rintro e w1 ⟨rfl, rfl⟩
  go_wp2
  refine bodyPost_ret (results_tmp2 rfl _ _ _) rfl ?_
  exact ⟨rfl, rfl⟩
theorem lsent_any (h : LnM w lb nm l s x q st S) : Calls Tryz.prog 279 #[.pointer (some ⟨lb, 0, none⟩)] w fun e w' => e = .returned (.int .i64 (sentE st)) ∧ LnM w' lb nm l s x q (sentS st) S ∧ Fr (lb :: S) w w' := by
  have HT : Hid (Calls _ _ _ _ _) := lthere_any h
  cases st with
  | none =>
    have HM : Hid (LnM w lb nm l s x q none S) := h
    have HD : Hid (Calls _ _ _ _ _) := ldoing_none h
    clear h
    go_enter Tryz.func279, Tryz.ntmps279
    go_wp2_with fail
    refine Calls.mono HT.out ?_
    rintro e w1 ⟨rfl, rfl⟩
    go_wp2_with fail
    refine Calls.mono HD.out ?_
    rintro e w1 ⟨rfl, rfl⟩
    go_wp2
    go_ret
    exact ⟨rfl, HM.out, Fr.refl _ _⟩
  | some hl =>
    have HM : Hid (LnM w lb nm l s x q (some hl) S) := h
    obtain ⟨ub, ao, N, cp, hb, hu, hne, hS, hr⟩ := h
    have HD : Hid (Calls _ _ _ _ _) := ldoing_some hb
    have m1 := m_uwsend ub
    obtain ⟨n, ws, o⟩ := hl
    cases ws with
    | nil =>
      have HH : Hid (Calls _ _ _ _ _) := uwsend_none hu
      clear hb hu hr
      go_enter Tryz.func279, Tryz.ntmps279
      go_wp2_with fail
      refine Calls.mono HT.out ?_
      rintro e w1 ⟨rfl, rfl⟩
      go_wp2_with fail
      refine Calls.mono HD.out ?_
      rintro e w1 ⟨rfl, rfl⟩
      go_wp2_with fail
      refine Calls.mono HH.out ?_
      rintro e w1 ⟨rfl, rfl⟩
      go_wp2
      go_ret
      exact ⟨rfl, HM.out, Fr.refl _ _⟩
    | cons y r =>
      have HH : Hid (Calls _ _ _ _ _) := uwsend_any hu
      have HX : Hid (∀ w' ao' N' cp', UwM w' ub n ao' N' cp' (o + 1) r → Fr [ub] w w' → SameB ao ao' → LnM w' lb nm l s x q (sentS (some ⟨n, y :: r, o⟩)) S ∧ Fr (lb :: S) w w') := by
        intro w' ao' N' cp' hu' hf hsb
        refine ⟨⟨ub, ao', N', cp', hb.keep hf (by simpa using hne), hu', hne, hS, fun hp a ha => ?_⟩, hf.mono (fun k hk _ => by simp at hk; rw [hk]; exact List.mem_cons_of_mem _ hS)⟩
        obtain ⟨a0, e0, e1⟩ := hsb a ha
        have := hr (by simp) a0 e0
        rw [e1]
        exact this
      clear hb hu hr
      go_enter Tryz.func279, Tryz.ntmps279
      go_wp2_with fail
      refine Calls.mono HT.out ?_
      rintro e w1 ⟨rfl, rfl⟩
      go_wp2_with fail
      refine Calls.mono HD.out ?_
      rintro e w1 ⟨rfl, rfl⟩
      go_wp2_with fail
      refine Calls.mono HH.out ?_
      rintro e w1 ⟨rfl, ao', N', cp', hu', hf, hsb⟩
      have HR : Hid (_ ∧ _) := HX.out w1 ao' N' cp' hu' hf hsb
      clear hu' hf hsb
      go_wp2
      go_ret
      exact ⟨rfl, HR.out.1, HR.out.2⟩
theorem lacked_any (h : LnM w lb nm l s x q st S) : Calls Tryz.prog 306 #[.pointer (some ⟨lb, 0, none⟩)] w fun e w' => e = .returned (.int .i64 (ackE st)) ∧ LnM w' lb nm l s x q (ackS st) S ∧ Fr (lb :: S) w w' := by
  have HT : Hid (Calls _ _ _ _ _) := lthere_any h
  cases st with
  | none =>
    have HM : Hid (LnM w lb nm l s x q none S) := h
    have HD : Hid (Calls _ _ _ _ _) := ldoing_none h
    clear h
    go_enter Tryz.func306, Tryz.ntmps306
    go_wp2_with fail
    refine Calls.mono HT.out ?_
    rintro e w1 ⟨rfl, rfl⟩
    go_wp2_with fail
    refine Calls.mono HD.out ?_
    rintro e w1 ⟨rfl, rfl⟩
    go_wp2
    go_ret
    exact ⟨rfl, HM.out, Fr.refl _ _⟩
  | some hl =>
    have HM : Hid (LnM w lb nm l s x q (some hl) S) := h
    obtain ⟨ub, ao, N, cp, hb, hu, hne, hS, hr⟩ := h
    have HD : Hid (Calls _ _ _ _ _) := ldoing_some hb
    have m1 := m_uwack ub
    obtain ⟨n, ws, o⟩ := hl
    cases o with
    | zero =>
      have HH : Hid (Calls _ _ _ _ _) := uwack_none hu
      clear hb hu hr
      go_enter Tryz.func306, Tryz.ntmps306
      go_wp2_with fail
      refine Calls.mono HT.out ?_
      rintro e w1 ⟨rfl, rfl⟩
      go_wp2_with fail
      refine Calls.mono HD.out ?_
      rintro e w1 ⟨rfl, rfl⟩
      go_wp2_with fail
      refine Calls.mono HH.out ?_
      rintro e w1 ⟨rfl, rfl⟩
      go_wp2
      go_ret
      exact ⟨rfl, HM.out, Fr.refl _ _⟩
    | succ o =>
      have HH : Hid (Calls _ _ _ _ _) := uwack_any hu
      have HX : Hid (∀ w', UwM w' ub n ao N cp o ws → Fr [ub] w w' → LnM w' lb nm l s x q (ackS (some ⟨n, ws, o + 1⟩)) S ∧ Fr (lb :: S) w w') := by
        intro w' hu' hf
        exact ⟨⟨ub, ao, N, cp, hb.keep hf (by simpa using hne), hu', hne, hS, hr⟩, hf.mono (fun k hk _ => by simp at hk; rw [hk]; exact List.mem_cons_of_mem _ hS)⟩
      clear hb hu hr
      go_enter Tryz.func306, Tryz.ntmps306
      go_wp2_with fail
      refine Calls.mono HT.out ?_
      rintro e w1 ⟨rfl, rfl⟩
      go_wp2_with fail
      refine Calls.mono HD.out ?_
      rintro e w1 ⟨rfl, rfl⟩
      go_wp2_with fail
      refine Calls.mono HH.out ?_
      rintro e w1 ⟨rfl, hu', hf⟩
      have HR : Hid (_ ∧ _) := HX.out w1 hu' hf
      clear hu' hf
      go_wp2
      go_ret
      exact ⟨rfl, HR.out.1, HR.out.2⟩
theorem ldone_any (h : LnM w lb nm l s x q st S) : Calls Tryz.prog 280 #[.pointer (some ⟨lb, 0, none⟩)] w fun e w' => e = .returned (.tuple #[.int .i64 (doneN st), .int .i64 (doneE st)]) ∧ LnM w' lb nm l s x q (doneS st) S ∧ Fr (lb :: S) w w' := by
  have HT : Hid (Calls _ _ _ _ _) := lthere_any h
  cases st with
  | none =>
    have HM : Hid (LnM w lb nm l s x q none S) := h
    have HD : Hid (Calls _ _ _ _ _) := ldoing_none h
    clear h
    go_enter Tryz.func280, Tryz.ntmps280
    go_wp2_with fail
    refine Calls.mono HT.out ?_
    rintro e w1 ⟨rfl, rfl⟩
    go_wp2_with fail
    refine Calls.mono HD.out ?_
    rintro e w1 ⟨rfl, rfl⟩
    go_wp2
    refine bodyPost_ret (results_tmp2 rfl _ _ _) rfl ?_
    exact ⟨rfl, HM.out, Fr.refl _ _⟩
  | some hl =>
    have HM : Hid (LnM w lb nm l s x q (some hl) S) := h
    obtain ⟨ub, ao, N, cp, hb, hu, hne, hS, hr⟩ := h
    have HD : Hid (Calls _ _ _ _ _) := ldoing_some hb
    have m1 := m_uwready ub
    cases hR : readyB (some hl) with
    | false =>
      have E1 : doneN (some hl) = 0 := by simp [doneN, hR]
      have E2 : doneE (some hl) = 10 := by simp [doneE, hR]
      have E3 : doneS (some hl) = some hl := by simp [doneS, hR]
      rw [E1, E2, E3]
      have HH : Hid (Calls _ _ _ _ _) := uwready_any hu false (by rw [← hR]; simp [readyB])
      clear hb hu hr E1 E2 E3 hR
      go_enter Tryz.func280, Tryz.ntmps280
      go_wp2_with fail
      refine Calls.mono HT.out ?_
      rintro e w1 ⟨rfl, rfl⟩
      go_wp2_with fail
      refine Calls.mono HD.out ?_
      rintro e w1 ⟨rfl, rfl⟩
      go_wp2_with fail
      refine Calls.mono HH.out ?_
      rintro e w1 ⟨rfl, rfl⟩
      go_wp2
      refine bodyPost_ret (results_tmp2 rfl _ _ _) rfl ?_
      exact ⟨rfl, HM.out, Fr.refl _ _⟩
    | true =>
      have E1 : doneN (some hl) = hl.n := by simp [doneN, hR, holdsN]
      have E2 : doneE (some hl) = 0 := by simp [doneE, hR]
      have E3 : doneS (some hl) = none := by simp [doneS, hR]
      rw [E1, E2, E3]
      have HH : Hid (Calls _ _ _ _ _) := uwready_any hu true (by simpa [readyB] using hR)
      have m2 := m_uwholds ub
      have c5 := hb.c5
      have z5 := hb.fz 5
      have fS : Fr [lb] w (w.setCell ⟨lb, 5, none⟩ (.iface 209 (.agg #[]))) := Fr.set _ _ _ (by simp)
      have HB : Hid (LnM (w.setCell ⟨lb, 5, none⟩ (.iface 209 (.agg #[]))) lb nm l s x q none S) := hb.set noV
      have hrb : 0 < hl.l.length → ∀ a, ao = some a → a.block ∉ [lb] := fun hp a ha => by simpa using (hr hp a ha).2
      have HG : Hid (Calls _ _ _ _ _) := uwholds_any (hu.keep fS (by simpa using hne.symm) hrb)
      have HF : Hid (Fr (lb :: S) w (w.setCell ⟨lb, 5, none⟩ (.iface 209 (.agg #[])))) := Fr.set _ _ _ (by simp)
      clear hb hu hr E1 E2 E3 hR hrb fS
      go_enter Tryz.func280, Tryz.ntmps280
      go_wp2_with fail
      refine Calls.mono HT.out ?_
      rintro e w1 ⟨rfl, rfl⟩
      go_wp2_with fail
      refine Calls.mono HD.out ?_
      rintro e w1 ⟨rfl, rfl⟩
      go_wp2_with fail
      refine Calls.mono HH.out ?_
      rintro e w1 ⟨rfl, rfl⟩
      go_wp2_with fail
      refine Calls.mono HG.out ?_
      rintro e w1 ⟨rfl, rfl⟩
      go_wp2
      refine bodyPost_ret (results_tmp2 rfl _ _ _) rfl ?_
      exact ⟨rfl, HB.out, HF.out⟩
/-- New: the error. -/
def newE (c : Cf) (nm : Int) : Int := if ¬ c.may then 7 else if 1 ≤ nm ∧ nm ≤ c.l then 0 else 1
theorem lnew_bad (hE : newE ⟨l, s, x, q⟩ nm ≠ 0) (w : World) : Calls Tryz.prog 62 #[.int .i64 nm, .agg #[.int .i64 l, .int .i64 s, .int .i64 x, .int .i64 q]] w fun e w' => e = .returned (.tuple #[.pointer none, .int .i64 (newE ⟨l, s, x, q⟩ nm)]) ∧ Fr [] w w' := by
  have HC := fun w => check_cells l s x q w
  by_cases hm : Cf.may ⟨l, s, x, q⟩
  · have E : Cf.err ⟨l, s, x, q⟩ = 0 := if_pos hm
    rw [E] at HC
    have hn : ¬ (1 ≤ nm ∧ nm ≤ l) := fun hn => hE (by simp only [newE, hm]; simp [hn])
    have E2 : newE ⟨l, s, x, q⟩ nm = 1 := by simp only [newE, hm]; simp [hn]
    rw [E2]
    clear hE E E2 hm
    by_cases h1 : nm < 1
    · clear hn
      go_enter Tryz.func62, Tryz.ntmps62
      go_wp2_with fail
      refine (HC _).mono ?_
      rintro e w1 ⟨rfl, hF1⟩
      have HF : Hid (Fr [] w w1) := (Fr.alloc _ _ _).then hF1
      clear hF1
      go_wp2
      refine bodyPost_ret (results_tmp2 rfl _ _ _) rfl ?_
      exact ⟨rfl, HF.out⟩
    · have h2 : l < nm := by omega
      have h1' : 1 ≤ nm := by omega
      clear h1 hn
      go_enter Tryz.func62, Tryz.ntmps62
      go_wp2_with fail
      refine (HC _).mono ?_
      rintro e w1 ⟨rfl, hF1⟩
      have HF : Hid (Fr [] w w1) := (Fr.alloc _ _ _).then hF1
      have c0 : w1.cell? ⟨w.heap.size, 0, none⟩ = some (.int .i64 l) := ((CfM.new w l s x q 23).keep hF1).2.1
      clear hF1
      go_wp2
      refine bodyPost_ret (results_tmp2 rfl _ _ _) rfl ?_
      exact ⟨rfl, HF.out⟩
  · have E : Cf.err ⟨l, s, x, q⟩ = 7 := if_neg hm
    rw [E] at HC
    have E2 : newE ⟨l, s, x, q⟩ nm = 7 := by simp only [newE, hm]; simp
    rw [E2]
    clear hE E E2 hm
    go_enter Tryz.func62, Tryz.ntmps62
    go_wp2_with fail
    refine (HC _).mono ?_
    rintro e w1 ⟨rfl, hF1⟩
    have HF : Hid (Fr [] w w1) := (Fr.alloc _ _ _).then hF1
    clear hF1
    go_wp2
    refine bodyPost_ret (results_tmp2 rfl _ _ _) rfl ?_
    exact ⟨rfl, HF.out⟩
theorem lnew_any (hE : newE ⟨l, s, x, q⟩ nm = 0) (w : World) : Calls Tryz.prog 62 #[.int .i64 nm, .agg #[.int .i64 l, .int .i64 s, .int .i64 x, .int .i64 q]] w fun e w' => ∃ lb, e = .returned (.tuple #[.pointer (some ⟨lb, 0, none⟩), .int .i64 0]) ∧ w.heap.size ≤ lb ∧ LnM w' lb nm l s x q none [] ∧ Fr [] w w' := by
  have HC := fun w => check_cells l s x q w
  have hm : Cf.may ⟨l, s, x, q⟩ := Classical.byContradiction fun hm => by simp only [newE, hm] at hE; simp at hE
  have hn : 1 ≤ nm ∧ nm ≤ l := Classical.byContradiction fun hn => by simp only [newE, hm] at hE; simp [hn] at hE
  have E : Cf.err ⟨l, s, x, q⟩ = 0 := if_pos hm
  rw [E] at HC
  have h1 : ¬ (nm < 1) := by omega
  have h2 : ¬ (l < nm) := by omega
  clear hE E hm hn
  go_enter Tryz.func62, Tryz.ntmps62
  go_wp2_with fail
  refine (HC _).mono ?_
  rintro e w1 ⟨rfl, hF1⟩
  have HF : Hid (Fr [] w w1) := (Fr.alloc _ _ _).then hF1
  obtain ⟨_, c0, c1, c2, c3⟩ := (CfM.new w l s x q 23).keep hF1
  have HB : Hid (LnM (w1.alloc (.cells #[.int .i64 nm, .int .i64 l, .int .i64 s, .int .i64 x, .int .i64 q, .iface 209 (.agg #[])] 213)) w1.heap.size nm l s x q none []) := heap_alloc_new w1 _
  clear hF1
  go_wp2
  refine bodyPost_ret (results_tmp2 rfl _ _ _) rfl ?_
  exact ⟨_, rfl, HF.out.size, HB.out, HF.out.then (Fr.alloc _ _ _)⟩
end
end Go.Proofs.YtakbodlicfmkjaaGreat
