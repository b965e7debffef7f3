/- The program's feed: contracts of turn, isNear, More, Can. Conditions as each names them. -/
import Derived.Test.YtakbodlicfmkjaaGreatFd16
import Derived.Deep.RegionHeld3
namespace Go.Proofs.YtakbodlicfmkjaaGreat.F
open Go.ChangeShapes Go.WideShapes Go.ChangeAt Go.RowKit Go.Lib Go.Maps
set_option linter.unusedVariables false
set_option linter.unusedSimpArgs false

section
variable {w0 w w' : World} {f g lb L : Nat} {ts : List Tm} {v : Value} {qs : List Nat} {mb : Nat} {bs : List Int} {s : Fe} {hw : Value}
set_option maxHeartbeats 2000000 in
set_option maxRecDepth 100000 in
theorem fTurn_none (h : FdM w0 w f g lb L ts v qs mb bs s hw) (hv : s.hv = false) : Calls Tryz.prog 75 #[.pointer (some ⟨f, 0, none⟩)] w fun e w' => e = .returned (.int .u8 1) ∧ Fr [] w w' := by
  have c5 := h.c5
  simp only [Fe.num, hv, Bool.false_eq_true, if_false] at c5
  clear h hv
  go_enter Tryz.func75, Tryz.ntmps75
  go_wp2
  go_ret
  exact ⟨rfl, Fr.refl _ _⟩
theorem FdM.look (h : FdM w0 w f g lb L ts v qs mb bs s hw) (hv : s.hv = true) : w.cell? ⟨f, 5, none⟩ = some (.int .i64 (s.rd : Int)) ∧ w.cell? ⟨f, 4, none⟩ = some (.map (some mb)) ∧ (Instr.lookup 161 (.map (some mb)) (.int .i64 (s.rd : Int)) true).run Tryz.prog w = .ok (.tuple #[.agg #[], .bool (decide ((s.rd : Int) ∈ bs))]) w := by
  have hfew := h.few
  have hr1 := h.rf
  have hr2 := h.fl
  obtain ⟨n, F, hm, hy⟩ := h.map
  have hl := hm.lookOk (s.rd : Int) ⟨by omega, by omega⟩
  rw [hy.now hv] at hl
  have e5 := h.c5
  simp only [Fe.num, hv, if_true] at e5
  exact ⟨e5, h.c4, hl⟩
set_option maxHeartbeats 2000000 in
set_option maxRecDepth 100000 in
theorem fTurn_skip (h : FdM w0 w f g lb L ts v qs mb bs s hw) (hv : s.hv = true) (hb : (s.rd : Int) ∈ bs) : Calls Tryz.prog 75 #[.pointer (some ⟨f, 0, none⟩)] w fun e w' => e = .returned (.int .u8 2) ∧ Fr [] w w' := by
  have HK : Hid (∀ W, Fr [] w W → W.cell? ⟨f, 5, none⟩ = some (.int .i64 (s.rd : Int)) ∧ W.cell? ⟨f, 4, none⟩ = some (.map (some mb)) ∧ (Instr.lookup 161 (.map (some mb)) (.int .i64 (s.rd : Int)) true).run Tryz.prog W = .ok (.tuple #[.agg #[], .bool true]) W) := fun W hf => by
    have := (h.keep hf).look hv
    rw [decide_eq_true hb] at this
    exact this
  obtain ⟨c5, c4, hlk⟩ := HK.out w (Fr.refl _ _)
  have hr0 := (h.held hv).1
  have hfew := h.few
  have hr1 := h.rf
  have hr2 := h.fl
  obtain ⟨rd, hrd⟩ : ∃ rd, s.rd = rd := ⟨_, rfl⟩
  rw [hrd] at HK c5 hlk hr0 hr1
  have hne : ((rd : Int) == 0) = false := by rw [beq_eq_false_iff_ne]; omega
  clear h hb hrd hv
  go_enter Tryz.func75, Tryz.ntmps75
  go_wp2_with fail
  go_region_held3 (fun W => W.cell? ⟨f, 5, none⟩ = some (.int .i64 (rd : Int)) ∧ W.cell? ⟨f, 4, none⟩ = some (.map (some mb)) ∧ (Instr.lookup 161 (.map (some mb)) (.int .i64 (rd : Int)) true).run Tryz.prog W = .ok (.tuple #[.agg #[], .bool true]) W) (first
    | exact HK.out _ (Fr.refl _ _) | exact HK.out _ (Fr.drew _ _) | exact HK.out _ (Fr.then (Fr.drew _ _) (Fr.alloc _ _ _)) | exact HK.out _ (Fr.alloc _ _ _)) (first | fail)
  all_goals (
    go_wp2
    go_ret
    exact ⟨rfl, (Fr.alloc _ _ _).then (Fr.drew _ _)⟩)
set_option maxHeartbeats 2000000 in
set_option maxRecDepth 100000 in
theorem fTurn_dis (h : FdM w0 w f g lb L ts v qs mb bs s hw) (hv : s.hv = true) (hb : ¬ (s.rd : Int) ∈ bs) : Calls Tryz.prog 75 #[.pointer (some ⟨f, 0, none⟩)] w fun e w' => e = .returned (.int .u8 3) ∧ Fr [] w w' := by
  have HK : Hid (∀ W, Fr [] w W → W.cell? ⟨f, 5, none⟩ = some (.int .i64 (s.rd : Int)) ∧ W.cell? ⟨f, 4, none⟩ = some (.map (some mb)) ∧ (Instr.lookup 161 (.map (some mb)) (.int .i64 (s.rd : Int)) true).run Tryz.prog W = .ok (.tuple #[.agg #[], .bool false]) W) := fun W hf => by
    have := (h.keep hf).look hv
    rw [decide_eq_false hb] at this
    exact this
  obtain ⟨c5, c4, hlk⟩ := HK.out w (Fr.refl _ _)
  have hr0 := (h.held hv).1
  have hfew := h.few
  have hr1 := h.rf
  have hr2 := h.fl
  obtain ⟨rd, hrd⟩ : ∃ rd, s.rd = rd := ⟨_, rfl⟩
  rw [hrd] at HK c5 hlk hr0 hr1
  have hne : ((rd : Int) == 0) = false := by rw [beq_eq_false_iff_ne]; omega
  clear h hb hrd hv
  go_enter Tryz.func75, Tryz.ntmps75
  go_wp2_with fail
  go_region_held3 (fun W => W.cell? ⟨f, 5, none⟩ = some (.int .i64 (rd : Int)) ∧ W.cell? ⟨f, 4, none⟩ = some (.map (some mb)) ∧ (Instr.lookup 161 (.map (some mb)) (.int .i64 (rd : Int)) true).run Tryz.prog W = .ok (.tuple #[.agg #[], .bool false]) W) (first
    | exact HK.out _ (Fr.refl _ _) | exact HK.out _ (Fr.drew _ _) | exact HK.out _ (Fr.then (Fr.drew _ _) (Fr.alloc _ _ _)) | exact HK.out _ (Fr.alloc _ _ _)) (first | fail)
  all_goals (
    go_wp2
    go_ret
    exact ⟨rfl, (Fr.alloc _ _ _).then (Fr.drew _ _)⟩)
set_option maxHeartbeats 2000000 in
theorem fNear_any (h : FdM w0 w f g lb L ts v qs mb bs s hw) (hv : s.hv = true) (mark : Int) : Calls Tryz.prog 76 #[.pointer (some ⟨f, 0, none⟩), .int .i64 mark] w fun e w' => e = .returned (.bool (s.near mark)) ∧ Fr [] w w' := by
  obtain ⟨rd, fd, wn, hv, cl⟩ := s
  simp only at hv
  subst hv
  have hfew := h.few
  have hr1 := h.rf
  have hr2 := h.fl
  have hw1 := h.wn
  have c5 : w.cell? ⟨f, 5, none⟩ = some (.int .i64 (rd : Int)) := h.c5
  have c3 : w.cell? ⟨f, 3, none⟩ = some (.int .i64 (wn : Int)) := h.c3
  simp only at hr1 hr2 hw1
  have HE : Hid (Fe.near ⟨rd, fd, wn, true, cl⟩ mark = decide ((rd : Int) - wn ≤ mark)) := rfl
  rw [HE.out]
  clear h
  go_enter Tryz.func76, Tryz.ntmps76
  go_wp2_with fail
  go_quiet (fail)
  go_wp2
  go_ret
  exact ⟨rfl, Fr.drewN _ _ _⟩
set_option maxHeartbeats 4000000 in
set_option maxRecDepth 100000 in
theorem fMore_any (h : FdM w0 w f g lb L ts v qs mb bs s hw) (last : Int) : Calls Tryz.prog 33 #[.pointer (some ⟨f, 0, none⟩), .int .i64 last] w fun e w' => e = .returned (.int .i64 (s.moreC L last : Int)) ∧ FdM w0 w' f g lb L ts v qs mb bs (s.moreS L last) hw ∧ Fr [f] w w' := by
  have HT : Hid (Calls _ _ _ _ _) := fThere_any h
  have HL : Hid (Calls _ _ _ _ _) := sLast_any h.src
  have HH : Hid (FdM w0 w f g lb L ts v qs mb bs s hw) := h
  have c0 := h.c0
  have c2 := h.c2
  have c7 := h.c7
  have z2 := h.fz 2
  have hfew := h.few
  have hr1 := h.rf
  have hr2 := h.fl
  clear h
  by_cases hcl : s.cl = true
  · have e1 : s.moreC L last = 12 := by simp [Fe.moreC, hcl]
    have e2 : s.moreS L last = s := by simp [Fe.moreS, e1]
    rw [hcl] at c7
    rw [e1, e2]
    clear e1 e2 hcl
    go_enter Tryz.func33, Tryz.ntmps33
    go_wp2_with fail
    refine Calls.mono HT.out ?_
    rintro e w1 ⟨rfl, rfl⟩
    go_wp2
    go_ret
    exact ⟨rfl, HH.out, Fr.refl _ _⟩
  · have hcf : s.cl = false := by simpa using hcl
    rw [hcf] at c7
    by_cases h1 : last < (s.fd : Int)
    · have e1 : s.moreC L last = 1 := by simp [Fe.moreC, hcf, h1]
      have e2 : s.moreS L last = s := by simp [Fe.moreS, e1]
      rw [e1, e2]
      have hd : decide (last < (s.fd : Int)) = true := by simpa using h1
      clear e1 e2 hcl hcf
      go_enter Tryz.func33, Tryz.ntmps33
      go_wp2_with fail
      refine Calls.mono HT.out ?_
      rintro e w1 ⟨rfl, rfl⟩
      go_wp2
      go_ret
      exact ⟨rfl, HH.out, Fr.refl _ _⟩
    · have hd : decide (last < (s.fd : Int)) = false := by simpa using h1
      by_cases h2 : (L : Int) < last
      · have e1 : s.moreC L last = 1 := by simp [Fe.moreC, hcf, h2]
        have e2 : s.moreS L last = s := by simp [Fe.moreS, e1]
        rw [e1, e2]
        clear e1 e2 hcl hcf
        go_enter Tryz.func33, Tryz.ntmps33
        go_wp2_with fail
        refine Calls.mono HT.out ?_
        rintro e w1 ⟨rfl, rfl⟩
        go_wp2_with fail
        refine Calls.mono HL.out ?_
        rintro e w1 ⟨rfl, rfl⟩
        go_wp2
        go_ret
        exact ⟨rfl, HH.out, Fr.refl _ _⟩
      · have e1 : s.moreC L last = 0 := by simp [Fe.moreC, hcf]; omega
        have e2 : s.moreS L last = { s with fd := last.toNat } := by simp [Fe.moreS, e1]
        rw [e1, e2]
        obtain ⟨n, rfl⟩ : ∃ n : Nat, last = n := ⟨last.toNat, by omega⟩
        have hF : Fr [f] w (w.setCell ⟨f, 2, none⟩ (.int .i64 (n : Int))) := Fr.set _ _ _ (by simp)
        have HE : Hid (FdM w0 (w.setCell ⟨f, 2, none⟩ (.int .i64 (n : Int))) f g lb L ts v qs mb bs { s with fd := (n : Int).toNat } hw ∧ Fr [f] w (w.setCell ⟨f, 2, none⟩ (.int .i64 (n : Int)))) := ⟨HH.out.upd hF (by have := fd_set (j := 2) (.int .i64 (n : Int)) HH.out.box; exact this) rfl rfl (by simp only [Int.toNat_natCast]; omega) (by simp only [Int.toNat_natCast]; omega) (fun x => ⟨x, rfl⟩) HH.out.slot, hF⟩
        clear e1 e2 hcl hcf hF HH
        go_enter Tryz.func33, Tryz.ntmps33
        go_wp2_with fail
        refine Calls.mono HT.out ?_
        rintro e w1 ⟨rfl, rfl⟩
        go_wp2_with fail
        refine Calls.mono HL.out ?_
        rintro e w1 ⟨rfl, rfl⟩
        go_wp2
        go_ret
        exact ⟨rfl, HE.out⟩
end
end Go.Proofs.YtakbodlicfmkjaaGreat.F
