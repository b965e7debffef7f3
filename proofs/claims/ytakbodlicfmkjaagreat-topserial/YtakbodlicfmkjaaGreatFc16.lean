/- The program's feed: contract of Can. Conditions as each names them. -/
import Derived.Test.YtakbodlicfmkjaaGreatFt16
namespace Go.Proofs.YtakbodlicfmkjaaGreat.F
open Go.ChangeShapes Go.WideShapes Go.ChangeAt Go.RowKit Go.Lib Go.Maps
set_option linter.unusedVariables false
set_option linter.unusedSimpArgs false

section
variable {w0 w w' : World} {f g lb L : Nat} {ts : List Tm} {v : Value} {qs : List Nat} {mb : Nat} {bs : List Int} {s : Fe} {hw : Value}
set_option maxHeartbeats 4000000 in
set_option maxRecDepth 100000 in
theorem fCan_any (h : FdM w0 w f g lb L ts v qs mb bs s hw) (mark : Int) : Calls Tryz.prog 43 #[.pointer (some ⟨f, 0, none⟩), .int .i64 mark] w fun e w' => e = .returned (.int .u8 (s.can bs mark : Int)) ∧ Fr [] w w' := by
  have HT : Hid (Calls _ _ _ _ _) := fThere_any h
  have hfew := h.few
  have hr1 := h.rf
  have hr2 := h.fl
  by_cases hv : s.hv = true
  · by_cases hb : (s.rd : Int) ∈ bs
    · have HU : Hid (Calls _ _ _ _ _) := fTurn_skip h hv hb
      have e1 : s.can bs mark = 2 := by simp [Fe.can, hv, hb]
      rw [e1]
      clear e1 h hv hb
      go_enter Tryz.func43, Tryz.ntmps43
      go_wp2_with fail
      refine Calls.mono HT.out ?_
      rintro e w1 ⟨rfl, rfl⟩
      go_wp2_with fail
      refine Calls.mono HU.out ?_
      rintro e w1 ⟨rfl, hF1⟩
      go_wp2
      go_ret
      exact ⟨rfl, hF1⟩
    · have HU : Hid (Calls _ _ _ _ _) := fTurn_dis h hv hb
      have HN : Hid (∀ W, Fr [] w W → Calls Tryz.prog 76 #[.pointer (some ⟨f, 0, none⟩), .int .i64 mark] W fun e w' => e = .returned (.bool (s.near mark)) ∧ Fr [] W w') := fun W hf => fNear_any (h.keep hf) hv mark
      by_cases hn : s.near mark = true
      · have e1 : s.can bs mark = 3 := by simp [Fe.can, hv, hb, hn]
        rw [e1]
        rw [hn] at HN
        clear e1 h hv hb
        go_enter Tryz.func43, Tryz.ntmps43
        go_wp2_with fail
        refine Calls.mono HT.out ?_
        rintro e w1 ⟨rfl, rfl⟩
        go_wp2_with fail
        refine Calls.mono HU.out ?_
        rintro e w1 ⟨rfl, hF1⟩
        go_wp2_with fail
        refine Calls.mono (HN.out _ hF1) ?_
        rintro e w2 ⟨rfl, hF2⟩
        go_wp2
        go_ret
        exact ⟨rfl, hF1.then hF2⟩
      · have hn2 : s.near mark = false := by simpa using hn
        have e1 : s.can bs mark = 0 := by simp [Fe.can, hv, hb, hn2]
        rw [e1]
        rw [hn2] at HN
        clear e1 h hv hb
        go_enter Tryz.func43, Tryz.ntmps43
        go_wp2_with fail
        refine Calls.mono HT.out ?_
        rintro e w1 ⟨rfl, rfl⟩
        go_wp2_with fail
        refine Calls.mono HU.out ?_
        rintro e w1 ⟨rfl, hF1⟩
        go_wp2_with fail
        refine Calls.mono (HN.out _ hF1) ?_
        rintro e w2 ⟨rfl, hF2⟩
        go_wp2
        go_ret
        exact ⟨rfl, hF1.then hF2⟩
  · have hv2 : s.hv = false := by simpa using hv
    have HU : Hid (Calls _ _ _ _ _) := fTurn_none h hv2
    have HK : Hid (∀ W, Fr [] w W → W.cell? ⟨f, 1, none⟩ = some (.int .i64 (s.rd : Int)) ∧ W.cell? ⟨f, 2, none⟩ = some (.int .i64 (s.fd : Int)) ∧ W.cell? ⟨f, 7, none⟩ = some (.bool s.cl)) := fun W hf => ⟨(h.keep hf).c1, (h.keep hf).c2, (h.keep hf).c7⟩
    by_cases hcl : s.cl = true
    · have e1 : s.can bs mark = 0 := by simp [Fe.can, hv2, hcl]
      rw [e1]
      rw [hcl] at HK
      clear e1 h hv hv2
      go_enter Tryz.func43, Tryz.ntmps43
      go_wp2_with fail
      refine Calls.mono HT.out ?_
      rintro e w1 ⟨rfl, rfl⟩
      go_wp2_with fail
      refine Calls.mono HU.out ?_
      rintro e w1 ⟨rfl, hF1⟩
      obtain ⟨d1, d2, d7⟩ := HK.out _ hF1
      go_wp2_with fail
      go_quiet (fail)
      go_wp2
      go_ret
      exact ⟨rfl, hF1.then (Fr.drewN _ _ _)⟩
    · have hcf : s.cl = false := by simpa using hcl
      rw [hcf] at HK
      by_cases hlt : s.rd < s.fd
      · have e1 : s.can bs mark = 1 := by simp [Fe.can, hv2, hcf, hlt]
        rw [e1]
        have hd : decide ((s.rd : Int) < (s.fd : Int)) = true := by simpa using hlt
        clear e1 h hv hv2
        go_enter Tryz.func43, Tryz.ntmps43
        go_wp2_with fail
        refine Calls.mono HT.out ?_
        rintro e w1 ⟨rfl, rfl⟩
        go_wp2_with fail
        refine Calls.mono HU.out ?_
        rintro e w1 ⟨rfl, hF1⟩
        obtain ⟨d1, d2, d7⟩ := HK.out _ hF1
        go_wp2_with fail
        go_quiet (fail)
        go_wp2
        go_ret
        exact ⟨rfl, hF1.then (Fr.drewN _ _ _)⟩
      · have e1 : s.can bs mark = 0 := by simp [Fe.can, hv2, hcf, hlt]
        rw [e1]
        have hd : decide ((s.rd : Int) < (s.fd : Int)) = false := by simp; omega
        clear e1 h hv hv2
        go_enter Tryz.func43, Tryz.ntmps43
        go_wp2_with fail
        refine Calls.mono HT.out ?_
        rintro e w1 ⟨rfl, rfl⟩
        go_wp2_with fail
        refine Calls.mono HU.out ?_
        rintro e w1 ⟨rfl, hF1⟩
        obtain ⟨d1, d2, d7⟩ := HK.out _ hF1
        go_wp2_with fail
        go_quiet (fail)
        go_wp2
        go_ret
        exact ⟨rfl, hF1.then (Fr.drewN _ _ _)⟩
end
end Go.Proofs.YtakbodlicfmkjaaGreat.F
