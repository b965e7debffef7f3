/- One waits for none any more: contract of free. Conditions as each names them. -/
import Derived.Test.YtakbodlicfmkjaaGreatMu20
import Derived.Test.YtakbodlicfmkjaaGreatWf20
import Derived.Test.YtakbodlicfmkjaaGreatTd11
namespace Go.Proofs.YtakbodlicfmkjaaGreat
open Go.ChangeShapes Go.WideShapes Go.ChangeAt Go.RowKit Go.Lib Go.Maps
set_option linter.unusedVariables false
set_option linter.unusedSimpArgs false
section
variable {w0 w w' : World} {c : Cf} {T : List Tx} {Z : Lay} {s : Ms}
theorem wtF_drop (T : List Tx) (kb : Int → Nat) (wt : Int → Prop) (n : Int) : updF (wtF T kb wt) n none = wtF T kb (fun m => wt m ∧ m ≠ n) := by
  funext m
  by_cases e : m = n
  · subst e; rw [updF_same]; unfold wtF; rw [if_neg (fun x => x.2 rfl)]
  · rw [updF_other _ _ e]
    unfold wtF
    by_cases hm : wt m
    · rw [if_pos hm, if_pos ⟨hm, e⟩]
    · rw [if_neg hm, if_neg (fun x => hm x.1)]
theorem txR_v (T : List Tx) (kb : Int → Nat) (n : Int) : (txR T kb n).v = tx3V (some (n, kb n, (wsAt T n).length)) := rfl
/-- What free leaves. -/
def FreeP (w0 : World) (c : Cf) (T : List Tx) (w : World) (Z : Lay) (s : Ms) (n : Int) (w' : World) : Prop := ∃ p', Dn w0 c T w Z s w' { Z with lp := p' } { s with line := s.line ++ [n], wt := fun m => s.wt m ∧ m ≠ n }
set_option maxHeartbeats 1000000 in
set_option maxRecDepth 100000 in
theorem mfree_any (h : MaM w0 w c T Z s) {n : Int} (hi : i64 n) (hn : s.wt n) (hroom : s.line.length < c.w.toNat) : Calls Tryz.prog 258 #[.pointer (some ⟨Z.z.mb, 0, none⟩), .int .i64 n] w fun e w' => (∃ v, e = .returned v) ∧ FreeP w0 c T w Z s n w' := by
  have c7 : ∀ q, (w.drewN q).cell? ⟨Z.z.mb, 7, none⟩ = some (.map (some Z.z.wb)) := fun q => h.mc rfl
  have c8 : w.cell? ⟨Z.z.mb, 8, none⟩ = some (.pointer (some ⟨Z.z.lr, 0, none⟩)) := h.mc rfl
  have c70 : w.cell? ⟨Z.z.mb, 7, none⟩ = some (.map (some Z.z.wb)) := h.mc rfl
  obtain ⟨K, hK⟩ : ∃ K, (wsAt T n).length = K := ⟨_, rfl⟩
  obtain ⟨B, hB⟩ : ∃ B, Z.kb n = B := ⟨_, rfl⟩
  have hF : wtF T Z.kb s.wt n = some (some (n, B, K)) := by unfold wtF; rw [if_pos hn, hB, hK]
  have hlk : ∀ W, Fr [] w W → (Instr.lookup 67 (.map (some Z.z.wb)) (.int .i64 n) false).run Tryz.prog W = .ok (.agg #[.int .i64 n, .slice (some ⟨B, 0, none⟩) K K]) W := fun W hf => by
    have := (h.quiet hf).wa.look n hi
    rw [hF] at this
    exact this
  have hlkw := hlk w (Fr.refl _ _)
  have hlkd : ∀ q, (Instr.lookup 67 (.map (some Z.z.wb)) (.int .i64 n) false).run Tryz.prog (w.drewN q) = .ok (.agg #[.int .i64 n, .slice (some ⟨B, 0, none⟩) K K]) (w.drewN q) := fun q => hlk _ (Fr.drewN _ _ _)
  have hlk1 : (Instr.lookup 67 (.map (some Z.z.wb)) (.int .i64 n) false).run Tryz.prog w.drew = .ok (.agg #[.int .i64 n, .slice (some ⟨B, 0, none⟩) K K]) w.drew := hlk _ (Fr.drew _ _)
  have HP : Hid (∀ W, Fr [] w W → Calls Tryz.prog 260 #[.pointer (some ⟨Z.z.lr, 0, none⟩), .agg #[.int .i64 n, .slice (some ⟨B, 0, none⟩) K K]] W fun e w' => e = .returned (.bool true) ∧ w'.cell? ⟨Z.z.mb, 7, none⟩ = some (.map (some Z.z.wb)) ∧ w'.cell? ⟨Z.z.mb, 8, none⟩ = some (.pointer (some ⟨Z.z.lr, 0, none⟩)) ∧ (Instr.lookup 67 (.map (some Z.z.wb)) (.int .i64 n) false).run Tryz.prog w' = .ok (.agg #[.int .i64 n, .slice (some ⟨B, 0, none⟩) K K]) w' ∧ (∃ w2, (Builtin.delete_ #[67, 3] 0 #[.map (some Z.z.wb), .int .i64 n]).run Tryz.prog w' = .ok (.tuple #[]) w2 ∧ FreeP w0 c T w Z s n w2)) := fun W hf => by
    have hW := h.quiet hf
    have hx : (txR T Z.kb n).v = .agg #[.int .i64 n, .slice (some ⟨B, 0, none⟩) K K] := by rw [txR_v, hB, hK]; rfl
    refine Calls.mono (by rw [← hx]; exact GT.gput_any (txR T Z.kb n) W hW.li (by rw [List.length_map]; exact hroom)) ?_
    rintro e w1 ⟨rfl, p', h1, h2, h3⟩
    have h1' : GT.Rg w1 Z.z.lr p' c.w.toNat ((s.line ++ [n]).map (txR T Z.kb)) false := by rw [List.map_append]; exact h1
    have hD := (h.dn hf).trans (hW.setLi h2 h1' h3 (Nat.le_refl _))
    have hM := hD.m
    obtain ⟨w2, k1, k2, k3⟩ := hM.wa.drop n hi 0
    rw [wtF_drop] at k2
    have hl := hM.wa.look n hi
    rw [show wtF T Z.kb s.wt n = some (some (n, B, K)) from hF] at hl
    exact ⟨rfl, hM.mc rfl, hM.mc rfl, hl, w2, k1, p', hD.trans (hM.setWa k3 k2 hM.few.2.1 (Nat.le_refl _))⟩
  clear h hF hlk hK hB
  go_enter Tryz.func258, Tryz.ntmps258
  go_wp2_with fail
  go_region_held3 (fun W => W.cell? ⟨Z.z.mb, 7, none⟩ = some (.map (some Z.z.wb)) ∧ W.cell? ⟨Z.z.mb, 8, none⟩ = some (.pointer (some ⟨Z.z.lr, 0, none⟩)) ∧ (Instr.lookup 67 (.map (some Z.z.wb)) (.int .i64 n) false).run Tryz.prog W = .ok (.agg #[.int .i64 n, .slice (some ⟨B, 0, none⟩) K K]) W) (go_keep)
    (first
      | (with_reducible refine Calls.mono (HP.out _ (Fr.drew _ _)) ?_; rintro e w5 ⟨rfl, y1, z1, z2, w6, y2, y3⟩))
  have HY : Hid (FreeP w0 c T w Z s n w6) := y3
  have HD : Hid (∃ w', (Builtin.delete_ #[67, 3] 0 #[.map (some Z.z.wb), .int .i64 n]).run Tryz.prog w5 = .ok (.tuple #[]) w' ∧ FreeP w0 c T w Z s n w') := ⟨w6, y2, HY.out⟩
  clear y3 y2 z1 z2 HY
  go_wp2_with (first | (at_delete; refine wpList_del _ rfl _ _ _ _ rfl (.map (some Z.z.wb)) (.int .i64 n) rfl rfl (HD.out) ?_; rintro w7 hR; have HR : Hid (FreeP w0 c T w Z s n w7) := hR; clear hR) | fail)
  go_wp2
  go_end0
  exact ⟨⟨_, rfl⟩, HR.out⟩
end
end Go.Proofs.YtakbodlicfmkjaaGreat
