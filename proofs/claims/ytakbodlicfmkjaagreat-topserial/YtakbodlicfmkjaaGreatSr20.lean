/- The store of a replica at its mark: Store. Conditions as each names them. -/
import Derived.Test.YtakbodlicfmkjaaGreatVl20
namespace Go.Proofs.YtakbodlicfmkjaaGreat
open Go.ChangeShapes Go.WideShapes Go.ChangeAt Go.RowKit Go.Lib
set_option linter.unusedVariables false
set_option linter.unusedSimpArgs false
section
variable {w0 w w' : World} {p : Nat} {c : Cf} {T : List Tx} {Z : Lay} {s : Ms}
set_option maxHeartbeats 4000000 in
set_option maxRecDepth 100000 in
theorem store_any (h : RP w0 w p c T Z s) (hW : Wf c T s) (hk : s.k < 16000000) : Calls Tryz.prog 12 #[.pointer (some ⟨p, 0, none⟩)] w fun e w' => ∃ hs v, e = .returned v ∧ So.Sd hs ∧ (∃ acc, CatH s.M c.s.toNat acc ∧ hs.Perm acc) ∧ w'.ownsRow w.heap.size 61 2 v (hs.filterMap (enOf s.ma)).length (O.celsE (hs.filterMap (enOf s.ma))) ∧ Fr [] w w' := by
  have HT : Hid (Calls _ _ _ _ _) := there_any h
  have c0 := h.c0
  have c12 : w.cell? ⟨Z.z.mb, 12, none⟩ = some (.pointer (some ⟨Z.z.gb, 0, none⟩)) := h.m.mc rfl
  have HC : Hid (∀ W, Fr [] w W → W.cell? ⟨p, 0, none⟩ = some (.pointer (some ⟨Z.z.mb, 0, none⟩)) ∧ W.cell? ⟨Z.z.mb, 12, none⟩ = some (.pointer (some ⟨Z.z.gb, 0, none⟩)) ∧ Hid (Calls Tryz.prog 23 #[.pointer (some ⟨Z.z.gb, 0, none⟩)] W fun e w' => e = .returned (.int .i64 s.ma) ∧ Fr [] W w')) := fun W hf => ⟨(h.quiet hf).c0, (h.quiet hf).m.mc rfl, gg_mark (h.quiet hf).m.ga⟩
  have HV : Hid (Calls Tryz.prog 25 #[.pointer (some ⟨Z.z.mb, 0, none⟩)] w.drew fun e w' => ∃ ro n rc hs, e = .returned (.slice ro n rc) ∧ Hid (So.Sd hs ∧ (∃ acc, CatH s.M c.s.toNat acc ∧ hs.Perm acc)) ∧ Fr [] w w' ∧ ∀ W, Fr [] w' W → Hid (Calls Tryz.prog 24 #[.slice ro n rc, .int .i64 s.ma] W fun e w3 => ∃ v, e = .returned v ∧ Hid (w3.ownsRow w.heap.size 61 2 v (hs.filterMap (enOf s.ma)).length (O.celsE (hs.filterMap (enOf s.ma)))) ∧ Fr [] w w3)) := by
    refine Calls.mono (versions_any (h.quiet (Fr.drew [] w)).m hW hk) ?_
    rintro e w' ⟨ro, n, rc, hs, rfl, h1, h2, h3, h4, h5, h6, h7⟩
    refine ⟨ro, n, rc, hs, rfl, ⟨h4, h6⟩, (Fr.drew [] w).then h7, fun W hf => ?_⟩
    refine Calls.mono (entries_any (h1.keep hf) h2 h3 h5 s.ma) ?_
    rintro e w3 ⟨v, rfl, g1, g2⟩
    have hfw := ((Fr.drew [] w).then h7).then hf
    exact ⟨v, rfl, O.own_base g1 hfw.size, hfw.then g2⟩
  clear h hW hk
  go_enter Tryz.func12, Tryz.ntmps12
  go_wp2_with fail
  refine Calls.mono HT.out ?_
  rintro e w1 ⟨rfl, rfl⟩
  clear HT
  go_upto_region 3 with fail
  go_region_held3 (fun W => W.cell? ⟨p, 0, none⟩ = some (.pointer (some ⟨Z.z.mb, 0, none⟩)) ∧ W.cell? ⟨Z.z.mb, 12, none⟩ = some (.pointer (some ⟨Z.z.gb, 0, none⟩))) (go_keep)
    (first
      | (go_at_call 25; with_reducible refine Calls.mono HV.out ?_; rintro e w2 ⟨ro, n, rc, hs, rfl, HS, hf2, hE⟩; obtain ⟨d0, d12, HM⟩ := HC.out w2 hf2)
      | (go_at_call 23; with_reducible refine Calls.mono HM.out ?_; rintro e w3 ⟨rfl, hf3⟩; obtain ⟨e0, e12, _⟩ := HC.out w3 (Fr.then hf2 hf3); have HE := hE w3 hf3)
      | (go_at_call 24; with_reducible refine Calls.mono HE.out ?_; rintro e w4 ⟨v, rfl, HR, hf4⟩; obtain ⟨f0, f12, _⟩ := HC.out w4 hf4))
  go_wp2
  go_ret
  exact ⟨hs, v, rfl, HS.out.1, HS.out.2, HR.out, hf4⟩
end
end Go.Proofs.YtakbodlicfmkjaaGreat
