/- An owner's New, Ask, Len, Room, All, with its shard. Conditions as each names them. -/
import Derived.Test.YtakbodlicfmkjaaGreatOs15
namespace Go.Proofs.YtakbodlicfmkjaaGreat.O
open Go.ChangeShapes Go.WideShapes Go.ChangeAt Go.RowKit Go.Lib Go.Maps
set_option linter.unusedVariables false
set_option linter.unusedSimpArgs false
section
variable {t : Nat → Prop} {w0 w : World} {ob sb b n g C : Nat} {pb : Option Nat} {M : ByteArray → List Vn} {rs : List Rq}
theorem OwS.few (h : OwS w0 t w ob sb b n g pb C M rs) : rs.length ≤ C ∧ 1 ≤ C := by
  obtain ⟨xs, hq, hw⟩ := h.q
  have := hq.rg.few
  have := hw.len
  omega
theorem os_ask (h : OwS w0 t w ob sb b n g pb C M rs) (hT : ∀ k, t k → k < w.heap.size) (x : Rv) (ns : List Int) (hR : RqB w x ns) : Calls Tryz.prog 278 #[.pointer (some ⟨ob, 0, none⟩), x.v] w fun e w' =>
    (¬ okR (x.q ns) ∧ e = .returned (.tuple #[.bool false, .int .i64 1]) ∧ OwS w0 t w' ob sb b n g pb C M rs ∧ Fr [] w w') ∨
    (okR (x.q ns) ∧ rs.length = C ∧ e = .returned (.tuple #[.bool false, .int .i64 0]) ∧ OwS w0 t w' ob sb b n g pb C M rs ∧ Fr [] w w') ∨
    (okR (x.q ns) ∧ rs.length < C ∧ e = .returned (.tuple #[.bool true, .int .i64 0]) ∧ ∃ pb', OwS w0 t w' ob sb b n g pb' C M (rs ++ [x.q ns]) ∧ OwF b g pb w w' ∧ (∀ k, pb' = some k → pb = some k ∨ w.heap.size ≤ k)) := by
  obtain ⟨xs, hq, hw⟩ := h.q
  by_cases hB : okR (x.q ns)
  · refine (oask_any hq x ns hR hB).mono ?_
    rintro e w' (⟨h1, rfl, hF⟩ | ⟨h1, rfl, ro, rc, pb', hQ, hI, hN, hF, hM⟩)
    · exact Or.inr (Or.inl ⟨hB, by rw [← hw.len]; exact h1, rfl, h.same hF, hF⟩)
    · refine Or.inr (Or.inr ⟨hB, by rw [← hw.len]; exact h1, rfl, pb', ⟨⟨_, hQ, (hw.keep (fun j cs hj => hF.keep hj (ring_not hq.rg hj (by decide) (by decide))) hF.size).snoc ⟨rfl, hB, hR.len, hI, fun a e => ?_, fun a e q => by have := hT _ q; have := (hN a e).1; omega⟩⟩, h.shR hF, h.fr.on hF h.own, h.gn, h.on, fun k e => ?_⟩, OwF.ofR hq.rg h.sh.mb hF, fun k e => ?_⟩)
      · obtain ⟨k1, k2⟩ := hN a e
        exact ⟨by have := h.fr.size; omega, k2⟩
      · rcases hM with rfl | ⟨k', rfl, hk⟩
        · exact h.pn k e
        · cases e
          have := h.fr.size
          omega
      · rcases hM with rfl | ⟨k', rfl, hk⟩
        · exact Or.inl e
        · cases e
          exact Or.inr hk
  · refine (oask_no hq x ns hR hB).mono ?_
    rintro e w' ⟨rfl, hF⟩
    exact Or.inl ⟨hB, rfl, h.same hF, hF⟩
theorem os_idle (h : OwS w0 t w ob sb b n g pb C M []) : Calls Tryz.prog 305 #[.pointer (some ⟨ob, 0, none⟩)] w fun e w' => e = .returned (.tuple #[.agg #[.int .i64 0, .bool false, .slice none 0 0, .slice none 0 0, .int .i64 0], .int .i64 9]) ∧ OwS w0 t w' ob sb b n g pb C M [] ∧ Fr [] w w' := by
  obtain ⟨xs, hq, hw⟩ := h.q
  cases hw
  refine (oserve_nil hq).mono ?_
  rintro e w' ⟨rfl, hF⟩
  exact ⟨rfl, h.same hF, hF⟩
theorem os_len (h : OwS w0 t w ob sb b n g pb C M rs) (K : Nat) (hK : rs.length = K) : Calls Tryz.prog 243 #[.pointer (some ⟨ob, 0, none⟩)] w fun e w' => e = .returned (.int .i64 (K : Int)) ∧ w = w' := by
  obtain ⟨xs, hq, hw⟩ := h.q
  exact olen_any hq K (by rw [hw.len]; exact hK)
theorem os_room (h : OwS w0 t w ob sb b n g pb C M rs) (K : Nat) (hK : C - rs.length = K) : Calls Tryz.prog 273 #[.pointer (some ⟨ob, 0, none⟩)] w fun e w' => e = .returned (.int .i64 (K : Int)) ∧ Fr [] w w' := by
  obtain ⟨xs, hq, hw⟩ := h.q
  exact oroom_any hq K (by rw [hw.len]; exact hK)
theorem os_all (h : OwS w0 t w ob sb b n g pb C M rs) (hn : n < 3518437208883) : Calls Tryz.prog 47 #[.pointer (some ⟨ob, 0, none⟩)] w fun e w' => ∃ ro N rc hs, e = .returned (.slice ro N rc) ∧ HOut w w' ro N rc hs ∧ N ≤ n ∧ PkT M M hs ∧ Fr [] w w' := by
  obtain ⟨xs, hq, hw⟩ := h.q
  have HT : Hid (Calls _ _ _ _ _) := othere_any hq
  have HA : Hid (Calls _ _ _ _ _) := hall_any w h.sh hn
  have c0 := hq.c0
  clear h hq hw
  go_enter Tryz.func47, Tryz.ntmps47
  go_wp2_with fail
  refine Calls.mono HT.out ?_
  rintro e w1 ⟨rfl, rfl⟩
  go_wp2_with fail
  refine Calls.mono HA.out ?_
  rintro e w1 ⟨ro, N, rc, hs, rfl, hh⟩
  go_wp2
  go_ret
  exact ⟨ro, N, rc, hs, rfl, hh⟩
end
/-- May an owner be made of these? -/
def okN (sh q : Int) : Prop := 0 ≤ sh ∧ sh < 16 ∧ 1 ≤ q ∧ q ≤ 16
set_option maxHeartbeats 1000000 in
theorem onew_no (sh q : Int) (ao : Option Addr) (L cap : Nat) (w : World) (h : ¬ okN sh q) : Calls Tryz.prog 63 #[.int .i64 sh, .int .i64 q, .slice ao L cap] w fun e w' => e = .returned (.tuple #[.pointer none, .int .i64 1]) ∧ w = w' := by
  by_cases h1 : sh < 0
  · clear h
    go_enter Tryz.func63, Tryz.ntmps63
    go_wp2
    go_ret2
    exact ⟨rfl, rfl⟩
  by_cases h2 : 16 ≤ sh
  · clear h
    go_enter Tryz.func63, Tryz.ntmps63
    go_wp2
    go_ret2
    exact ⟨rfl, rfl⟩
  by_cases h3 : q < 1
  · clear h
    go_enter Tryz.func63, Tryz.ntmps63
    go_wp2
    go_ret2
    exact ⟨rfl, rfl⟩
  have h4 : 16 < q := by unfold okN at h; omega
  clear h
  go_enter Tryz.func63, Tryz.ntmps63
  go_wp2
  go_ret2
  exact ⟨rfl, rfl⟩
set_option maxHeartbeats 1000000 in
theorem oload_any (q : Int) (ao : Option Addr) (L cap : Nat) (hs : List Hd) (w : World) (hq : 1 ≤ q ∧ q ≤ 16) (hH : HRs w ao hs) (hL : L = hs.length) : Calls Tryz.prog 102 #[.int .i64 q, .slice ao L cap] w fun e w' =>
    (¬ LoOk hs ∧ e = .returned (.tuple #[.pointer none, .int .i64 1]) ∧ Fr [] w w') ∨ (LoOk hs ∧ ∃ ob sb b g, e = .returned (.tuple #[.pointer (some ⟨ob, 0, none⟩), .int .i64 0]) ∧ OwS w (fun _ => False) w' ob sb b L g none q.toNat (mOf hs) []) := by
  have HLd : Hid (Calls _ _ _ _ _) := hload_any ao L cap hs w hH hL
  have HG : Hid (∀ W, Calls _ _ _ _ _) := fun W => gnew_any q W (by omega)
  clear hH hL
  go_enter Tryz.func102, Tryz.ntmps102
  go_wp2_with fail
  refine Calls.mono HLd.out ?_
  rintro e w1 (⟨hl, sb, b, rfl, hS, hF1⟩ | ⟨hl, rfl, hF1⟩)
  · have HS : Hid (Sh w w1 sb b L (mOf hs) ∧ Fr [] w w1 ∧ LoOk hs) := ⟨hS, hF1, hl⟩
    clear hS hF1 hl HLd
    go_wp2_with fail
    refine Calls.mono (HG.out _) ?_
    rintro e w2 ⟨g, rfl, hg, hR, hF2⟩
    have HR : Hid (Rg w2 g none q.toNat [] false ∧ Fr [] w1 w2 ∧ w1.heap.size ≤ g) := ⟨hR, hF2, hg⟩
    clear hR hF2 hg HG
    go_wp2
    go_ret2
    have s1 := HS.out.2.1.size
    have s2 := HR.out.2.1.size
    have fA := Fr.alloc [] w2 (.cells #[.pointer (some ⟨sb, 0, none⟩), .pointer (some ⟨g, 0, none⟩)] 187)
    exact Or.inr ⟨HS.out.2.2, w2.heap.size, sb, b, g, rfl, ⟨[], ⟨heap_alloc_new w2 _, HR.out.1.same fA⟩, .nil⟩, HS.out.1.keep (HR.out.2.1.then fA), HS.out.2.1.then (HR.out.2.1.then fA), by have := HR.out.2.2; omega, by omega, fun k e => by cases e⟩
  · have HS : Hid (Fr [] w w1 ∧ ¬ LoOk hs) := ⟨hF1, hl⟩
    clear hF1 hl HLd
    go_wp2
    go_ret2
    exact Or.inl ⟨HS.out.2, rfl, HS.out.1⟩
set_option maxHeartbeats 1000000 in
theorem onew_any (sh q : Int) (ao : Option Addr) (L cap : Nat) (hs : List Hd) (w : World) (h : okN sh q) (hH : HRs w ao hs) (hL : L = hs.length) : Calls Tryz.prog 63 #[.int .i64 sh, .int .i64 q, .slice ao L cap] w fun e w' =>
    (¬ LoOk hs ∧ e = .returned (.tuple #[.pointer none, .int .i64 1]) ∧ Fr [] w w') ∨ (LoOk hs ∧ ∃ ob sb b g, e = .returned (.tuple #[.pointer (some ⟨ob, 0, none⟩), .int .i64 0]) ∧ OwS w (fun _ => False) w' ob sb b L g none q.toNat (mOf hs) []) := by
  obtain ⟨h1, h2, h3, h4⟩ := h
  have HLd : Hid (Calls _ _ _ _ _) := oload_any q ao L cap hs w ⟨h3, h4⟩ hH hL
  clear hH hL
  go_enter Tryz.func63, Tryz.ntmps63
  go_wp2_with fail
  refine Calls.mono HLd.out ?_
  rintro e w1 (⟨hl, rfl, hF1⟩ | ⟨hl, ob, sb, b, g, rfl, hO⟩)
  · go_wp2
    go_ret2
    exact Or.inl ⟨hl, rfl, hF1⟩
  · have HO : Hid (OwS w (fun _ => False) w1 ob sb b L g none q.toNat (mOf hs) []) := hO
    clear hO HLd
    go_wp2
    go_ret2
    exact Or.inr ⟨hl, ob, sb, b, g, rfl, HO.out⟩
end Go.Proofs.YtakbodlicfmkjaaGreat.O
