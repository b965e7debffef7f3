/- Begin once more: where the list is empty its place may be any. Conditions as named. -/
import Derived.Test.YtpdkdgmaofhlkaaGreatDoorBh17
namespace Go.Proofs.YtpdkdgmaofhlkaaGreatDoor
open Go.ChangeShapes Go.WideShapes Go.ChangeAt Go.RowKit Go.Lib
set_option linter.unusedVariables false
set_option linter.unusedSimpArgs false

set_option maxHeartbeats 8000000 in
set_option maxRecDepth 100000 in
theorem qbegin_any2 {w : World} {t : Nat} {T : Tk} (h : TkM w t T) (hn : T.n < 0) (ma le : Int) (ao : Option Addr) (L cap : Nat) (ns : List Int) (hI : IRs w ao ns) (hL : L = ns.length) (hbg : T.bg = false) (hm : mayBg ma le ns) (hk : okC T.k T.key T.en) (hao : 0 < ns.length → ∀ a, ao = some a → a.block ≠ t) :
    Calls Tryz.prog 6 #[.pointer (some ⟨t, 0, none⟩), .int .i64 ma, .int .i64 le, .slice ao L cap] w fun e w' => ∃ r, e = .returned (.int .i64 0) ∧ TkM w' t { T with bg := true, ma := ma, r := r } ∧ RqOf T.k T.n ma le T.key T.en ns r ∧ w'.ownsRow w.heap.size 3 1 (.slice r.bo r.bl r.bc) r.bl (intsC (bsOf T.k ns)) ∧ Fr [t] w w' := by
  have HT : Hid (Calls _ _ _ _ _) := qthere_any h hn
  have hab := hm.2.2.2.2
  have hms := hm
  have HM : Hid (Calls _ _ _ _ _) := qmayb_any ma ao L cap ns true w ⟨hm.1, hm.2.1⟩ hI hL ⟨fun _ => hab, fun _ => rfl⟩
  have hshort : ns.length ≤ 65536 := Ab.short (by have := hm.1; omega) hab
  obtain ⟨h1, h2, h3, h4, _⟩ := hm
  have HQ : Hid (∀ W, Fr [t] w W → Calls Tryz.prog 20 #[.int .i64 T.n, .agg #[.int .u8 T.k, .string T.key, .string T.en], .int .i64 ma, .int .i64 le, .slice ao L cap] W fun e w' => ∃ r, e = .returned (.agg #[.int .u8 r.k, .int .i64 r.f, .int .i64 r.n, .string ⟨#[]⟩, .string ⟨#[]⟩, .bool false, .string r.key, .string r.en, .slice r.bo r.bl r.bc]) ∧ RqOf T.k T.n ma le T.key T.en ns r ∧ w'.ownsRow W.heap.size 3 1 (.slice r.bo r.bl r.bc) r.bl (intsC (bsOf T.k ns)) ∧ Fr [] W w') := fun W hW => qreq_any T.k T.n ma le T.key T.en ao L cap ns W hk (hI.keepS hW (fun h0 a e => by simp [hao h0 a e])) hL (by omega)
  have HTk : Hid (TkM w t T) := h
  have c0 := h.c0
  have c5 := h.c5
  have c6 := h.c6
  have c7 := h.c7
  have c8 := h.c8
  have c9 := h.c9
  have z8 := h.fz 8
  have z9 := h.fz 9
  rw [hbg] at c8
  have hlt := h.lt
  obtain ⟨n, hnn⟩ : ∃ n, n = T.n := ⟨_, rfl⟩
  obtain ⟨k, hkk⟩ : ∃ k, k = T.k := ⟨_, rfl⟩
  obtain ⟨key, hkey⟩ : ∃ k, k = T.key := ⟨_, rfl⟩
  obtain ⟨en, hen⟩ : ∃ k, k = T.en := ⟨_, rfl⟩
  rw [← hnn] at c0 hn HQ
  rw [← hkk] at c5 HQ hk
  rw [← hkey] at c6 HQ hk
  rw [← hen] at c7 HQ hk
  have HE : Hid (n = T.n ∧ k = T.k ∧ key = T.key ∧ en = T.en) := ⟨hnn, hkk, hkey, hen⟩
  clear h hnn hkk hkey hen hI hL hms hab hk hao hshort
  -- the world behind region 7
  have hT1 : TkM ((w.setCell ⟨t, 8, none⟩ (.bool true)).setCell ⟨t, 9, none⟩ (.int .i64 ma)) t { T with bg := true, ma := ma } := row_put17 _ (row_put17 _ HTk.out)
  have hF1 : Fr [t] w ((w.setCell ⟨t, 8, none⟩ (.bool true)).setCell ⟨t, 9, none⟩ (.int .i64 ma)) := (Fr.set _ _ _ (by simp)).then (Fr.set _ _ _ (by simp))
  go_enter Tryz.func6, Tryz.ntmps6
  go_wp2_with fail
  refine Calls.mono HT.out ?_
  rintro e w1 ⟨rfl, rfl⟩
  go_wp2_with fail
  refine Calls.mono HM.out ?_
  rintro e w1 ⟨rfl, rfl⟩
  clear HT HM
  go_upto_region 8 with fail
  generalize ((w.setCell ⟨t, 8, none⟩ (.bool true)).setCell ⟨t, 9, none⟩ (.int .i64 ma)) = w1 at hT1 hF1 ⊢
  clear c0 c5 c6 c7 c8 c9 z8 z9
  have HT1 : Hid (TkM w1 t { T with bg := true, ma := ma }) := hT1
  have HF1 : Hid (Fr [t] w w1) := hF1
  obtain ⟨hn_, hk_, hkey_, hen_⟩ := HE.out
  have HS : Hid (∀ W, Fr [] w1 W → W.cell? ⟨t, 0, none⟩ = some (.int .i64 n) ∧ W.cell? ⟨t, 5, none⟩ = some (.int .u8 k) ∧ W.cell? ⟨t, 6, none⟩ = some (.string key) ∧ W.cell? ⟨t, 7, none⟩ = some (.string en)) := fun W hW => by
    have hk := hT1.keep hW (by simp)
    exact ⟨by rw [hn_]; exact hk.c0, by rw [hk_]; exact hk.c5, by rw [hkey_]; exact hk.c6, by rw [hen_]; exact hk.c7⟩
  clear hn_ hk_ hkey_ hen_
  obtain ⟨c0, c5, c6, c7⟩ := HS.out w1 (Fr.refl _ _)
  clear hT1 hF1
  go_region_held3 (fun w => w.cell? ⟨t, 0, none⟩ = some (.int .i64 n) ∧ w.cell? ⟨t, 5, none⟩ = some (.int .u8 k) ∧ w.cell? ⟨t, 6, none⟩ = some (.string key) ∧ w.cell? ⟨t, 7, none⟩ = some (.string en)) (first | go_keep | exact ⟨far9 d0 (by omega), far9 d5 (by omega), far9 d6 (by omega), far9 d7 (by omega)⟩)
    (first
      | (with_reducible refine Calls.mono (HQ.out _ (HF1.out.then (Fr.drew _ _))) ?_; rintro e w3 ⟨⟨rk, rf, rn, rkey, ren, ro, rl, rc⟩, rfl, hR, hO, hf3⟩; have hf3' := (Fr.drew [] w1).then hf3; obtain ⟨d0, d5, d6, d7⟩ := HS.out _ hf3'; have hk3 := HT1.out.keep hf3' (by simp); have e10 := hk3.c10; have e11 := hk3.c11; have e12 := hk3.c12; have e13 := hk3.c13; have e14 := hk3.c14; have e15 := hk3.c15; have e16 := hk3.c16; have e17 := hk3.c17; have e18 := hk3.c18; have z10 := hk3.fz 10; have z11 := hk3.fz 11; have z12 := hk3.fz 12; have z13 := hk3.fz 13; have z14 := hk3.fz 14; have z15 := hk3.fz 15; have z16 := hk3.fz 16; have z17 := hk3.fz 17; have z18 := hk3.fz 18))
  have hT4 := set9_tk ⟨rk, rf, rn, rkey, ren, ro, rl, rc⟩ hk3
  have hF4 := set9_fr w3 t ⟨rk, rf, rn, rkey, ren, ro, rl, rc⟩
  have HO4 : Hid (Fr [t] w (set9 w3 t ⟨rk, rf, rn, rkey, ren, ro, rl, rc⟩) ∧ World.ownsRow (set9 w3 t ⟨rk, rf, rn, rkey, ren, ro, rl, rc⟩) w.heap.size 3 1 (.slice ro rl rc) rl (intsC (bsOf T.k ns)) ∧ RqOf T.k T.n ma le T.key T.en ns ⟨rk, rf, rn, rkey, ren, ro, rl, rc⟩ ∧ TkM (set9 w3 t ⟨rk, rf, rn, rkey, ren, ro, rl, rc⟩) t { T with bg := true, ma := ma, r := ⟨rk, rf, rn, rkey, ren, ro, rl, rc⟩ }) := by
    obtain ⟨a1, a2, a3, a4⟩ := HE.out
    rw [a1, a2, a3, a4] at hR
    rw [a2] at hO
    have hsz := HF1.out.size
    refine ⟨(HF1.out.trans hf3' (fun x hx _ => hx) (fun x hx _ => by simp at hx)).trans hF4 (fun x hx _ => hx) (fun x hx _ => hx), owns_less17 (owns_keep17 hO hF4 (fun b hb hm => ?_)) hsz, hR, hT4⟩
    have h1 : w1.heap.size ≤ b := (owns_cells17 hO hb).1
    simp at hm
    omega
  clear hT4 hF4 e10 e11 e12 e13 e14 e15 e16 e17 e18 z10 z11 z12 z13 z14 z15 z16 z17 z18 hk3 hf3 hf3' hO hR d0 d5 d6 d7 HS HT1 HQ
  unfold set9 at HO4
  go_wp2
  go_ret
  exact ⟨rfl, ⟨rk, rf, rn, rkey, ren, ro, rl, rc⟩, HO4.out.2.2.2, HO4.out.2.2.1, HO4.out.2.1, HO4.out.1⟩
end Go.Proofs.YtpdkdgmaofhlkaaGreatDoor
