/- A gate's Done. Conditions as each names them. -/
import Derived.Test.YtakbodlicfmkjaaGreatGn12
import Derived.Deep.LoopGhost
namespace Go.Proofs.YtakbodlicfmkjaaGreat
open Go.ChangeShapes Go.WideShapes Go.ChangeAt Go.RowKit Go.Lib Go.Maps
set_option linter.unusedVariables false
set_option linter.unusedSimpArgs false

theorem Gt.ins {m n : Int} {xs : List Int} (h : Gt m xs) (h1 : 1 ≤ n) (h2 : n ≤ 65536) (hn : ¬ (n ≤ m ∨ n ∈ xs)) : Gt m (insI n xs) := by
  refine ⟨h.low, h.top, insI_ris n xs h.ris (fun e => hn (Or.inr e)), fun y hy => ?_⟩
  rcases (insI_mem n y xs).1 hy with e | e
  · subst e
    have : ¬ y ≤ m := fun e => hn (Or.inl e)
    omega
  · exact h.bey y e
set_option maxHeartbeats 4000000 in
set_option maxRecDepth 100000 in
theorem adone_any {g : Nat} {m : Int} {ws : List Nat} {xs : List Int} (n : Int) (w : World) (h : GM w g m ws) (hx : Wds ws xs) (hok : Gok m xs) (h1 : 1 ≤ n) (h2 : n ≤ 65536) (hn : ¬ (n ≤ m ∨ n ∈ xs)) :
    Calls Tryz.prog 339 #[.pointer (some ⟨g, 0, none⟩), .int .i64 n] w fun e w' => e = .returned (.tuple #[.int .i64 ((adv m (insI n xs)).1 - m), .int .i64 0]) ∧ (∃ ws', GM w' g (adv m (insI n xs)).1 ws' ∧ Wds ws' (adv m (insI n xs)).2) ∧ Fr [g] w w' := by
  have HTh : Hid (Calls _ _ _ _ _) := athere_any w h
  have hxs : ∀ x ∈ xs, x ≤ 65536 := fun x hx => (hok.1.bey x hx).2
  have HHas : Hid (Calls _ _ _ _ _) := ahas_any n false w h hx hxs ⟨fun e => (by cases e), fun e => absurd e.2 hn⟩
  have hGi := hok.1.ins h1 h2 hn
  have HM : Hid (∀ W, Fr [] w W → GM W g m ws) := fun W hf => h.keep hf (by simp)
  have hm0 := hok.1.low
  have hm1 := hok.1.top
  have HW : Hid (Wds (ws.set (wdOf n) (ws.getD (wdOf n) 0 ||| pw2 (btOf n))) (insI n xs)) := hx.put h1 h2 (fun y => insI_mem n y xs)
  obtain ⟨A, hA⟩ : ∃ A, A = adv m (insI n xs) := ⟨_, rfl⟩
  have HG0 : Hid (Gt m (insI n xs) ∧ adv m (insI n xs) = A) := ⟨hGi, hA.symm⟩
  rw [← hA]
  have HX : Hid (Wds ws xs) := hx
  clear h hx hok hxs hn hGi hA
  go_enter Tryz.func339, Tryz.ntmps339
  go_wp2_with fail
  refine Calls.mono HTh.out ?_
  rintro e w1 ⟨rfl, rfl⟩
  go_wp2_with fail
  refine Calls.mono HHas.out ?_
  rintro e w1 ⟨rfl, hF1⟩
  have c1 := (HM.out _ hF1).c1
  have HS : Hid (Calls _ _ _ _ _) := aset_any n w1 (HM.out _ hF1) HX.out h1 h2
  go_wp2_with fail
  refine Calls.mono HS.out ?_
  rintro e w3 ⟨rfl, hG3, hF3⟩
  have HG3 : Hid (GM w3 g m (ws.set (wdOf n) (ws.getD (wdOf n) 0 ||| pw2 (btOf n)))) := hG3
  have HF3 : Hid (Fr [g] w w3) := hF1.trans hF3 (by simp) (fun x hx _ => hx)
  obtain ⟨ws3, hws3⟩ : ∃ ws3, ws3 = ws.set (wdOf n) (ws.getD (wdOf n) 0 ||| pw2 (btOf n)) := ⟨_, rfl⟩
  rw [← hws3] at HG3 HW
  clear hws3 hG3 hF3 hF1 c1 HS HM HX HTh HHas
  go_wp2_with fail
  go_loopg [28] ((65537 - m).toNat) (fun k v28 wr => ∃ (M : Int) (ys : List Int) (vs : List Nat), (k : Int) = 65537 - M ∧ 0 ≤ M ∧ M ≤ 65536 ∧ Hid (GM wr g M vs ∧ Wds vs ys) ∧ Hid (Gt M ys ∧ adv M ys = A) ∧ Hid (Fr [g] w wr))
  case atStart => exact ⟨m, insI n xs, ws3, by omega, hm0, hm1, ⟨HG3.out, HW.out⟩, HG0, HF3⟩
  case round =>
    obtain ⟨M, ys, vs, hk, hM0, hM1, HG, HI, HF⟩ := hrel
    have HK : Hid ((gk : Int) = 65537 - M) := hk
    clear hk HG0 HG3 HW HF3
    have c1 := HG.out.1.c1
    have hys : ∀ x ∈ ys, x ≤ 65536 := fun x hx => (HI.out.1.bey x hx).2
    by_cases hb : M + 1 ∈ ys
    · have HIs : Hid (Calls _ _ _ _ _) := aisset_any (M + 1) true wr HG.out.1 HG.out.2 (by omega) hys (by simp [hb])
      have hM2 : M + 1 ≤ 65536 := hys _ hb
      obtain ⟨r, hr⟩ : ∃ r, ys = (M + 1) :: r := by
        cases ys with
        | nil => simp at hb
        | cons y r => exact ⟨r, by rw [HI.out.1.head.1 hb]⟩
      have HR : Hid (∀ y, y ∈ r ↔ y ≠ M + 1 ∧ y ∈ ys) := by
        intro y
        rw [hr]
        have hp := List.pairwise_cons.1 (hr ▸ HI.out.1.ris)
        constructor
        · intro hy
          exact ⟨by have := hp.1 y hy; omega, by simp [hy]⟩
        · rintro ⟨h3, h4⟩
          rcases List.mem_cons.1 h4 with e | e
          · exact absurd e h3
          · exact e
      have HI2 : Hid (Gt (M + 1) r ∧ adv (M + 1) r = A) := by
        refine ⟨(hr ▸ HI.out.1).tail rfl, ?_⟩
        rw [← HI.out.2, hr]
        exact (adv_step rfl).symm
      clear hys hb hr
      go_wp2_with fail
      refine Calls.mono HIs.out ?_
      rintro e w4 ⟨rfl, hF4⟩
      have hG4 := HG.out.1.keep hF4 (by simp)
      have c4 := hG4.c1
      have f4 := hG4.free 1
      have hG5 := hG4.mark (M + 1)
      have c5 := hG5.c1
      have HCl : Hid (Calls _ _ _ _ _) := aclear_any (M + 1) _ hG5 HG.out.2 (by omega) hM2
      have HF5 : Hid (Fr [g] w (w4.setCell ⟨g, 1, none⟩ (.int .i64 (M + 1)))) := HF.out.then (hF4.trans (Fr.set (S := [g]) w4 ⟨g, 1, none⟩ _ (by simp)) (by simp) (fun x hx _ => hx))
      clear hG4 hG5 hF4 HIs
      go_wp2_with fail
      refine Calls.mono HCl.out ?_
      rintro e w6 ⟨rfl, ⟨v, hG6, hv⟩, hF6⟩
      have HG6 : Hid (GM w6 g (M + 1) (vs.set (wdOf (M + 1)) v) ∧ Wds (vs.set (wdOf (M + 1)) v) r) := ⟨hG6, HG.out.2.cut (by omega) hM2 HR.out hv⟩
      have HF6 : Hid (Fr [g] w w6) := HF5.out.then hF6
      clear hG6 hv hF6 HF5 HCl HG HF c1 c4 c5 f4
      go_wp2_with fail
      go_roundg (gk - 1)
      case measure => have := HK.out; omega
      case rel => exact ⟨M + 1, r, _, by have := HK.out; omega, by omega, by omega, HG6, HI2, HF6⟩
    · have HIs : Hid (Calls _ _ _ _ _) := aisset_any (M + 1) false wr HG.out.1 HG.out.2 (by omega) hys (by simp [hb])
      have HE : Hid (A = (M, ys)) := by
        rw [Hid, ← HI.out.2]
        exact adv_stop HI.out.1 hb
      clear hys hb
      go_wp2_with fail
      refine Calls.mono HIs.out ?_
      rintro e w4 ⟨rfl, hF4⟩
      have hG4 := HG.out.1.keep hF4 (by simp)
      have c4 := hG4.c1
      have HG4 : Hid (GM w4 g M vs) := hG4
      clear hG4
      go_wp2
      refine bodyPost_ret (results_tmp2 rfl _ _ _) rfl ?_
      rw [HE.out]
      exact ⟨rfl, ⟨vs, HG4.out, HG.out.2⟩, HF.out.then (hF4.mono (by simp))⟩
set_option maxHeartbeats 4000000 in
theorem adone_no {g : Nat} {m : Int} {ws : List Nat} {xs : List Int} (n : Int) (w : World) (h : GM w g m ws) (hx : Wds ws xs) (hok : Gok m xs) (hn : n < 1 ∨ 65536 < n ∨ n ≤ m ∨ n ∈ xs) :
    Calls Tryz.prog 339 #[.pointer (some ⟨g, 0, none⟩), .int .i64 n] w fun e w' => e = .returned (.tuple #[.int .i64 0, .int .i64 1]) ∧ Fr [] w w' := by
  have HTh : Hid (Calls _ _ _ _ _) := athere_any w h
  have hxs : ∀ x ∈ xs, x ≤ 65536 := fun x hx => (hok.1.bey x hx).2
  by_cases h1 : n < 1
  · clear hn h hx hok hxs
    go_enter Tryz.func339, Tryz.ntmps339
    go_wp2_with fail
    refine Calls.mono HTh.out ?_
    rintro e w1 ⟨rfl, rfl⟩
    go_wp2
    refine bodyPost_ret (results_tmp2 rfl _ _ _) rfl ?_
    exact ⟨rfl, Fr.refl _ _⟩
  by_cases h2 : 65536 < n
  · clear hn h hx hok hxs
    go_enter Tryz.func339, Tryz.ntmps339
    go_wp2_with fail
    refine Calls.mono HTh.out ?_
    rintro e w1 ⟨rfl, rfl⟩
    go_wp2
    refine bodyPost_ret (results_tmp2 rfl _ _ _) rfl ?_
    exact ⟨rfl, Fr.refl _ _⟩
  have hq : n ≤ m ∨ n ∈ xs := by
    rcases hn with e | e | e
    · exact absurd e h1
    · exact absurd e h2
    · exact e
  have HHas : Hid (Calls _ _ _ _ _) := ahas_any n true w h hx hxs ⟨fun e => ⟨by omega, hq⟩, fun e => rfl⟩
  clear hn h hx hok hxs hq
  go_enter Tryz.func339, Tryz.ntmps339
  go_wp2_with fail
  refine Calls.mono HTh.out ?_
  rintro e w1 ⟨rfl, rfl⟩
  go_wp2_with fail
  refine Calls.mono HHas.out ?_
  rintro e w1 ⟨rfl, hF1⟩
  go_wp2
  refine bodyPost_ret (results_tmp2 rfl _ _ _) rfl ?_
  exact ⟨rfl, hF1⟩
/-- A gate that lies in block g: its mark, those beyond, rising. -/
structure GG (w : World) (g : Nat) (m : Int) (xs : List Int) : Prop where
  mem : ∃ ws, GM w g m ws ∧ Wds ws xs
  ok : Gok m xs
theorem GG.keep {S : List Nat} {w w' : World} {g : Nat} {m : Int} {xs : List Int} (h : GG w g m xs) (hf : Fr S w w') (hn : g ∉ S) : GG w' g m xs := by
  obtain ⟨ws, h1, h2⟩ := h.mem
  exact ⟨⟨ws, h1.keep hf hn, h2⟩, h.ok⟩
theorem GG.lt {w : World} {g : Nat} {m : Int} {xs : List Int} (h : GG w g m xs) : g < w.heap.size := by
  obtain ⟨ws, h1, _⟩ := h.mem
  exact h1.lt
/-- What Done tells: by how much the mark goes up, and what went wrong; and what the gate is then. -/
structure GDo (m : Int) (xs : List Int) (n : Int) (up er m' : Int) (xs' : List Int) : Prop where
  ok : Gok m' xs'
  or : (¬ (1 ≤ n ∧ n ≤ 65536 ∧ ¬ (n ≤ m ∨ n ∈ xs)) ∧ up = 0 ∧ er = 1 ∧ m' = m ∧ xs' = xs) ∨ ((1 ≤ n ∧ n ≤ 65536 ∧ ¬ (n ≤ m ∨ n ∈ xs)) ∧ up = m' - m ∧ er = 0 ∧ (m', xs') = adv m (insI n xs))
theorem GDo.one {m n up er m' up2 er2 m2 : Int} {xs xs' xs2 : List Int} (h : GDo m xs n up er m' xs') (k : GDo m xs n up2 er2 m2 xs2) : up = up2 ∧ er = er2 ∧ m' = m2 ∧ xs' = xs2 := by
  rcases h.or with ⟨h1, rfl, rfl, rfl, rfl⟩ | ⟨h1, rfl, rfl, h2⟩ <;> rcases k.or with ⟨k1, rfl, rfl, rfl, rfl⟩ | ⟨k1, rfl, rfl, k2⟩
  · exact ⟨rfl, rfl, rfl, rfl⟩
  · exact absurd k1 h1
  · exact absurd h1 k1
  · rw [← h2] at k2
    obtain ⟨rfl, rfl⟩ := Prod.mk.inj k2
    exact ⟨rfl, rfl, rfl, rfl⟩
theorem GDo.ex (m : Int) (xs : List Int) (n : Int) (hok : Gok m xs) : ∃ up er m' xs', GDo m xs n up er m' xs' := by
  by_cases h : 1 ≤ n ∧ n ≤ 65536 ∧ ¬ (n ≤ m ∨ n ∈ xs)
  · have := adv_gt (insI n xs) m (hok.1.ins h.1 h.2.1 h.2.2)
    exact ⟨_, 0, _, _, ⟨this.1, this.2.1⟩, Or.inr ⟨h, rfl, rfl, rfl⟩⟩
  · exact ⟨0, 1, m, xs, hok, Or.inl ⟨h, rfl, rfl, rfl, rfl⟩⟩
/-- What is there behind Done. -/
theorem GDo.there {m n up m' : Int} {xs xs' : List Int} (h : GDo m xs n up 0 m' xs') (hok : Gok m xs) : m ≤ m' ∧ up = m' - m ∧ ∀ y, (y ≤ m' ∨ y ∈ xs') ↔ (y = n ∨ y ≤ m ∨ y ∈ xs) := by
  rcases h.or with ⟨_, _, h, _⟩ | ⟨h1, h2, _, h4⟩
  · cases h
  · have hr : ∀ hg : Gt m (insI n xs), m ≤ m' ∧ up = m' - m ∧ ∀ y, (y ≤ m' ∨ y ∈ xs') ↔ (y = n ∨ y ≤ m ∨ y ∈ xs) := fun hg => by
      have := adv_gt (insI n xs) m hg
      rw [← h4] at this
      refine ⟨this.2.2.1, h2, fun y => (this.2.2.2 y).trans ?_⟩
      rw [insI_mem]
      constructor
      · rintro (e | e | e)
        · exact Or.inr (Or.inl e)
        · exact Or.inl e
        · exact Or.inr (Or.inr e)
      · rintro (e | e | e)
        · exact Or.inr (Or.inl e)
        · exact Or.inl e
        · exact Or.inr (Or.inr e)
    exact hr (hok.1.ins h1.1 h1.2.1 h1.2.2)
theorem gg_done {w : World} {g : Nat} {m n up er m' : Int} {xs xs' : List Int} (h : GG w g m xs) (hd : GDo m xs n up er m' xs') :
    Calls Tryz.prog 339 #[.pointer (some ⟨g, 0, none⟩), .int .i64 n] w fun e w' => e = .returned (.tuple #[.int .i64 up, .int .i64 er]) ∧ GG w' g m' xs' ∧ Fr [g] w w' := by
  obtain ⟨ws, h1, h2⟩ := h.mem
  rcases hd.or with ⟨k1, rfl, rfl, rfl, rfl⟩ | ⟨k1, rfl, rfl, k2⟩
  · refine (adone_no n w h1 h2 h.ok ?_).mono ?_
    · apply Classical.byContradiction
      intro hc
      exact k1 ⟨by have := mt Or.inl hc; omega, by have := mt (fun e => Or.inr (Or.inl e)) hc; omega, fun e => hc (Or.inr (Or.inr e))⟩
    · rintro e w' ⟨rfl, hF⟩
      exact ⟨rfl, h.keep hF (by simp), hF.mono (by simp)⟩
  · refine (adone_any n w h1 h2 h.ok k1.1 k1.2.1 k1.2.2).mono ?_
    rintro e w' ⟨rfl, ⟨ws', h3, h4⟩, hF⟩
    rw [← k2] at h3 h4 ⊢
    exact ⟨rfl, ⟨⟨ws', h3, h4⟩, hd.ok⟩, hF⟩
theorem gg_new (m : Int) (ao : Option Addr) (L cap : Nat) (xs : List Int) (w : World) (hX : IRs w ao xs) (hL : L = xs.length) (hok : Gok m xs) :
    Calls Tryz.prog 60 #[.int .i64 m, .slice ao L cap] w fun e w' => ∃ g, e = .returned (.tuple #[.pointer (some ⟨g, 0, none⟩), .int .i64 0]) ∧ w.heap.size ≤ g ∧ GG w' g m xs ∧ Fr [] w w' := by
  refine (anew_any m ao L cap xs w hX hL).mono ?_
  rintro e w' ⟨hF, ⟨_, g, ws, rfl, h1, h2, h3⟩ | ⟨h1, _⟩⟩
  · exact ⟨g, rfl, h1, ⟨⟨ws, h2, h3⟩, hok⟩, hF⟩
  · exact absurd hok h1
theorem gg_new_no (m : Int) (ao : Option Addr) (L cap : Nat) (xs : List Int) (w : World) (hX : IRs w ao xs) (hL : L = xs.length) (hok : ¬ Gok m xs) :
    Calls Tryz.prog 60 #[.int .i64 m, .slice ao L cap] w fun e w' => e = .returned (.tuple #[.pointer none, .int .i64 1]) ∧ Fr [] w w' := by
  refine (anew_any m ao L cap xs w hX hL).mono ?_
  rintro e w' ⟨hF, ⟨h1, _⟩ | ⟨_, rfl⟩⟩
  · exact absurd h1 hok
  · exact ⟨rfl, hF⟩
theorem gg_mark {w : World} {g : Nat} {m : Int} {xs : List Int} (h : GG w g m xs) : Calls Tryz.prog 23 #[.pointer (some ⟨g, 0, none⟩)] w fun e w' => e = .returned (.int .i64 m) ∧ Fr [] w w' := by
  obtain ⟨ws, h1, _⟩ := h.mem
  refine (amark_any w h1).mono ?_
  rintro e w' ⟨rfl, rfl⟩
  exact ⟨rfl, Fr.refl _ _⟩
theorem gg_has {w : World} {g : Nat} {m : Int} {xs : List Int} (h : GG w g m xs) (n : Int) (b : Bool) (hb : b = true ↔ 1 ≤ n ∧ (n ≤ m ∨ n ∈ xs)) : Calls Tryz.prog 342 #[.pointer (some ⟨g, 0, none⟩), .int .i64 n] w fun e w' => e = .returned (.bool b) ∧ Fr [] w w' := by
  obtain ⟨ws, h1, h2⟩ := h.mem
  exact ahas_any n b w h1 h2 (fun x hx => (h.ok.1.bey x hx).2) hb
end Go.Proofs.YtakbodlicfmkjaaGreat
