/- An owner of the machine is asked, and serves. Conditions as each names them. -/
import Derived.Test.YtakbodlicfmkjaaGreatEv20
namespace Go.Proofs.YtakbodlicfmkjaaGreat
open Go.ChangeShapes Go.WideShapes Go.ChangeAt Go.RowKit Go.Lib Go.Maps
set_option linter.unusedVariables false
set_option linter.unusedSimpArgs false
section
variable {w0 w w' : World} {c : Cf} {T : List Tx} {Z : Lay} {s : Ms}
theorem upd_id {α : Type} (f : Nat → α) (i : Nat) : upd f i (f i) = f := by
  funext j
  by_cases h : j = i
  · subst h; rw [upd_same]
  · rw [upd_other _ _ h]
theorem OM_own {w : World} {ob sb b g : Nat} {pb : Option Nat} {j : Nat} (h : O.OM w b g pb j) : O.OwnA ob sb b g pb w j := by
  rcases h with h | h | h | ⟨_, h⟩
  · exact Or.inr (Or.inr (Or.inr (Or.inl h)))
  · exact Or.inr (Or.inr (Or.inr (Or.inr (Or.inl h))))
  · exact Or.inr (Or.inr (Or.inl h))
  · exact Or.inr (Or.inr (Or.inr (Or.inr (Or.inr h))))
theorem mask_any (h : MaM w0 w c T Z s) {j : Nat} (hj : j < c.s.toNat) (f n : Int) (y : Wt) (hf : 1 ≤ f ∧ f ≤ 16) (hn : 1 ≤ n ∧ n ≤ 65536) (hy : okW y) (hroom : ((s.qs j).length : Int) < c.q) :
    Calls Tryz.prog 278 #[.pointer (some ⟨Z.z.ob j, 0, none⟩), .agg #[.int .u8 1, .int .i64 f, .int .i64 n, .string y.key, .string y.val, .bool y.drop, .string ⟨#[]⟩, .string ⟨#[]⟩, .slice none 0 0]] w fun e w' => e = .returned (.tuple #[.bool true, .int .i64 0]) ∧ ∃ Z', Dn w0 c T w Z s w' Z' { s with qs := upd s.qs j (s.qs j ++ [⟨f, n, y⟩]) } ∧ Z'.nr = Z.nr := by
  have how := h.ow hj
  have hbb := (h.ow' hj).2
  have hq := h.may.2.2.2
  have h1 := how.at (t' := fun k => ¬ (Z.o j).BB k ∧ k < w.heap.size) (fun k hk => Or.inl hk.1)
  have hok : O.okR (O.Rv.q ⟨1, f, n, y.key, y.val, y.drop, ⟨#[]⟩, ⟨#[]⟩, none, 0, 0⟩ []) := by
    refine ⟨by show f ≠ 0; omega, by show 0 ≤ n; omega, by show n ≤ 65536; omega, Or.inl ⟨rfl, ⟨rfl, rfl⟩, rfl, by show 0 < f; omega, by show 0 < n; omega, ⟨hy.1, hy.2.1⟩, hy.2.2.1, ?_⟩⟩
    show y.val.size = 0 ∨ y.drop = false
    cases e : y.drop
    · exact Or.inr rfl
    · exact Or.inl (by rw [hy.2.2.2 e]; rfl)
  refine (O.os_ask h1 (fun k hk => hk.2) ⟨1, f, n, y.key, y.val, y.drop, ⟨#[]⟩, ⟨#[]⟩, none, 0, 0⟩ [] ⟨⟨by show (0 : Int) ≤ 1; omega, by show (1 : Int) ≤ 255; omega⟩, ⟨by show _ ≤ f; omega, by show f ≤ _; omega⟩, ⟨by show _ ≤ n; omega, by show n ≤ _; omega⟩, by have := hy.2.1; show y.key.size ≤ _; omega, by have := hy.2.2.1; show y.val.size ≤ _; omega, by show (0 : Nat) ≤ _; omega, by show (0 : Nat) ≤ _; omega, ⟨fun h => absurd h (by simp), by simp⟩, rfl, Nat.le_refl _⟩).mono ?_
  rintro e w' (⟨k1, _⟩ | ⟨_, k1, _⟩ | ⟨_, _, rfl, pb', k1, ⟨S, sf, sS⟩, k3⟩)
  · exact absurd hok k1
  · rw [List.length_map] at k1; omega
  · have hbl := how.sh.bl
    obtain ⟨sO, sR⟩ := sS hbl
    have hs : w.heap.size ≤ w'.heap.size := sf.size
    let Y : Oy := ⟨(Z.o j).sb, (Z.o j).b, (Z.o j).g, pb', fun k => (Z.o j).BB k ∨ (w.heap.size ≤ k ∧ k < w'.heap.size), (Z.o j).n⟩
    have hD := h.setOw (Y := Y) (M := s.M j) (q := s.qs j ++ [⟨f, n, y⟩]) (k := s.k) hj sf (fun b hb hl => Or.inl (OM_own (sO b hb hl))) ⟨?_, fun k hk => ?_⟩ (fun b hb => ?_) (h.few.2.2 j hj) (Nat.le_refl _)
    · rw [upd_id] at hD
      exact ⟨rfl, _, hD, rfl⟩
    · have e : (s.qs j ++ [(⟨f, n, y⟩ : Qe)]).map Qe.rq = (s.qs j).map Qe.rq ++ [O.Rv.q ⟨1, f, n, y.key, y.val, y.drop, ⟨#[]⟩, ⟨#[]⟩, none, 0, 0⟩ []] := by rw [List.map_append]; rfl
      rw [e]
      exact k1.at fun k hk => by
        by_cases e : k < w.heap.size
        · exact Or.inl ⟨fun x => hk (Or.inl x), e⟩
        · refine Or.inr ?_
          apply Classical.byContradiction
          intro e2
          exact hk (Or.inr ⟨by omega, by omega⟩)
    · rcases hk with hk | hk
      · exact ⟨(hbb k hk).1, Nat.lt_of_lt_of_le (hbb k hk).2 hs⟩
      · exact ⟨Nat.le_trans h.fr.size hk.1, hk.2⟩
    · rcases hb with hb | hb | hb
      · rcases hb with e | e | e | e | e | e
        · exact Or.inl (Or.inl (Or.inl e))
        · exact Or.inl (Or.inl (Or.inr (Or.inl e)))
        · exact Or.inl (Or.inl (Or.inr (Or.inr (Or.inl e))))
        · exact Or.inl (Or.inl (Or.inr (Or.inr (Or.inr (Or.inl e)))))
        · exact (k3 b e).imp (fun x => Or.inl (Or.inr (Or.inr (Or.inr (Or.inr (Or.inl x)))))) id
        · exact (sR b e).imp (fun x => Or.inl (Or.inr (Or.inr (Or.inr (Or.inr (Or.inr x)))))) id
      · exact Or.inl (Or.inr hb)
      · exact Or.inr hb.1
theorem mserve_any (h : MaM w0 w c T Z s) {j : Nat} (hj : j < c.s.toNat) {e : Qe} {r : List Qe} (hq : s.qs j = e :: r) (hn : 1 ≤ e.n ∧ e.n ≤ 65536) (hy : okW e.x) (hno : ∀ v ∈ s.M j e.x.key, v.num ≠ e.n) (hk : s.k < 16000000) :
    Calls Tryz.prog 305 #[.pointer (some ⟨Z.z.ob j, 0, none⟩)] w fun e' w' => e' = .returned (.tuple #[.agg #[.int .i64 e.f, .bool true, .slice none 0 0, .slice none 0 0, .int .i64 0], .int .i64 0]) ∧ ∃ M' Z', O.PutM (s.M j) e.x.key ⟨e.n, e.x.val, e.x.drop⟩ M' true ∧ Dn w0 c T w Z s w' Z' { s with M := upd s.M j M', qs := upd s.qs j r, k := s.k + 1 } ∧ Z'.nr = Z.nr := by
  have how := h.ow hj
  have hbb := (h.ow' hj).2
  have hfew := h.few.2.2 j hj
  rw [hq] at how
  refine (O.os_serve (r := e.rq) (rs := r.map Qe.rq) how (by omega)).mono ?_
  rintro e' w' ⟨ok, eo, el, ec, ho, hl, hc, cc, M', rfl, k1, ⟨S, sf, sS⟩, k3⟩
  have hbl := how.sh.bl
  obtain ⟨sO, sR⟩ := sS hbl
  have hs : w.heap.size ≤ w'.heap.size := sf.size
  rcases k3 with ⟨_, ⟨rfl, rfl, rfl⟩, ⟨rfl, rfl, rfl⟩, rfl, d, hT⟩ | ⟨e1, _⟩ | ⟨e1, _⟩ | ⟨e1, _⟩ | ⟨e1, _⟩
  · have hput : ok = true ∧ O.PutM (s.M j) e.x.key ⟨e.n, e.x.val, e.x.drop⟩ M' true := by
      rcases hT with ⟨_, _, hno', _⟩ | ⟨_, _, hp⟩
      · exact absurd (show O.okP ⟨e.n, e.x.key, e.x.val, e.x.drop⟩ from ⟨⟨hy.1, hy.2.1⟩, hn.1, hn.2, hy.2.2.1, hy.2.2.2⟩) hno'
      · rcases id hp with ⟨_, _, v, hv, hvn⟩ | ⟨e1, _⟩
        · exact absurd hvn (hno v hv)
        · rw [e1] at hp; exact ⟨e1, hp⟩
    obtain ⟨rfl, hput⟩ := hput
    let Y : Oy := ⟨(Z.o j).sb, (Z.o j).b, (Z.o j).g, (Z.o j).pb, (Z.o j).BB, (Z.o j).n + 1⟩
    have hD := h.setOw (Y := Y) (M := M') (q := r) (k := s.k + 1) hj sf (fun b hb hl => Or.inl (OM_own (sO b hb hl))) ⟨k1, fun k hk => ⟨(hbb k hk).1, Nat.lt_of_lt_of_le (hbb k hk).2 hs⟩⟩ (fun b hb => ?_) (by show (Z.o j).n + 1 ≤ s.k + 1; omega) (Nat.le_succ _)
    · exact ⟨rfl, M', _, hput, hD, rfl⟩
    · rcases hb with hb | hb
      · rcases hb with e | e | e | e | e | e
        · exact Or.inl (Or.inl (Or.inl e))
        · exact Or.inl (Or.inl (Or.inr (Or.inl e)))
        · exact Or.inl (Or.inl (Or.inr (Or.inr (Or.inl e))))
        · exact Or.inl (Or.inl (Or.inr (Or.inr (Or.inr (Or.inl e)))))
        · exact Or.inl (Or.inl (Or.inr (Or.inr (Or.inr (Or.inr (Or.inl e))))))
        · exact (sR b e).imp (fun x => Or.inl (Or.inr (Or.inr (Or.inr (Or.inr (Or.inr x)))))) id
      · exact Or.inl (Or.inr hb)
  · exact absurd (show (1 : Int) = 2 from e1) (by decide)
  · exact absurd (show (1 : Int) = 3 from e1) (by decide)
  · exact absurd (show (1 : Int) = 4 from e1) (by decide)
  · exact absurd (show (1 : Int) = 5 from e1) (by decide)
end
end Go.Proofs.YtakbodlicfmkjaaGreat
