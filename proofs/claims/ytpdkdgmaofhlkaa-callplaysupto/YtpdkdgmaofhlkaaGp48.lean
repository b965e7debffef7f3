/- Texts of this claim laid together, one behind the other: contracts and plain lemmas; conditions as each names them. -/
import Derived.Test.YtpdkdgmaofhlkaaGp45
import Derived.Test.YtpdkdgmaofhlkaaGp47
/- Both tasks, asked one behind the other. Conditions as named. -/
namespace Go.Proofs.Ytpdkdgmaofhlkaa
open Go.ChangeShapes Go.WideShapes Go.ChangeAt Go.RowKit Go.Lib Go.Sort
set_option linter.unusedVariables false
set_option linter.unusedSimpArgs false

/-- Both tasks lie apart, in memory made since w0. -/
structure Pr (w0 w : World) (t y : Nat) (B1 B2 : List Nat) (T : Tk) (Y : Yt) (le : Int) (ns bs shs : List Int) (rqs : List Rv) (xp xd : List Rx) : Prop where
  pm : PM w B1 t T bs xp
  dm : DM w B2 y Y le ns shs rqs xd
  sep : ∀ b ∈ t :: B1, b ∉ y :: B2
  f1 : ∀ b ∈ t :: B1, w0.heap.size ≤ b
  f2 : ∀ b ∈ y :: B2, w0.heap.size ≤ b
  fr : Fr [] w0 w
section
variable {w0 w w' : World} {t y : Nat} {B1 B2 : List Nat} {T : Tk} {Y : Yt} {le : Int} {ns bs shs : List Int} {rqs : List Rv} {xp xd : List Rx}
theorem Pr.lt1 (h : Pr w0 w t y B1 B2 T Y le ns bs shs rqs xp xd) : ∀ b ∈ t :: B1, b < w.heap.size := fun b hb => by
  rcases List.mem_cons.1 hb with e | e
  · rw [e]; exact h.pm.tk.lt
  · exact h.pm.lt b e
theorem Pr.lt2 (h : Pr w0 w t y B1 B2 T Y le ns bs shs rqs xp xd) : ∀ b ∈ y :: B2, b < w.heap.size := fun b hb => by
  rcases List.mem_cons.1 hb with e | e
  · rw [e]; exact h.dm.yt.lt
  · exact h.dm.lt b e
theorem Pr.keep (h : Pr w0 w t y B1 B2 T Y le ns bs shs rqs xp xd) {S : List Nat} (hf : Fr S w w') (hS : ∀ b ∈ S, b ∉ t :: B1 ∧ b ∉ y :: B2 ∧ w0.heap.size ≤ b) : Pr w0 w' t y B1 B2 T Y le ns bs shs rqs xp xd :=
  ⟨h.pm.keep hf (fun hm => (hS t hm).1 (List.mem_cons_self ..)) (fun b hb hm => (hS b hm).1 (List.mem_cons_of_mem _ hb)), h.dm.keep hf (fun hm => (hS y hm).2.1 (List.mem_cons_self ..)) (fun b hb hm => (hS b hm).2.1 (List.mem_cons_of_mem _ hb)), h.sep, h.f1, h.f2, h.fr.on hf (fun b hb => (hS b hb).2.2)⟩
theorem Pr.setP (h : Pr w0 w t y B1 B2 T Y le ns bs shs rqs xp xd) {B1' : List Nat} {T' : Tk} {bs' : List Int} {xp' : List Rx} (hp : PM w' B1' t T' bs' xp') (hB : ∀ b ∈ B1', b ∈ B1 ∨ w.heap.size ≤ b) {S : List Nat} (hf : Fr S w w') (hS : ∀ z ∈ S, z ∈ t :: B1) : Pr w0 w' t y B1' B2 T' Y le ns bs' shs rqs xp' xd := by
  have hsz := h.fr.size
  refine ⟨hp, h.dm.keep hf (fun hm => h.sep y (hS y hm) (List.mem_cons_self ..)) (fun b hb hm => h.sep b (hS b hm) (List.mem_cons_of_mem _ hb)), fun b hb => ?_, fun b hb => ?_, h.f2, h.fr.on hf (fun b hb => h.f1 b (hS b hb))⟩
  · rcases List.mem_cons.1 hb with e | e
    · rw [e]; exact h.sep t (List.mem_cons_self ..)
    · rcases hB b e with e | e
      · exact h.sep b (List.mem_cons_of_mem _ e)
      · exact fun hm => by have := h.lt2 b hm; omega
  · rcases List.mem_cons.1 hb with e | e
    · rw [e]; exact h.f1 t (List.mem_cons_self ..)
    · rcases hB b e with e | e
      · exact h.f1 b (List.mem_cons_of_mem _ e)
      · omega
theorem Pr.setD (h : Pr w0 w t y B1 B2 T Y le ns bs shs rqs xp xd) {B2' : List Nat} {Y' : Yt} {le' : Int} {ns' shs' : List Int} {rqs' : List Rv} {xd' : List Rx} (hp : DM w' B2' y Y' le' ns' shs' rqs' xd') (hB : ∀ b ∈ B2', b ∈ B2 ∨ w.heap.size ≤ b) {S : List Nat} (hf : Fr S w w') (hS : ∀ z ∈ S, z ∈ y :: B2) : Pr w0 w' t y B1 B2' T Y' le' ns' bs shs' rqs' xp xd' := by
  have hsz := h.fr.size
  refine ⟨h.pm.keep hf (fun hm => h.sep t (List.mem_cons_self ..) (hS t hm)) (fun b hb hm => h.sep b (List.mem_cons_of_mem _ hb) (hS b hm)), hp, fun b hb hm => ?_, h.f1, fun b hb => ?_, h.fr.on hf (fun b hb => h.f2 b (hS b hb))⟩
  · rcases List.mem_cons.1 hm with e | e
    · exact h.sep b hb (by rw [e]; exact List.mem_cons_self ..)
    · rcases hB b e with e | e
      · exact h.sep b hb (List.mem_cons_of_mem _ e)
      · have := h.lt1 b hb; omega
  · rcases List.mem_cons.1 hb with e | e
    · rw [e]; exact h.f2 y (List.mem_cons_self ..)
    · rcases hB b e with e | e
      · exact h.f2 b (List.mem_cons_of_mem _ e)
      · omega
end
/-- Both tasks say the same; the blocks S are neither's. -/
def Pqx (w0 w : World) (t y : Nat) (S : List Nat) : Prop := ∃ (B1 B2 : List Nat) (T : Tk) (Y : Yt) (le : Int) (ns bs shs : List Int) (rqs : List Rv) (xs : List Rx), Pr w0 w t y B1 B2 T Y le ns bs shs rqs xs xs ∧ Lk T Y le ns bs shs rqs xs ∧ (∀ x ∈ xs, RxB w0 x) ∧ ∀ b ∈ S, b ∉ t :: B1 ∧ b ∉ y :: B2 ∧ w0.heap.size ≤ b
theorem Pqx.done {w0 w w' : World} {t y : Nat} {S : List Nat} (h : Pqx w0 w t y S) (hf : Fr S w w') : Pqx w0 w' t y [] := by
  obtain ⟨B1, B2, T, Y, le, ns, bs, shs, rqs, xs, hr, hl, hX, hS⟩ := h
  exact ⟨B1, B2, T, Y, le, ns, bs, shs, rqs, xs, hr.keep hf hS, hl, hX, by simp⟩
theorem Pqx.fr {w0 w : World} {t y : Nat} {S : List Nat} (h : Pqx w0 w t y S) : Fr [] w0 w := by
  obtain ⟨B1, B2, T, Y, le, ns, bs, shs, rqs, xs, hr, hl, hX, hS⟩ := h
  exact hr.fr
theorem Pqx.keep {w0 w w' : World} {t y : Nat} (h : Pqx w0 w t y []) (hf : Fr [] w w') : Pqx w0 w' t y [] := h.done hf
theorem Pqx.stands {w0 w : World} {t y : Nat} (h : Pqx w0 w t y []) : Calls Try.prog 13 #[.pointer (some ⟨t, 0, none⟩), .pointer (some ⟨y, 0, none⟩)] w fun e w' => e = .returned (.bool true) ∧ Pqx w0 w' t y [] := by
  obtain ⟨B1, B2, T, Y, le, ns, bs, shs, rqs, xs, hr, hl, hX, hS⟩ := h
  refine (stands_any hr.pm hr.dm hl hr.fr hX).mono ?_
  rintro e w' ⟨rfl, hf⟩
  exact ⟨rfl, Pqx.keep ⟨B1, B2, T, Y, le, ns, bs, shs, rqs, xs, hr, hl, hX, hS⟩ hf⟩
theorem PM.sent {w w' : World} {B : List Nat} {t : Nat} {T : Tk} {bs : List Int} {xs : List Rx} (h : PM w B t T bs xs) {a : Nat} (hk : TkM w' t { T with ak := a }) (hf : Fr [t] w w') : PM w' B t { T with ak := a } bs xs := by
  have hB : ∀ b ∈ B, b ∉ [t] := fun b hb hm => h.tB (by rw [← List.mem_singleton.1 hm]; exact hb)
  obtain ⟨els, elh, h1, h2, h3, h4, h5, h6⟩ := h.ex
  exact ⟨hk, h.tB, fun b hb => Nat.lt_of_lt_of_le (h.lt b hb) hf.size, h.rp, h.ct, owns_keepB h.bo hf (fun k hk => hB _ (h.bk hk)), h.bl, h.bm, h.bb, els, elh, h1.keep hf hB, h2.keep hf hB, h3, h4, h5, h6⟩
theorem Lk.rl {w : World} {B : List Nat} {y : Nat} {T : Tk} {Y : Yt} {le : Int} {ns bs shs : List Int} {rqs : List Rv} {xs xd : List Rx} (h : Lk T Y le ns bs shs rqs xs) (hd : DM w B y Y le ns shs rqs xd) : Y.rl = if T.bg = true then T.nR else 0 := by
  by_cases hb : T.bg = true
  · rw [if_pos hb, hd.rql]; exact (h.on hb).2.2.1
  · rw [if_neg hb]; exact (h.off (by simpa using hb)).2.2.2.2.2.2.2.2.2.2.1
theorem asks_sentP {w0 w : World} {t y : Nat} (h : Pqx w0 w t y []) (a : Aj) (h0 : (a.k == 0) = false) (h1 : (a.k == 2) = false) : Calls Try.prog 12 #[.pointer (some ⟨t, 0, none⟩), .pointer (some ⟨y, 0, none⟩), .agg a.v] w fun e w' => e = .returned (.bool true) ∧ Pqx w0 w' t y [] := by
  obtain ⟨B1, B2, T, Y, le, ns, bs, shs, rqs, xs, hr, hl, hX, _⟩ := h
  have hrl := hl.rl hr.dm
  have hnR := T.nR_le hl.may
  refine asks_sent_gen _ _ a h0 h1 T.seE (fun W => Pr w0 W t y B1 B2 { T with ak := if T.bg = true ∧ T.ak < T.nR then T.ak + 1 else T.ak } Y le ns bs shs rqs xs xs) _ (fun W hW => ?_) (fun W hA => ?_)
  · have hk := hr.keep hW (by simp)
    refine (qSent_any hk.pm.tk hl.n hl.may hl.okc hl.ak16).mono ?_
    rintro e w' ⟨rfl, h1, h2⟩
    exact ⟨rfl, hk.setP (hk.pm.sent h1 h2) (fun b hb => Or.inl hb) h2 (fun z hz => by rw [List.mem_singleton.1 hz]; exact List.mem_cons_self ..)⟩
  · by_cases hc : T.bg = true ∧ T.ak < T.nR
    · rw [if_pos hc] at hA
      have hrl2 : Y.rl = T.nR := by rw [hrl, if_pos hc.1]
      refine (ysent_any hA.dm.yt (by rw [hl.yak, hrl2]; exact hc.2) (by rw [hrl2]; exact hnR)).mono ?_
      rintro e w' ⟨rfl, h1, h2⟩
      refine ⟨by rw [show T.seE = 0 from if_pos hc], B1, B2, _, _, le, ns, bs, shs, rqs, xs, hA.setD (hA.dm.sent h1 h2) (fun b hb => Or.inl hb) h2 (fun z hz => by rw [List.mem_singleton.1 hz]; exact List.mem_cons_self ..), ⟨hl.n, hl.may, hl.okc, hl.yn, hl.yl, hl.ys, hl.yx, hl.yq, hl.yk, hl.ykey, hl.yen, hl.ybg, hl.yma, ?_, ?_, ?_, fun hb => ?_, hl.on⟩, hX, by simp⟩
      · show Y.ak + 1 = T.ak + 1
        rw [hl.yak]
      · exact hc.2
      · show xs.length ≤ T.ak + 1
        have := hl.xl
        omega
      · exact absurd (show T.bg = false from hb) (by rw [hc.1]; decide)
    · rw [if_neg hc] at hA
      refine (ysent_idle hA.dm.yt ?_ (by rw [hl.yak]; exact hl.ak16)).mono ?_
      · rw [hrl, hl.yak]
        by_cases hb : T.bg = true
        · rw [if_pos hb]; exact Nat.le_of_not_lt (fun h => hc ⟨hb, h⟩)
        · rw [if_neg hb]; exact Nat.zero_le _
      · rintro e w' ⟨rfl, hf⟩
        exact ⟨by rw [show T.seE = 9 from if_neg hc], B1, B2, T, Y, le, ns, bs, shs, rqs, xs, hA.keep hf (by simp), hl, hX, by simp⟩
end Go.Proofs.Ytpdkdgmaofhlkaa
/- Both tasks begin. Conditions as named. -/
namespace Go.Proofs.Ytpdkdgmaofhlkaa
open Go.ChangeShapes Go.WideShapes Go.ChangeAt Go.RowKit Go.Lib Go.Sort
set_option linter.unusedVariables false
set_option linter.unusedSimpArgs false

theorem irs_twin {W : World} {b : Nat} {ns : List Int} (h : W.heap[b]? = some (.cells (intsT (ns ++ [7777])).toArray 3 (0, 0))) (hf : ns.length ≤ 17592186044416) : IRs W (some ⟨b, 0, none⟩) ns :=
  ⟨fun _ => ⟨b, 0, rfl, lt_of_block h, fun i hi => by
    rw [cell_of_row _ _ _ _ _ _ h]
    simp [intsT, List.getElem?_append_left, hi, List.getD]⟩, hf⟩
theorem ixs_len (n : Nat) : (ixs n).length = n := by simp [ixs]
theorem ixs_get {n i : Nat} (h : i < n) : (ixs n).getD i 0 = (i : Int) := by simp [ixs, List.getD, h]
theorem bg_ok {bg : Bool} {ma le : Int} {ns : List Int} (h : bgE bg ma le ns = 0) : bg = false ∧ mayBg ma le ns := by
  unfold bgE at h
  cases bg with
  | true => simp at h
  | false =>
    by_cases hm : mayBg ma le ns
    · exact ⟨rfl, hm⟩
    · simp [hm] at h
theorem asks_beginP {w0 w : World} {t y : Nat} (h : Pqx w0 w t y []) (a : Aj) (hA0 : AjB w0 a) (h0 : a.k = 0) : Calls Try.prog 12 #[.pointer (some ⟨t, 0, none⟩), .pointer (some ⟨y, 0, none⟩), .agg a.v] w fun e w' => e = .returned (.bool true) ∧ Pqx w0 w' t y [] := by
  obtain ⟨B1, B2, T, Y, le, ns, bs, shs, rqs, xs, hr, hl, hX, _⟩ := h
  have hA : AjB w a := hA0.keep hr.fr
  have hnew : ∀ b, w.heap.size ≤ b → b ∉ t :: B1 ∧ b ∉ y :: B2 ∧ w0.heap.size ≤ b := fun b hb => ⟨fun hm => by have := hr.lt1 b hm; omega, fun hm => by have := hr.lt2 b hm; omega, by have := hr.fr.size; omega⟩
  have hfew := hA.is.few
  by_cases hE : bgE T.bg a.ma a.le a.ns = 0
  · obtain ⟨hbg, hm⟩ := bg_ok hE
    obtain ⟨o1, o2, o3, o4, o5, o6, o7⟩ := hl.off hbg
    have hlong : (bsOf T.k a.ns).length ≤ 65536 := by
      unfold bsOf
      split
      · exact Ab.short (by have := hm.1; omega) hm.2.2.2.2
      · simp
    have fin : ∀ (W w' : World) (B1' : List Nat) (r : Rv) (b : Nat) (shs' : List Int) (rqs' : List Rv) (so ro : Option Addr) (sc rc : Nat), Pr w0 W t y B1' B2 { T with bg := true, ma := a.ma, r := r } Y le ns (bsOf T.k a.ns) shs rqs xs xs → RqOf T.k T.n a.ma a.le T.key T.en a.ns r → (b ∉ t :: B1' ∧ b ∉ y :: B2 ∧ w0.heap.size ≤ b) → b < W.heap.size → Bi W w' y Y a.ma a.le a.ns so T.nR sc ro T.nR rc shs' rqs' → rqs'.length = T.nR → shs'.length = T.nR → (∀ i, i < T.nR → shs'.getD i 0 = T.sh i) → Pqx w0 w' t y [b] ∧ Old w W w' := by
      intro W w' B1' r b shs' rqs' so ro sc rc hP hq hb hbl hB hr1 hr2 hs
      obtain ⟨B2', hd, hB2⟩ := hP.dm.begun hB hr1 hr2
      refine ⟨⟨B1', B2', _, _, a.le, a.ns, _, shs', rqs', xs, hP.setD hd hB2 hB.fr (fun z hz => by rw [List.mem_singleton.1 hz]; exact List.mem_cons_self ..), ⟨hl.n, hl.may, hl.okc, hl.yn, hl.yl, hl.ys, hl.yx, hl.yq, hl.yk, hl.ykey, hl.yen, rfl, rfl, hl.yak, hl.ak, hl.xl, fun hb => (by cases hb), fun _ => ⟨hq, rfl, hr1, hr2, hs⟩⟩, hX, fun z hz => ?_⟩, [y], hB.fr, fun z hz => ?_⟩
      · rw [List.mem_singleton.1 hz]
        refine ⟨hb.1, fun hm => ?_, hb.2.2⟩
        rcases List.mem_cons.1 hm with e | e
        · exact hb.2.1 (by rw [e]; exact List.mem_cons_self ..)
        · rcases hB2 b e with e | e
          · exact hb.2.1 (List.mem_cons_of_mem _ e)
          · omega
      · rw [List.mem_singleton.1 hz]
        exact hr.lt2 y (List.mem_cons_self ..)
    refine asks_begin_gen _ _ a hA h0 0 (fun b W => ∃ B1' r, Pr w0 W t y B1' B2 { T with bg := true, ma := a.ma, r := r } Y le ns (bsOf T.k a.ns) shs rqs xs xs ∧ RqOf T.k T.n a.ma a.le T.key T.en a.ns r ∧ (b ∉ t :: B1' ∧ b ∉ y :: B2 ∧ w0.heap.size ≤ b) ∧ b < W.heap.size) (fun b W => Pqx w0 W t y [b]) _ (fun W b hW hb hrow => ?_) (fun W b hQ => ?_) (fun W b hQ => hA0.is.keep hQ.fr) (fun W W' b hQ hf => hQ.done hf)
    · have hk := hr.keep hW (by simp)
      have hnb := hnew b hb
      refine (qbegin_any hk.pm.tk hl.n a.ma a.le (some ⟨b, 0, none⟩) a.bl (a.bl + 1) a.ns (irs_twin hrow hfew) hA.bl hbg hm hl.okc (fun ad e => by cases e; exact fun e2 => hnb.1 (by rw [show b = t from e2]; exact List.mem_cons_self ..))).mono ?_
      rintro e w' ⟨r, rfl, h1, h2, h3, h4⟩
      obtain ⟨q1, q2⟩ := hk.pm.begun h1 h2.ebl (by rw [h2.ebl]; omega) h3 h4
      have hbW : b < W.heap.size := lt_of_block hrow
      refine ⟨rfl, ⟨_, r, hk.setP q1 q2 h4 (fun z hz => by rw [List.mem_singleton.1 hz]; exact List.mem_cons_self ..), h2, ⟨fun hm => ?_, hnb.2⟩, Nat.lt_of_lt_of_le hbW h4.size⟩, [t], h4, fun z hz => by rw [List.mem_singleton.1 hz]; exact hr.lt1 t (List.mem_cons_self ..)⟩
      rcases List.mem_cons.1 hm with e | e
      · exact hnb.1 (by rw [e]; exact List.mem_cons_self ..)
      · rcases q2 b e with e | e
        · exact hnb.1 (List.mem_cons_of_mem _ e)
        · omega
    · obtain ⟨B1', r, hP, hq, hb, hbl⟩ := hQ
      have hao : 0 < a.ns.length → ∀ ad, a.bo = some ad → ad.block ≠ y := fun hp ad e => by
        obtain ⟨b', off, e1, e2, _⟩ := hA0.is.lies hp
        rw [e] at e1
        cases e1
        have := hP.f2 y (List.mem_cons_self ..)
        show b' ≠ y
        omega
      have hoC : okC Y.k Y.key Y.en := by rw [hl.yk, hl.ykey, hl.yen]; exact hl.okc
      by_cases hk1 : T.k = 1
      · have hnR : T.nR = 1 := if_pos hk1
        have hkz : T.key.size ≤ 64 := by
          rcases hl.okc with ⟨_, h2, _⟩ | ⟨h1, _⟩ | ⟨h1, _⟩
          · exact h2.2
          · omega
          · omega
        refine (ybegin1 hP.dm.yt a.ma a.le a.bo a.bl a.bc a.ns (hA0.is.keep hP.fr) hA.bl (by rw [hl.ybg]; exact hbg) hm hoC (by rw [hl.yk]; exact hk1) (by rw [hl.ykey]; exact hkz) o7 hao).mono ?_
        rintro e w' ⟨rfl, so, sc, ro, rc, rqs', hB, hR⟩
        refine ⟨rfl, fin W w' B1' r b _ rqs' so ro sc rc hP hq hb hbl (by rw [hnR]; exact hB) (by rw [hnR]; exact hR) (by rw [hnR]; rfl) (fun i hi => ?_)⟩
        have hi0 : i = 0 := by omega
        subst hi0
        rw [show T.sh 0 = (Cf.shard ⟨T.l, T.s, T.x, T.q⟩ T.key).1 from if_pos hk1, hl.yl, hl.ys, hl.yx, hl.yq, hl.ykey]
        rfl
      · have hnR : T.nR = T.s.toNat := if_neg hk1
        refine (ybeginN hP.dm.yt a.ma a.le a.bo a.bl a.bc a.ns (hA0.is.keep hP.fr) hA.bl (by rw [hl.ybg]; exact hbg) hm hoC (by rw [hl.yk]; exact hk1) (by rw [hl.ys]; exact hl.may.2.1) o7 hao).mono ?_
        rintro e w' ⟨rfl, so, sc, ro, rc, rqs', hB, hR⟩
        rw [hl.ys] at hB hR
        refine ⟨rfl, fin W w' B1' r b _ rqs' so ro sc rc hP hq hb hbl (by rw [hnR]; exact hB) (by rw [hnR]; exact hR) (by rw [hnR, ixs_len]) (fun i hi => ?_)⟩
        rw [show T.sh i = (i : Int) from if_neg hk1]
        exact ixs_get (by rw [← hnR]; exact hi)
  · refine asks_begin_gen _ _ a hA h0 (bgE T.bg a.ma a.le a.ns) (fun b W => Pr w0 W t y B1 B2 T Y le ns bs shs rqs xs xs ∧ (b ∉ t :: B1 ∧ b ∉ y :: B2 ∧ w0.heap.size ≤ b)) (fun b W => Pqx w0 W t y [b]) _ (fun W b hW hb hrow => ?_) (fun W b hQ => ?_) (fun W b hQ => hA0.is.keep hQ.fr) (fun W W' b hQ hf => hQ.done hf)
    · have hk := hr.keep hW (by simp)
      refine (qbegin_bad hk.pm.tk hl.n a.ma a.le (some ⟨b, 0, none⟩) a.bl (a.bl + 1) a.ns (irs_twin hrow hfew) hA.bl hE).mono ?_
      rintro e w' ⟨rfl, rfl⟩
      exact ⟨rfl, ⟨hk, hnew b hb⟩, [], Fr.refl _ _, by simp⟩
    · have := ybegin_bad hQ.1.dm.yt a.ma a.le a.bo a.bl a.bc a.ns (hA0.is.keep hQ.1.fr) hA.bl (by rw [hl.ybg]; exact hE)
      rw [hl.ybg] at this
      refine this.mono ?_
      rintro e w' ⟨rfl, rfl⟩
      exact ⟨rfl, ⟨B1, B2, T, Y, le, ns, bs, shs, rqs, xs, hQ.1, hl, hX, fun z hz => by rw [List.mem_singleton.1 hz]; exact hQ.2⟩, [], Fr.refl _ _, by simp⟩
end Go.Proofs.Ytpdkdgmaofhlkaa
/- Both tasks take a reply. Conditions as named. -/
namespace Go.Proofs.Ytpdkdgmaofhlkaa
open Go.ChangeShapes Go.WideShapes Go.ChangeAt Go.RowKit Go.Lib Go.Sort
set_option linter.unusedVariables false
set_option linter.unusedSimpArgs false

theorem rrE_of {w : World} {ao : Option Addr} {es : List Ey} (h : YRs w ao es) : RrE w ao es := fun j u hu => by
  have h0 : 0 < es.length := by
    cases es with
    | nil => simp [eysC] at hu
    | cons x xs => simp
  obtain ⟨b, off, e, hb, _⟩ := h.lies h0
  obtain ⟨b', off', e', hc⟩ := h.cells hu
  rw [e] at e'
  cases e'
  exact ⟨b, off, e, hb, hc⟩
theorem rrH_at {w : World} {b off : Nat} {hs : List Hd} (hb : b < w.heap.size) (h : ∀ i, i < hs.length → w.cell? ⟨b, off + i * 2, none⟩ = some (.string (hs.getD i Hd.zero).key) ∧ w.cell? ⟨b, off + i * 2 + 1, none⟩ = some (.slice (hs.getD i Hd.zero).vo (hs.getD i Hd.zero).L (hs.getD i Hd.zero).cap)) : RrH w (some ⟨b, off, none⟩) hs := fun j u hu => by
  refine ⟨b, off, rfl, hb, ?_⟩
  have hj : j < hs.length * 2 := by
    have := (List.getElem?_eq_some_iff.1 hu).1
    have h2 := hdsC_length hs
    omega
  have hd : j = j / 2 * 2 + j % 2 := by omega
  have hi : j / 2 < hs.length := by omega
  obtain ⟨g1, g2⟩ := hdsC_get hs (j / 2) hi
  obtain ⟨k1, k2⟩ := h (j / 2) hi
  rcases (by omega : j % 2 = 0 ∨ j % 2 = 1) with e | e
  · rw [show j = j / 2 * 2 by omega] at hu
    rw [show off + j = off + j / 2 * 2 by omega, k1]
    rw [g1] at hu
    exact hu
  · rw [show j = j / 2 * 2 + 1 by omega] at hu
    rw [show off + j = off + j / 2 * 2 + 1 by omega, k2]
    rw [g2] at hu
    exact hu
theorem RdH.of_hrs {w : World} {ao : Option Addr} {hs : List Hd} (h : HRs w ao hs) : RdH w ao hs := by
  refine ⟨?_, fun x hx => ⟨(h.each x hx).rs, (h.each x hx).len⟩⟩
  by_cases h0 : 0 < hs.length
  · obtain ⟨b, off, e, hb, hc⟩ := h.lies h0
    rw [e]
    exact rrH_at hb hc
  · rw [show hs = [] from List.length_eq_zero_iff.1 (by omega)]
    exact RrH.nil _ _
theorem rrE_twin {W : World} {be : Nat} {es : List Ey} (h : W.heap[be]? = some (.cells (eysC (es ++ [spE])).toArray 85 (0, 0))) : RrE W (some ⟨be, 0, none⟩) es := fun j u hu => by
  refine ⟨be, 0, rfl, lt_of_block h, ?_⟩
  rw [cell_of_row _ _ _ _ _ _ h, Nat.zero_add, eysC_append]
  have hj := (List.getElem?_eq_some_iff.1 hu).1
  simp only [List.getElem?_toArray]
  rw [List.getElem?_append_left hj]
  exact hu
theorem rrH_twin {W : World} {bh : Nat} {hs : List Hd} {z : Hd} (h : W.heap[bh]? = some (.cells (hdsC (hs ++ [z])).toArray 88 (0, 0))) : RrH W (some ⟨bh, 0, none⟩) hs := fun j u hu => by
  refine ⟨bh, 0, rfl, lt_of_block h, ?_⟩
  rw [cell_of_row _ _ _ _ _ _ h, Nat.zero_add, hdsC_append]
  have hj := (List.getElem?_eq_some_iff.1 hu).1
  simp only [List.getElem?_toArray]
  rw [List.getElem?_append_left hj]
  exact hu
theorem VRs.twin {W : World} {k : Nat} {vs : List Vn} (h : W.heap[k]? = some (.cells (vnsC (vs ++ [spV])).toArray 90 (0, 0))) (hf : vs.length ≤ 4398046511104) (he : ∀ x ∈ vs, VEach x) : VRs W (some ⟨k, 0, none⟩) vs := by
  refine VRs.of_cells (fun _ => lt_of_block h) (fun j u hu => ?_) hf he
  rw [cell_of_row _ _ _ _ _ _ h, Nat.zero_add, vnsC_append]
  have hj := (List.getElem?_eq_some_iff.1 hu).1
  simp only [List.getElem?_toArray]
  rw [List.getElem?_append_left hj]
  exact hu
theorem twTs_kv : ∀ (hs : List Hd) (ks : List Nat), ks.length = hs.length → (twTs hs ks).map Hd.kv = hs.map Hd.kv
  | [], _, _ => by simp [twTs]
  | h :: hs, [], e => by simp at e
  | h :: hs, k :: ks, e => by
    have := twTs_kv hs ks (by simpa using e)
    unfold twTs at *
    simp only [List.zipWith_cons_cons, List.map_cons, this]
    rfl
/-- The twin says what the reply says. -/
theorem TwR.rt {wA W : World} {t : Nat} {r : Rp} {es : List Ey} {hs : List Hd} {be bh : Nat} {ks : List Nat} (h : TwR wA W r es hs be bh ks) (ht : t < wA.heap.size) (hB : RpB W r es hs) (me : r.el ≤ 4194304) (mh : r.hl ≤ 4194304) : RtB W t (twRp r be bh) ⟨r, es, hs⟩ (twTs hs ks) := by
  have n : ∀ k, wA.heap.size ≤ k → k ∉ [t] := fun k hk hm => by have := List.mem_singleton.1 hm; omega
  refine ⟨fun V hV => rrE_twin (hV.keep h.re (n _ h.ne)), hB.el, me, fun V hV => ⟨rrH_twin (hV.keep h.rh (n _ h.nh)), fun z hz => ?_⟩, ?_, mh, twTs_kv hs ks h.tw.len, rfl⟩
  · obtain ⟨i, hi⟩ := List.getElem?_of_mem hz
    obtain ⟨x, k, e1, e2, rfl⟩ := twTs_get hi
    have hx := hB.yh.each x (List.mem_of_getElem? e1)
    exact ⟨VRs.twin (hV.keep (h.tw.row i x k e1 e2) (n _ (h.tw.new k (List.mem_of_getElem? e2)))) hx.rs.few hx.rs.each, hx.len⟩
  · rw [twTs_length _ _ h.tw.len]; exact hB.hl
theorem asks_gotP {w0 w : World} {t y : Nat} (h : Pqx w0 w t y []) (a : Aj) (hA0 : AjB w0 a) (me : a.r.el ≤ 4194304) (mh : a.r.hl ≤ 4194304) (h0 : a.k = 2) : Calls Try.prog 12 #[.pointer (some ⟨t, 0, none⟩), .pointer (some ⟨y, 0, none⟩), .agg a.v] w fun e w' => e = .returned (.bool true) ∧ Pqx w0 w' t y [] := by
  obtain ⟨B1, B2, T, Y, le, ns, bs, shs, rqs, xs, hr, hl, hX, _⟩ := h
  have hA : AjB w a := hA0.keep hr.fr
  have hnew : ∀ {wA W : World} {be bh : Nat} {ks : List Nat}, w.heap.size ≤ wA.heap.size → TwR wA W a.r a.es a.hs be bh ks → ∀ b ∈ be :: bh :: ks, (b ∉ t :: B1 ∧ b ∉ y :: B2 ∧ w0.heap.size ≤ b) ∧ b < W.heap.size := fun {wA W be bh ks} hw hT b hb => by
    have hbn : wA.heap.size ≤ b ∧ b < W.heap.size := by
      rcases List.mem_cons.1 hb with e | e
      · rw [e]; exact ⟨hT.ne, lt_of_block hT.re⟩
      · rcases List.mem_cons.1 e with e | e
        · rw [e]; exact ⟨hT.nh, lt_of_block hT.rh⟩
        · exact ⟨hT.tw.new b e, hT.tw.lt b e⟩
    exact ⟨⟨fun hm => by have := hr.lt1 b hm; omega, fun hm => by have := hr.lt2 b hm; omega, by have := hr.fr.size; omega⟩, hbn.2⟩
  have hpl : Y.pl = T.rp := by rw [hr.dm.pll, hr.pm.rp]
  have hrp : T.rp ≤ T.ak := by rw [hr.pm.rp]; exact hl.xl
  have hak := hl.ak16
  -- neither takes it
  have still : ∀ E : Int, (∀ (W : World) (be bh : Nat), TkM W t T → Calls Try.prog 21 #[.pointer (some ⟨t, 0, none⟩), .agg (twRp a.r be bh).a] W fun e w' => e = .returned (.int .i64 E) ∧ Fr [] W w') → (∀ W, YtM W y Y → Calls Try.prog 29 #[.pointer (some ⟨y, 0, none⟩), .agg a.r.a] W fun e w' => e = .returned (.int .i64 E) ∧ Fr [] W w') → Calls Try.prog 12 #[.pointer (some ⟨t, 0, none⟩), .pointer (some ⟨y, 0, none⟩), .agg a.v] w fun e w' => e = .returned (.bool true) ∧ Pqx w0 w' t y [] := fun E c1 c2 => by
    refine asks_got_gen _ _ a hA h0 E (fun be bh ks W => Pqx w0 W t y (be :: bh :: ks) ∧ Pr w0 W t y B1 B2 T Y le ns bs shs rqs xs xs) (fun be bh ks W => Pqx w0 W t y (be :: bh :: ks)) _ (fun W wA be bh ks hW hw hT => ?_) (fun W be bh ks hQ => ?_) (fun W be bh ks hQ => hA0.rp.keep hQ.fr) (fun W W' be bh ks hQ hf => hQ.done hf)
    · have hk := hr.keep hW (by simp)
      refine (c1 W be bh hk.pm.tk).mono ?_
      rintro e w' ⟨rfl, hf⟩
      have hk2 := hk.keep hf (by simp)
      exact ⟨rfl, ⟨⟨B1, B2, T, Y, le, ns, bs, shs, rqs, xs, hk2, hl, hX, fun b hb => (hnew hw hT b hb).1⟩, hk2⟩, [], hf, by simp⟩
    · obtain ⟨⟨C1, C2, T', Y', le', ns', bs', shs', rqs', xs', q1, q2, q3, q4⟩, hk⟩ := hQ
      refine (c2 W hk.dm.yt).mono ?_
      rintro e w' ⟨rfl, hf⟩
      exact ⟨rfl, ⟨C1, C2, T', Y', le', ns', bs', shs', rqs', xs', q1.keep hf (by simp), q2, q3, q4⟩, [], hf, by simp⟩
  by_cases he : T.rp = T.ak
  · exact still 9 (fun W be bh hk => qGot_idle _ hk hl.n he) (fun W hy => ygot_idle a.r hy (by rw [hl.yak, hpl]; omega) (by omega))
  · by_cases hto : a.r.to_ = T.n
    · have hx : RxB w0 ⟨a.r, a.es, a.hs⟩ := ⟨rrE_of hA0.rp.ye, hA0.rp.el, me, RdH.of_hrs hA0.rp.yh, hA0.rp.hl, mh⟩
      refine asks_got_gen _ _ a hA h0 0 (fun be bh ks W => ∃ B1' ev hv ct, Pr w0 W t y B1' B2 { T with rp := T.rp + 1, ev := ev, hv := hv, ct := ct } Y le ns bs shs rqs (xs ++ [⟨a.r, a.es, a.hs⟩]) xs ∧ ∀ b ∈ be :: bh :: ks, (b ∉ t :: B1' ∧ b ∉ y :: B2 ∧ w0.heap.size ≤ b) ∧ b < W.heap.size) (fun be bh ks W => Pqx w0 W t y (be :: bh :: ks)) _ (fun W wA be bh ks hW hw hT => ?_) (fun W be bh ks hQ => ?_) (fun W be bh ks hQ => hA0.rp.keep hQ.fr) (fun W W' be bh ks hQ hf => hQ.done hf)
      · have hk := hr.keep hW (by simp)
        have ht := hr.lt1 t (List.mem_cons_self ..)
        refine (got_pm hk.pm hl.n hl.okc he (by omega) (twRp a.r be bh) ⟨a.r, a.es, a.hs⟩ (twTs a.hs ks) hto (hT.rt (by omega) (hA.rp.keep hW) me mh)).mono ?_
        rintro e w' ⟨rfl, T', B1', q1, q2, ⟨ev, hv, ct, rfl⟩, q3, q4⟩
        refine ⟨rfl, ⟨B1', ev, hv, ct, hk.setP q1 q3 q4 (fun z hz => hz), fun b hb => ?_⟩, t :: B1, q4, hr.lt1⟩
        obtain ⟨n1, n2⟩ := hnew hw hT b hb
        refine ⟨⟨fun hm => ?_, n1.2⟩, Nat.lt_of_lt_of_le n2 q4.size⟩
        rcases List.mem_cons.1 hm with e | e
        · exact n1.1 (by rw [e]; exact List.mem_cons_self ..)
        · rcases q3 b e with e | e
          · exact n1.1 (List.mem_cons_of_mem _ e)
          · omega
      · obtain ⟨B1', ev, hv, ct, hP, hb⟩ := hQ
        refine (ygot_ok a.r (rxC xs) hP.dm.yt (by rw [hl.yak, hpl]; omega) (by rw [hl.yak]; exact hak) (by rw [hl.yn]; exact hto) hP.dm.row).mono ?_
        rintro e w' ⟨rfl, hg⟩
        obtain ⟨B2', po, pc, q1, q2, q3⟩ := hP.dm.got (x := ⟨a.r, a.es, a.hs⟩) hg
        refine ⟨rfl, ⟨B1', B2', _, _, le, ns, bs, shs, rqs, _, hP.setD q1 q2 q3 (fun z hz => hz), ⟨hl.n, hl.may, hl.okc, hl.yn, hl.yl, hl.ys, hl.yx, hl.yq, hl.yk, hl.ykey, hl.yen, hl.ybg, hl.yma, hl.yak, hl.ak, ?_, hl.off, hl.on⟩, fun x hxm => ?_, fun b hbm => ?_⟩, y :: B2, q3, hr.lt2⟩
        · have := hr.pm.rp
          show (xs ++ [_]).length ≤ T.ak
          rw [List.length_append]
          simp only [List.length_cons, List.length_nil]
          omega
        · rcases List.mem_append.1 hxm with e | e
          · exact hX x e
          · rw [List.mem_singleton.1 e]; exact hx
        · obtain ⟨⟨n1, n2, n3⟩, n4⟩ := hb b hbm
          refine ⟨n1, fun hm => ?_, n3⟩
          rcases List.mem_cons.1 hm with e | e
          · exact n2 (by rw [e]; exact List.mem_cons_self ..)
          · rcases q2 b e with e | e
            · exact n2 (List.mem_cons_of_mem _ e)
            · omega
    · exact still 1 (fun W be bh hk => qGot_arg _ hk hl.n he hto) (fun W hy => ygot_arg a.r hy (by rw [hl.yak, hpl]; omega) (by rw [hl.yak]; exact hak) (by rw [hl.yn]; exact hto))
end Go.Proofs.Ytpdkdgmaofhlkaa
