/- A reply's twin that is being written over. No conditions. -/
import Derived.Test.YtpdkdgmaofhlkaaGreatDoorAs17
namespace Go.Proofs.YtpdkdgmaofhlkaaGreatDoor
open Go.ChangeShapes Go.WideShapes Go.ChangeAt Go.RowKit Go.Lib
set_option linter.unusedVariables false
set_option linter.unusedSimpArgs false

theorem ty_ne17 {W : World} {b b' : Nat} {cs cs' : Array Value} {t t' : TypeId} (h : W.heap[b]? = some (.cells cs t (0, 0))) (h' : W.heap[b']? = some (.cells cs' t' (0, 0))) (ht : t ≠ t') : b ≠ b' := by
  rintro rfl
  rw [h] at h'
  simp only [Option.some.injEq, Obj.cells.injEq] at h'
  exact ht h'.2.1
theorem put_two {W : World} {b o : Nat} {cs : Array Value} {ty : TypeId} (v0 v1 : Value) (h : W.heap[b]? = some (.cells cs ty (0, 0))) (ho : o + 1 < cs.size) :
    (∃ u, W.cell? ⟨b, o, none⟩ = some u) ∧ (∃ u, W.cell? ⟨b, o + 1, none⟩ = some u) ∧ W.frozen? ⟨b, o, none⟩ = false ∧ W.frozen? ⟨b, o + 1, none⟩ = false ∧
    (∃ cs' : Array Value, ((W.setCell ⟨b, o, none⟩ v0).setCell ⟨b, o + 1, none⟩ v1).heap[b]? = some (.cells cs' ty (0, 0)) ∧ cs'.size = cs.size ∧ ∀ j, j ≠ o → j ≠ o + 1 → cs'[j]? = cs[j]?) ∧
    Fr [b] W ((W.setCell ⟨b, o, none⟩ v0).setCell ⟨b, o + 1, none⟩ v1) := by
  refine ⟨?_, ?_, by simp [World.frozen?, h], by simp [World.frozen?, h], ⟨_, row_put17 _ (row_put17 _ h), by simp, ?_⟩, (Fr.set W ⟨b, o, none⟩ v0 (by simp)).then (Fr.set _ ⟨b, o + 1, none⟩ v1 (by simp))⟩
  · rw [cell_of_row _ _ _ _ _ _ h]
    exact ⟨cs[o]'(by omega), by rw [Array.getElem?_eq_getElem]⟩
  · rw [cell_of_row _ _ _ _ _ _ h]
    exact ⟨cs[o + 1]'(by omega), by rw [Array.getElem?_eq_getElem]⟩
  · intro j h1 h2
    rw [Array.getElem?_setIfInBounds_ne (by omega), Array.getElem?_setIfInBounds_ne (by omega)]
theorem put_three {W : World} {b o : Nat} {cs : Array Value} {ty : TypeId} (v0 v1 v2 : Value) (h : W.heap[b]? = some (.cells cs ty (0, 0))) (ho : o + 2 < cs.size) :
    (∃ u, W.cell? ⟨b, o, none⟩ = some u) ∧ (∃ u, W.cell? ⟨b, o + 1, none⟩ = some u) ∧ (∃ u, W.cell? ⟨b, o + 2, none⟩ = some u) ∧ W.frozen? ⟨b, o, none⟩ = false ∧ W.frozen? ⟨b, o + 1, none⟩ = false ∧ W.frozen? ⟨b, o + 2, none⟩ = false ∧
    (∃ cs' : Array Value, (((W.setCell ⟨b, o, none⟩ v0).setCell ⟨b, o + 1, none⟩ v1).setCell ⟨b, o + 2, none⟩ v2).heap[b]? = some (.cells cs' ty (0, 0)) ∧ cs'.size = cs.size) ∧
    Fr [b] W (((W.setCell ⟨b, o, none⟩ v0).setCell ⟨b, o + 1, none⟩ v1).setCell ⟨b, o + 2, none⟩ v2) := by
  refine ⟨?_, ?_, ?_, by simp [World.frozen?, h], by simp [World.frozen?, h], by simp [World.frozen?, h], ⟨_, row_put17 _ (row_put17 _ (row_put17 _ h)), by simp⟩, ((Fr.set W ⟨b, o, none⟩ v0 (by simp)).then (Fr.set _ ⟨b, o + 1, none⟩ v1 (by simp))).then (Fr.set _ ⟨b, o + 2, none⟩ v2 (by simp))⟩
  · rw [cell_of_row _ _ _ _ _ _ h]
    exact ⟨cs[o]'(by omega), by rw [Array.getElem?_eq_getElem]⟩
  · rw [cell_of_row _ _ _ _ _ _ h]
    exact ⟨cs[o + 1]'(by omega), by rw [Array.getElem?_eq_getElem]⟩
  · rw [cell_of_row _ _ _ _ _ _ h]
    exact ⟨cs[o + 2]'(by omega), by rw [Array.getElem?_eq_getElem]⟩
/-- The keys' twins from the i-th on stand; the versions' rows are as long as they were. -/
structure Ov (w wr : World) (g bh : Nat) (hs : List Hd) (ks : List Nat) (hl : Nat) (bx : Array Value) (i : Nat) : Prop where
  fr : Fr [] w wr
  gn : w.heap.size ≤ g
  hn : w.heap.size ≤ bh
  bxr : wr.heap[g]? = some (.cells bx 53 (0, 0))
  rh : ∃ cs : Array Value, wr.heap[bh]? = some (.cells cs 97 (0, 0)) ∧ cs.size = (hl + 1) * 2 ∧ ∀ j, i ≤ j → j < hl → cs[j * 2 + 1]? = some (.slice (some ⟨ks.getD j 0, 0, none⟩) (hs.getD j Hd.zero).L ((hs.getD j Hd.zero).L + 1))
  rv : ∀ j, j < hl → w.heap.size ≤ ks.getD j 0 ∧ ∃ cs : Array Value, wr.heap[ks.getD j 0]? = some (.cells cs 134 (0, 0)) ∧ cs.size = ((hs.getD j Hd.zero).L + 1) * 3
theorem Ov.ver {w wr : World} {g bh : Nat} {hs : List Hd} {ks : List Nat} {hl : Nat} {bx : Array Value} {i : Nat} (h : Ov w wr g bh hs ks hl bx i) (hi : i < hl) (k : Nat) (hk : k < (hs.getD i Hd.zero).L) (v0 v1 v2 : Value) :
    (∃ u, wr.cell? ⟨ks.getD i 0, k * 3, none⟩ = some u) ∧ (∃ u, wr.cell? ⟨ks.getD i 0, k * 3 + 1, none⟩ = some u) ∧ (∃ u, wr.cell? ⟨ks.getD i 0, k * 3 + 2, none⟩ = some u) ∧ wr.frozen? ⟨ks.getD i 0, k * 3, none⟩ = false ∧ wr.frozen? ⟨ks.getD i 0, k * 3 + 1, none⟩ = false ∧ wr.frozen? ⟨ks.getD i 0, k * 3 + 2, none⟩ = false ∧
    Ov w (((wr.setCell ⟨ks.getD i 0, k * 3, none⟩ v0).setCell ⟨ks.getD i 0, k * 3 + 1, none⟩ v1).setCell ⟨ks.getD i 0, k * 3 + 2, none⟩ v2) g bh hs ks hl bx i := by
  obtain ⟨hnw, cs, hr, hsz⟩ := h.rv i hi
  obtain ⟨p1, p2, p3, p4, p5, p6, ⟨cs', q1, q2⟩, hF⟩ := put_three v0 v1 v2 hr (show k * 3 + 2 < cs.size by rw [hsz]; omega)
  refine ⟨p1, p2, p3, p4, p5, p6, h.fr.on hF (fun x hx => by rw [List.mem_singleton.1 hx]; omega), h.gn, h.hn, hF.keep h.bxr (by simp; exact ty_ne17 h.bxr hr (by decide)), ?_, fun j hj => ?_⟩
  · obtain ⟨c2, r1, r2, r3⟩ := h.rh
    exact ⟨c2, hF.keep r1 (by simp; exact ty_ne17 r1 hr (by decide)), r2, r3⟩
  · obtain ⟨s1, c3, s2, s3⟩ := h.rv j hj
    refine ⟨s1, ?_⟩
    by_cases he : ks.getD j 0 = ks.getD i 0
    · rw [he] at s2 ⊢
      rw [hr] at s2
      simp only [Option.some.injEq, Obj.cells.injEq] at s2
      exact ⟨cs', q1, by rw [q2, s2.1]; exact s3⟩
    · exact ⟨c3, hF.keep s2 (by simpa using he), s3⟩
theorem Ov.clr {w wr : World} {g bh : Nat} {hs : List Hd} {ks : List Nat} {hl : Nat} {bx : Array Value} {i : Nat} (h : Ov w wr g bh hs ks hl bx i) (hi : i < hl) (v0 v1 : Value) :
    (∃ u, wr.cell? ⟨bh, i * 2, none⟩ = some u) ∧ (∃ u, wr.cell? ⟨bh, i * 2 + 1, none⟩ = some u) ∧ wr.frozen? ⟨bh, i * 2, none⟩ = false ∧ wr.frozen? ⟨bh, i * 2 + 1, none⟩ = false ∧
    Ov w ((wr.setCell ⟨bh, i * 2, none⟩ v0).setCell ⟨bh, i * 2 + 1, none⟩ v1) g bh hs ks hl bx (i + 1) := by
  obtain ⟨cs, hr, hsz, hc⟩ := h.rh
  obtain ⟨p1, p2, p3, p4, ⟨cs', q1, q2, q3⟩, hF⟩ := put_two v0 v1 hr (show i * 2 + 1 < cs.size by rw [hsz]; omega)
  have hhn := h.hn
  refine ⟨p1, p2, p3, p4, h.fr.on hF (fun x hx => by simp at hx; omega), h.gn, h.hn, hF.keep h.bxr (by simp; exact ty_ne17 h.bxr hr (by decide)), ⟨cs', q1, by rw [q2]; exact hsz, fun j hj1 hj2 => ?_⟩, fun j hj => ?_⟩
  · rw [q3 _ (by omega) (by omega)]
    exact hc j (by omega) hj2
  · obtain ⟨s1, c3, s2, s3⟩ := h.rv j hj
    exact ⟨s1, c3, hF.keep s2 (by simp; exact ty_ne17 s2 hr (by decide)), s3⟩
theorem Ov.cell {w wr : World} {g bh : Nat} {hs : List Hd} {ks : List Nat} {hl : Nat} {bx : Array Value} {i : Nat} (h : Ov w wr g bh hs ks hl bx i) (hi : i < hl) : wr.cell? ⟨bh, i * 2 + 1, none⟩ = some (.slice (some ⟨ks.getD i 0, 0, none⟩) (hs.getD i Hd.zero).L ((hs.getD i Hd.zero).L + 1)) := by
  obtain ⟨cs, hr, hsz, hc⟩ := h.rh
  rw [cell_of_row _ _ _ _ _ _ hr]
  exact hc i (Nat.le_refl _) hi
theorem Ov.begin {w w0 w4 w5 : World} {r : Rp} {es : List Ey} {hs : List Hd} {be bh g : Nat} {ks : List Nat} {bx : Array Value} (hw : w.heap.size ≤ w0.heap.size) (hT : TwR w0 w4 r es hs be bh ks) (hH : ∀ t ∈ hs, t.L = t.vs.length) (hl : r.hl = hs.length) (hf : Fr [] w w4) (hg : w4.heap[g]? = some (.cells bx 53 (0, 0))) (hgn : w.heap.size ≤ g) (h5 : Fr [be] w4 w5) : Ov w w5 g bh hs ks r.hl bx 0 := by
  have n1 := hT.ne
  have n2 := hT.nh
  refine ⟨hf.on h5 (fun x hx => by simp at hx; omega), hgn, by omega, h5.keep hg (by simp; exact ty_ne17 hg hT.re (by decide)), ⟨_, h5.keep hT.rh (by simp; exact fun e => hT.apart e.symm), ?_, fun j _ hj => ?_⟩, fun j hj => ?_⟩
  · have := hdsC_length (twTs hs ks ++ [spT])
    rw [List.length_append, twTs_length _ _ hT.tw.len] at this
    simp only [List.length_cons, List.length_nil] at this
    rw [hl]
    simpa using this
  · have hj' : j < hs.length := by omega
    have hlen := twTs_length hs ks hT.tw.len
    have h1 := (hdsC_get (twTs hs ks ++ [spT]) j (by rw [List.length_append, hlen]; omega)).2
    have h2 : (twTs hs ks ++ [spT]).getD j Hd.zero = twT (hs.getD j Hd.zero) (ks.getD j 0) := by
      have hk : j < ks.length := by rw [hT.tw.len]; exact hj'
      simp [List.getD, twTs, List.getElem?_append_left (show j < (List.zipWith twT hs ks).length by simp; omega), List.getElem?_zipWith, hj', hk]
    rw [h2] at h1
    simpa [twT] using h1
  · have hj' : j < hs.length := by omega
    have hk : j < ks.length := by rw [hT.tw.len]; exact hj'
    have e1 : hs[j]? = some (hs.getD j Hd.zero) := by simp [List.getD, hj']
    have e2 : ks[j]? = some (ks.getD j 0) := by simp [List.getD, hk]
    have hrow := hT.tw.row j _ _ e1 e2
    have hnew := hT.tw.new _ (List.mem_of_getElem? e2)
    refine ⟨by omega, _, h5.keep hrow (by simp; exact ty_ne17 hrow hT.re (by decide)), ?_⟩
    have h3 := vnsC_length ((hs.getD j Hd.zero).vs ++ [spV])
    rw [List.length_append] at h3
    simp only [List.length_cons, List.length_nil] at h3
    rw [hH _ (List.mem_of_getElem? e1)]
    simpa using h3
end Go.Proofs.YtpdkdgmaofhlkaaGreatDoor
