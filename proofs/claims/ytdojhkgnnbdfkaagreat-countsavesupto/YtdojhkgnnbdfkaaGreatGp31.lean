/- Texts of this claim laid together, one behind the other: contracts and plain lemmas; conditions as each names them. -/
import Derived.Test.YtdojhkgnnbdfkaaGreatGp30
/- What the document's Decode keeps in its inner loops. Plain lemmas. -/
namespace Go.Proofs.YtdojhkgnnbdfkaaGreat
open BigFrame Go.ChangeShapes Go.WideShapes Go.ChangeAt Go.RowKit Go.Lib Go.Maps
set_option linter.unusedVariables false
set_option linter.unusedSimpArgs false

def deX (xs : List Nat) (c : Nat) : Prop := dS xs = .error c
/-- Live in the loop over keys. -/
def lv2 (xs : List Nat) (m : Int) (bs : List Int) (z : Int) (j : Nat) (ps : List Kv) (p : Nat) : Prop := ∃ n : Nat, z = n ∧ n ≤ 65536 ∧ j ≤ n ∧ dS xs = kK m bs (preL ps (dR dK (n - j) (xs.drop p)))
/-- Live in the loop over a key's versions. -/
def lv3 (xs : List Nat) (m : Int) (bs : List Int) (z2 : Int) (j : Nat) (ps : List Kv) (key : ByteArray) (z : Int) (k : Nat) (vs : List Vn) (p : Nat) : Prop := ∃ N n : Nat, z2 = N ∧ N ≤ 65536 ∧ j < N ∧ z = n ∧ n ≤ 65536 ∧ k ≤ n ∧ dS xs = kV m bs ps key (N - (j + 1)) (preL vs (dR dX (n - k) (xs.drop p)))
section
variable {xs : List Nat} {m z z2 : Int} {bs : List Int} {j k : Nat} {ps : List Kv} {key : ByteArray} {vs : List Vn} {p p' q c : Nat}
theorem lv2.keyed {n : Nat} (h : lv2 xs m bs z2 j ps p) (hj : (j : Int) < z2) (h1 : dT 64 (xs.drop p) = .ok (key, xs.drop q)) (h2 : dN (xs.drop q) = .ok (n, xs.drop p')) (hn : n ≤ 65536) : lv3 xs m bs z2 j ps key (n : Int) 0 [] p' := by
  obtain ⟨N, g1, g2, g3, g4⟩ := h
  refine ⟨N, n, g1, g2, by omega, rfl, hn, Nat.zero_le _, ?_⟩
  rw [g4, show N - j = (N - (j + 1)) + 1 by omega, kK_key h1 h2, preL_nil]
  rfl
theorem lv2.noT (h : lv2 xs m bs z2 j ps p) (hj : (j : Int) < z2) (h1 : dT 64 (xs.drop p) = .error c) : deX xs c := by
  obtain ⟨N, g1, g2, g3, g4⟩ := h
  show dS xs = _
  rw [g4, show N - j = (N - (j + 1)) + 1 by omega, preL_err ps (dK_t h1)]
  rfl
theorem lv2.noN (h : lv2 xs m bs z2 j ps p) (hj : (j : Int) < z2) (h1 : dT 64 (xs.drop p) = .ok (key, xs.drop q)) (h2 : dN (xs.drop q) = .error c) : deX xs c := by
  obtain ⟨N, g1, g2, g3, g4⟩ := h
  show dS xs = _
  rw [g4, show N - j = (N - (j + 1)) + 1 by omega, preL_err ps (dK_l h1 (dL_no h2))]
  rfl
theorem lv2.out (h : lv2 xs m bs z2 j ps p) (hj : ¬ (j : Int) < z2) : dS xs = .ok (⟨m, bs, ps⟩, xs.drop p) := by
  obtain ⟨N, g1, g2, g3, g4⟩ := h
  rw [g4, show N - j = 0 by omega, preL_end]
  rfl
theorem lv3.go {v : Vn} (h : lv3 xs m bs z2 j ps key z k vs p) (hk : (k : Int) < z) (h1 : dX (xs.drop p) = .ok (v, xs.drop p')) : lv3 xs m bs z2 j ps key z (k + 1) (vs ++ [v]) p' := by
  obtain ⟨N, n, g1, g2, g3, g4, g5, g6, g7⟩ := h
  refine ⟨N, n, g1, g2, g3, g4, g5, by omega, ?_⟩
  rw [g7, show n - k = (n - (k + 1)) + 1 by omega, preL_step vs h1]
theorem lv3.no (h : lv3 xs m bs z2 j ps key z k vs p) (hk : (k : Int) < z) (h1 : dX (xs.drop p) = .error c) : deX xs c := by
  obtain ⟨N, n, g1, g2, g3, g4, g5, g6, g7⟩ := h
  show dS xs = _
  rw [g7, show n - k = (n - (k + 1)) + 1 by omega, preL_err vs h1]
  rfl
theorem lv3.out (h : lv3 xs m bs z2 j ps key z k vs p) (hk : ¬ (k : Int) < z) : lv2 xs m bs z2 (j + 1) (ps ++ [(key, vs)]) p := by
  obtain ⟨N, n, g1, g2, g3, g4, g5, g6, g7⟩ := h
  refine ⟨N, g1, g2, by omega, ?_⟩
  rw [g7, show n - k = 0 by omega, preL_end]
  rfl
end
/-- The loop over a key's versions: the key's box, its row. -/
structure L3 (wb wr : World) (t hb : Nat) (key : ByteArray) (vo : Option Addr) (k cv : Nat) (vs : List Vn) : Prop where
  box : wr.heap[hb]? = some (.cells #[.string key, .slice vo k cv] 58 (0, 0))
  row : wr.ownsRow wb.heap.size 74 3 (.slice vo k cv) k (vnsC vs)
  len : k = vs.length
  fr : Fr [t, hb] wb wr
  tn : t < wb.heap.size
  hn : hb < wb.heap.size
  ne : t ≠ hb
section
variable {wb wr w' : World} {t hb : Nat} {key : ByteArray} {vo : Option Addr} {k cv : Nat} {vs : List Vn}
theorem L3.stepT (h : L3 wb wr t hb key vo k cv vs) (hF : Fr [t] wr w') : L3 wb w' t hb key vo k cv vs :=
  ⟨hF.keep h.box (by simp; exact fun e => h.ne e.symm), owns_keepB h.row hF (fun j hj hm => by
    simp at hm
    subst hm
    have := (owns_cells h.row hj).1
    have := h.tn
    omega), h.len, h.fr.trans hF (fun x hx _ => hx) (fun x hx _ => by simp at hx; simp [hx]), h.tn, h.hn, h.ne⟩
theorem L3.c0 (h : L3 wb wr t hb key vo k cv vs) : wr.cell? ⟨hb, 0, none⟩ = some (.string key) := by rw [cell_of_row _ _ _ _ _ _ h.box]; rfl
theorem L3.c1 (h : L3 wb wr t hb key vo k cv vs) : wr.cell? ⟨hb, 1, none⟩ = some (.slice vo k cv) := by rw [cell_of_row _ _ _ _ _ _ h.box]; rfl
theorem L3.fz (h : L3 wb wr t hb key vo k cv vs) (j : Nat) : wr.frozen? ⟨hb, j, none⟩ = false := by simp [World.frozen?, h.box]
/-- One version more. -/
theorem L3.app {w4 : World} {vo' : Option Addr} {c' : Nat} {v : Vn} {ao : Option Addr} {L cap : Nat} {lv : Nat → Prop} {de : Nat → Prop} (h : L3 wb wr t hb key vo k cv vs) (hS : St wr t ao L cap lv de) (hrow : w4.ownsRow wb.heap.size 74 3 (.slice vo' (k + 1) c') (k + 1) (vnsC (vs ++ [v]))) (hF : Fr (Value.slice vo k cv).ownBlock.toList wr w4) :
    w4.frozen? ⟨hb, 1, none⟩ = false ∧ w4.cell? ⟨hb, 1, none⟩ = some (.slice vo k cv) ∧ L3 wb (w4.setCell ⟨hb, 1, none⟩ (.slice vo' (k + 1) c')) t hb key vo' (k + 1) c' (vs ++ [v]) ∧ St (w4.setCell ⟨hb, 1, none⟩ (.slice vo' (k + 1) c')) t ao L cap lv de := by
  obtain ⟨ct, hct⟩ := hS.box
  have hb4 := hF.keep h.box (far_row h.box h.row (by decide))
  have hS4 := hS.keep hF (far_row hct h.row (by decide))
  have hF5 : Fr [hb] w4 (w4.setCell ⟨hb, 1, none⟩ (.slice vo' (k + 1) c')) := Fr.set _ _ _ (by simp)
  refine ⟨by simp [World.frozen?, hb4], by rw [cell_of_row _ _ _ _ _ _ hb4]; rfl, ⟨?_, owns_keepB hrow hF5 (fun j hj hm => ?_), by rw [h.len]; simp, ?_, h.tn, h.hn, h.ne⟩, hS4.keep hF5 (by simp; exact h.ne)⟩
  · rw [put_row _ hb4]; rfl
  · simp at hm
    subst hm
    have := (owns_cells hrow hj).1
    have := h.hn
    omega
  · refine (h.fr.trans hF (U := [t, hb]) (fun x hx _ => hx) (fun x hx hl => ?_)).trans hF5 (fun x hx _ => hx) (fun x hx _ => by simp at hx; simp [hx])
    have := (owns_cells h.row (Option.mem_toList.1 hx)).1
    omega
end
theorem own_cap18 {w : World} {base : Nat} {e : TypeId} {size : Nat} {ao : Option Addr} {n cap : Nat} {xs : List Value} (h : w.ownsRow base e size (.slice ao n cap) n xs) : n ≤ cap := by
  rcases h.2 with ⟨hh, _⟩ | ⟨g, c, cur, hh, _, _, hn, _⟩
  · cases hh; omega
  · cases hh; exact hn
/-- One key more in the checkpoint. -/
theorem app_held {w wr w4 : World} {b0 t sb : Nat} {x : Value} {yo ho so' : Option Addr} {i c j ch c' : Nat} {bs : List Int} {hs hs' : List Hd} {ao : Option Addr} {L cap : Nat} {lv : Nat → Prop} {de : Nat → Prop}
    (h : Dy w wr b0 t sb x (.slice yo i c) (.slice ho j ch)) (hO : IOw w.heap.size wr yo i c bs) (hH : HOut w wr ho j ch hs) (hS : St wr t ao L cap lv de) (e1 : HOut w w4 so' (j + 1) c' hs') (e2 : Fr (Value.slice ho j ch).ownBlock.toList wr w4) :
    (w4.frozen? ⟨sb, 2, none⟩ = false ∧ w4.cell? ⟨sb, 2, none⟩ = some (.slice ho j ch)) ∧ Hid (Dy w (w4.setCell ⟨sb, 2, none⟩ (.slice so' (j + 1) c')) b0 t sb x (.slice yo i c) (.slice so' (j + 1) c') ∧ IOw w.heap.size (w4.setCell ⟨sb, 2, none⟩ (.slice so' (j + 1) c')) yo i c bs ∧ HOut w (w4.setCell ⟨sb, 2, none⟩ (.slice so' (j + 1) c')) so' (j + 1) c' hs' ∧ St (w4.setCell ⟨sb, 2, none⟩ (.slice so' (j + 1) c')) t ao L cap lv de) := by
  obtain ⟨ct, hct⟩ := hS.box
  have hD4 := h.row e2 (far_row h.i.rb.box hH.row (by decide)) (far_row h.i.sv.box hH.row (by decide)) (fun k hk => (owns_cells hH.row (Option.mem_toList.1 hk)).1)
  have hS4 := hS.keep e2 (far_row hct hH.row (by decide))
  have hO4 : IOw w.heap.size w4 yo i c bs := hO.keepS e2 (fun k hk hm => by
    obtain ⟨_, cur, hc⟩ := owns_cells hO.row hk
    exact far_row hc hH.row (by decide) hm)
  obtain ⟨hD5, hF5⟩ := hD4.at2 (.slice so' (j + 1) c')
  exact ⟨⟨hD4.i.sv.fz 2, hD4.i.sv.c2⟩, hD5, hO4.offS hD4.i.sv hF5, e1.offS hD4.i.sv hF5, hS4.keep hF5 (by simp; exact fun e => hD4.d2 e.symm)⟩
end Go.Proofs.YtdojhkgnnbdfkaaGreat
