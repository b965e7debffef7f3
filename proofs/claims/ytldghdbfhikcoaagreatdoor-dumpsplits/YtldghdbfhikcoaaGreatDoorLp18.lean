/- A Book that holds one list of lists: how its marks lie (each a list of one key, made anew), what filling and growing keep. Plain lemmas. -/
import Derived.Test.YtldghdbfhikcoaaGreatDoorWhd
import Derived.Test.YtldghdbfhikcoaaGreatDoorBq5
namespace Go.Proofs.YtldghdbfhikcoaaGreatDoor.Bq
open Go.ChangeShapes Go.WideShapes Go.ChangeAt Go.RowKit Go.Lib
set_option linter.unusedVariables false

abbrev kHL : Kd := { tH := 168, tE := 23, S := 1, mark := fun _ => [.slice none 0 0], col := 9, pos := by decide, len := fun _ => rfl, hE := by decide, hB := by decide, eB := by decide }
/-- A mark: a list of one key. -/
def mkV (b : Nat) : Value := .slice (some ⟨b, 0, none⟩) 1 1
def Mk9 (w : World) (B : ByteArray) (b : Nat) : Prop := w.heap[b]? = some (.cells #[.string B, .slice none 0 0] 73 (0, 0))
theorem Mk9.keep {S : List Nat} {w w' : World} {B : ByteArray} {b : Nat} (h : Mk9 w B b) (hf : Fr S w w') (hn : b ∉ S) : Mk9 w' B b := hf.keep h hn
theorem Mk9.c0 {w : World} {B : ByteArray} {b : Nat} (h : Mk9 w B b) : w.cell? ⟨b, 0, none⟩ = some (.string B) := by rw [cell_of_row _ _ _ _ _ _ h]; rfl
theorem Mk9.c1 {w : World} {B : ByteArray} {b : Nat} (h : Mk9 w B b) : w.cell? ⟨b, 1, none⟩ = some (.slice none 0 0) := by rw [cell_of_row _ _ _ _ _ _ h]; rfl
theorem Mk9.ne {w : World} {B : ByteArray} {b k : Nat} {cs : Array Value} (h : Mk9 w B b) (hk : w.heap[k]? = some (.cells cs 23 (0, 0))) : b ≠ k := by
  rintro rfl
  rw [show w.heap[b]? = _ from h] at hk
  simp at hk
/-- All marks lie, each made since. -/
def Mks (w : World) (base : Nat) (B : ByteArray) (ms : List Nat) : Prop := ∀ b ∈ ms, Mk9 w B b ∧ base ≤ b
theorem Mks.keep {S : List Nat} {w w' : World} {base : Nat} {B : ByteArray} {ms : List Nat} (h : Mks w base B ms) (hf : Fr S w w') (hn : ∀ k ∈ S, k < base) : Mks w' base B ms := fun b hb => ⟨(h b hb).1.keep hf (fun hm => by have := hn b hm; have := (h b hb).2; omega), (h b hb).2⟩
theorem Mks.keepR {S : List Nat} {w w' : World} {base : Nat} {B : ByteArray} {ms : List Nat} (h : Mks w base B ms) (hf : Fr S w w') (hn : ∀ k ∈ S, k < w.heap.size → ∃ cs, w.heap[k]? = some (.cells cs 23 (0, 0))) : Mks w' base B ms := fun b hb => ⟨(h b hb).1.keep hf (fun hm => by
  obtain ⟨cs, hc⟩ := hn b hm (lt_of_block (h b hb).1)
  exact (h b hb).1.ne hc rfl), (h b hb).2⟩
theorem Mks.snoc {w : World} {base : Nat} {B : ByteArray} {ms : List Nat} {b : Nat} (h : Mks w base B ms) (hb : Mk9 w B b) (hn : base ≤ b) : Mks w base B (ms ++ [b]) := fun x hx => by
  rcases List.mem_append.1 hx with e | e
  · exact h x e
  · rw [List.mem_singleton] at e; subst e; exact ⟨hb, hn⟩
theorem map_get {ms : List Nat} {j : Nat} (hj : j < ms.length) : (ms.map mkV)[j]? = some (mkV (ms.getD j 0)) := by
  simp [List.getD, hj]
theorem own_mkV {w : World} {g m cap : Nat} {ms : List Nat} (h : w.ownsRow 0 23 1 (.slice (some ⟨g, 0, none⟩) m cap) m (ms.map mkV)) (j : Nat) (hj : j < m) : w.cell? ⟨g, j, none⟩ = some (mkV (ms.getD j 0)) := by
  have hl := h.1
  simp at hl
  rw [h.cellAt j (by omega)]
  exact map_get (by omega)
/-- Filling, so far. -/
structure FHi (base : Nat) (B : ByteArray) (lao : Option Addr) (n lf lcap k : Nat) (ms : List Nat) (R : List Value) (w1 w : World) : Prop where
  len : ms.length = k
  rl : R.length = (n - k) * 1
  own : w.ownsRow 0 23 1 (.slice lao n lf) n (ms.map mkV ++ R)
  mks : Mks w base B ms
  fr : Fr (Value.slice lao n lcap).ownBlock.toList w1 w
theorem FHi.next {base : Nat} {B : ByteArray} {t n lf lcap k : Nat} {ms : List Nat} {a : Value} {S : List Value} {w1 w W : World} {b : Nat} (h : FHi base B (some ⟨t, 0, none⟩) n lf lcap k ms (a :: S) w1 w) (hS : S.length = (n - (k + 1)) * 1) (ht : t < base) (hf : Fr [] w W) (hb : Mk9 W B b) (hbb : base ≤ b) :
    FHi base B (some ⟨t, 0, none⟩) n lf lcap (k + 1) (ms ++ [b]) S w1 (W.setCell ⟨t, k, none⟩ (mkV b)) := by
  have hO := own_put (owns_keep h.own hf (by simp)) k (mkV b)
  have e : (ms.map mkV ++ a :: S).set k (mkV b) = (ms ++ [b]).map mkV ++ S := by
    have hl : (ms.map mkV).length = k := by simp [h.len]
    rw [List.set_append_right _ _ (by omega), hl, Nat.sub_self]
    simp
  rw [e] at hO
  have hfs : Fr [t] W (W.setCell ⟨t, k, none⟩ (mkV b)) := Fr.set _ _ _ (by simp)
  refine ⟨by simp [h.len], hS, hO, ?_, ?_⟩
  · exact ((h.mks.keep hf (by simp)).snoc hb hbb).keep hfs (fun x hx => by simp at hx; omega)
  · show Fr [t] w1 _
    exact ((show Fr [t] w1 w from h.fr).trans hf (fun x hx _ => hx) (by simp)).then hfs
/-- A Book's list of lists: marked. -/
structure FL (base : Nat) (w : World) (bk : Nat) (rv : Value) (e : HB) : Prop where
  bl : Bl kHL w bk rv [e]
  row : ∃ n ms, Cut w 23 1 e.l n (ms.map mkV) ∧ ms.length = n ∧ n < 17179869184 ∧ Mks w base (mWord e.n) ms
  nil : e.long = .slice none 0 0
  lo : base ≤ w.heap.size
theorem FL.type {base : Nat} {w : World} {bk : Nat} {rv : Value} {e : HB} (h : FL base w bk rv e) : ∀ k, e.l.ownBlock = some k → ∃ cs, w.heap[k]? = some (.cells cs 23 (0, 0)) := by
  obtain ⟨n, ms, h1, _⟩ := h.row
  exact h1.type
theorem FL.stay {S : List Nat} {base : Nat} {w w' : World} {bk : Nat} {rv : Value} {e : HB} (h : FL base w bk rv e) (hf : Fr S w w') (ho : Off kHL S w) (hS : ∀ k ∈ S, k < base) : FL base w' bk rv e := by
  refine ⟨h.bl.stay hf ho, ?_, h.nil, Nat.le_trans h.lo hf.size⟩
  obtain ⟨n, ms, h1, h2, h3, h4⟩ := h.row
  exact ⟨n, ms, h1.keep hf (fun k hk => by obtain ⟨cs, hc⟩ := h1.type k hk; exact ho.notE hc), h2, h3, h4.keep hf hS⟩
/-- A slice reads as such marks. -/
structure Rd1 (w : World) (v : Value) (n : Nat) (ms : List Nat) : Prop where
  shape : ∃ ao cap, v = .slice ao n cap ∧ n ≤ cap ∧ (0 < n → ∃ b, ao = some ⟨b, 0, none⟩ ∧ ∀ j, j < n → w.cell? ⟨b, j, none⟩ = some (mkV (ms.getD j 0)))
  type : ∀ k, v.ownBlock = some k → ∃ cs, w.heap[k]? = some (.cells cs 23 (0, 0))
theorem Rd1.keep {S : List Nat} {w w' : World} {v : Value} {n : Nat} {ms : List Nat} (h : Rd1 w v n ms) (hf : Fr S w w') (hn : ∀ k, v.ownBlock = some k → k ∉ S) : Rd1 w' v n ms := by
  obtain ⟨ao, cap, rfl, hc, hr⟩ := h.shape
  refine ⟨⟨ao, cap, rfl, hc, fun h0 => ?_⟩, fun k hk => ?_⟩
  · obtain ⟨b, rfl, hb⟩ := hr h0
    refine ⟨b, rfl, fun j hj => ?_⟩
    obtain ⟨cs, hcs⟩ := h.type b rfl
    exact (World.cell?_of_block (hf.block b (lt_of_block hcs) (hn b rfl))).trans (hb j hj)
  · obtain ⟨cs, hcs⟩ := h.type k hk
    exact ⟨cs, hf.keep hcs (hn k hk)⟩
theorem Rd1.of_cut {w : World} {v : Value} {n : Nat} {ms : List Nat} (h : Cut w 23 1 v n (ms.map mkV)) : Rd1 w v n ms := by
  have ht := h.type
  obtain ⟨ao, rc, rf, rfl, h1, h2, hO⟩ := h
  refine ⟨⟨ao, rc, rfl, h1, fun h0 => ?_⟩, ht⟩
  obtain ⟨g, c, hh, _⟩ := own_form hO h0
  cases hh
  exact ⟨g, rfl, fun j hj => own_mkV hO j hj⟩
theorem getD_left {ms ns : List Nat} {j : Nat} (h : j < ms.length) : (ms ++ ns).getD j 0 = ms.getD j 0 := by
  simp [List.getD, List.getElem?_append_left h]
theorem Rd1.own0 {w w0 : World} {l v : Value} {n m : Nat} {ms ns : List Nat} (hl : ms.length = n) (h : Cut w 23 1 v m ((ms ++ ns).map mkV)) (hm : n ≤ m) (he : v.ownBlock = l.ownBlock) (r : Rd1 w0 l n ms) : Rd1 w l n ms := by
  obtain ⟨ao, cap, rfl, hc, hr⟩ := r.shape
  refine ⟨⟨ao, cap, rfl, hc, fun h0 => ?_⟩, fun k hk => h.type k (by rw [he]; exact hk)⟩
  obtain ⟨b, rfl, _⟩ := hr h0
  obtain ⟨vo, rc, rf, rfl, _, _, h⟩ := h
  obtain ⟨g, c, e, _⟩ := own_form h (by omega)
  cases e
  simp [Value.ownBlock] at he
  subst he
  exact ⟨g, rfl, fun j hj => by rw [own_mkV h j (by omega), getD_left (by omega)]⟩
/-- Growing, so far. -/
structure GHi (base : Nat) (B : ByteArray) (w1 : World) (l : Value) (n : Nat) (ms : List Nat) (k : Nat) (v : Value) (ns : List Nat) (w : World) : Prop where
  len : ns.length = k
  lm : ms.length = n
  own : Cut w 23 1 v (n + k) ((ms ++ ns).map mkV)
  rds : Rd1 w l n ms
  mks : Mks w base B (ms ++ ns)
  fr : Fr l.ownBlock.toList w1 w
  plc : v.ownBlock = l.ownBlock ∨ ∃ g, v.ownBlock = some g ∧ w1.heap.size ≤ g
theorem GHi.keep {base : Nat} {B : ByteArray} {w1 w w' : World} {l v : Value} {n k : Nat} {ms ns : List Nat} (h : GHi base B w1 l n ms k v ns w) (hf : Fr [] w w') : GHi base B w1 l n ms k v ns w' :=
  ⟨h.len, h.lm, h.own.keep hf (by simp), h.rds.keep hf (by simp), h.mks.keep hf (by simp), h.fr.trans hf (fun x hx _ => hx) (by simp), h.plc⟩
theorem GHi.next {base : Nat} {B : ByteArray} {w1 w w' : World} {l v : Value} {n k g cap b : Nat} {ms ns : List Nat} (h : GHi base B w1 l n ms k v ns w) (o : Obj) (hb : Mk9 w B b) (hbb : base ≤ b) (hO : Cut w' 23 1 (.slice (some ⟨g, 0, none⟩) (n + k + 1) cap) (n + k + 1) ((ms ++ ns).map mkV ++ [mkV b])) (hW : Went (w.alloc o) v g w') (hl : ∀ k, l.ownBlock = some k → k < w1.heap.size) :
    GHi base B w1 l n ms (k + 1) (.slice (some ⟨g, 0, none⟩) (n + k + 1) cap) (ns ++ [b]) w' := by
  have e : (ms ++ ns).map mkV ++ [mkV b] = (ms ++ (ns ++ [b])).map mkV := by simp
  rw [e] at hO
  have hFa : Fr [] w (w.alloc o) := Fr.alloc [] _ _
  have hs1 := h.fr.size
  have hs2 := hFa.size
  have hM : Mks w base B (ms ++ (ns ++ [b])) := by
    have := h.mks.snoc hb hbb
    rwa [List.append_assoc] at this
  have hN : (ns ++ [b]).length = k + 1 := by simp [h.len]
  rcases hW with ⟨hv, hg⟩ | ⟨hv, hg⟩
  · have hFg : Fr [g] (w.alloc o) w' := Fr.grown hg (by intro k hk _; cases hk; simp)
    have hF : Fr [g] w w' := hFa.trans hFg (by simp) (fun x hx _ => hx)
    have hM' : Mks w' base B (ms ++ (ns ++ [b])) := hM.keepR hF (fun x hx hlt => by
      simp at hx
      subst hx
      exact h.own.type x hv)
    rcases h.plc with hp | ⟨g', hp, hge⟩
    · have hlg : l.ownBlock = some g := by rw [← hp, hv]
      refine ⟨hN, h.lm, hO, Rd1.own0 h.lm hO (by omega) hlg.symm h.rds, hM', ?_, Or.inl hlg.symm⟩
      rw [hlg]
      have := h.fr
      rw [hlg] at this
      exact this.trans hF (fun x hx _ => hx) (fun x hx _ => by simpa using hx)
    · rw [hv] at hp
      cases hp
      have hne : ∀ k, l.ownBlock = some k → k ≠ g := by intro k hk; have := hl k hk; omega
      refine ⟨hN, h.lm, hO, h.rds.keep hF (by intro k hk hm; exact hne k hk (by simpa using hm)), hM', h.fr.trans hF (fun x hx _ => hx) ?_, Or.inr ⟨g, rfl, hge⟩⟩
      intro x hx hxl
      simp at hx
      omega
  · have hFg : Fr [] (w.alloc o) w' := Fr.grown hg (by simp)
    have hF := hFa.then hFg
    exact ⟨hN, h.lm, hO, h.rds.keep hF (by simp), hM.keep hF (by simp), h.fr.trans hF (fun x hx _ => hx) (by simp), Or.inr ⟨g, rfl, by omega⟩⟩
/-- A Book's list of lists: grown. -/
structure GL (base : Nat) (w : World) (bk : Nat) (rv : Value) (e : HB) : Prop where
  bl : Bl kHL w bk rv [e]
  row : ∃ n ms ns, ms.length = n ∧ ns.length = 70 ∧ n < 17179869184 ∧ Rd1 w e.l n ms ∧ Cut w 23 1 e.long (n + 70) ((ms ++ ns).map mkV) ∧ Mks w base (mWord e.n) (ms ++ ns)
theorem GL.stay {base : Nat} {w w' : World} {bk : Nat} {rv : Value} {e : HB} (h : GL base w bk rv e) (hf : Fr [] w w') : GL base w' bk rv e := by
  refine ⟨h.bl.stay hf (Off.nil _ _), ?_⟩
  obtain ⟨n, ms, ns, h1, h2, h3, h4, h5, h6⟩ := h.row
  exact ⟨n, ms, ns, h1, h2, h3, h4.keep hf (by simp), h5.keep hf (by simp), h6.keep hf (by simp)⟩
theorem off_HB : kHL.off kByte := by refine ⟨?_, ?_, ?_, ?_⟩ <;> decide
theorem off_HI : kHL.off kInt := by refine ⟨?_, ?_, ?_, ?_⟩ <;> decide
theorem off_HW : kHL.off kHeld := by refine ⟨?_, ?_, ?_, ?_⟩ <;> decide
theorem off_HT : kHL.off kVersion := by refine ⟨?_, ?_, ?_, ?_⟩ <;> decide
theorem off_BH : kByte.off kHL := by refine ⟨?_, ?_, ?_, ?_⟩ <;> decide
theorem off_IH : kInt.off kHL := by refine ⟨?_, ?_, ?_, ?_⟩ <;> decide
theorem off_WH : kHeld.off kHL := by refine ⟨?_, ?_, ?_, ?_⟩ <;> decide
theorem off_TH : kVersion.off kHL := by refine ⟨?_, ?_, ?_, ?_⟩ <;> decide
end Go.Proofs.YtldghdbfhikcoaaGreatDoor.Bq
