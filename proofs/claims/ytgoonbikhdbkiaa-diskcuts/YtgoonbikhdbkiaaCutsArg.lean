/- A list of rows of bytes that came in: how it lies in memory; what a disk that is cut behind n writes holds behind i of them. Conditions as each lemma names them. -/
import Derived.Test.YtgoonbikhdbkiaaPlaces
import Derived.Deep.Slices
import Derived.SizedLaws
namespace Go.Proofs.Ytgoonbikhdbkiaa
open Go.ChangeShapes Go.WideShapes Go.ChangeAt Go.RowKit Go.Lib

/-- A row of a list of rows. -/
structure BV where
  a : Option Addr
  l : Nat
  c : Nat
  xs : List Nat
def BV.zero : BV := ⟨none, 0, 0, []⟩
structure BsArg (w : World) (ao : Option Addr) (L cap : Nat) (bs : List BV) : Prop where
  len : L = bs.length
  each : ∀ v ∈ bs, BArg w v.a v.l v.c v.xs
  most : L ≤ 9223372036854775807
  lies : 0 < L → ∃ b off, ao = some ⟨b, off, none⟩ ∧ b < w.heap.size ∧ ∀ i, i < L → w.cell? ⟨b, off + i, none⟩ = some (.slice (bs.getD i BV.zero).a (bs.getD i BV.zero).l (bs.getD i BV.zero).c)
theorem BsArg.keep {w w' : World} {ao : Option Addr} {L cap : Nat} {bs : List BV} (h : BsArg w ao L cap bs) (hf : Fr [] w w') : BsArg w' ao L cap bs := by
  refine ⟨h.len, fun v hv => (h.each v hv).keep hf, h.most, fun h0 => ?_⟩
  obtain ⟨b, off, e, hb, hc⟩ := h.lies h0
  exact ⟨b, off, e, Nat.lt_of_lt_of_le hb hf.size, fun i hi => (World.cell?_of_block (hf.block b hb (by simp))).trans (hc i hi)⟩
theorem bv_mem (bs : List BV) (i : Nat) (h : i < bs.length) : bs.getD i BV.zero ∈ bs := by simp [List.getD, h]

/-- Behind i writes that were asked for, of which n were let be done. -/
def cutSt (W : List Nat) (n i : Nat) : St := ⟨65536, [], W, (n : Int) - ((min i n : Nat) : Int), decide (n < i), min i n⟩
theorem cutSt_zero (n : Nat) : (St.new 65536).cut (n : Int) = cutSt [] n 0 := by
  simp [St.new, St.cut, cutSt]
theorem cut_in (W ys : List Nat) (n i : Nat) (hi : i < n) (hy : ys.length ≤ 64) (hW : W.length + ys.length ≤ 65536) : Wrote (cutSt W n i) 1 (W.length : Int) ys 0 (cutSt (W ++ ys) n (i + 1)) := by
  have h := Wrote.done1 (t := cutSt W n i) (s := 1) (a := (W.length : Int)) (ys := ys) rfl (by omega) hy (by simp [cutSt]) (by simp only [cutSt]; omega) (by simp only [cutSt]; omega)
  have e : (cutSt W n i).next.put1 (layB (cutSt W n i).s1 (W.length : Int).toNat ys) = cutSt (W ++ ys) n (i + 1) := by
    have e1 : layB W W.length ys = W ++ ys := by simp [layB]
    have e2 : (0 : Int) < (n : Int) - ((min i n : Nat) : Int) := by omega
    have e3 : (n : Int) - ((min i n : Nat) : Int) - 1 = (n : Int) - ((min (i + 1) n : Nat) : Int) := by omega
    have e4 : min i n + 1 = min (i + 1) n := by omega
    have e5 : decide (n < i) = decide (n < i + 1) := by rw [decide_eq_decide]; omega
    simp only [cutSt, St.next, St.put1, Int.toNat_natCast, e1, if_pos e2, e3, e4, e5]
  rw [e] at h
  exact h
theorem cut_out (W ys : List Nat) (n i : Nat) (hi : n ≤ i) (hy : ys.length ≤ 64) (hW : W.length + ys.length ≤ 65536) : Wrote (cutSt W n i) 1 (W.length : Int) ys 11 (cutSt W n (i + 1)) := by
  have h := Wrote.cut1 (t := cutSt W n i) (s := 1) (a := (W.length : Int)) (ys := ys) rfl (by omega) hy (by simp [cutSt]) (by simp only [cutSt]; omega) (by simp only [cutSt]; omega)
  have e : (cutSt W n i).dead = cutSt W n (i + 1) := by
    have e4 : min i n = min (i + 1) n := by omega
    have e5 : decide (n < i + 1) = true := by simp; omega
    simp only [cutSt, St.dead, e4, e5]
  rw [e] at h
  exact h

section
variable {H : Type} {enc : TypeId × Value → H}
theorem Try.undBss : Try.prog.underlying 35 = some (.slice 22) := by kernel_rfl
theorem Try.cellsBs : Try.prog.cellsOf 22 = 1 := by kernel_rfl
theorem bytes_open {w : World} {fuel : Nat} {v : Value} {x : DataW H × List MemPlace} (h : DataW.trod enc Try.prog w 0 (fun _ => true) true fuel 22 [v] = some x) : ∃ b : BV, v = .slice b.a b.l b.c ∧ BArg w b.a b.l b.c b.xs := by
  rcases open_ints Try.undBs Try.underlying5 (by kernel_rfl) h with ⟨hcs, _⟩ | ⟨a, l, c, zs, hcs, _, hl, hm, hz, _, hcell, hwz⟩
  · simp only [List.cons.injEq, and_true] at hcs
    exact ⟨BV.zero, hcs, rfl, by simp [BV.zero], Nat.le_refl _, by simp [BV.zero], fun h => by simp [BV.zero] at h⟩
  · simp only [List.cons.injEq, and_true] at hcs
    obtain ⟨xs, hB⟩ := BArg.of_row (w := w) (a := some a) (len := l) (cap := c) (zs := zs) (.inr ⟨_, rfl, hl, hm, by simpa using hz, hcell, hwz⟩)
    exact ⟨⟨some a, l, c, xs⟩, hcs, hB⟩
set_option maxRecDepth 100000 in
theorem BsArg.of_trod {w : World} {fuel : Nat} {v : Value} {d : DataW H} {ps : List MemPlace} (h : DataW.trod enc Try.prog w 0 (fun _ => true) true fuel 35 [v] = some (d, ps)) :
    ∃ ao L cap bs, v = .slice ao L cap ∧ BsArg w ao L cap bs := by
  rcases Go.Deep.open_slice Try.undBss h with ⟨hcs, _⟩ | ⟨a, len, cap, m, n, D, Pl, hcs, hb, hl, hm, hmm, hx, hE⟩
  · simp only [List.cons.injEq, and_true] at hcs
    exact ⟨none, 0, 0, [], hcs, rfl, by simp, by omega, fun h => by omega⟩
  · simp only [List.cons.injEq, and_true] at hcs
    simp only [if_true] at hmm
    subst hmm
    rw [Try.cellsBs] at hE hx
    have hO : ∀ i, i < m → ∃ o : BV, w.cells? 0 (a.add (i * 1)) 1 = some [.slice o.a o.l o.c] ∧ BArg w o.a o.l o.c o.xs := by
      intro i hi
      obtain ⟨cs', h1, h2⟩ := hE i hi
      have hl1 : cs'.length = 1 := (World.cells?_some h1).2.1
      match cs', hl1 with
      | [v1], _ =>
        obtain ⟨o, rfl, hB⟩ := bytes_open h2
        exact ⟨o, h1, hB⟩
    haveI : Inhabited BV := ⟨BV.zero⟩
    obtain ⟨F, hF⟩ := Go.Deep.choose_lt hO
    refine ⟨some a, len, m, (List.range len).map F, hcs, by simp, ?_, by simp only [maxLen] at hm; omega, fun h0 => ?_⟩
    · intro o ho
      obtain ⟨i, hi, rfl⟩ := List.mem_map.1 ho
      have hi' : i < len := by simpa using hi
      exact (hF i (by omega)).2
    · have hc0 := (World.cells?_some (hF 0 (by omega)).1).2.2
      obtain ⟨b, off, spot⟩ := a
      have hspot : spot = none := by
        have := hc0 0 (by omega)
        simp at this
        simpa [Addr.add] using World.cell?_spot this
      subst hspot
      have hcell : ∀ i, i < len → w.cell? ⟨b, off + i, none⟩ = some (.slice (F i).a (F i).l (F i).c) := by
        intro i hi
        have := (World.cells?_some (hF i (by omega)).1).2.2 0 (by omega)
        rw [show ((⟨b, off, none⟩ : Addr).add (i * 1)).add 0 = ⟨b, off + i, none⟩ from by rw [Addr.add_lit, Addr.add_lit]; simp] at this
        exact this
      refine ⟨b, off, rfl, World.block_lt_of_cell? w ⟨b, off + 0, none⟩ (hcell 0 (by omega)), fun i hi => ?_⟩
      have e : ((List.range len).map F).getD i BV.zero = F i := by simp [List.getD, hi]
      rw [e]
      exact hcell i hi
end
end Go.Proofs.Ytgoonbikhdbkiaa
