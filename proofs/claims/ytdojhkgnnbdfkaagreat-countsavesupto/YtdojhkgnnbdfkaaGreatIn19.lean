/- Slices of bytes that came in, rows of bytes of one's own, appends and copies of them, and the statements' own helpers TwinBytes, LeftBytes, SameBytes. Conditions as each lemma names them. -/
import Derived.Test.YtdojhkgnnbdfkaaGreatTwin
import Derived.Test.YtdojhkgnnbdfkaaGreatAp
import Derived.Test.YtdojhkgnnbdfkaaGreatArg
import Derived.Test.YtdojhkgnnbdfkaaGreatSame
import Derived.ShutString
import Derived.ChangeOld
import Derived.Below
import Derived.Lib.AppendZeros
import Derived.Deep.RegionLaw
import Derived.Deep.RegionWith
import Derived.Deep.RegionHeld3
import Derived.Deep.CutRange
namespace Go.Proofs.YtdojhkgnnbdfkaaGreat
open Go.ChangeShapes Go.WideShapes Go.ChangeAt Go.RowKit Go.Lib

section
variable {P : Program} (w : World)
theorem moved_app0 (t ty e : TypeId) (i : TypeInfo) (z : Value) (size bytes : Nat) (ht : P.underlying t = some (.slice e)) (hi : P.info? e = some i) (hz : i.zero = some z)
    (hsize : i.size = size) (hby : i.bytes = bytes)
    (v : Value) (n : Nat) (xs : List Value) (hown : w.ownsRow 0 e size v n xs)
    (a : Addr) (m c : Nat) (news : List Value) (hl : news.length = m * size) (hnews : ∀ j u, news[j]? = some u → w.cell? (a.add j) = some u) (h1 : ∀ u ∈ news, u.oneCell' = true)
    (h63 : n + m ≤ maxLen) (hbytes : (n + m) * bytes ≤ 140737488355328) (v' : Value) (w' : World)
    (hr : (Builtin.append_ #[t, t] ty #[v, .slice (some a) m c]).run P w = .ok v' w') (hnil : v' = .slice none 0 0 ↔ v = .slice none 0 0 ∧ m = 0) : Moved w.heap.size v v' := by
  by_cases hm : 0 < m
  · exact moved_app (P := P) w t ty e i z size bytes ht hi hz hsize hby v n xs hown a m c news hm hl hnews h1 h63 hbytes v' w' hr
  · obtain rfl : m = 0 := by omega
    subst hsize
    rcases hown.2 with ⟨rfl, rfl⟩ | ⟨g, cap, cur, rfl, hbg, hg, hnc, hcm, hcs, htake⟩
    · rw [hnil.2 ⟨rfl, rfl⟩]
      exact Moved.refl _ _
    · have hfit : n * i.size + news.length ≤ cur.size := by rw [hl, hcs, ← Nat.add_mul]; exact Nat.mul_le_mul_right _ (by omega)
      have hr2 := run_append_room (P := P) w t ty e i ht hi g n cap cur hg a 0 c news hl hnews h1 (by omega) hfit
      rw [hr] at hr2
      cases hr2
      exact Or.inl rfl
theorem run_append_none0 (t ty e : TypeId) (i : TypeInfo) (size c : Nat) (ht : P.underlying t = some (.slice e)) (hi : P.info? e = some i)
    (v : Value) (n : Nat) (xs : List Value) (hown : w.ownsRow 0 e size v n xs) :
    (Builtin.append_ #[t, t] ty #[v, .slice none 0 c]).run P w = .ok v w := by
  rcases hown.2 with ⟨rfl, rfl⟩ | ⟨g, cap, cur, rfl, _, _, hnc, _⟩
  · simp [Builtin.append_, run_underlying ht, sizeOf, typeInfo, hi, Builtin.lenOf, Builtin.firstCells]
  · simp [Builtin.append_, run_underlying ht, sizeOf, typeInfo, hi, Builtin.lenOf, Builtin.firstCells, hnc, storeCells]
theorem own_shape {e : TypeId} {v : Value} {n : Nat} {xs : List Value} (h : w.ownsRow 0 e 1 v n xs) : ∃ ao cap, v = .slice ao n cap := by
  rcases h.2 with ⟨hh, h0⟩ | ⟨g, cap', _, hh, _⟩
  · exact ⟨none, 0, by rw [hh, h0]⟩
  · exact ⟨_, cap', hh⟩
end

/-- All bytes of a slice that came in, behind a row of one's own. -/
theorem wpList_appB (w : World) {ops : Array Oper} {rest : List Oper} {o : Oper} {a : Act} {Q : Exit → Act → World → Prop} (hgd : o.guard = none) (s x : Operand)
    (ho : o.op = .call { callee := .builtin .append, args := #[s, x], argTypes := #[76, 76] })
    (v : Value) (n : Nat) (xs : List Nat) (hs : a.eval s = v) (hown : w.ownsRow 0 5 1 v n (bts xs))
    (ao : Option Addr) (L cap : Nat) (ys : List Nat) (hx : a.eval x = .slice ao L cap) (hB : BArg w ao L cap ys) (hn : n + L < 2^40)
    (h : ∀ bo n' cap' w', n' = n + L → w'.ownsRow 0 5 1 (.slice bo n' cap') n' (bts (xs ++ ys)) → w.grownBy w' v.ownBlock → Moved w.heap.size v (.slice bo n' cap') → wpList Tryz.prog ops Q rest (a.put o.dst (.slice bo n' cap')) w') : wpList Tryz.prog ops Q (o :: rest) a w := by
  refine wpList_plain hgd fun K hK => ?_
  obtain ⟨i0, hi, hz0, hz1, hz2⟩ := info_parts Tryz.infoB
  have hl : (bts ys).length = L * 1 := by rw [bts_length, hB.len]; omega
  cases ao with
  | none =>
    have hL : L = 0 := by
      rcases Nat.eq_zero_or_pos L with h0 | h0
      · exact h0
      · obtain ⟨b, off, e, _⟩ := hB.lies h0
        cases e
    subst hL
    have hys : ys = [] := List.eq_nil_of_length_eq_zero hB.len.symm
    subst hys
    have hr := run_append_none0 (P := Tryz.prog) w 76 o.type 5 i0 1 cap Tryz.undBs hi v n (bts xs) hown
    obtain ⟨bo, cap', rfl⟩ := own_shape w hown
    unfold Oper.wp execOp
    simp only [ho, resolve, invoke, builtin, Sem.run_bind, Sem.run_pure, Result.andThen_ok, List.map_toArray, List.map_cons, List.map_nil, hs, hx, hr]
    exact hK _ _ (h bo n cap' w (by omega) (by rw [List.append_nil]; exact hown) ⟨rfl, rfl, rfl, Nat.le_refl _, fun _ _ _ => rfl⟩ (Moved.refl _ _))
  | some ad =>
    have hnews : ∀ j u, (bts ys)[j]? = some u → w.cell? (ad.add j) = some u := by
      intro j u hj
      have hj' : j < ys.length := by have := (List.getElem?_eq_some_iff.1 hj).1; rwa [bts_length] at this
      obtain ⟨a', e, hc⟩ := hB.src (by rw [hB.len]; omega)
      cases e
      exact hc j u hj
    obtain ⟨v', w', hr, h2, h3, h4⟩ := run_append_own (P := Tryz.prog) w 0 76 o.type 5 i0 (.int .u8 0) 1 1 Tryz.undBs hi hz0 hz1 hz2 rfl (by omega) v n (bts xs) hown ad L cap (bts ys) hl hnews (bts_oneCell ys) (by simp only [maxLen]; omega) (by omega) (Nat.zero_le _)
    have hmv := moved_app0 (P := Tryz.prog) w 76 o.type 5 i0 (.int .u8 0) 1 1 Tryz.undBs hi hz0 hz1 hz2 v n (bts xs) hown ad L cap (bts ys) hl hnews (bts_oneCell ys) (by simp only [maxLen]; omega) (by omega) v' w' hr h4
    obtain ⟨bo, cap', rfl⟩ := own_shape w' h2
    unfold Oper.wp execOp
    simp only [ho, resolve, invoke, builtin, Sem.run_bind, Sem.run_pure, Result.andThen_ok, List.map_toArray, List.map_cons, List.map_nil, hs, hx, hr]
    exact hK _ _ (h bo _ cap' w' rfl (by rw [bts_append]; exact h2) h3 hmv)

/-- A row of one's own, as what came in. -/
theorem own_arg {w : World} {ao : Option Addr} {n cap : Nat} {xs : List Nat} (h : w.ownsRow 0 5 1 (.slice ao n cap) n (bts xs)) (hl : ∀ x ∈ xs, x < 256) (hm : n < 2^40) : BArg w ao n cap xs := by
  have hn : n = xs.length := by have := h.1; rw [bts_length] at this; omega
  rcases h.2 with ⟨hh, h0⟩ | ⟨g, cap', cur, hh, _, hg, hnc, _, hcs, ht⟩
  · cases hh
    exact ⟨hn, hl, Nat.le_refl _, by omega, fun h => by omega⟩
  · cases hh
    refine ⟨hn, hl, hnc, by omega, fun h0 => ⟨g, 0, rfl, lt_of_block hg, fun j hj => ?_⟩⟩
    have := h.cells (g := g) rfl j _ (bts_get xs j (by omega))
    rw [show (⟨g, 0, none⟩ : Addr).add j = ⟨g, 0 + j, none⟩ from by simp [Addr.add]; omega] at this
    exact this
theorem own_none (w : World) : w.ownsRow 0 5 1 (.slice none 0 0) 0 (bts []) := ⟨rfl, .inl ⟨rfl, rfl⟩⟩

end Go.Proofs.YtdojhkgnnbdfkaaGreat