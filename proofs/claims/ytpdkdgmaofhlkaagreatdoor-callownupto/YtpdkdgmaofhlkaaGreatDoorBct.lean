/- One element more behind a row of one's own whose room may be cut off: contracts of append. Conditions as each names them. -/
import Derived.Test.YtpdkdgmaofhlkaaGreatDoorBq3
namespace Go.Proofs.YtpdkdgmaofhlkaaGreatDoor.Bq
open Go.ChangeShapes Go.WideShapes Go.ChangeAt Go.RowKit Go.Lib
set_option linter.unusedVariables false
section
variable {P : Program} (w : World)
theorem run_app_cut (t ty e : TypeId) (i : TypeInfo) (z : Value) (size bytes : Nat) (ht : P.underlying t = some (.slice e)) (hi : P.info? e = some i) (hz : i.zero = some z)
    (hsize : i.size = size) (hby : i.bytes = bytes) (hzs : z.cells.size = size) (hsz : 0 < size)
    (v : Value) (n : Nat) (xs : List Value) (hown : Cut w e size v n xs)
    (a : Addr) (c : Nat) (news : List Value) (hl : news.length = size) (hnews : ∀ j u, news[j]? = some u → w.cell? (a.add j) = some u) (h1 : ∀ u ∈ news, u.oneCell' = true)
    (h63 : n + 1 ≤ maxLen) (hbytes : (n + 1) * bytes ≤ 140737488355328) :
    ∃ g cap w', (Builtin.append_ #[t, t] ty #[v, .slice (some a) 1 c]).run P w = .ok (.slice (some ⟨g, 0, none⟩) (n + 1) cap) w' ∧ Cut w' e size (.slice (some ⟨g, 0, none⟩) (n + 1) cap) (n + 1) (xs ++ news) ∧ Went w v g w' := by
  obtain ⟨ao, rc, rf, rfl, hnr, hrf, hO⟩ := hown
  obtain ⟨g', cap', w', hr, hO', hW⟩ := run_app_sharp (P := P) w t ty e i z size bytes ht hi hz hsize hby hzs hsz (.slice ao n rf) n xs hO a 1 c news (by omega) (by omega) hnews h1 h63 hbytes
  have hsmall : n + 1 ≤ 9223372036854775807 := by simp only [maxLen] at h63; omega
  rcases hO.2 with ⟨hv, hn⟩ | ⟨g, cap, cur, hv, hbg, hg, hnc, hcm, hcs, htake⟩
  · cases hv
    obtain rfl : rc = 0 := by omega
    exact ⟨g', cap', w', hr, Cut.of hO', hW⟩
  · cases hv
    subst hsize
    subst hby
    by_cases hroom : n + 1 ≤ rc
    · have hfit : n * i.size + news.length ≤ cur.size := by
        rw [hl, hcs]
        have := Nat.mul_le_mul_right i.size (show n + 1 ≤ rf by omega)
        rw [Nat.add_mul] at this
        omega
      have hA := run_append_room (P := P) w t ty e i ht hi g n rc cur hg a 1 c news (by omega) hnews h1 hroom hfit
      have hB := run_append_room (P := P) w t ty e i ht hi g n rf cur hg a 1 c news (by omega) hnews h1 (by omega) hfit
      rw [hr] at hB
      injection hB with e1 e2
      simp only [Value.slice.injEq, Option.some.injEq, Addr.mk.injEq] at e1
      obtain ⟨⟨rfl, _⟩, _, rfl⟩ := e1
      subst e2
      exact ⟨g', rc, _, hA, ⟨_, rc, cap', rfl, hroom, hrf, hO'⟩, hW⟩
    · have holds : ∀ j u, xs[j]? = some u → w.cell? ((⟨g, 0, none⟩ : Addr).add j) = some u := hO.cells (g := g) rfl
      have hA := run_append_grow (P := P) w t ty e i z ht hi hz ⟨g, 0, none⟩ n rc xs hO.1 holds a 1 c news (by omega) hnews (by omega) (by omega) (growslice_fits (by omega) hbytes)
      have hGn : n + 1 ≤ grownCap w (n + 1) rc e := grownCap_ge w _ _ _
      have hGm := grownCap_le_maxLen w (n + 1) rc e h63
      refine ⟨_, _, _, hA, Cut.of ?_, Or.inr ⟨Nat.le_refl _, ⟨rfl, rfl, rfl, by simp, fun k hk _ => Below.heap_alloc w.drew _ _ hk⟩⟩⟩
      have el : (xs ++ news).length = (n + 1) * i.size := by rw [List.length_append, hO.1, hl, Nat.add_mul]; omega
      refine ⟨el, .inr ⟨w.heap.size, _, _, rfl, Nat.zero_le _, heap_alloc_new w.drew _, hGn, hGm, ?_, ?_⟩⟩
      · have e1 : xs.length = n * i.size := hO.1
        have e3 : (grownCap w (n + 1) rc e - (n + 1)) * i.size + (n + 1) * i.size = grownCap w (n + 1) rc e * i.size := by rw [← Nat.add_mul]; congr 1; omega
        simp only [Array.size_append, size_zeroCells, List.size_toArray, e1, hl, hzs]
        rw [Nat.add_mul] at e3
        omega
      · rw [Array.toList_append, Array.toList_append, List.take_append_of_le_length (by simp only [List.length_append] at el ⊢; omega), List.take_of_length_le (by simp only [List.length_append] at el ⊢; omega)]
/-- The same in a plain region. -/
theorem wpList_appc {ops : Array Oper} {rest : List Oper} {o : Oper} {a : Act} {Q : Exit → Act → World → Prop} (hgd : o.guard = none) (s x : Operand) (t : TypeId)
    (ho : o.op = .call { callee := .builtin .append, args := #[s, x], argTypes := #[t, t] })
    (e : TypeId) (i : TypeInfo) (z : Value) (size bytes : Nat) (ht : P.underlying t = some (.slice e)) (hi : P.info? e = some i) (hz : i.zero = some z)
    (hsize : i.size = size) (hby : i.bytes = bytes) (hzs : z.cells.size = size) (hsz : 0 < size)
    (v : Value) (n : Nat) (xs : List Value) (hs : a.eval s = v) (hown : Cut w e size v n xs)
    (ad : Addr) (c : Nat) (news : List Value) (hx : a.eval x = .slice (some ad) 1 c) (hl : news.length = size) (hnews : ∀ j u, news[j]? = some u → w.cell? (ad.add j) = some u) (h1 : ∀ u ∈ news, u.oneCell' = true)
    (hbytes : (n + 1) * bytes ≤ 140737488355328) (h63 : n + 1 ≤ maxLen)
    (h : ∀ g cap w', Cut w' e size (.slice (some ⟨g, 0, none⟩) (n + 1) cap) (n + 1) (xs ++ news) → Went w v g w' → wpList P ops Q rest (a.put o.dst (.slice (some ⟨g, 0, none⟩) (n + 1) cap)) w') : wpList P ops Q (o :: rest) a w := by
  refine wpList_plain hgd fun K hK => ?_
  obtain ⟨g, cap, w', hr, h2, h3⟩ := run_app_cut (P := P) w t o.type e i z size bytes ht hi hz hsize hby hzs hsz v n xs hown ad c news hl hnews h1 h63 hbytes
  unfold Oper.wp execOp
  simp only [ho, resolve, invoke, builtin, Sem.run_bind, Sem.run_pure, Result.andThen_ok, List.map_toArray, List.map_cons, List.map_nil, hs, hx, hr]
  exact hK _ _ (h g cap w' h2 h3)
end
end Go.Proofs.YtpdkdgmaofhlkaaGreatDoor.Bq
