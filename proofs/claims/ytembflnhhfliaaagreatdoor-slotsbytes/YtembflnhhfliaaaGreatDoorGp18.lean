/- Contracts and plain lemmas of this claim. -/
import Derived.Test.YtembflnhhfliaaaGreatDoorGp8
import Derived.Deep.Slices
import Derived.Test.YtembflnhhfliaaaGreatDoorGp17
import Derived.Test.YtembflnhhfliaaaGreatDoorGp6
import Derived.Test.YtembflnhhfliaaaGreatDoorGp1
import Derived.Deep.RegionLaw
import Derived.Deep.RegionWith
import Derived.Deep.RegionHeld3
import Derived.Deep.CutRange
set_option linter.unusedSimpArgs false
set_option linter.unusedVariables false
set_option maxHeartbeats 4000000
set_option maxRecDepth 100000
namespace Go.Proofs.YtembflnhhfliaaaGreatDoor
open Go.ChangeShapes Go.WideShapes Go.ChangeAt Go.RowKit Go.Lib
section
variable {H : Type} {enc : TypeId × Value -> H}
end
def zbi (ns : List Int) : List Value := ns.map fun n => Value.int .i64 n
theorem zdh (xs : List Int) : (zbi xs).length = xs.length := by simp [zbi]
theorem zhh (xs : List Int) (j : Nat) (h : j < xs.length) : (zbi xs)[j]? = some (.int .i64 (xs.getD j 0)) := by simp [zbi, List.getD, h]
theorem Tryz.infoIW : (Tryz.prog.info? 3).map (fun i => (i.zero, i.size, i.bytes)) = some (some (.int .i64 0), 1, 8) := by kernel_rfl
theorem Tryz.undIsW : Tryz.prog.underlying 54 = some (.slice 3) := by kernel_rfl
theorem zub {w : World} {g n : Nat} {xs : List Value} (h : w.ownsRow 0 3 1 (.slice (some ⟨g, 0, none⟩) n n) n xs) : w.heap[g]? = some (.cells xs.toArray 3 (0, 0)) := by
  have hl := h.1
  rcases h.2 with ⟨hh, _⟩ | ⟨g', cap', cur, hh, _, hg, _, _, hcs, ht⟩
  · cases hh
  · cases hh
    rw [hg]
    congr 2
    rw [<- Array.toList_inj]
    simp only
    rw [<- ht, List.take_of_length_le (by simp [hcs])]
theorem zrt (ao : Option Addr) (L cap : Nat) (ws : List Int) (w : World) (h : IRs w ao ws) (hLe : L = ws.length) (hL : L <= 17592186044416) :
    Calls Tryz.prog 74 #[.slice ao L cap] w fun e w' => ∃ b, e = .returned (.slice (some ⟨b, 0, none⟩) L (L + 1)) /\ w.heap.size <= b /\ w'.heap[b]? = some (.cells (zbi (ws ++ [7777])).toArray 3 (0, 0)) /\ Fr [] w w' := by
  obtain ⟨i0, hi, hz0, hz1, hz2⟩ := info_parts Tryz.infoIW
  have HL : Hid (L = ws.length) := hLe
  clear hLe
  go_enter Tryz.func74, Tryz.ntmps74
  go_wp2_with (at_make; refine wpList_make_own _ rfl (.const (.int .i64 0)) (.tmp 7) 54 rfl 0 3 i0 _ 1 Tryz.undIsW hi hz0 hz1 .i64 .i64 ((L : Int) + 1) (L + 1) rfl rfl ?bC ?b2 ?b3 ?b4 ?_)
  case bC => simp
  case b2 => rw [hz2]; omega
  case b3 => unfold maxLen; omega
  case b4 => exact Nat.zero_le _
  intro w1 hown hgrow
  obtain ⟨g, hg⟩ : ∃ g, g = w.heap.size := ⟨_, rfl⟩
  have hgw : w.heap.size <= g := by omega
  rw [<- hg] at hown ⊢
  have h01 : Fr [] w w1 := Fr.grown (S := []) hgrow (by simp)
  clear hgrow hg
  go_wp2_with fail
  go_loopw [3, 4] (fun vv ii wr => ∃ i : Nat, vv = .slice (some ⟨g, 0, none⟩) i (L + 1) /\ ii = .int .i64 i /\ i <= L /\ wr.ownsRow 0 3 1 (.slice (some ⟨g, 0, none⟩) i (L + 1)) i (zbi (ws.take i)) /\ Fr [] w wr) (fun _ ii _ => L - (Lib.intOf ii).toNat)
  case atStart => exact ⟨0, rfl, rfl, Nat.zero_le _, hown, h01⟩
  case round =>
    obtain ⟨i, rfl, rfl, hiL, hO, hF⟩ := hrel
    have hsz := (hO.lt g rfl).2
    by_cases hil : i < L
    · have hi' : i < ws.length := by rw [<- HL.out]; exact hil
      obtain ⟨b, off, e, _, hc⟩ := (h.keep hF).lies (by omega)
      subst e
      have d0 := hc i hi'
      obtain ⟨x, hx⟩ : ∃ x, x = ws.getD i 0 := ⟨_, rfl⟩
      rw [<- hx] at d0
      have HE : Hid (zbi (ws.take (i + 1)) = zbi (ws.take i) ++ [.int .i64 x]) := by
        show _ = _
        rw [zdg ws i hi', <- hx]; simp [zbi]
      clear hc hx
      go_wp2_with (at_builtin; refine wpList_append_fits _ rfl (.tmp 15) (.tmp 20) 54 rfl 0 3 i0 1 Tryz.undIsW hi hz1 g i (L + 1) _ rfl (hO.alloc _) ⟨wr.heap.size, 0, none⟩ 1 1 [.int .i64 x] rfl rfl ?c1 ?c2 ?c3 ?_)
      case c1 => intro j u hj; match j, hj with | 0, hj => simp at hj; subst hj; simp [Addr.add]
      case c2 => intro u hu; simp at hu; subst hu; rfl
      case c3 => omega
      intro w2 hO2 hg2
      rw [<- HE.out] at hO2
      have hF2 : Fr [] w w2 := (hF.then (Fr.alloc [] wr _)).on (Fr.grown (S := [g]) hg2 (by intro k hk _; cases hk; simp)) (by intro y hy; simp at hy; omega)
      clear hO hg2 hF d0
      go_wp2
      go_roundw
      case rel => exact ⟨i + 1, rfl, by simp, by omega, hO2, hF2⟩
      case measure => simp [Lib.intOf]; omega
    · have hiL' : L <= i := by omega
      obtain rfl : i = L := by omega
      have HE : Hid (zbi (ws ++ [7777]) = zbi (ws.take i) ++ [.int .i64 7777]) := by
        show _ = _
        rw [List.take_of_length_le (by rw [<- HL.out]; omega)]; simp [zbi]
      go_wp2_with (at_builtin; refine wpList_append_fits _ rfl (.tmp 22) (.tmp 23) 54 rfl 0 3 i0 1 Tryz.undIsW hi hz1 g i (i + 1) _ rfl (hO.alloc _) ⟨wr.heap.size, 0, none⟩ 1 1 [.int .i64 7777] rfl rfl ?c1 ?c2 ?c3 ?_)
      case c1 => intro j u hj; match j, hj with | 0, hj => simp at hj; subst hj; simp [Addr.add]
      case c2 => intro u hu; simp at hu; subst hu; rfl
      case c3 => omega
      intro w2 hO2 hg2
      rw [<- HE.out] at hO2
      have hF2 : Fr [] w w2 := (hF.then (Fr.alloc [] wr _)).on (Fr.grown (S := [g]) hg2 (by intro k hk _; cases hk; simp)) (by intro y hy; simp at hy; omega)
      have HRow : Hid (w2.heap[g]? = some (.cells (zbi (ws ++ [7777])).toArray 3 (0, 0))) := zub hO2
      clear hO hg2 hF hO2
      go_wp2
      go_ret
      exact ⟨g, rfl, hgw, HRow.out, hF2⟩
theorem zru (t : Nat) (ao : Option Addr) (L cap : Nat) (ws : List Int) (w : World) (h : IRs w ao ws) (hLe : L = ws.length) (hL : L <= 17592186044416) (hrow : w.heap[t]? = some (.cells (zbi (ws ++ [7777])).toArray 3 (0, 0))) :
    Calls Tryz.prog 84 #[.slice (some ⟨t, 0, none⟩) L (L + 1), .slice ao L cap] w fun e w' => e = .returned (.bool true) /\ Fr [] w w' := by
  have HL : Hid (L = ws.length) := hLe
  clear hLe
  have hct : ∀ j, j < L -> w.cell? ⟨t, j, none⟩ = some (.int .i64 (ws.getD j 0)) := by
    intro j hj
    rw [cell_of_row _ _ _ _ _ _ hrow, List.getElem?_toArray, zhh _ _ (by rw [List.length_append, <- HL.out]; simp; omega)]
    have e : (ws ++ [7777]).getD j 0 = ws.getD j 0 := by simp [List.getD, List.getElem?_append_left (show j < ws.length by rw [<- HL.out]; exact hj)]
    rw [e]
  have hsp : w.cell? ⟨t, L, none⟩ = some (.int .i64 7777) := by
    rw [cell_of_row _ _ _ _ _ _ hrow, List.getElem?_toArray, zhh _ _ (by rw [List.length_append, <- HL.out]; simp)]
    have e : (ws ++ [7777]).getD L 0 = 7777 := by simp [List.getD, HL.out]
    rw [e]
  have hne : ((L : Int) != L) = false := by simp
  clear hrow
  go_enter Tryz.func84, Tryz.ntmps84
  go_wp2_with fail
  go_loopw [5] (fun ii wr => ∃ (i q : Nat), ii = .int .i64 i /\ i <= L /\ Hid (wr = w.drewN q)) (fun ii _ => L - (Lib.intOf ii).toNat)
  case atStart => exact ⟨0, 0, rfl, Nat.zero_le _, rfl⟩
  case round =>
    obtain ⟨i, q, rfl, hiL, HQ⟩ := hrel
    have hce : ∀ a, wr.cell? a = w.cell? a := fun a => by rw [HQ.out]; rfl
    by_cases hi : i < L
    · have hi' : i < ws.length := by rw [<- HL.out]; exact hi
      obtain ⟨b, off, e, _, hc⟩ := h.lies (by omega)
      subst e
      have c0 := hct i hi
      have d0 := hc i hi'
      obtain ⟨x, hxx⟩ : ∃ x, x = ws.getD i 0 := ⟨_, rfl⟩
      rw [<- hxx, <- hce] at c0 d0
      clear hxx hct hc hsp hce
      have hq : (x != x) = false := by simp
      go_wp2_with fail
      go_quiet (fail)
      go_wp2
      go_roundw
      case rel => exact ⟨i + 1, q + nq, by simp, by omega, by show _ = _; rw [HQ.out]; simp⟩
      case measure => simp [Lib.intOf]; omega
    · have hiL' : L <= i := by omega
      have c0 := hsp
      rw [<- hce] at c0
      have hFq : Fr [] w wr := by rw [HQ.out]; exact Fr.drewN _ _ _
      clear hct hce hsp
      go_wp2
      go_ret
      exact ⟨by simp, hFq⟩
end Go.Proofs.YtembflnhhfliaaaGreatDoor
namespace Go.Proofs.YtembflnhhfliaaaGreatDoor.Bq
open Go.ChangeShapes Go.WideShapes Go.ChangeAt Go.RowKit Go.Lib
def Went (w : World) (v : Value) (g : Nat) (w' : World) : Prop := (v.ownBlock = some g /\ w.grownBy w' (some g)) \/ (w.heap.size <= g /\ w.grownBy w' none)
theorem Went.fr {w w' : World} {v : Value} {g : Nat} (h : Went w v g w') : Fr v.ownBlock.toList w w' := by
  rcases h with ⟨h1, h2⟩ | ⟨_, h2⟩
  · refine Fr.grown h2 ?_
    intro k hk _
    cases hk
    simp [h1]
  · exact Fr.grown h2 (by simp)
theorem Went.moved {w w' : World} {v : Value} {g n cap : Nat} (h : Went w v g w') : Moved w.heap.size v (.slice (some ⟨g, 0, none⟩) n cap) := by
  rcases h with ⟨h1, _⟩ | ⟨h1, _⟩
  · exact Or.inl (by rw [h1]; rfl)
  · exact Or.inr ⟨g, rfl, h1⟩
section
variable {P : Program} (w : World)
theorem zcc (t ty e : TypeId) (i : TypeInfo) (z : Value) (size bytes : Nat) (ht : P.underlying t = some (.slice e)) (hi : P.info? e = some i) (hz : i.zero = some z)
    (hsize : i.size = size) (hby : i.bytes = bytes) (hzs : z.cells.size = size) (hsz : 0 < size)
    (v : Value) (n : Nat) (xs : List Value) (hown : w.ownsRow 0 e size v n xs)
    (a : Addr) (m c : Nat) (news : List Value) (hm : 0 < m) (hl : news.length = m * size) (hnews : ∀ j u, news[j]? = some u -> w.cell? (a.add j) = some u) (h1 : ∀ u ∈ news, u.oneCell' = true)
    (h63 : n + m <= maxLen) (hbytes : (n + m) * bytes <= 140737488355328) :
    ∃ g cap w', (Builtin.append_ #[t, t] ty #[v, .slice (some a) m c]).run P w = .ok (.slice (some ⟨g, 0, none⟩) (n + m) cap) w' /\ w'.ownsRow 0 e size (.slice (some ⟨g, 0, none⟩) (n + m) cap) (n + m) (xs ++ news) /\ Went w v g w' := by
  obtain ⟨v', w', hr, h2, h3, h4⟩ := run_append_own (P := P) w 0 t ty e i z size bytes ht hi hz hsize hby hzs hsz v n xs hown a m c news hl hnews h1 h63 hbytes (Nat.zero_le _)
  obtain ⟨g, cap, rfl⟩ : ∃ g cap, v' = .slice (some ⟨g, 0, none⟩) (n + m) cap := by
    rcases h2.2 with ⟨_, hh⟩ | ⟨g, cap', _, hh, _⟩
    · omega
    · exact ⟨g, cap', hh⟩
  refine ⟨g, cap, w', hr, h2, ?_⟩
  subst hsize
  subst hby
  have hsmall : n + m <= 9223372036854775807 := by simp only [maxLen] at h63; omega
  rcases hown.2 with ⟨rfl, rfl⟩ | ⟨g0, cap0, cur, rfl, hbg, hg, hnc, hcm, hcs, htake⟩
  · have hr2 := run_append_nil (P := P) w t ty e i z ht hi hz a m c news hl hnews (by omega) (by omega) (by have hb := hbytes; simp only [Nat.zero_add] at hb; omega)
    rw [hr] at hr2
    injection hr2 with e1 e2
    simp only [Value.slice.injEq, Option.some.injEq, Addr.mk.injEq] at e1
    obtain ⟨⟨rfl, _⟩, _⟩ := e1
    subst e2
    exact Or.inr ⟨Nat.le_refl _, ⟨rfl, rfl, rfl, by simp, fun k hk _ => Below.heap_alloc w.drew _ _ hk⟩⟩
  · by_cases hroom : n + m <= cap0
    · have hfit : n * i.size + news.length <= cur.size := by rw [hl, hcs, <- Nat.add_mul]; exact Nat.mul_le_mul_right _ hroom
      have hr2 := run_append_room (P := P) w t ty e i ht hi g0 n cap0 cur hg a m c news hl hnews h1 hroom hfit
      rw [hr] at hr2
      cases hr2
      exact Or.inl ⟨rfl, h3⟩
    · have holds : ∀ j u, xs[j]? = some u -> w.cell? ((⟨g0, 0, none⟩ : Addr).add j) = some u := hown.cells (g := g0) rfl
      have hr2 := run_append_grow (P := P) w t ty e i z ht hi hz ⟨g0, 0, none⟩ n cap0 xs hown.1 holds a m c news hl hnews (by omega) (by omega) (growslice_fits (by omega) hbytes)
      rw [hr] at hr2
      cases hr2
      exact Or.inr ⟨Nat.le_refl _, ⟨rfl, rfl, rfl, by simp, fun k hk _ => Below.heap_alloc w.drew _ _ hk⟩⟩
theorem zjx {ops : Array Oper} {rest : List Oper} {o : Oper} {a : Act} {Q : Exit -> Act -> World -> Prop} (hgd : o.guard = none) (s x : Operand) (t : TypeId)
    (ho : o.op = .call { callee := .builtin .append, args := #[s, x], argTypes := #[t, t] })
    (e : TypeId) (i : TypeInfo) (z : Value) (size bytes : Nat) (ht : P.underlying t = some (.slice e)) (hi : P.info? e = some i) (hz : i.zero = some z)
    (hsize : i.size = size) (hby : i.bytes = bytes) (hzs : z.cells.size = size) (hsz : 0 < size)
    (v : Value) (n : Nat) (xs : List Value) (hs : a.eval s = v) (hown : w.ownsRow 0 e size v n xs)
    (ad : Addr) (c : Nat) (news : List Value) (hx : a.eval x = .slice (some ad) 1 c) (hl : news.length = size) (hnews : ∀ j u, news[j]? = some u -> w.cell? (ad.add j) = some u) (h1 : ∀ u ∈ news, u.oneCell' = true)
    (hbytes : (n + 1) * bytes <= 140737488355328) (h63 : n + 1 <= maxLen)
    (h : ∀ g cap w', w'.ownsRow 0 e size (.slice (some ⟨g, 0, none⟩) (n + 1) cap) (n + 1) (xs ++ news) -> Went w v g w' -> wpList P ops Q rest (a.put o.dst (.slice (some ⟨g, 0, none⟩) (n + 1) cap)) w') : wpList P ops Q (o :: rest) a w := by
  refine wpList_plain hgd fun K hK => ?_
  obtain ⟨g, cap, w', hr, h2, h3⟩ := zcc (P := P) w t o.type e i z size bytes ht hi hz hsize hby hzs hsz v n xs hown ad 1 c news (by omega) (by omega) hnews h1 h63 hbytes
  unfold Oper.wp execOp
  simp only [ho, resolve, invoke, builtin, Sem.run_bind, Sem.run_pure, Result.andThen_ok, List.map_toArray, List.map_cons, List.map_nil, hs, hx, hr]
  exact hK _ _ (h g cap w' h2 h3)
theorem zgr {ops : Array Oper} {o : Oper} {a : Act} {K : Act -> World -> Prop} {Q : Exit -> Act -> World -> Prop} {E : Prop} (hg : o.guard = none) (s x : Operand) (t : TypeId)
    (ho : o.op = .call { callee := .builtin .append, args := #[s, x], argTypes := #[t, t] })
    (e : TypeId) (i : TypeInfo) (z : Value) (size bytes : Nat) (ht : P.underlying t = some (.slice e)) (hi : P.info? e = some i) (hz : i.zero = some z)
    (hsize : i.size = size) (hby : i.bytes = bytes) (hzs : z.cells.size = size) (hsz : 0 < size)
    (v : Value) (n : Nat) (xs : List Value) (hs : a.eval s = v) (hown : w.ownsRow 0 e size v n xs)
    (ad : Addr) (c : Nat) (news : List Value) (hx : a.eval x = .slice (some ad) 1 c) (hl : news.length = size) (hnews : ∀ j u, news[j]? = some u -> w.cell? (ad.add j) = some u) (h1 : ∀ u ∈ news, u.oneCell' = true)
    (hbytes : (n + 1) * bytes <= 140737488355328) (h63 : n + 1 <= maxLen)
    (h : ∀ g cap w', w'.ownsRow 0 e size (.slice (some ⟨g, 0, none⟩) (n + 1) cap) (n + 1) (xs ++ news) -> Went w v g w' -> K (a.put o.dst (.slice (some ⟨g, 0, none⟩) (n + 1) cap)) w') :
    if Region.wanted o (yielded ops a.tmps) = true then Oper.wp P o a w K Q else E := by
  have hw : Region.wanted o (yielded ops a.tmps) = true := by simp [Region.wanted, hg]
  rw [if_pos hw]
  obtain ⟨g, cap, w', hr, h2, h3⟩ := zcc (P := P) w t o.type e i z size bytes ht hi hz hsize hby hzs hsz v n xs hown ad 1 c news (by omega) (by omega) hnews h1 h63 hbytes
  unfold Oper.wp execOp
  simp only [ho, resolve, invoke, builtin, Sem.run_bind, Sem.run_pure, Result.andThen_ok, List.map_toArray, List.map_cons, List.map_nil, hs, hx, hr]
  exact h g cap w' h2 h3
end
theorem zae {w : World} {b j : Nat} {cs : Array Value} {t : TypeId} (x : Value) (h : w.heap[b]? = some (.cells cs t (0, 0))) : (w.setCell ⟨b, j, none⟩ x).heap[b]? = some (.cells (cs.setIfInBounds j x) t (0, 0)) := by
  have hlt := lt_of_block h
  have h' : w.heap[b] = .cells cs t (0, 0) := by simpa [Array.getElem?_eq_getElem hlt] using h
  show (w.heap.modify b _)[b]? = _
  rw [Array.getElem?_eq_getElem (by simpa using hlt), Array.getElem_modify_self, h']
  rfl
theorem zcn {w : World} {e : TypeId} {g n cap size : Nat} {vs : List Value} (h : w.ownsRow 0 e size (.slice (some ⟨g, 0, none⟩) n cap) n vs) (j : Nat) (x : Value) :
    (w.setCell ⟨g, j, none⟩ x).ownsRow 0 e size (.slice (some ⟨g, 0, none⟩) n cap) n (vs.set j x) := by
  have hl := h.1
  rcases h.2 with ⟨hh, _⟩ | ⟨g', cap', cur, hh, hb, hg, hnc, hcm, hcs, ht⟩
  · cases hh
  · cases hh
    refine ⟨by rw [List.length_set]; exact hl, .inr ⟨g, cap, cur.setIfInBounds j x, rfl, hb, zae x hg, hnc, hcm, by simpa using hcs, ?_⟩⟩
    rw [Array.toList_setIfInBounds, List.take_set, ht]
theorem zbz {w : World} {e : TypeId} {g n cap size : Nat} {vs : List Value} (h : w.ownsRow 0 e size (.slice (some ⟨g, 0, none⟩) n cap) n vs) (j : Nat) : w.frozen? ⟨g, j, none⟩ = false := by
  rcases h.2 with ⟨hh, _⟩ | ⟨g', cap', cur, hh, hb, hg, _⟩
  · cases hh
  · cases hh
    simp [World.frozen?, hg]
theorem zaf {w : World} {e : TypeId} {size : Nat} {v : Value} {n : Nat} {vs : List Value} (h : w.ownsRow 0 e size v n vs) : ∀ k, v.ownBlock = some k -> ∃ cs, w.heap[k]? = some (.cells cs e (0, 0)) := by
  intro k hk
  rcases h.2 with ⟨rfl, _⟩ | ⟨g', cap', cur, rfl, hb, hg, _⟩
  · simp [Value.ownBlock] at hk
  · simp [Value.ownBlock] at hk
    subst hk
    exact ⟨cur, hg⟩
theorem zba {w : World} {e : TypeId} {size : Nat} {v : Value} {n : Nat} {vs : List Value} (h : w.ownsRow 0 e size v n vs) (h0 : 0 < n) : ∃ g cap, v = .slice (some ⟨g, 0, none⟩) n cap /\ n <= cap := by
  rcases h.2 with ⟨_, hh⟩ | ⟨g', cap', cur, rfl, hb, hg, hn, _⟩
  · omega
  · exact ⟨g', cap', rfl, hn⟩
theorem zad {w : World} {e : TypeId} {size : Nat} {v : Value} {n : Nat} {vs : List Value} (h : w.ownsRow 0 e size v n vs) : ∃ ao cap, v = .slice ao n cap := by
  rcases h.2 with ⟨rfl, rfl⟩ | ⟨g', cap', cur, rfl, _⟩
  · exact ⟨none, 0, rfl⟩
  · exact ⟨_, _, rfl⟩
end Go.Proofs.YtembflnhhfliaaaGreatDoor.Bq
