/- Slices of bytes that came in, rows of bytes of one's own, appends and copies of them, and the statements' own helpers TwinBytes, LeftBytes, SameBytes. Conditions as each lemma names them. -/
import Derived.Test.YtgoonbikhdbkiaaGreatDoorMem
import Derived.ShutString
import Derived.ChangeOld
import Derived.Below
import Derived.Lib.AppendZeros
import Derived.Deep.RegionLaw
import Derived.Deep.RegionWith
import Derived.Deep.RegionHeld3
import Derived.Deep.CutRange
namespace Go.Proofs.YtgoonbikhdbkiaaGreatDoor
open Go.ChangeShapes Go.WideShapes Go.ChangeAt Go.RowKit Go.Lib

/-- The slice that came in reads as the bytes xs. -/
structure BArg (w : World) (ao : Option Addr) (L cap : Nat) (xs : List Nat) : Prop where
  len : L = xs.length
  low : ∀ x ∈ xs, x < 256
  fits : L ≤ cap
  most : L ≤ 9223372036854775807
  lies : 0 < L → ∃ b off, ao = some ⟨b, off, none⟩ ∧ b < w.heap.size ∧ ∀ j, j < L → w.cell? ⟨b, off + j, none⟩ = some (.int .u8 ((xs.getD j 0 : Nat) : Int))
theorem BArg.keep {w w' : World} {ao : Option Addr} {L cap : Nat} {xs : List Nat} (h : BArg w ao L cap xs) (hf : Fr [] w w') : BArg w' ao L cap xs := by
  refine ⟨h.len, h.low, h.fits, h.most, fun h0 => ?_⟩
  obtain ⟨b, off, e, hb, hc⟩ := h.lies h0
  exact ⟨b, off, e, Nat.lt_of_lt_of_le hb hf.size, fun j hj => (World.cell?_of_block (hf.block b hb (by simp))).trans (hc j hj)⟩
theorem BArg.src {w : World} {ao : Option Addr} {L cap : Nat} {xs : List Nat} (h : BArg w ao L cap xs) : 0 < L → ∃ a, ao = some a ∧ ∀ j u, (bts xs)[j]? = some u → w.cell? (a.add j) = some u := by
  intro h0
  obtain ⟨b, off, e, _, hc⟩ := h.lies h0
  refine ⟨_, e, fun j u hj => ?_⟩
  have hj' : j < xs.length := by have := (List.getElem?_eq_some_iff.1 hj).1; rwa [bts_length] at this
  rw [bts_get xs j hj'] at hj
  rw [show (⟨b, off, none⟩ : Addr).add j = ⟨b, off + j, none⟩ from by simp [Addr.add], hc j (by rw [h.len]; exact hj')]
  exact hj
/-- What the frame of a law hands on of a slice of integers. -/
def IsRow (k : IntKind) (w : World) (a : Option Addr) (len cap : Nat) (zs : List Int) : Prop :=
  (a = none ∧ len = 0 ∧ cap = 0 ∧ zs = []) ∨
  ∃ x, a = some x ∧ len ≤ cap ∧ cap ≤ maxLen ∧ zs.length = cap ∧ (∀ i, i < zs.length → w.cell? (x.add i) = some (.int k (zs.getD i 0))) ∧ ∀ n ∈ zs, (Lit.int k n).wf = true
theorem BArg.of_row {w : World} {a : Option Addr} {len cap : Nat} {zs : List Int} (h : IsRow .u8 w a len cap zs) : ∃ xs, BArg w a len cap xs := by
  rcases h with ⟨rfl, rfl, rfl, rfl⟩ | ⟨x, rfl, hl, hm, hz, hc, hw⟩
  · exact ⟨[], rfl, by simp, Nat.le_refl _, by omega, fun h => by omega⟩
  · have hbd : ∀ n ∈ zs, 0 ≤ n ∧ n ≤ 255 := fun n hn => bounds_u8 (hw n hn)
    refine ⟨(zs.take len).map Int.toNat, ?_, ?_, hl, by simp only [maxLen] at hm; omega, ?_⟩
    · simp [hz]; omega
    · intro y hy
      obtain ⟨n, hn, rfl⟩ := List.mem_map.1 hy
      have := hbd n (List.mem_of_mem_take hn)
      omega
    · intro h0
      obtain ⟨b, off, spot⟩ := x
      have hspot : spot = none := by simpa [Addr.add] using World.cell?_spot (hc 0 (by omega))
      subst hspot
      refine ⟨b, off, rfl, ?_, fun j hj => ?_⟩
      · have := World.block_lt_of_cell? w _ (hc 0 (by omega))
        simpa [Addr.add] using this
      · have h1 := hc j (by omega)
        rw [show (⟨b, off, none⟩ : Addr).add j = ⟨b, off + j, none⟩ from by simp [Addr.add]] at h1
        rw [h1]
        have hjz : j < zs.length := by omega
        have hg : zs.getD j 0 = zs[j] := by simp [List.getD, hjz]
        have hb := hbd zs[j] (List.getElem_mem _)
        have e : ((zs.take len).map Int.toNat).getD j 0 = (zs[j]).toNat := by simp [List.getD, hj, hjz]
        rw [hg, e]
        congr 2
        omega

theorem own_full {w : World} {g n : Nat} {xs : List Value} (h : w.ownsRow 0 5 1 (.slice (some ⟨g, 0, none⟩) n n) n xs) : w.heap[g]? = some (.cells xs.toArray 5 (0, 0)) := by
  have hl := h.1
  rcases h.2 with ⟨hh, _⟩ | ⟨g', cap', cur, hh, _, hg, _, _, hcs, ht⟩
  · cases hh
  · cases hh
    rw [hg]
    congr 2
    rw [← Array.toList_inj]
    simp only
    rw [← ht, List.take_of_length_le (by simp [hcs])]

set_option maxHeartbeats 4000000 in
set_option maxRecDepth 100000 in
theorem twin_any (ao : Option Addr) (L cap : Nat) (xs : List Nat) (w : World) (h : BArg w ao L cap xs) (hL : L < 2^40) :
    Calls Tryz.prog 12 #[.slice ao L cap] w fun e w' => ∃ b, e = .returned (.slice (some ⟨b, 0, none⟩) L (L + 1)) ∧ w.heap.size ≤ b ∧ w'.heap[b]? = some (.cells (bts (xs ++ [77])).toArray 5 (0, 0)) ∧ Fr [] w w' := by
  obtain ⟨i0, hi, hz0, hz1, hz2⟩ := info_parts Tryz.infoB
  have HL : Hid (L = xs.length) := h.len
  go_enter Tryz.func12, Tryz.ntmps12
  go_wp2_with (at_make; refine wpList_make_own _ rfl (.const (.int .i64 0)) (.tmp 7) 45 rfl 0 5 i0 (.int .u8 0) 1 Tryz.undBs hi hz0 hz1 .i64 .i64 ((L : Int) + 1) (L + 1) rfl rfl ?bC ?b2 ?b3 ?b4 ?_)
  case bC => simp
  case b2 => rw [hz2]; omega
  case b3 => unfold maxLen; omega
  case b4 => exact Nat.zero_le _
  intro w1 hown hgrow
  obtain ⟨g, hg⟩ : ∃ g, g = w.heap.size := ⟨_, rfl⟩
  have hgw : w.heap.size ≤ g := by omega
  rw [← hg] at hown ⊢
  have h01 : Fr [] w w1 := Fr.grown (S := []) hgrow (by simp)
  clear hgrow hg
  go_wp2_with fail
  go_loopw [3, 4] (fun vv ii wr => ∃ i : Nat, vv = .slice (some ⟨g, 0, none⟩) i (L + 1) ∧ ii = .int .i64 i ∧ i ≤ L ∧ wr.ownsRow 0 5 1 (.slice (some ⟨g, 0, none⟩) i (L + 1)) i (bts (xs.take i)) ∧ Fr [] w wr) (fun _ ii _ => L - (intOf ii).toNat)
  case atStart => exact ⟨0, rfl, rfl, Nat.zero_le _, hown, h01⟩
  case round =>
    obtain ⟨i, rfl, rfl, hiL, hO, hF⟩ := hrel
    have hsz := (hO.lt g rfl).2
    by_cases hil : i < L
    · obtain ⟨b, off, e, _, hc⟩ := (h.keep hF).lies (by omega)
      subst e
      have hcx := hc i hil
      obtain ⟨x, hx⟩ : ∃ x, x = xs.getD i 0 := ⟨_, rfl⟩
      rw [← hx] at hcx
      have HE : Hid (bts (xs.take (i + 1)) = bts (xs.take i) ++ [.int .u8 (x : Int)]) := by
        show _ = _
        have hget : xs[i]? = some x := by rw [hx, List.getD, List.getElem?_eq_getElem (by rw [← HL.out]; exact hil)]; rfl
        have e : xs.take (i + 1) = xs.take i ++ [x] := by rw [List.take_add_one, hget]; rfl
        rw [e, bts_append]; rfl
      clear hc hx
      go_wp2_with (at_builtin; refine wpList_append_fits _ rfl (.tmp 15) (.tmp 20) 45 rfl 0 5 i0 1 Tryz.undBs hi hz1 g i (L + 1) _ rfl (hO.alloc _) ⟨wr.heap.size, 0, none⟩ 1 1 [.int .u8 (x : Int)] rfl rfl ?c1 ?c2 ?c3 ?_)
      case c1 => intro j u hj; match j, hj with | 0, hj => simp at hj; subst hj; simp [Addr.add]
      case c2 => intro u hu; simp at hu; subst hu; rfl
      case c3 => omega
      intro w2 hO2 hg2
      rw [← HE.out] at hO2
      have hF2 : Fr [] w w2 := (hF.then (Fr.alloc [] wr _)).on (Fr.grown (S := [g]) hg2 (by intro k hk _; cases hk; simp)) (by intro y hy; simp at hy; omega)
      clear hO hg2 hF hcx
      go_wp2
      go_roundw
      case rel => exact ⟨i + 1, rfl, by simp, by omega, hO2, hF2⟩
      case measure => simp [intOf]; omega
    · have hiL' : L ≤ i := by omega
      obtain rfl : i = L := by omega
      have HE : Hid (bts (xs ++ [77]) = bts (xs.take i) ++ [.int .u8 77]) := by
        show _ = _
        rw [List.take_of_length_le (by rw [← HL.out]; omega), bts_append]; rfl
      go_wp2_with (at_builtin; refine wpList_append_fits _ rfl (.tmp 22) (.tmp 23) 45 rfl 0 5 i0 1 Tryz.undBs hi hz1 g i (i + 1) _ rfl (hO.alloc _) ⟨wr.heap.size, 0, none⟩ 1 1 [.int .u8 77] rfl rfl ?c1 ?c2 ?c3 ?_)
      case c1 => intro j u hj; match j, hj with | 0, hj => simp at hj; subst hj; simp [Addr.add]
      case c2 => intro u hu; simp at hu; subst hu; rfl
      case c3 => omega
      intro w2 hO2 hg2
      rw [← HE.out] at hO2
      have hF2 : Fr [] w w2 := (hF.then (Fr.alloc [] wr _)).on (Fr.grown (S := [g]) hg2 (by intro k hk _; cases hk; simp)) (by intro y hy; simp at hy; omega)
      have hrow := own_full hO2
      have HRow : Hid (w2.heap[g]? = some (.cells (bts (xs ++ [77])).toArray 5 (0, 0))) := hrow
      clear hO hg2 hF hO2 hrow
      go_wp2
      go_ret
      exact ⟨g, rfl, hgw, HRow.out, hF2⟩

set_option maxHeartbeats 4000000 in
set_option maxRecDepth 100000 in
theorem leftBytes_any (t : Nat) (ao : Option Addr) (L cap : Nat) (xs : List Nat) (w : World) (h : BArg w ao L cap xs) (hL : L < 2^40) (hrow : w.heap[t]? = some (.cells (bts (xs ++ [77])).toArray 5 (0, 0))) :
    Calls Tryz.prog 15 #[.slice (some ⟨t, 0, none⟩) L (L + 1), .slice ao L cap] w fun e w' => e = .returned (.bool true) ∧ ∃ q, w' = w.drewN q := by
  have HL : Hid (L = xs.length) := h.len
  have hct : ∀ j, j < L → w.cell? ⟨t, j, none⟩ = some (.int .u8 ((xs.getD j 0 : Nat) : Int)) := by
    intro j hj
    rw [cell_of_row _ _ _ _ _ _ hrow]
    have := bts_get (xs ++ [77]) j (by rw [List.length_append, ← HL.out]; omega)
    have e : (xs ++ [77]).getD j 0 = xs.getD j 0 := by simp [List.getD, List.getElem?_append_left (show j < xs.length by rw [← HL.out]; exact hj)]
    rw [e] at this
    simpa using this
  have hc77 : w.cell? ⟨t, L, none⟩ = some (.int .u8 77) := by
    rw [cell_of_row _ _ _ _ _ _ hrow]
    have := bts_get (xs ++ [77]) L (by rw [List.length_append, ← HL.out]; simp)
    have e : (xs ++ [77]).getD L 0 = 77 := by simp [List.getD, HL.out]
    rw [e] at this
    simpa using this
  have hne : ((L : Int) != L) = false := by simp
  clear hrow
  go_enter Tryz.func15, Tryz.ntmps15
  go_wp2_with fail
  go_loopw [5] (fun ii wr => ∃ (i q : Nat), ii = .int .i64 i ∧ i ≤ L ∧ wr = w.drewN q) (fun ii _ => L - (intOf ii).toNat)
  case atStart => exact ⟨0, 0, rfl, Nat.zero_le _, rfl⟩
  case round =>
    obtain ⟨i, q, rfl, hi, rfl⟩ := hrel
    by_cases hil : i < L
    · obtain ⟨b, off, e, _, hc⟩ := h.lies (by omega)
      subst e
      have hx := hct i hil
      have hy := hc i hil
      obtain ⟨x, hxx⟩ : ∃ x, x = xs.getD i 0 := ⟨_, rfl⟩
      rw [← hxx] at hx hy
      clear hxx hct hc
      have hb1 : ((x : Int) != x) = false := by simp
      go_wp2_with fail
      go_quiet (fail)
      go_wp2
      go_roundw
      case rel => exact ⟨i + 1, q + nq, by simp, by omega, by simp⟩
      case measure => simp [intOf]; omega
    · have hiL : L ≤ i := by omega
      clear hct
      go_wp2
      go_ret
      exact ⟨rfl, _, rfl⟩

section
variable {P : Program} (w : World)
theorem moved_app0 (t ty e : TypeId) (i : TypeInfo) (z : Value) (size bytes : Nat) (ht : P.underlying t = some (.slice e)) (hi : P.info? e = some i) (hz : i.zero = some z)
    (hsize : i.size = size) (hby : i.bytes = bytes)
    (v : Value) (n : Nat) (xs : List Value) (hown : w.ownsRow 0 e size v n xs)
    (a : Addr) (m c : Nat) (news : List Value) (hl : news.length = m * size) (hnews : ∀ j u, news[j]? = some u → w.cell? (a.add j) = some u) (h1 : ∀ u ∈ news, u.oneCell' = true)
    (h63 : n + m ≤ maxLen) (hbytes : (n + m) * bytes ≤ 140737488355328) (v' : Value) (w' : World)
    (hr : (Builtin.append_ #[t, t] ty #[v, .slice (some a) m c]).run P w = .ok v' w') (hnil : v' = .slice none 0 0 ↔ v = .slice none 0 0 ∧ m = 0) : Moved w.heap.size v v' := by
  by_cases hm : 0 < m
  · exact moved_app (P := P) w t ty e i z size bytes ht hi hz hsize hby v n xs hown a m c news hm hl hnews h1 h63 hbytes v' w' hr
  · obtain rfl : m = 0 := by omega
    subst hsize
    rcases hown.2 with ⟨rfl, rfl⟩ | ⟨g, cap, cur, rfl, hbg, hg, hnc, hcm, hcs, htake⟩
    · rw [hnil.2 ⟨rfl, rfl⟩]
      exact Moved.refl _ _
    · have hfit : n * i.size + news.length ≤ cur.size := by rw [hl, hcs, ← Nat.add_mul]; exact Nat.mul_le_mul_right _ (by omega)
      have hr2 := run_append_room (P := P) w t ty e i ht hi g n cap cur hg a 0 c news hl hnews h1 (by omega) hfit
      rw [hr] at hr2
      cases hr2
      exact Or.inl rfl
theorem run_append_none0 (t ty e : TypeId) (i : TypeInfo) (size c : Nat) (ht : P.underlying t = some (.slice e)) (hi : P.info? e = some i)
    (v : Value) (n : Nat) (xs : List Value) (hown : w.ownsRow 0 e size v n xs) :
    (Builtin.append_ #[t, t] ty #[v, .slice none 0 c]).run P w = .ok v w := by
  rcases hown.2 with ⟨rfl, rfl⟩ | ⟨g, cap, cur, rfl, _, _, hnc, _⟩
  · simp [Builtin.append_, run_underlying ht, sizeOf, typeInfo, hi, Builtin.lenOf, Builtin.firstCells]
  · simp [Builtin.append_, run_underlying ht, sizeOf, typeInfo, hi, Builtin.lenOf, Builtin.firstCells, hnc, storeCells]
theorem own_shape {e : TypeId} {v : Value} {n : Nat} {xs : List Value} (h : w.ownsRow 0 e 1 v n xs) : ∃ ao cap, v = .slice ao n cap := by
  rcases h.2 with ⟨hh, h0⟩ | ⟨g, cap', _, hh, _⟩
  · exact ⟨none, 0, by rw [hh, h0]⟩
  · exact ⟨_, cap', hh⟩
end

/-- All bytes of a slice that came in, behind a row of one's own. -/
theorem wpList_appB (w : World) {ops : Array Oper} {rest : List Oper} {o : Oper} {a : Act} {Q : Exit → Act → World → Prop} (hgd : o.guard = none) (s x : Operand)
    (ho : o.op = .call { callee := .builtin .append, args := #[s, x], argTypes := #[45, 45] })
    (v : Value) (n : Nat) (xs : List Nat) (hs : a.eval s = v) (hown : w.ownsRow 0 5 1 v n (bts xs))
    (ao : Option Addr) (L cap : Nat) (ys : List Nat) (hx : a.eval x = .slice ao L cap) (hB : BArg w ao L cap ys) (hn : n + L < 2^40)
    (h : ∀ bo n' cap' w', n' = n + L → w'.ownsRow 0 5 1 (.slice bo n' cap') n' (bts (xs ++ ys)) → w.grownBy w' v.ownBlock → Moved w.heap.size v (.slice bo n' cap') → wpList Tryz.prog ops Q rest (a.put o.dst (.slice bo n' cap')) w') : wpList Tryz.prog ops Q (o :: rest) a w := by
  refine wpList_plain hgd fun K hK => ?_
  obtain ⟨i0, hi, hz0, hz1, hz2⟩ := info_parts Tryz.infoB
  have hl : (bts ys).length = L * 1 := by rw [bts_length, hB.len]; omega
  cases ao with
  | none =>
    have hL : L = 0 := by
      rcases Nat.eq_zero_or_pos L with h0 | h0
      · exact h0
      · obtain ⟨b, off, e, _⟩ := hB.lies h0
        cases e
    subst hL
    have hys : ys = [] := List.eq_nil_of_length_eq_zero hB.len.symm
    subst hys
    have hr := run_append_none0 (P := Tryz.prog) w 45 o.type 5 i0 1 cap Tryz.undBs hi v n (bts xs) hown
    obtain ⟨bo, cap', rfl⟩ := own_shape w hown
    unfold Oper.wp execOp
    simp only [ho, resolve, invoke, builtin, Sem.run_bind, Sem.run_pure, Result.andThen_ok, List.map_toArray, List.map_cons, List.map_nil, hs, hx, hr]
    exact hK _ _ (h bo n cap' w (by omega) (by rw [List.append_nil]; exact hown) ⟨rfl, rfl, rfl, Nat.le_refl _, fun _ _ _ => rfl⟩ (Moved.refl _ _))
  | some ad =>
    have hnews : ∀ j u, (bts ys)[j]? = some u → w.cell? (ad.add j) = some u := by
      intro j u hj
      have hj' : j < ys.length := by have := (List.getElem?_eq_some_iff.1 hj).1; rwa [bts_length] at this
      obtain ⟨a', e, hc⟩ := hB.src (by rw [hB.len]; omega)
      cases e
      exact hc j u hj
    obtain ⟨v', w', hr, h2, h3, h4⟩ := run_append_own (P := Tryz.prog) w 0 45 o.type 5 i0 (.int .u8 0) 1 1 Tryz.undBs hi hz0 hz1 hz2 rfl (by omega) v n (bts xs) hown ad L cap (bts ys) hl hnews (bts_oneCell ys) (by simp only [maxLen]; omega) (by omega) (Nat.zero_le _)
    have hmv := moved_app0 (P := Tryz.prog) w 45 o.type 5 i0 (.int .u8 0) 1 1 Tryz.undBs hi hz0 hz1 hz2 v n (bts xs) hown ad L cap (bts ys) hl hnews (bts_oneCell ys) (by simp only [maxLen]; omega) (by omega) v' w' hr h4
    obtain ⟨bo, cap', rfl⟩ := own_shape w' h2
    unfold Oper.wp execOp
    simp only [ho, resolve, invoke, builtin, Sem.run_bind, Sem.run_pure, Result.andThen_ok, List.map_toArray, List.map_cons, List.map_nil, hs, hx, hr]
    exact hK _ _ (h bo _ cap' w' rfl (by rw [bts_append]; exact h2) h3 hmv)

/-- A row of one's own, as what came in. -/
theorem own_arg {w : World} {ao : Option Addr} {n cap : Nat} {xs : List Nat} (h : w.ownsRow 0 5 1 (.slice ao n cap) n (bts xs)) (hl : ∀ x ∈ xs, x < 256) (hm : n < 2^40) : BArg w ao n cap xs := by
  have hn : n = xs.length := by have := h.1; rw [bts_length] at this; omega
  rcases h.2 with ⟨hh, h0⟩ | ⟨g, cap', cur, hh, _, hg, hnc, _, hcs, ht⟩
  · cases hh
    exact ⟨hn, hl, Nat.le_refl _, by omega, fun h => by omega⟩
  · cases hh
    refine ⟨hn, hl, hnc, by omega, fun h0 => ⟨g, 0, rfl, lt_of_block hg, fun j hj => ?_⟩⟩
    have := h.cells (g := g) rfl j _ (bts_get xs j (by omega))
    rw [show (⟨g, 0, none⟩ : Addr).add j = ⟨g, 0 + j, none⟩ from by simp [Addr.add]; omega] at this
    exact this
theorem own_none (w : World) : w.ownsRow 0 5 1 (.slice none 0 0) 0 (bts []) := ⟨rfl, .inl ⟨rfl, rfl⟩⟩

theorem Tryz.undB : Tryz.prog.underlying 5 = some (.int .u8) := by kernel_rfl

/-- The slice at ao reads as the bytes xs. -/
structure Rs (w : World) (ao : Option Addr) (xs : List Nat) : Prop where
  lies : 0 < xs.length → ∃ b off, ao = some ⟨b, off, none⟩ ∧ ∀ j, j < xs.length → w.cell? ⟨b, off + j, none⟩ = some (.int .u8 ((xs.getD j 0 : Nat) : Int))
  len : xs.length < 2^41
theorem Rs.of_row {w : World} {b : Nat} {xs : List Nat} (h : w.heap[b]? = some (.cells (bts xs).toArray 5 (0, 0))) (hl : xs.length < 2^41) : Rs w (some ⟨b, 0, none⟩) xs :=
  ⟨fun _ => ⟨b, 0, rfl, fun j hj => by rw [cell_of_row _ _ _ _ _ _ h, Nat.zero_add]; simpa using bts_get xs j hj⟩, hl⟩
theorem Rs.nil (w : World) (ao : Option Addr) : Rs w ao [] := ⟨fun h => by simp at h, by simp⟩
theorem Rs.take {w : World} {ao : Option Addr} {xs : List Nat} (h : Rs w ao xs) (k : Nat) : Rs w ao (xs.take k) := by
  refine ⟨fun h0 => ?_, by have := h.len; rw [List.length_take]; omega⟩
  rw [List.length_take] at h0
  obtain ⟨b, off, e, hc⟩ := h.lies (by omega)
  refine ⟨b, off, e, fun j hj => ?_⟩
  rw [List.length_take] at hj
  rw [hc j (by omega)]
  simp [List.getD, show j < k by omega]
theorem Rs.drewN {w : World} {ao : Option Addr} {xs : List Nat} (h : Rs w ao xs) (q : Nat) : Rs (w.drewN q) ao xs := ⟨h.lies, h.len⟩
theorem Rs.keep {S : List Nat} {w w' : World} {b off : Nat} {xs : List Nat} (h : Rs w (some ⟨b, off, none⟩) xs) (hf : Fr S w w') (hb : b ∉ S) : Rs w' (some ⟨b, off, none⟩) xs := by
  refine ⟨fun h0 => ?_, h.len⟩
  obtain ⟨b', off', e, hc⟩ := h.lies h0
  cases e
  refine ⟨b, off, rfl, fun j hj => ?_⟩
  have hlt := World.block_lt_of_cell? w _ (hc j hj)
  exact (World.cell?_of_block (hf.block b hlt hb)).trans (hc j hj)

theorem row_src {w : World} {b : Nat} {xs : List Nat} (h : w.heap[b]? = some (.cells (bts xs).toArray 5 (0, 0))) : ∀ j u, (bts xs)[j]? = some u → w.cell? ((⟨b, 0, none⟩ : Addr).add j) = some u := by
  intro j u hj
  rw [show (⟨b, 0, none⟩ : Addr).add j = ⟨b, 0 + j, none⟩ from by simp [Addr.add]; omega, cell_of_row _ _ _ _ _ _ h, Nat.zero_add]
  simpa using hj
theorem same_upto (xs ys : List Nat) (hl : xs.length = ys.length) (h : ∀ j, j < xs.length → xs.getD j 0 = ys.getD j 0) : xs = ys := by
  apply List.ext_getElem hl
  intro i h1 h2
  have := h i h1
  simpa [List.getD, h1, h2] using this

set_option maxHeartbeats 2000000 in
set_option maxRecDepth 100000 in
theorem same_any (a b : Option Addr) (L M ca cb : Nat) (xs ys : List Nat) (w : World) (ha : Rs w a xs) (hb : Rs w b ys) (hL : L = xs.length) (hM : M = ys.length) :
    Calls Tryz.prog 23 #[.slice a L ca, .slice b M cb] w fun e w' => e = .returned (.bool (decide (xs = ys))) ∧ ∃ q, w' = w.drewN q := by
  obtain ⟨R, hR⟩ : ∃ R, R = decide (xs = ys) := ⟨_, rfl⟩
  rw [← hR]
  have HR : Hid (R = decide (xs = ys)) := hR
  have HL : Hid (L = xs.length) := hL
  have HM : Hid (M = ys.length) := hM
  have hLl : L < 2^41 := by have := ha.len; omega
  have hMl : M < 2^41 := by have := hb.len; omega
  clear hR hL hM
  by_cases hLM : L = M
  · subst hLM
    have hne : ((L : Int) != L) = false := by simp
    by_cases h0 : 0 < L
    · obtain ⟨ba, oa, rfl, hca⟩ := ha.lies (by rw [← HL.out]; exact h0)
      obtain ⟨bb, ob, rfl, hcb⟩ := hb.lies (by rw [← HM.out]; exact h0)
      rw [← HL.out] at hca
      rw [← HM.out] at hcb
      go_enter Tryz.func23, Tryz.ntmps23
      go_wp2_with fail
      go_loopw [5] (fun ii wr => ∃ (i q : Nat), ii = .int .i64 i ∧ i ≤ L ∧ Hid (∀ j, j < i → xs.getD j 0 = ys.getD j 0) ∧ wr = w.drewN q) (fun ii _ => L - (intOf ii).toNat)
      case atStart => exact ⟨0, 0, rfl, Nat.zero_le _, fun j hj => by omega, rfl⟩
      case round =>
        obtain ⟨i, q, rfl, hiL, HE, rfl⟩ := hrel
        by_cases hi : i < L
        · have hx := hca i hi
          have hy := hcb i hi
          obtain ⟨x, hxx⟩ : ∃ x, x = xs.getD i 0 := ⟨_, rfl⟩
          obtain ⟨y, hyy⟩ : ∃ y, y = ys.getD i 0 := ⟨_, rfl⟩
          rw [← hxx] at hx
          rw [← hyy] at hy
          have HX : Hid (x = xs.getD i 0) := hxx
          have HY : Hid (y = ys.getD i 0) := hyy
          clear hxx hyy hca hcb
          by_cases hxy : x = y
          · subst hxy
            have hb1 : ((x : Int) != x) = false := by simp
            have HE2 : Hid (∀ j, j < i + 1 → xs.getD j 0 = ys.getD j 0) := by
              intro j hj
              by_cases hji : j = i
              · subst hji; exact HX.out.symm.trans HY.out
              · exact HE.out j (by omega)
            go_wp2_with fail
            go_quiet (fail)
            go_wp2
            go_roundw
            case rel => exact ⟨i + 1, _, by simp, by omega, HE2, rfl⟩
            case measure => simp [intOf]; omega
          · have hb1 : ((x : Int) != y) = true := by rw [bne_iff_ne]; omega
            have HR' : Hid (R = false) := by
              show R = false
              rw [HR.out, decide_eq_false_iff_not]
              intro h
              exact hxy (by rw [HX.out, HY.out, h])
            clear hxy
            go_wp2_with fail
            go_quiet (fail)
            go_wp2
            go_ret
            rw [HR'.out]
            exact ⟨rfl, q + nq, by simp⟩
        · have HR' : Hid (R = true) := by
            show R = true
            rw [HR.out, decide_eq_true_eq]
            exact same_upto xs ys (HL.out.symm.trans HM.out) (fun j hj => HE.out j (by rw [← HL.out] at hj; omega))
          go_wp2
          go_ret
          rw [HR'.out]
          exact ⟨rfl, _, rfl⟩
    · obtain rfl : L = 0 := by omega
      have HR' : Hid (R = true) := by
        show R = true
        rw [HR.out, decide_eq_true_eq, List.eq_nil_of_length_eq_zero HL.out.symm, List.eq_nil_of_length_eq_zero HM.out.symm]
      go_enter Tryz.func23, Tryz.ntmps23
      go_wp2_with fail
      refine wp_loop_rounds 1 ?_
      rw [rounds_succ]
      go_wp2
      go_ret
      rw [HR'.out]
      exact ⟨rfl, 0, rfl⟩
  · have hne : ((L : Int) != M) = true := by rw [bne_iff_ne]; omega
    have HR' : Hid (R = false) := by
      show R = false
      rw [HR.out, decide_eq_false_iff_not]
      intro h
      exact hLM (by rw [HL.out, HM.out, h])
    clear hLM
    go_enter Tryz.func23, Tryz.ntmps23
    go_wp2
    go_ret
    rw [HR'.out]
    exact ⟨rfl, 0, rfl⟩
theorem same_no (a b : Option Addr) (L M ca cb : Nat) (xs ys : List Nat) (w : World) (ha : Rs w a xs) (hb : Rs w b ys) (hL : L = xs.length) (hM : M = ys.length) (hne : xs ≠ ys) :
    Calls Tryz.prog 23 #[.slice a L ca, .slice b M cb] w fun e w' => e = .returned (.bool false) ∧ ∃ q, w' = w.drewN q := by
  refine (same_any a b L M ca cb xs ys w ha hb hL hM).mono ?_
  rintro e w' ⟨rfl, R⟩
  exact ⟨by simp [hne], R⟩
theorem same_yes (a b : Option Addr) (L M ca cb : Nat) (xs ys : List Nat) (w : World) (ha : Rs w a xs) (hb : Rs w b ys) (hL : L = xs.length) (hM : M = ys.length) (heq : xs = ys) :
    Calls Tryz.prog 23 #[.slice a L ca, .slice b M cb] w fun e w' => e = .returned (.bool true) ∧ ∃ q, w' = w.drewN q := by
  refine (same_any a b L M ca cb xs ys w ha hb hL hM).mono ?_
  rintro e w' ⟨rfl, R⟩
  exact ⟨by simp [heq], R⟩
end Go.Proofs.YtgoonbikhdbkiaaGreatDoor
