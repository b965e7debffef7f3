/- Contracts and plain lemmas of this claim. -/
import Derived.Test.YtembflnhhfliaaaGreatDoorGp20
import Derived.Laws.StructEq
import Derived.Shelf.Strconv.Itoa3
import Derived.Shelf.Lay
import Derived.Lib.ItoaLen
import Derived.Test.YtembflnhhfliaaaGreatDoorGp5
set_option linter.unusedVariables false
set_option maxHeartbeats 1000000
namespace Go.Proofs
open Go.Shelf
shelf_lay LaysM.n171 Nm 171 at Tryz as Tryz.laysItoa
end Go.Proofs
namespace Go.Proofs.YtembflnhhfliaaaGreatDoor.Bq
open BigFrame Go.ChangeShapes Go.WideShapes Go.ChangeAt Go.RowKit Go.Lib Go.Shelf
theorem Tryz.undStr : Tryz.prog.underlying 9 = some .string := by kernel_rfl
def Tab (w : World) : Prop := Lib.TabIs Tryz.prog w "internal/strconv.uint64pow10" .u64 Lib.pow10Tab
noncomputable def gTab : Nat := (Tryz.prog.globalNamed "internal/strconv.uint64pow10").getD 0
theorem gTab_is : Tryz.prog.globalNamed "internal/strconv.uint64pow10" = some gTab := by kernel_rfl
theorem Tab.lt {w : World} (h : Tab w) : gTab < w.heap.size := by
  have h' : w.var? Tryz.prog "internal/strconv.uint64pow10" = some (Lib.pow10Tab.map fun z => Value.int .u64 z).toArray := h
  unfold World.var? at h'
  rw [gTab_is] at h'
  simp only [Option.bind_some] at h'
  by_cases hg : gTab < w.heap.size
  · exact hg
  · rw [Array.getElem?_eq_none (by omega)] at h'
    simp at h'
theorem Tab.keep {S : List Nat} {w w' : World} (h : Tab w) (hf : Fr S w w') (hn : gTab ∉ S) : Tab w' := by
  have hlt := h.lt
  have h' : w.var? Tryz.prog "internal/strconv.uint64pow10" = some (Lib.pow10Tab.map fun z => Value.int .u64 z).toArray := h
  show w'.var? Tryz.prog "internal/strconv.uint64pow10" = _
  rw [<- h']
  unfold World.var?
  rw [gTab_is]
  simp only [Option.bind_some]
  rw [hf.block gTab hlt hn]
theorem zwg (n : Nat) (hn : n < 134217728) (w : World) (ht : Tab w) : Calls Tryz.prog 178 #[.int .i64 (n : Int)] w fun e w' => e = .returned (.string ⟨(Lib.itoa (n : Int)).toArray⟩) /\ Fr [] w w' := by
  refine (Any.strconv_Itoa Tryz.laysItoa (n : Int) (by omega) (by omega) w ht).mono ?_
  rintro e w' ⟨rfl, k, os, rfl⟩
  refine ⟨rfl, rfl, rfl, rfl, by simp [Sort.grow], fun i hi _ => ?_⟩
  exact Array.getElem?_append_left hi
def zeg (n : Nat) : ByteArray := (⟨#[35]⟩ : ByteArray) ++ (⟨(Lib.itoa (n : Int)).toArray⟩ : ByteArray)
theorem zns (n : Nat) (B : ByteArray) (hn : n < 134217728) (hB : zeg n = B) (w : World) (ht : Tab w) : Calls Tryz.prog 148 #[.int .i64 (n : Int)] w fun e w' => e = .returned (.string B) /\ Fr [] w w' := by
  have HB : Hid ((⟨#[35]⟩ : ByteArray) ++ (⟨(Lib.itoa (n : Int)).toArray⟩ : ByteArray) = B) := hB
  clear hB
  obtain ⟨T, HT⟩ : ∃ T : ByteArray, Hid (T = ⟨(Lib.itoa (n : Int)).toArray⟩) := ⟨_, rfl⟩
  have hTs : T.size <= 21 := by
    rw [HT.out]
    show (Lib.itoa (n : Int)).toArray.size <= 21
    have := Lib.itoa_length_le (n : Int) (by omega) (by omega)
    simpa using this
  go_enter Tryz.func148, Tryz.ntmps148
  go_wp2_with fail
  refine (zwg n hn _ ht).mono ?_
  rintro e w1 ⟨rfl, hF⟩
  rw [<- HT.out]
  go_wp2
  go_ret
  rw [<- HB.out, <- HT.out]
  exact ⟨rfl, hF⟩
section
variable {P : Program} (w : World)
theorem zpe (t ty e : TypeId) (i : TypeInfo) (z : Value) (size bytes : Nat) (ht : P.underlying t = some (.slice e)) (hi : P.info? e = some i) (hz : i.zero = some z)
    (hsize : i.size = size) (hby : i.bytes = bytes) (hzs : z.cells.size = size) (hsz : 0 < size)
    (v : Value) (n : Nat) (xs : List Value) (hown : Cut w e size v n xs)
    (a : Addr) (c : Nat) (news : List Value) (hl : news.length = size) (hnews : ∀ j u, news[j]? = some u -> w.cell? (a.add j) = some u) (h1 : ∀ u ∈ news, u.oneCell' = true)
    (h63 : n + 1 <= maxLen) (hbytes : (n + 1) * bytes <= 140737488355328) :
    ∃ g cap w', (Builtin.append_ #[t, t] ty #[v, .slice (some a) 1 c]).run P w = .ok (.slice (some ⟨g, 0, none⟩) (n + 1) cap) w' /\ Cut w' e size (.slice (some ⟨g, 0, none⟩) (n + 1) cap) (n + 1) (xs ++ news) /\ Went w v g w' := by
  obtain ⟨ao, rc, rf, rfl, hnr, hrf, hO⟩ := hown
  obtain ⟨g', cap', w', hr, hO', hW⟩ := zcc (P := P) w t ty e i z size bytes ht hi hz hsize hby hzs hsz (.slice ao n rf) n xs hO a 1 c news (by omega) (by omega) hnews h1 h63 hbytes
  have hsmall : n + 1 <= 9223372036854775807 := by simp only [maxLen] at h63; omega
  rcases hO.2 with ⟨hv, hn⟩ | ⟨g, cap, cur, hv, hbg, hg, hnc, hcm, hcs, htake⟩
  · cases hv
    obtain rfl : rc = 0 := by omega
    exact ⟨g', cap', w', hr, Cut.of hO', hW⟩
  · cases hv
    subst hsize
    subst hby
    by_cases hroom : n + 1 <= rc
    · have hfit : n * i.size + news.length <= cur.size := by
        rw [hl, hcs]
        have := Nat.mul_le_mul_right i.size (show n + 1 <= rf by omega)
        rw [Nat.add_mul] at this
        omega
      have hA := run_append_room (P := P) w t ty e i ht hi g n rc cur hg a 1 c news (by omega) hnews h1 hroom hfit
      have hB := run_append_room (P := P) w t ty e i ht hi g n rf cur hg a 1 c news (by omega) hnews h1 (by omega) hfit
      rw [hr] at hB
      injection hB with e1 e2
      simp only [Value.slice.injEq, Option.some.injEq, Addr.mk.injEq] at e1
      obtain ⟨⟨rfl, _⟩, _, rfl⟩ := e1
      subst e2
      exact ⟨g', rc, _, hA, ⟨_, rc, cap', rfl, hroom, hrf, hO'⟩, hW⟩
    · have holds : ∀ j u, xs[j]? = some u -> w.cell? ((⟨g, 0, none⟩ : Addr).add j) = some u := hO.cells (g := g) rfl
      have hA := run_append_grow (P := P) w t ty e i z ht hi hz ⟨g, 0, none⟩ n rc xs hO.1 holds a 1 c news (by omega) hnews (by omega) (by omega) (growslice_fits (by omega) hbytes)
      have hGn : n + 1 <= grownCap w (n + 1) rc e := grownCap_ge w _ _ _
      have hGm := grownCap_le_maxLen w (n + 1) rc e h63
      refine ⟨_, _, _, hA, Cut.of ?_, Or.inr ⟨Nat.le_refl _, ⟨rfl, rfl, rfl, by simp, fun k hk _ => Below.heap_alloc w.drew _ _ hk⟩⟩⟩
      have el : (xs ++ news).length = (n + 1) * i.size := by rw [List.length_append, hO.1, hl, Nat.add_mul]; omega
      refine ⟨el, .inr ⟨w.heap.size, _, _, rfl, Nat.zero_le _, heap_alloc_new w.drew _, hGn, hGm, ?_, ?_⟩⟩
      · have e1 : xs.length = n * i.size := hO.1
        have e3 : (grownCap w (n + 1) rc e - (n + 1)) * i.size + (n + 1) * i.size = grownCap w (n + 1) rc e * i.size := by rw [<- Nat.add_mul]; congr 1; omega
        simp only [Array.size_append, size_zeroCells, List.size_toArray, e1, hl, hzs]
        rw [Nat.add_mul] at e3
        omega
      · rw [Array.toList_append, Array.toList_append, List.take_append_of_le_length (by simp only [List.length_append] at el ⊢; omega), List.take_of_length_le (by simp only [List.length_append] at el ⊢; omega)]
theorem zdt {ops : Array Oper} {rest : List Oper} {o : Oper} {a : Act} {Q : Exit -> Act -> World -> Prop} (hgd : o.guard = none) (s x : Operand) (t : TypeId)
    (ho : o.op = .call { callee := .builtin .append, args := #[s, x], argTypes := #[t, t] })
    (e : TypeId) (i : TypeInfo) (z : Value) (size bytes : Nat) (ht : P.underlying t = some (.slice e)) (hi : P.info? e = some i) (hz : i.zero = some z)
    (hsize : i.size = size) (hby : i.bytes = bytes) (hzs : z.cells.size = size) (hsz : 0 < size)
    (v : Value) (n : Nat) (xs : List Value) (hs : a.eval s = v) (hown : Cut w e size v n xs)
    (ad : Addr) (c : Nat) (news : List Value) (hx : a.eval x = .slice (some ad) 1 c) (hl : news.length = size) (hnews : ∀ j u, news[j]? = some u -> w.cell? (ad.add j) = some u) (h1 : ∀ u ∈ news, u.oneCell' = true)
    (hbytes : (n + 1) * bytes <= 140737488355328) (h63 : n + 1 <= maxLen)
    (h : ∀ g cap w', Cut w' e size (.slice (some ⟨g, 0, none⟩) (n + 1) cap) (n + 1) (xs ++ news) -> Went w v g w' -> wpList P ops Q rest (a.put o.dst (.slice (some ⟨g, 0, none⟩) (n + 1) cap)) w') : wpList P ops Q (o :: rest) a w := by
  refine wpList_plain hgd fun K hK => ?_
  obtain ⟨g, cap, w', hr, h2, h3⟩ := zpe (P := P) w t o.type e i z size bytes ht hi hz hsize hby hzs hsz v n xs hown ad c news hl hnews h1 h63 hbytes
  unfold Oper.wp execOp
  simp only [ho, resolve, invoke, builtin, Sem.run_bind, Sem.run_pure, Result.andThen_ok, List.map_toArray, List.map_cons, List.map_nil, hs, hx, hr]
  exact hK _ _ (h g cap w' h2 h3)
end
abbrev kVersion : Kd := { tH := 134, tE := 136, S := 3, mark := fun n => [.int .i64 (mInt n), .string ⟨#[]⟩, .bool false], col := 6, pos := by decide, len := fun _ => rfl, hE := by decide, hB := by decide, eB := by decide }
theorem zft (n : Nat) (B : Int) (w : World) (hn : n < 134217728) (hB : mInt n = B) : Calls Tryz.prog 103 #[.int .i64 (n : Int)] w fun e w' => e = .returned (.agg #[.int .i64 B, .string ⟨#[]⟩, .bool false]) /\ Fr [] w w' := by
  have HM : Hid (-1000 - (n : Int) = B) := hB
  clear hB
  go_enter Tryz.func103, Tryz.ntmps103
  go_wp2
  refine bodyPost_ret (v := (.agg #[.int .i64 B, .string ⟨#[]⟩, .bool false])) (by rw [res_c1 rfl, <- HM.out]; go_simp) rfl ⟨rfl, ?_⟩
  exact Fr.alloc [] w _
theorem zhi (n : Nat) (B : Int) (w : World) (hn : n < 134217728) (hB : mInt n = B) : Calls Tryz.prog 114 #[.agg #[.int .i64 B, .string ⟨#[]⟩, .bool false], .int .i64 (n : Int)] w fun e w' => e = .returned (.bool true) /\ Fr [] w w' := by
  subst hB
  unfold mInt
  have hgd := Tryz.guardVn
  have hq : ∀ w', (Op.equalIn 10000 136 (.agg #[.int .i64 (-1000 - (n : Int)), .string ⟨#[]⟩, .bool false]) (.agg #[.int .i64 (-1000 - (n : Int)), .string ⟨#[]⟩, .bool false])).run Tryz.prog w' = .ok true w' := fun w' => by
    have := zmk w' ⟨-1000 - (n : Int), ⟨#[]⟩, false⟩ ⟨-1000 - (n : Int), ⟨#[]⟩, false⟩
    rw [(zdu _ _).2 rfl] at this
    exact this
  go_enter Tryz.func114, Tryz.ntmps114
  go_wp2
  go_ret
  exact ⟨by simp, Fr.alloc _ _ _⟩
theorem zil (n : Nat) (B : ByteArray) (w : World) (hn : n < 134217728) (hB : zeg n = B) (ht : Tab w) : Calls Tryz.prog 105 #[.int .i64 (n : Int)] w fun e w' => e = .returned (.agg #[.string B, .slice none 0 0]) /\ Fr [] w w' := by
  have HB : Hid (zeg n = B) := hB
  have hz : (w.alloc (Obj.cells #[.string ⟨#[]⟩, .slice none 0 0] 147)).heap[w.heap.size]? = some (Obj.cells #[.string ⟨#[]⟩, .slice none 0 0] 147) := heap_alloc_new _ _
  clear hB
  go_enter Tryz.func105, Tryz.ntmps105
  go_wp2_with fail
  refine (zns n B hn HB.out _ (ht.keep (Fr.alloc [] w _) (by simp))).mono ?_
  rintro e w1 ⟨rfl, hF⟩
  have hz1 := hF.keep hz (by simp)
  have z0 : w1.cell? ⟨w.heap.size, 0, none⟩ = some (.string ⟨#[]⟩) := by rw [cell_of_row _ _ _ _ _ _ hz1]; rfl
  have z1 : w1.cell? ⟨w.heap.size, 1, none⟩ = some (.slice none 0 0) := by rw [cell_of_row _ _ _ _ _ _ hz1]; rfl
  have q0 : w1.frozen? ⟨w.heap.size, 0, none⟩ = false := by simp [World.frozen?, hz1]
  have q1 : w1.frozen? ⟨w.heap.size, 1, none⟩ = false := by simp [World.frozen?, hz1]
  have hF0 : Fr [] w w1 := (Fr.alloc [] w _).then hF
  clear hz hz1 hF
  go_wp2
  refine bodyPost_ret (v := (.agg #[.string B, .slice none 0 0])) (by rw [res_c1 rfl]; go_simp) rfl ⟨rfl, ?_⟩
  exact hF0.on ((Fr.set (S := [w.heap.size]) w1 ⟨w.heap.size, 0, none⟩ _ (by simp)).then (Fr.set _ ⟨w.heap.size, 1, none⟩ _ (by simp))) (by simp)
abbrev kHeld : Kd := { tH := 145, tE := 147, S := 2, mark := fun n => [.string (zeg n), .slice none 0 0], col := 8, pos := by decide, len := fun _ => rfl, hE := by decide, hB := by decide, eB := by decide }
theorem zlt (n : Nat) (B : ByteArray) (w : World) (hn : n < 134217728) (hB : zeg n = B) (ht : Tab w) : Calls Tryz.prog 116 #[.agg #[.string B, .slice none 0 0], .int .i64 (n : Int)] w fun e w' => e = .returned (.bool true) /\ Fr [] w w' := by
  have HB : Hid (zeg n = B) := hB
  clear hB
  obtain ⟨w0, HW0⟩ : ∃ w0, Hid (w.alloc (.cells #[.string B, .slice none 0 0] 147) = w0) := ⟨_, rfl⟩
  have hb0 : w0.heap[w.heap.size]? = some (.cells #[.string B, .slice none 0 0] 147 (0, 0)) := by rw [<- HW0.out]; exact heap_alloc_new w _
  have hF0 : Fr [] w w0 := by rw [<- HW0.out]; exact Fr.alloc [] _ _
  have HT0 : Hid (Tab w0) := ht.keep hF0 (by simp)
  have f0 : ∀ x : Wd w0, x.W.cell? ⟨w.heap.size, 0, none⟩ = some (.string B) := fun x => by rw [cell_of_row _ _ _ _ _ _ (x.h.keep hb0 (by simp))]; rfl
  have f1 : ∀ x : Wd w0, x.W.cell? ⟨w.heap.size, 1, none⟩ = some (.slice none 0 0) := fun x => by rw [cell_of_row _ _ _ _ _ _ (x.h.keep hb0 (by simp))]; rfl
  clear hb0 ht
  go_enter Tryz.func116, Tryz.ntmps116
  go_upto_region 1 with fail
  rw [HW0.out]
  clear HW0
  refine zbm (w1 := w0) (by kernel_rfl) (by kernel_rfl) (Fr.refl _ _) ?_
  repeat (go_big_quiet_step (exact (zns n B hn HB.out _ (HT0.out.keep (Wd.h _) (by simp))).mono fun e w3 hh => ⟨hh.1, ⟨_, Fr.then (Wd.h _) hh.2⟩, rfl⟩))
  refine wpQuiet_nil ?_
  rintro _ ⟨x, rfl⟩
  go_wp2
  go_ret
  exact ⟨by simp, hF0.then x.h⟩
def Off (K : Kd) (S : List Nat) (w : World) : Prop := ∀ k ∈ S, ∃ cs t, w.heap[k]? = some (.cells cs t (0, 0)) /\ t ≠ 52 /\ t ≠ K.tH /\ t ≠ K.tE
def Kd.off (K J : Kd) : Prop := J.tH ≠ K.tH /\ J.tH ≠ K.tE /\ J.tE ≠ K.tH /\ J.tE ≠ K.tE
theorem zqa {K J : Kd} (hKJ : K.off J) {w : World} {hs : List HB} (h : ∀ (j : Nat) (h : HB), hs[j]? = some h -> ∀ k, h.l.ownBlock = some k -> ∃ cs, w.heap[k]? = some (.cells cs J.tE (0, 0))) : Off K (lbs hs) w := by
  intro k hk
  obtain ⟨b, hb, hbk⟩ := mem_lbs.1 hk
  obtain ⟨j, hj⟩ := List.getElem?_of_mem hb
  obtain ⟨cs, hc⟩ := h j b hj k hbk
  exact ⟨cs, J.tE, hc, J.eB, hKJ.2.2.1, hKJ.2.2.2⟩
theorem zau {K J : Kd} (hKJ : K.off J) {w : World} {bk : Nat} {rv : Value} {hs : List HB} (h : Bl J w bk rv hs) : Off K rv.ownBlock.toList w := by
  intro k hk
  obtain ⟨cs, hc⟩ := zaf h.row k (by simpa using hk)
  exact ⟨cs, J.tH, hc, J.hB, hKJ.1, hKJ.2.1⟩
theorem Off.append {K : Kd} {S T : List Nat} {w : World} (h : Off K S w) (k : Off K T w) : Off K (S ++ T) w := by
  intro x hx
  rcases List.mem_append.1 hx with hx | hx
  · exact h x hx
  · exact k x hx
theorem Off.nil (K : Kd) (w : World) : Off K [] w := by intro x hx; simp at hx
section
variable {K : Kd} {S : List Nat} {w w' : World} {bk : Nat} {rv : Value} {hs : List HB}
theorem Off.notE (h : Off K S w) {k : Nat} {cs : Array Value} (hk : w.heap[k]? = some (.cells cs K.tE (0, 0))) : k ∉ S := by
  intro hm
  obtain ⟨cs', t, hc, _, _, h3⟩ := h k hm
  rw [hc] at hk
  simp only [Option.some.injEq, Obj.cells.injEq] at hk
  exact h3 hk.2.1
theorem Off.notH (h : Off K S w) {k : Nat} {cs : Array Value} (hk : w.heap[k]? = some (.cells cs K.tH (0, 0))) : k ∉ S := by
  intro hm
  obtain ⟨cs', t, hc, _, h2, _⟩ := h k hm
  rw [hc] at hk
  simp only [Option.some.injEq, Obj.cells.injEq] at hk
  exact h2 hk.2.1
theorem Off.notB (h : Off K S w) {k : Nat} {cs : Array Value} (hk : w.heap[k]? = some (.cells cs 52 (0, 0))) : k ∉ S := by
  intro hm
  obtain ⟨cs', t, hc, h1, _, _⟩ := h k hm
  rw [hc] at hk
  simp only [Option.some.injEq, Obj.cells.injEq] at hk
  exact h1 hk.2.1
structure S0 (K : Kd) (w : World) (bk : Nat) (rv : Value) (hs : List HB) : Prop where
  bl : Bl K w bk rv hs
  each : ∀ (j : Nat) (h : HB), hs[j]? = some h -> P0 K w h
  alone : zda hs
  fresh : zds hs
structure S1 (K : Kd) (w : World) (bk : Nat) (rv : Value) (hs : List HB) : Prop where
  bl : Bl K w bk rv hs
  each : ∀ (j : Nat) (h : HB), hs[j]? = some h -> P1 K w h
  alone : zda hs
  fresh : zds hs
structure S2 (K : Kd) (w : World) (bk : Nat) (rv : Value) (hs : List HB) : Prop where
  bl : Bl K w bk rv hs
  each : ∀ (j : Nat) (h : HB), hs[j]? = some h -> P2 K w h
theorem Bl.stay (h : Bl K w bk rv hs) (hf : Fr S w w') (ho : Off K S w) : Bl K w' bk rv hs := by
  obtain ⟨cs, h1, _⟩ := h.box
  exact h.keep hf (ho.notB h1) (fun k hk => by obtain ⟨cs, hc⟩ := zaf h.row k hk; exact ho.notH hc)
theorem S0.stay (h : S0 K w bk rv hs) (hf : Fr S w w') (ho : Off K S w) : S0 K w' bk rv hs :=
  ⟨h.bl.stay hf ho, fun j b hb => (h.each j b hb).keep hf (fun k hk => by obtain ⟨cs, hc⟩ := (h.each j b hb).type k hk; exact ho.notE hc), h.alone, h.fresh⟩
theorem S1.stay (h : S1 K w bk rv hs) (hf : Fr S w w') (ho : Off K S w) : S1 K w' bk rv hs :=
  ⟨h.bl.stay hf ho, fun j b hb => (h.each j b hb).keep hf (fun k hk => by obtain ⟨cs, hc⟩ := (h.each j b hb).type k hk; exact ho.notE hc), h.alone, h.fresh⟩
theorem S2.stay (h : S2 K w bk rv hs) (hf : Fr S w w') (ho : Off K S w) : S2 K w' bk rv hs := by
  refine ⟨h.bl.stay hf ho, fun j b hb => ?_⟩
  obtain ⟨n, q1, q2, q3⟩ := h.each j b hb
  exact P2.keep ⟨n, q1, q2, q3⟩ hf (fun k hk => by obtain ⟨cs, hc⟩ := q1.type k hk; exact ho.notE hc) (fun k hk => by obtain ⟨cs, hc⟩ := q2.type k hk; exact ho.notE hc)
theorem S0.filled (h : S0 K w bk rv hs) (hF : FillInv K w bk rv hs hs.length w') : S1 K w' bk rv hs :=
  ⟨hF.bk, fun j b hb => hF.done j b hb (List.getElem?_eq_some_iff.1 hb).1, h.alone, h.fresh⟩
theorem S1.grown {hs' : List HB} (h : S1 K w bk rv hs) (hG : GrowInv K w bk rv hs hs.length hs' w') : S2 K w' bk rv hs' :=
  ⟨hG.bk, fun j b hb => hG.done j b hb (by rw [<- hG.len]; exact (List.getElem?_eq_some_iff.1 hb).1)⟩
theorem S0.offs {J : Kd} (hKJ : J.off K) (h : S0 K w bk rv hs) : Off J (lbs hs) w := zqa hKJ fun j b hb => (h.each j b hb).type
theorem S1.offs {J : Kd} (hKJ : J.off K) (h : S1 K w bk rv hs) : Off J (rv.ownBlock.toList ++ lbs hs) w := (zau hKJ h.bl).append (zqa hKJ fun j b hb => (h.each j b hb).type)
end
structure Bx (w : World) (bk : Nat) (cs : Array Value) : Prop where
  box : w.heap[bk]? = some (.cells cs 52 (0, 0))
  size : cs.size = 12
  rest : ∀ c, c = 3 \/ c = 4 \/ c = 5 \/ c = 7 \/ c = 9 \/ c = 10 \/ c = 11 -> cs[c]? = some (.slice none 0 0)
theorem Bx.c {w : World} {bk : Nat} {cs : Array Value} (h : Bx w bk cs) (c : Nat) (hc : c = 3 \/ c = 4 \/ c = 5 \/ c = 7 \/ c = 9 \/ c = 10 \/ c = 11) : w.cell? ⟨bk, c, none⟩ = some (.slice none 0 0) := by
  rw [cell_of_row _ _ _ _ _ _ h.box, h.rest c hc]
theorem Bx.keep {S : List Nat} {w w' : World} {bk : Nat} {cs : Array Value} (h : Bx w bk cs) (hf : Fr S w w') (hb : bk ∉ S) : Bx w' bk cs := ⟨hf.keep h.box hb, h.size, h.rest⟩
theorem zct : kByte.off kInt := by refine ⟨?_, ?_, ?_, ?_⟩ <;> decide
theorem zcu : kByte.off kHeld := by refine ⟨?_, ?_, ?_, ?_⟩ <;> decide
theorem zcv : kByte.off kVersion := by refine ⟨?_, ?_, ?_, ?_⟩ <;> decide
theorem zdv : kInt.off kByte := by refine ⟨?_, ?_, ?_, ?_⟩ <;> decide
theorem zfu : kInt.off kHeld := by refine ⟨?_, ?_, ?_, ?_⟩ <;> decide
theorem zfv : kInt.off kVersion := by refine ⟨?_, ?_, ?_, ?_⟩ <;> decide
theorem zka : kHeld.off kByte := by refine ⟨?_, ?_, ?_, ?_⟩ <;> decide
theorem zdw : kHeld.off kInt := by refine ⟨?_, ?_, ?_, ?_⟩ <;> decide
theorem zfw : kHeld.off kVersion := by refine ⟨?_, ?_, ?_, ?_⟩ <;> decide
theorem zkb : kVersion.off kByte := by refine ⟨?_, ?_, ?_, ?_⟩ <;> decide
theorem zdx : kVersion.off kInt := by refine ⟨?_, ?_, ?_, ?_⟩ <;> decide
theorem zfx : kVersion.off kHeld := by refine ⟨?_, ?_, ?_, ?_⟩ <;> decide
end Go.Proofs.YtembflnhhfliaaaGreatDoor.Bq
