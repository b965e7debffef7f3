/- Texts of this claim laid together, one behind the other: contracts and plain lemmas; conditions as each names them. -/
import Derived.Test.YtdcmjoildfofcaaGreatDoorGp3
import Derived.Laws.StructEq
import Derived.Shelf.Strconv.Itoa3
import Derived.Shelf.Lay
import Derived.Lib.ItoaLen
/- What == says of two writes (for the Book); a number as a text with a mark ahead of it. Conditions: the table of powers of ten reads as the library lays it. -/
namespace Go.Proofs
open Go.Shelf
shelf_lay LaysM.n171 Nm 171 at Tryz as Tryz.laysItoa
end Go.Proofs
namespace Go.Proofs.YtdcmjoildfofcaaGreatDoor.Bq
open BigFrame Go.ChangeShapes Go.WideShapes Go.ChangeAt Go.RowKit Go.Lib Go.Shelf
set_option linter.unusedVariables false
theorem Tryz.undStr : Tryz.prog.underlying 9 = some .string := by kernel_rfl
theorem Tryz.undWt : Tryz.prog.underlying 82 = some (.struct (Tryz.prog.fieldsOf 82)) := by kernel_rfl
theorem Tryz.heldWt : Tryz.prog.stoodInHeld 82 = false := by kernel_rfl
theorem Tryz.guardWt : Tryz.prog.eqGuardType Tryz.prog.depth 82 = false := by kernel_rfl
theorem Tryz.fieldsWt : (Tryz.prog.fieldsOf 82).toList.map (fun f => (f.name == "_", f.type, f.offset)) = [(false, 9, 0), (false, 9, 1), (false, 4, 2)] := by kernel_rfl
theorem Tryz.undBool : Tryz.prog.underlying 4 = some .bool := by kernel_rfl
theorem Tryz.infoStr1 : (Tryz.prog.info? 9).map (fun i => i.size) = some 1 := by kernel_rfl
theorem Tryz.infoBool1 : (Tryz.prog.info? 4).map (fun i => i.size) = some 1 := by kernel_rfl
theorem part_str (w : World) (cs : Array Value) (off : Nat) (v : Value) (h : cs[off]? = some v) : (part 9 cs off).run Tryz.prog w = .ok v w := by
  simp [part, isAgg, run_underlying Tryz.undStr, h, Sem.run_bind]
theorem part_bool (w : World) (cs : Array Value) (off : Nat) (v : Value) (h : cs[off]? = some v) : (part 4 cs off).run Tryz.prog w = .ok v w := by
  simp [part, isAgg, run_underlying Tryz.undBool, h, Sem.run_bind]
theorem eq_str (w : World) (a b : ByteArray) : (Op.equalIn 9999 9 (.string a) (.string b)).run Tryz.prog w = .ok (a.toList == b.toList) w := run_equalIn_string w 9998 _ a b Tryz.undStr
theorem eq_bool (w : World) (a b : Bool) : (Op.equalIn 9999 4 (.bool a) (.bool b)).run Tryz.prog w = .ok (a == b) w := run_equalIn_bool w 9998 _ a b Tryz.undBool
theorem step_field {P : Program} {w : World} {A B : Sem Value} {E : Value → Value → Sem Bool} {K : Sem Bool} {a b : Value} {r : Bool} (hA : A.run P w = .ok a w) (hB : B.run P w = .ok b w) (hE : (E a b).run P w = .ok r w) :
    (do let a ← A; let b ← B; let r ← E a b; if (!r) = true then pure false else K : Sem Bool).run P w = if r = true then K.run P w else .ok false w := by
  simp only [Sem.run_bind, hA, hB, hE, Result.andThen_ok]
  cases r <;> simp
set_option maxRecDepth 100000 in
theorem wt_fields (w : World) (k1 v1 k2 v2 : ByteArray) (p1 p2 : Bool) : (Op.equalIn 10000 82 (.agg #[.string k1, .string v1, .bool p1]) (.agg #[.string k2, .string v2, .bool p2])).run Tryz.prog w = .ok (k1.toList == k2.toList && (v1.toList == v2.toList && p1 == p2)) w := by
  rw [run_equalIn_struct w 9999 _ _ _ Tryz.undWt Tryz.heldWt]
  have hF := Tryz.fieldsWt
  obtain ⟨l, hl⟩ : ∃ l, l = (Tryz.prog.fieldsOf 82).toList := ⟨_, rfl⟩
  rw [← hl] at hF ⊢
  match l, hF with
  | [f0, f1, f2], hF =>
    simp only [List.map_cons, List.map_nil, List.cons.injEq, Prod.mk.injEq, and_true] at hF
    obtain ⟨⟨n0, t0, o0⟩, ⟨n1, t1, o1⟩, ⟨n2, t2, o2⟩⟩ := hF
    have m0 : f0.name ≠ "_" := by simpa using n0
    have m1 : f1.name ≠ "_" := by simpa using n1
    have m2 : f2.name ≠ "_" := by simpa using n2
    simp only [Op.eqFields, if_pos m0, if_pos m1, if_pos m2, t0, t1, t2, o0, o1, o2]
    rw [step_field (part_str w _ 0 _ rfl) (part_str w _ 0 _ rfl) (eq_str w k1 k2)]
    rw [step_field (part_str w _ 1 _ rfl) (part_str w _ 1 _ rfl) (eq_str w v1 v2)]
    rw [step_field (part_bool w _ 2 _ rfl) (part_bool w _ 2 _ rfl) (eq_bool w p1 p2)]
    cases (k1.toList == k2.toList) <;> cases (v1.toList == v2.toList) <;> cases (p1 == p2) <;> simp

/-- The table of powers of ten reads as the library lays it. -/
def Tab (w : World) : Prop := Lib.TabIs Tryz.prog w "internal/strconv.uint64pow10" .u64 Lib.pow10Tab
noncomputable def gTab : Nat := (Tryz.prog.globalNamed "internal/strconv.uint64pow10").getD 0
theorem gTab_is : Tryz.prog.globalNamed "internal/strconv.uint64pow10" = some gTab := by kernel_rfl
theorem Tab.lt {w : World} (h : Tab w) : gTab < w.heap.size := by
  have h' : w.var? Tryz.prog "internal/strconv.uint64pow10" = some (Lib.pow10Tab.map fun z => Value.int .u64 z).toArray := h
  unfold World.var? at h'
  rw [gTab_is] at h'
  simp only [Option.bind_some] at h'
  by_cases hg : gTab < w.heap.size
  · exact hg
  · rw [Array.getElem?_eq_none (by omega)] at h'
    simp at h'
theorem Tab.keep {S : List Nat} {w w' : World} (h : Tab w) (hf : Fr S w w') (hn : gTab ∉ S) : Tab w' := by
  have hlt := h.lt
  have h' : w.var? Tryz.prog "internal/strconv.uint64pow10" = some (Lib.pow10Tab.map fun z => Value.int .u64 z).toArray := h
  show w'.var? Tryz.prog "internal/strconv.uint64pow10" = _
  rw [← h']
  unfold World.var?
  rw [gTab_is]
  simp only [Option.bind_some]
  rw [hf.block gTab hlt hn]
theorem itoa_any (n : Nat) (hn : n < 4194304) (w : World) (ht : Tab w) : Calls Tryz.prog 111 #[.int .i64 (n : Int)] w fun e w' => e = .returned (.string ⟨(Lib.itoa (n : Int)).toArray⟩) ∧ Fr [] w w' := by
  refine (Any.strconv_Itoa Tryz.laysItoa (n : Int) (by omega) (by omega) w ht).mono ?_
  rintro e w' ⟨rfl, k, os, rfl⟩
  refine ⟨rfl, rfl, rfl, rfl, by simp [Sort.grow], fun i hi _ => ?_⟩
  exact Array.getElem?_append_left hi
/-- A mark as a text. -/
def mWord (n : Nat) : ByteArray := (⟨#[35]⟩ : ByteArray) ++ (⟨(Lib.itoa (n : Int)).toArray⟩ : ByteArray)
set_option maxHeartbeats 1000000 in
theorem word_any (n : Nat) (B : ByteArray) (hn : n < 4194304) (hB : mWord n = B) (w : World) (ht : Tab w) : Calls Tryz.prog 105 #[.int .i64 (n : Int)] w fun e w' => e = .returned (.string B) ∧ Fr [] w w' := by
  have HB : Hid ((⟨#[35]⟩ : ByteArray) ++ (⟨(Lib.itoa (n : Int)).toArray⟩ : ByteArray) = B) := hB
  clear hB
  obtain ⟨T, HT⟩ : ∃ T : ByteArray, Hid (T = ⟨(Lib.itoa (n : Int)).toArray⟩) := ⟨_, rfl⟩
  have hTs : T.size ≤ 21 := by
    rw [HT.out]
    show (Lib.itoa (n : Int)).toArray.size ≤ 21
    have := Lib.itoa_length_le (n : Int) (by omega) (by omega)
    simpa using this
  go_enter Tryz.func105, Tryz.ntmps105
  go_wp2_with fail
  refine (itoa_any n hn _ ht).mono ?_
  rintro e w1 ⟨rfl, hF⟩
  rw [← HT.out]
  go_wp2
  go_ret
  rw [← HB.out, ← HT.out]
  exact ⟨rfl, hF⟩
set_option maxHeartbeats 1000000 in
theorem markWrite_at (n : Nat) (B : ByteArray) (w : World) (hn : n < 4194304) (hB : mWord n = B) (ht : Tab w) : Calls Tryz.prog 78 #[.int .i64 (n : Int)] w fun e w' => e = .returned (.agg #[.string B, .string ⟨#[]⟩, .bool false]) ∧ Fr [] w w' := by
  have HB : Hid (mWord n = B) := hB
  have hz : (w.alloc (Obj.cells #[.string ⟨#[]⟩, .string ⟨#[]⟩, .bool false] 82)).heap[w.heap.size]? = some (Obj.cells #[.string ⟨#[]⟩, .string ⟨#[]⟩, .bool false] 82) := heap_alloc_new _ _
  clear hB
  go_enter Tryz.func78, Tryz.ntmps78
  go_wp2_with fail
  refine (word_any n B hn HB.out _ (ht.keep (Fr.alloc [] w _) (by simp))).mono ?_
  rintro e w1 ⟨rfl, hF⟩
  have hz1 := hF.keep hz (by simp)
  have z0 : w1.cell? ⟨w.heap.size, 0, none⟩ = some (.string ⟨#[]⟩) := by rw [cell_of_row _ _ _ _ _ _ hz1]; rfl
  have z1 : w1.cell? ⟨w.heap.size, 1, none⟩ = some (.string ⟨#[]⟩) := by rw [cell_of_row _ _ _ _ _ _ hz1]; rfl
  have z2 : w1.cell? ⟨w.heap.size, 2, none⟩ = some (.bool false) := by rw [cell_of_row _ _ _ _ _ _ hz1]; rfl
  have q0 : w1.frozen? ⟨w.heap.size, 0, none⟩ = false := by simp [World.frozen?, hz1]
  have q1 : w1.frozen? ⟨w.heap.size, 1, none⟩ = false := by simp [World.frozen?, hz1]
  have q2 : w1.frozen? ⟨w.heap.size, 2, none⟩ = false := by simp [World.frozen?, hz1]
  have hF0 : Fr [] w w1 := (Fr.alloc [] w _).then hF
  clear hz hz1 hF
  go_wp2
  refine bodyPost_ret (v := (.agg #[.string B, .string ⟨#[]⟩, .bool false])) (by rw [res_c1 rfl]; go_simp) rfl ⟨rfl, ?_⟩
  exact hF0.on (((Fr.set (S := [w.heap.size]) w1 ⟨w.heap.size, 0, none⟩ _ (by simp)).then (Fr.set _ ⟨w.heap.size, 1, none⟩ _ (by simp))).then (Fr.set _ ⟨w.heap.size, 2, none⟩ _ (by simp))) (by simp)
theorem wt_same (w : World) (k v : ByteArray) (d : Bool) : (Op.equalIn 10000 82 (.agg #[.string k, .string v, .bool d]) (.agg #[.string k, .string v, .bool d])).run Tryz.prog w = .ok true w := by
  rw [wt_fields]
  simp
abbrev kWrite : Kd := { tH := 106, tE := 82, S := 3, mark := fun n => [.string (mWord n), .string ⟨#[]⟩, .bool false], col := 4, pos := by decide, len := fun _ => rfl, hE := by decide, hB := by decide, eB := by decide }
set_option maxHeartbeats 1000000 in
theorem isWrite_at (n : Nat) (B : ByteArray) (w : World) (hn : n < 4194304) (hB : mWord n = B) (ht : Tab w) : Calls Tryz.prog 89 #[.agg #[.string B, .string ⟨#[]⟩, .bool false], .int .i64 (n : Int)] w fun e w' => e = .returned (.bool true) ∧ Fr [] w w' := by
  have HB : Hid (mWord n = B) := hB
  clear hB
  have hgd := Tryz.guardWt
  have hq : ∀ w', (Op.equalIn 10000 82 (.agg #[.string B, .string ⟨#[]⟩, .bool false]) (.agg #[.string B, .string ⟨#[]⟩, .bool false])).run Tryz.prog w' = .ok true w' := fun w' => wt_same w' _ _ _
  obtain ⟨w0, HW0⟩ : ∃ w0, Hid (w.alloc (.cells #[.string B, .string ⟨#[]⟩, .bool false] 82) = w0) := ⟨_, rfl⟩
  have hb0 : w0.heap[w.heap.size]? = some (.cells #[.string B, .string ⟨#[]⟩, .bool false] 82 (0, 0)) := by rw [← HW0.out]; exact heap_alloc_new w _
  have hF0 : Fr [] w w0 := by rw [← HW0.out]; exact Fr.alloc [] _ _
  have HT0 : Hid (Tab w0) := ht.keep hF0 (by simp)
  have f0 : ∀ x : Wd w0, x.W.cell? ⟨w.heap.size, 0, none⟩ = some (.string B) := fun x => by rw [cell_of_row _ _ _ _ _ _ (x.h.keep hb0 (by simp))]; rfl
  have f1 : ∀ x : Wd w0, x.W.cell? ⟨w.heap.size, 1, none⟩ = some (.string ⟨#[]⟩) := fun x => by rw [cell_of_row _ _ _ _ _ _ (x.h.keep hb0 (by simp))]; rfl
  have f2 : ∀ x : Wd w0, x.W.cell? ⟨w.heap.size, 2, none⟩ = some (.bool false) := fun x => by rw [cell_of_row _ _ _ _ _ _ (x.h.keep hb0 (by simp))]; rfl
  clear hb0 ht
  go_enter Tryz.func89, Tryz.ntmps89
  go_upto_region 1 with fail
  rw [HW0.out]
  clear HW0
  refine wp_region_wd (w1 := w0) (by kernel_rfl) (by kernel_rfl) (Fr.refl _ _) ?_
  repeat (go_big_quiet_step (exact (word_any n B hn HB.out _ (HT0.out.keep (Wd.h _) (by simp))).mono fun e w3 hh => ⟨hh.1, ⟨_, Fr.then (Wd.h _) hh.2⟩, rfl⟩))
  refine wpQuiet_nil ?_
  rintro _ ⟨x, rfl⟩
  go_wp2
  go_ret
  exact ⟨by simp, hF0.then x.h⟩
end Go.Proofs.YtdcmjoildfofcaaGreatDoor.Bq
/- A Book's kinds side by side: what one kind's calls write is none of another's. Plain lemmas. -/
namespace Go.Proofs.YtdcmjoildfofcaaGreatDoor.Bq
open Go.ChangeShapes Go.WideShapes Go.ChangeAt Go.RowKit Go.Lib
set_option linter.unusedVariables false

/-- Blocks that are none of a kind's, nor the Book's own. -/
def Off (K : Kd) (S : List Nat) (w : World) : Prop := ∀ k ∈ S, ∃ cs t, w.heap[k]? = some (.cells cs t (0, 0)) ∧ t ≠ 46 ∧ t ≠ K.tH ∧ t ≠ K.tE
/-- Two kinds have no type in common. -/
def Kd.off (K J : Kd) : Prop := J.tH ≠ K.tH ∧ J.tH ≠ K.tE ∧ J.tE ≠ K.tH ∧ J.tE ≠ K.tE
theorem off_lbs {K J : Kd} (hKJ : K.off J) {w : World} {hs : List HB} (h : ∀ (j : Nat) (h : HB), hs[j]? = some h → ∀ k, h.l.ownBlock = some k → ∃ cs, w.heap[k]? = some (.cells cs J.tE (0, 0))) : Off K (lbs hs) w := by
  intro k hk
  obtain ⟨b, hb, hbk⟩ := mem_lbs.1 hk
  obtain ⟨j, hj⟩ := List.getElem?_of_mem hb
  obtain ⟨cs, hc⟩ := h j b hj k hbk
  exact ⟨cs, J.tE, hc, J.eB, hKJ.2.2.1, hKJ.2.2.2⟩
theorem off_row {K J : Kd} (hKJ : K.off J) {w : World} {bk : Nat} {rv : Value} {hs : List HB} (h : Bl J w bk rv hs) : Off K rv.ownBlock.toList w := by
  intro k hk
  obtain ⟨cs, hc⟩ := own_type h.row k (by simpa using hk)
  exact ⟨cs, J.tH, hc, J.hB, hKJ.1, hKJ.2.1⟩
theorem Off.append {K : Kd} {S T : List Nat} {w : World} (h : Off K S w) (k : Off K T w) : Off K (S ++ T) w := by
  intro x hx
  rcases List.mem_append.1 hx with hx | hx
  · exact h x hx
  · exact k x hx
theorem Off.nil (K : Kd) (w : World) : Off K [] w := by intro x hx; simp at hx
section
variable {K : Kd} {S : List Nat} {w w' : World} {bk : Nat} {rv : Value} {hs : List HB}
theorem Off.notE (h : Off K S w) {k : Nat} {cs : Array Value} (hk : w.heap[k]? = some (.cells cs K.tE (0, 0))) : k ∉ S := by
  intro hm
  obtain ⟨cs', t, hc, _, _, h3⟩ := h k hm
  rw [hc] at hk
  simp only [Option.some.injEq, Obj.cells.injEq] at hk
  exact h3 hk.2.1
theorem Off.notH (h : Off K S w) {k : Nat} {cs : Array Value} (hk : w.heap[k]? = some (.cells cs K.tH (0, 0))) : k ∉ S := by
  intro hm
  obtain ⟨cs', t, hc, _, h2, _⟩ := h k hm
  rw [hc] at hk
  simp only [Option.some.injEq, Obj.cells.injEq] at hk
  exact h2 hk.2.1
theorem Off.notB (h : Off K S w) {k : Nat} {cs : Array Value} (hk : w.heap[k]? = some (.cells cs 46 (0, 0))) : k ∉ S := by
  intro hm
  obtain ⟨cs', t, hc, h1, _, _⟩ := h k hm
  rw [hc] at hk
  simp only [Option.some.injEq, Obj.cells.injEq] at hk
  exact h1 hk.2.1
/-- A kind's part of the Book: as it was handed in; marked; grown. -/
structure S0 (K : Kd) (w : World) (bk : Nat) (rv : Value) (hs : List HB) : Prop where
  bl : Bl K w bk rv hs
  each : ∀ (j : Nat) (h : HB), hs[j]? = some h → P0 K w h
  alone : Alone hs
  fresh : Fresh hs
structure S1 (K : Kd) (w : World) (bk : Nat) (rv : Value) (hs : List HB) : Prop where
  bl : Bl K w bk rv hs
  each : ∀ (j : Nat) (h : HB), hs[j]? = some h → P1 K w h
  alone : Alone hs
  fresh : Fresh hs
structure S2 (K : Kd) (w : World) (bk : Nat) (rv : Value) (hs : List HB) : Prop where
  bl : Bl K w bk rv hs
  each : ∀ (j : Nat) (h : HB), hs[j]? = some h → P2 K w h
theorem Bl.stay (h : Bl K w bk rv hs) (hf : Fr S w w') (ho : Off K S w) : Bl K w' bk rv hs := by
  obtain ⟨cs, h1, _⟩ := h.box
  exact h.keep hf (ho.notB h1) (fun k hk => by obtain ⟨cs, hc⟩ := own_type h.row k hk; exact ho.notH hc)
theorem S0.stay (h : S0 K w bk rv hs) (hf : Fr S w w') (ho : Off K S w) : S0 K w' bk rv hs :=
  ⟨h.bl.stay hf ho, fun j b hb => (h.each j b hb).keep hf (fun k hk => by obtain ⟨cs, hc⟩ := (h.each j b hb).type k hk; exact ho.notE hc), h.alone, h.fresh⟩
theorem S1.stay (h : S1 K w bk rv hs) (hf : Fr S w w') (ho : Off K S w) : S1 K w' bk rv hs :=
  ⟨h.bl.stay hf ho, fun j b hb => (h.each j b hb).keep hf (fun k hk => by obtain ⟨cs, hc⟩ := (h.each j b hb).type k hk; exact ho.notE hc), h.alone, h.fresh⟩
theorem S2.stay (h : S2 K w bk rv hs) (hf : Fr S w w') (ho : Off K S w) : S2 K w' bk rv hs := by
  refine ⟨h.bl.stay hf ho, fun j b hb => ?_⟩
  obtain ⟨n, q1, q2, q3⟩ := h.each j b hb
  exact P2.keep ⟨n, q1, q2, q3⟩ hf (fun k hk => by obtain ⟨cs, hc⟩ := q1.type k hk; exact ho.notE hc) (fun k hk => by obtain ⟨cs, hc⟩ := own_type q2 k hk; exact ho.notE hc)
theorem S0.filled (h : S0 K w bk rv hs) (hF : FillInv K w bk rv hs hs.length w') : S1 K w' bk rv hs :=
  ⟨hF.bk, fun j b hb => hF.done j b hb (List.getElem?_eq_some_iff.1 hb).1, h.alone, h.fresh⟩
theorem S1.grown {hs' : List HB} (h : S1 K w bk rv hs) (hG : GrowInv K w bk rv hs hs.length hs' w') : S2 K w' bk rv hs' :=
  ⟨hG.bk, fun j b hb => hG.done j b hb (by rw [← hG.len]; exact (List.getElem?_eq_some_iff.1 hb).1)⟩
theorem S0.offs {J : Kd} (hKJ : J.off K) (h : S0 K w bk rv hs) : Off J (lbs hs) w := off_lbs hKJ fun j b hb => (h.each j b hb).type
theorem S1.offs {J : Kd} (hKJ : J.off K) (h : S1 K w bk rv hs) : Off J (rv.ownBlock.toList ++ lbs hs) w := (off_row hKJ h.bl).append (off_lbs hKJ fun j b hb => (h.each j b hb).type)
end
/-- The Book's block, of which the cells of other kinds than these hold no list. -/
structure Bx (w : World) (bk : Nat) (cs : Array Value) : Prop where
  box : w.heap[bk]? = some (.cells cs 46 (0, 0))
  size : cs.size = 12
  rest : ∀ c, c = 3 ∨ c = 5 ∨ c = 6 ∨ c = 8 ∨ c = 9 ∨ c = 10 ∨ c = 11 → cs[c]? = some (.slice none 0 0)
theorem Bx.c {w : World} {bk : Nat} {cs : Array Value} (h : Bx w bk cs) (c : Nat) (hc : c = 3 ∨ c = 5 ∨ c = 6 ∨ c = 8 ∨ c = 9 ∨ c = 10 ∨ c = 11) : w.cell? ⟨bk, c, none⟩ = some (.slice none 0 0) := by
  rw [cell_of_row _ _ _ _ _ _ h.box, h.rest c hc]
theorem Bx.keep {S : List Nat} {w w' : World} {bk : Nat} {cs : Array Value} (h : Bx w bk cs) (hf : Fr S w w') (hb : bk ∉ S) : Bx w' bk cs := ⟨hf.keep h.box hb, h.size, h.rest⟩
theorem off_BI : kByte.off kInt := by refine ⟨?_, ?_, ?_, ?_⟩ <;> decide
theorem off_BW : kByte.off kWrite := by refine ⟨?_, ?_, ?_, ?_⟩ <;> decide
theorem off_BT : kByte.off kTxn := by refine ⟨?_, ?_, ?_, ?_⟩ <;> decide
theorem off_IB : kInt.off kByte := by refine ⟨?_, ?_, ?_, ?_⟩ <;> decide
theorem off_IW : kInt.off kWrite := by refine ⟨?_, ?_, ?_, ?_⟩ <;> decide
theorem off_IT : kInt.off kTxn := by refine ⟨?_, ?_, ?_, ?_⟩ <;> decide
theorem off_WB : kWrite.off kByte := by refine ⟨?_, ?_, ?_, ?_⟩ <;> decide
theorem off_WI : kWrite.off kInt := by refine ⟨?_, ?_, ?_, ?_⟩ <;> decide
theorem off_WT : kWrite.off kTxn := by refine ⟨?_, ?_, ?_, ?_⟩ <;> decide
theorem off_TB : kTxn.off kByte := by refine ⟨?_, ?_, ?_, ?_⟩ <;> decide
theorem off_TI : kTxn.off kInt := by refine ⟨?_, ?_, ?_, ?_⟩ <;> decide
theorem off_TW : kTxn.off kWrite := by refine ⟨?_, ?_, ?_, ?_⟩ <;> decide
end Go.Proofs.YtdcmjoildfofcaaGreatDoor.Bq
/- A Book of lists of bytes, numbers, writes and transactions is told one list more. Conditions: the list lies in a block of its own that no held list of its kind has. -/
namespace Go.Proofs.YtdcmjoildfofcaaGreatDoor.Bq
open Go.ChangeShapes Go.WideShapes Go.ChangeAt Go.RowKit Go.Lib
set_option linter.unusedVariables false

section
variable {K J : Kd} {S : List Nat} {w w' : World} {bk : Nat} {rv rv' : Value} {hs : List HB} {cs' : Array Value}
/-- Another kind's part, where the Book's block was written. -/
theorem S0.beside (h : S0 J w bk rv hs) (hb : w'.heap[bk]? = some (.cells cs' 46 (0, 0))) (hc : cs'[J.col]? = some rv) (hf : Fr (bk :: S) w w') (ho : Off J S w) : S0 J w' bk rv hs := by
  obtain ⟨cs, h1, _⟩ := h.bl.box
  have hE : ∀ k cs, w.heap[k]? = some (.cells cs J.tE (0, 0)) → k ∉ bk :: S := by
    intro k cs hk hm
    rcases List.mem_cons.1 hm with rfl | hm
    · rw [h1] at hk
      simp only [Option.some.injEq, Obj.cells.injEq] at hk
      exact J.eB hk.2.1.symm
    · exact ho.notE hk hm
  have hH : ∀ k cs, w.heap[k]? = some (.cells cs J.tH (0, 0)) → k ∉ bk :: S := by
    intro k cs hk hm
    rcases List.mem_cons.1 hm with rfl | hm
    · rw [h1] at hk
      simp only [Option.some.injEq, Obj.cells.injEq] at hk
      exact J.hB hk.2.1.symm
    · exact ho.notH hk hm
  refine ⟨⟨⟨cs', hb, hc⟩, owns_keep h.bl.row hf (fun k hk => by obtain ⟨c, hc⟩ := own_type h.bl.row k hk; exact hH k c hc), h.bl.few, h.bl.num⟩, fun j b hb => (h.each j b hb).keep hf (fun k hk => by obtain ⟨c, hc⟩ := (h.each j b hb).type k hk; exact hE k c hc), h.alone, h.fresh⟩
/-- The kind's own part with one list more. -/
theorem S0.told (h : S0 K w bk rv hs) (l : Value) (n : Nat) (hb : w'.heap[bk]? = some (.cells cs' 46 (0, 0))) (hc : cs'[K.col]? = some rv') (hrow : w'.ownsRow 0 K.tH 3 rv' (hs.length + 1) (rowOf (hs ++ [⟨l, .slice none 0 0, n⟩]))) (hf : Fr (bk :: rv.ownBlock.toList) w w')
    (hp : P0 K w ⟨l, .slice none 0 0, n⟩) (hn : n < 4194304) (hfew : hs.length + 1 < 2097152) (hal : ∀ k, l.ownBlock = some k → k ∉ lbs hs) : S0 K w' bk rv' (hs ++ [⟨l, .slice none 0 0, n⟩]) := by
  obtain ⟨cs, h1, _⟩ := h.bl.box
  have hE : ∀ k cs, w.heap[k]? = some (.cells cs K.tE (0, 0)) → k ∉ bk :: rv.ownBlock.toList := by
    intro k cs hk hm
    obtain ⟨q1, q2⟩ := h.bl.apart hk
    rcases List.mem_cons.1 hm with e | hm
    · exact q1 e
    · exact q2 (by simpa using hm)
  have hget : ∀ (j : Nat) (b : HB), (hs ++ [⟨l, .slice none 0 0, n⟩])[j]? = some b → hs[j]? = some b ∨ (j = hs.length ∧ b = ⟨l, .slice none 0 0, n⟩) := by
    intro j b hb
    by_cases hj : j < hs.length
    · rw [List.getElem?_append_left hj] at hb
      exact Or.inl hb
    · rw [List.getElem?_append_right (by omega)] at hb
      by_cases hj2 : j = hs.length
      · subst hj2
        simp at hb
        exact Or.inr ⟨rfl, hb.symm⟩
      · rw [List.getElem?_eq_none (by simp; omega)] at hb
        cases hb
  refine ⟨⟨⟨cs', hb, hc⟩, by simpa using hrow, by simpa using hfew, ?_⟩, ?_, ?_, ?_⟩
  · intro j b hb
    rcases hget j b hb with hb | ⟨_, rfl⟩
    · exact h.bl.num j b hb
    · exact hn
  · intro j b hb
    rcases hget j b hb with hb | ⟨_, rfl⟩
    · exact (h.each j b hb).keep hf (fun k hk => by obtain ⟨c, hc⟩ := (h.each j b hb).type k hk; exact hE k c hc)
    · exact hp.keep hf (fun k hk => by obtain ⟨c, hc⟩ := hp.type k hk; exact hE k c hc)
  · intro i j a b ha hb hij k hk hkb
    rcases hget i a ha with ha | ⟨hi, rfl⟩
    · rcases hget j b hb with hb | ⟨hj, rfl⟩
      · exact h.alone i j a b ha hb hij k hk hkb
      · exact hal k hkb (mem_lbs.2 ⟨a, List.mem_of_getElem? ha, hk⟩)
    · rcases hget j b hb with hb | ⟨hj, rfl⟩
      · exact hal k hk (mem_lbs.2 ⟨b, List.mem_of_getElem? hb, hkb⟩)
      · omega
  · intro j b hb
    rcases hget j b hb with hb | ⟨_, rfl⟩
    · exact h.fresh j b hb
    · rfl
end
/-- A Book that was made since w0: how many lists it was told, and its four kinds. -/
structure B4 (w0 w : World) (bk T : Nat) (rB rI rW rT : Value) (hB hI hW hT : List HB) : Prop where
  box : ∃ cs, Bx w bk cs ∧ cs[0]? = some (.int .i64 (T : Int))
  sB : S0 kByte w bk rB hB
  sI : S0 kInt w bk rI hI
  sW : S0 kWrite w bk rW hW
  sT : S0 kTxn w bk rT hT
  bn : w0.heap.size ≤ bk
  rBn : ∀ k, rB.ownBlock = some k → w0.heap.size ≤ k
  rIn : ∀ k, rI.ownBlock = some k → w0.heap.size ≤ k
  rWn : ∀ k, rW.ownBlock = some k → w0.heap.size ≤ k
  rTn : ∀ k, rT.ownBlock = some k → w0.heap.size ≤ k
  lB : hB.length ≤ T
  lI : hI.length ≤ T
  lW : hW.length ≤ T
  lT : hT.length ≤ T
theorem snoc_length (hs : List HB) (h : HB) : (hs ++ [h]).length = hs.length + 1 := by simp
theorem Bx.told {w w' : World} {bk : Nat} {cs : Array Value} (h : Bx w bk cs) (T' : Value) (c : Nat) (rv' : Value) (hc : c = 1 ∨ c = 2 ∨ c = 4 ∨ c = 7) (hb : w'.heap[bk]? = some (.cells ((cs.setIfInBounds 0 T').setIfInBounds c rv') 46 (0, 0))) :
    Bx w' bk ((cs.setIfInBounds 0 T').setIfInBounds c rv') ∧ ((cs.setIfInBounds 0 T').setIfInBounds c rv')[0]? = some T' ∧ ((cs.setIfInBounds 0 T').setIfInBounds c rv')[c]? = some rv' ∧ ∀ j, j ≠ 0 → j ≠ c → ((cs.setIfInBounds 0 T').setIfInBounds c rv')[j]? = cs[j]? := by
  have h12 := h.size
  have hoth : ∀ j, j ≠ 0 → j ≠ c → ((cs.setIfInBounds 0 T').setIfInBounds c rv')[j]? = cs[j]? := by
    intro j h0 h1
    rw [Array.getElem?_setIfInBounds_ne (fun e => h1 e.symm), Array.getElem?_setIfInBounds_ne (fun e => h0 e.symm)]
  refine ⟨⟨hb, by simpa using h12, fun j hj => ?_⟩, ?_, ?_, hoth⟩
  · rw [hoth j (by omega) (by omega)]
    exact h.rest j hj
  · rw [Array.getElem?_setIfInBounds_ne (by omega), Array.getElem?_setIfInBounds_self]
    simp [h12]
  · rw [Array.getElem?_setIfInBounds_self]
    simp [h12]
    omega
end Go.Proofs.YtdcmjoildfofcaaGreatDoor.Bq
