/- Texts of this claim laid together, one behind the other: contracts and plain lemmas; conditions as each names them. -/
import Derived.Test.YtpdkdgmaofhlkaaGreatDoorGp21
import Derived.Laws.ResultCell
import Derived.Deep.RegionLaw
import Derived.Deep.RegionWith
import Derived.Deep.RegionHeld3
import Derived.Deep.CutRange
/- Entries as plain things and in memory, as Vm17 has versions. Conditions as each lemma names them. -/
namespace Go.Proofs.YtpdkdgmaofhlkaaGreatDoor
open Go.ChangeShapes Go.WideShapes Go.ChangeAt Go.RowKit Go.Lib
set_option linter.unusedVariables false

/-- A version. -/
structure Ey where
  key : ByteArray
  val : ByteArray
def Ey.zero : Ey := ⟨noS, noS⟩
/-- A version's cells. -/
def eyC (x : Ey) : List Value := [.string x.key, .string x.val]
def eysC : List Ey → List Value
  | [] => []
  | x :: r => eyC x ++ eysC r
theorem eysC_append (a b : List Ey) : eysC (a ++ b) = eysC a ++ eysC b := by
  induction a with
  | nil => rfl
  | cons v r ih => simp [eysC, ih]
theorem eysC_length (a : List Ey) : (eysC a).length = a.length * 2 := by
  induction a with
  | nil => rfl
  | cons v r ih => simp only [eysC, eyC, List.length_append, List.length_cons, List.length_nil, ih]; omega
theorem eysC_get (a : List Ey) (j c : Nat) (hj : j < a.length) (hc : c < 2) : (eysC a)[j * 2 + c]? = (eyC (a.getD j Ey.zero))[c]? := by
  induction a generalizing j with
  | nil => simp at hj
  | cons v r ih =>
    cases j with
    | zero =>
      simp only [eysC, Nat.zero_mul, Nat.zero_add]
      rw [List.getElem?_append_left (by simp [eyC]; omega)]
      simp
    | succ j =>
      simp only [eysC]
      rw [List.getElem?_append_right (by simp [eyC]; omega)]
      have e : (j + 1) * 2 + c - (eyC v).length = j * 2 + c := by simp [eyC]; omega
      rw [e, ih j (by simpa using hj)]
      simp
theorem eysC_oneCell (a : List Ey) : ∀ u ∈ eysC a, u.oneCell' = true := by
  induction a with
  | nil => intro u hu; simp [eysC] at hu
  | cons v r ih =>
    intro u hu
    rcases List.mem_append.1 hu with h | h
    · simp only [eyC, List.mem_cons, List.not_mem_nil, or_false] at h
      rcases h with rfl | rfl <;> rfl
    · exact ih u h
theorem egetD_mem (vs : List Ey) (i : Nat) (h : i < vs.length) : vs.getD i Ey.zero ∈ vs := by simp [List.getD, h]
theorem etake_snoc (vs : List Ey) (i : Nat) (h : i < vs.length) : vs.take (i + 1) = vs.take i ++ [vs.getD i Ey.zero] := by
  rw [List.take_add_one]
  simp [List.getD, h]
/-- A version lies at o in block b. -/
structure YAt (w : World) (b o : Nat) (x : Ey) : Prop where
  c0 : w.cell? ⟨b, o, none⟩ = some (.string x.key)
  c1 : w.cell? ⟨b, o + 1, none⟩ = some (.string x.val)
/-- What every version is. -/
structure YEach (x : Ey) : Prop where
  k : x.key.size ≤ 140737488355328
  v : x.val.size ≤ 140737488355328
/-- The slice at ao reads as the versions vs. -/
structure YRs (w : World) (ao : Option Addr) (vs : List Ey) : Prop where
  lies : 0 < vs.length → ∃ b off, ao = some ⟨b, off, none⟩ ∧ b < w.heap.size ∧ ∀ i, i < vs.length → YAt w b (off + i * 2) (vs.getD i Ey.zero)
  few : vs.length ≤ 4398046511104
  each : ∀ x ∈ vs, YEach x
theorem YRs.nil (w : World) (ao : Option Addr) : YRs w ao [] := ⟨fun h => by simp at h, by simp, by simp⟩
theorem YRs.keepS {S : List Nat} {w w' : World} {ao : Option Addr} {vs : List Ey} (h : YRs w ao vs) (hf : Fr S w w') (hn : 0 < vs.length → ∀ a, ao = some a → a.block ∉ S) : YRs w' ao vs := by
  refine ⟨fun h0 => ?_, h.few, h.each⟩
  obtain ⟨b, off, e, hb, hc⟩ := h.lies h0
  have hk : ∀ o, w'.cell? ⟨b, o, none⟩ = w.cell? ⟨b, o, none⟩ := fun o => World.cell?_of_block (hf.block b hb (hn h0 _ e))
  exact ⟨b, off, e, Nat.lt_of_lt_of_le hb hf.size, fun i hi => ⟨(hk _).trans (hc i hi).c0, (hk _).trans (hc i hi).c1⟩⟩
theorem YRs.keep {w w' : World} {ao : Option Addr} {vs : List Ey} (h : YRs w ao vs) (hf : Fr [] w w') : YRs w' ao vs := h.keepS hf (by simp)
theorem YRs.cells {w : World} {ao : Option Addr} {vs : List Ey} (h : YRs w ao vs) {j : Nat} {u : Value} (hu : (eysC vs)[j]? = some u) : ∃ b off, ao = some ⟨b, off, none⟩ ∧ w.cell? ⟨b, off + j, none⟩ = some u := by
  have hj := (List.getElem?_eq_some_iff.1 hu).1
  rw [eysC_length] at hj
  obtain ⟨b, off, e, hb, hc⟩ := h.lies (by omega)
  refine ⟨b, off, e, ?_⟩
  have hi : j / 2 < vs.length := by omega
  have hm : j % 2 < 2 := Nat.mod_lt _ (by omega)
  have hg := eysC_get vs (j / 2) (j % 2) hi hm
  have e3 : j / 2 * 2 + j % 2 = j := by omega
  rw [e3, hu] at hg
  have hA := hc (j / 2) hi
  rw [show off + j = off + j / 2 * 2 + j % 2 by omega, hg]
  have h3 : j % 2 = 0 ∨ j % 2 = 1 := by omega
  rcases h3 with h3 | h3 <;> rw [h3]
  · exact hA.c0
  · exact hA.c1
theorem YRs.of_cells {w : World} {b off : Nat} {vs : List Ey} (hb : 0 < vs.length → b < w.heap.size) (h : ∀ j u, (eysC vs)[j]? = some u → w.cell? ⟨b, off + j, none⟩ = some u) (hl : vs.length ≤ 4398046511104) (he : ∀ x ∈ vs, YEach x) : YRs w (some ⟨b, off, none⟩) vs := by
  refine ⟨fun h0 => ⟨b, off, rfl, hb h0, fun i hi => ?_⟩, hl, he⟩
  have key : ∀ c u, c < 2 → (eyC (vs.getD i Ey.zero))[c]? = some u → w.cell? ⟨b, off + i * 2 + c, none⟩ = some u := by
    intro c u hc hu
    rw [← eysC_get vs i c hi hc] at hu
    rw [show off + i * 2 + c = off + (i * 2 + c) by omega]
    exact h _ _ hu
  exact ⟨key 0 _ (by omega) rfl, key 1 _ (by omega) rfl⟩
theorem YRs.of_own {w : World} {base : Nat} {ro : Option Addr} {N rc : Nat} {vs : List Ey} (h : w.ownsRow base 102 2 (.slice ro N rc) N (eysC vs)) (hN : N = vs.length) (hl : vs.length ≤ 4398046511104) (he : ∀ x ∈ vs, YEach x) : YRs w ro vs := by
  rcases h.2 with ⟨_, h1⟩ | ⟨g, cap, cur, hv, _, hg, _, _, _, ht⟩
  · have : vs = [] := List.eq_nil_of_length_eq_zero (by omega)
    subst this
    exact YRs.nil _ _
  · cases hv
    refine YRs.of_cells (fun _ => lt_of_block hg) (fun j u hu => ?_) hl he
    have hj := (List.getElem?_eq_some_iff.1 hu).1
    rw [eysC_length] at hj
    rw [cell_of_row _ _ _ _ _ _ hg, Nat.zero_add, ← Array.getElem?_toList, ← hu, ← ht, List.getElem?_take_of_lt (by omega)]
section
variable {H : Type} {enc : TypeId × Value → H}
theorem Tryz.undEys' : Tryz.prog.underlying 50 = some (.slice 102) := by kernel_rfl
theorem Tryz.cellsEy : Tryz.prog.cellsOf 102 = 2 := by kernel_rfl
theorem Tryz.eyFields : (match Tryz.prog.underlying 102 with | some (.struct fs) => fs.toList.map (fun f => (f.type, f.offset)) | _ => []) = [(9, 0), (9, 1)] := by kernel_rfl
set_option maxRecDepth 100000 in
theorem ey_open {w : World} {base : Nat} {spare : Nat → Bool} {held : Bool} {fuel : Nat} {cs : List Value} {x : DataW H × List MemPlace} (h : DataW.trod enc Tryz.prog w base spare held fuel 102 cs = some x) :
    ∃ v : Ey, cs = [.string v.key, .string v.val] ∧ v.key.size ∈ x.1.weights Tryz.prog 102 ∧ v.val.size ∈ x.1.weights Tryz.prog 102 := by
  have hF := Tryz.eyFields
  cases hu : Tryz.prog.underlying 102 with
  | none => rw [hu] at hF; simp at hF
  | some u =>
    rw [hu] at hF
    cases u with
    | struct fs =>
      simp only at hF
      obtain ⟨ys, n, _, hx, hlen, hys, hf⟩ := DataW.trod_struct hu h
      rw [Tryz.cellsEy] at hlen
      match cs, hlen with
      | [v0, v1], _ =>
        have hl3 : fs.toList.length = 2 := by have := congrArg List.length hF; simpa using this
        obtain ⟨l, hl⟩ : ∃ l, l = fs.toList := ⟨_, rfl⟩
        rw [← hl] at hF hl3
        match l, hl3 with
        | [f0, f1], _ =>
          simp only [List.map_cons, List.map_nil, List.cons.injEq, Prod.mk.injEq, and_true] at hF
          obtain ⟨⟨t0, o0⟩, ⟨t1, o1⟩⟩ := hF
          have g : ∀ (i : Nat) (f : Field), [f0, f1][i]? = some f → fs[i]? = some f := by
            intro i f hi
            rw [hl] at hi
            simpa using hi
          have r0 := hf 0 f0 (g 0 f0 rfl)
          have r1 := hf 1 f1 (g 1 f1 rfl)
          rw [t0, o0, Tryz.vcS] at r0
          rw [t1, o1, Tryz.vcS] at r1
          simp only [List.drop_zero, List.drop_succ_cons, List.take_succ_cons, List.take_zero] at r0 r1
          have hy3 : ys.length = 2 := by rw [hys]; have := congrArg List.length hl; simpa using this.symm
          match ys, hy3 with
          | [y0, y1], _ =>
            simp only [List.getElem?_cons_zero, List.getElem?_cons_succ] at r0 r1
            obtain ⟨s0, e0, x0, _⟩ := DataW.trod_string Tryz.undStr r0
            obtain ⟨s1, e1, x1, _⟩ := DataW.trod_string Tryz.undStr r1
            simp only [List.cons.injEq, and_true] at e0 e1
            have hty : fs.toList.map (·.type) = [9, 9] := by rw [← hl]; simp [t0, t1]
            refine ⟨⟨s0, s1⟩, by rw [e0, e1], ?_, ?_⟩
            · rw [hx]
              simp only [DataW.weights, hu]
              rw [hty]
              refine DataW.weights_mem_each (j := 0) (t := 9) (d := y0.1) rfl rfl _ ?_
              rw [x0]
              simp only [DataW.weights, List.mem_singleton]
              show s0.data.size = _
              simp
            · rw [hx]
              simp only [DataW.weights, hu]
              rw [hty]
              refine DataW.weights_mem_each (j := 1) (t := 9) (d := y1.1) rfl rfl _ ?_
              rw [x1]
              simp only [DataW.weights, List.mem_singleton]
              show s1.data.size = _
              simp
    | _ => simp at hF
set_option maxRecDepth 100000 in
theorem eys_open {w : World} {fuel : Nat} {v : Value} {d : DataW H} {ps : List MemPlace} (h : DataW.trod enc Tryz.prog w 0 (fun _ => true) true fuel 50 [v] = some (d, ps)) (hsz : ∀ n ∈ d.weights Tryz.prog 50, n ≤ reachBytes) :
    ∃ ao L cap vs, v = .slice ao L cap ∧ YRs w ao vs ∧ L = vs.length ∧ L ≤ cap := by
  rcases Go.Deep.open_slice Tryz.undEys' h with ⟨hcs, _⟩ | ⟨a, len, cap, m, n, D, Pl, hcs, hb, hl, hm, hmm, hx, hE⟩
  · simp only [List.cons.injEq, and_true] at hcs
    exact ⟨none, 0, 0, [], hcs, YRs.nil _ _, rfl, Nat.le_refl _⟩
  · simp only [List.cons.injEq, and_true] at hcs
    simp only [if_true] at hmm
    subst hmm
    rw [Tryz.cellsEy] at hE hx
    have hO : ∀ i, i < m → ∃ o : Ey, (w.cells? 0 (a.add (i * 2)) 2 = some [.string o.key, .string o.val]) ∧ o.key.size ∈ (D i).weights Tryz.prog 102 ∧ o.val.size ∈ (D i).weights Tryz.prog 102 := by
      intro i hi
      obtain ⟨cs', h1, h2⟩ := hE i hi
      obtain ⟨o, rfl, rest⟩ := ey_open h2
      exact ⟨o, h1, rest⟩
    haveI : Inhabited Ey := ⟨Ey.zero⟩
    obtain ⟨F, hF⟩ := Go.Deep.choose_lt hO
    have hd : d = .slice ((List.range len).map D) ((List.range (m - len)).map fun j => D (len + j)) := by have := congrArg Prod.fst hx; simpa using this
    have hr := reachBytes_lt
    have hlen : len * 32 ≤ 140737488355328 := by
      have hw : len * Tryz.prog.bytesOf 102 ≤ reachBytes := by
        refine Nat.le_trans (Nat.mul_le_mul_right _ hl) (hsz _ ?_)
        rw [hd]
        simp only [DataW.weights, Tryz.undEys', List.length_map, List.length_range]
        rw [show len + (m - len) = m by omega]
        exact List.mem_cons_self
      rw [show Tryz.prog.bytesOf 102 = 32 from by kernel_rfl] at hw
      omega
    refine ⟨some a, len, m, (List.range len).map F, hcs, ⟨fun h0 => ?_, by simp; omega, ?_⟩, by simp, hl⟩
    rotate_left
    · intro o ho
      obtain ⟨i, hi, rfl⟩ := List.mem_map.1 ho
      have hi' : i < len := by simpa using hi
      have key : ∀ q ∈ (D i).weights Tryz.prog 102, q ≤ 140737488355328 := by
        intro q hq
        have : q ≤ reachBytes := by
          apply hsz
          rw [hd]
          simp only [DataW.weights, Tryz.undEys']
          refine List.mem_cons_of_mem _ (List.mem_append_left _ ?_)
          exact vweightsAll_mem (List.mem_map.2 ⟨i, by simpa using hi', rfl⟩) _ hq
        omega
      exact ⟨key _ (hF i (by omega)).2.1, key _ (hF i (by omega)).2.2⟩
    · simp only [List.length_map, List.length_range] at h0 ⊢
      have hc0 := (World.cells?_some (hF 0 (by omega)).1).2.2
      obtain ⟨b, off, spot⟩ := a
      have hspot : spot = none := by
        have := hc0 0 (by omega)
        simp at this
        simpa [Addr.add] using World.cell?_spot this
      subst hspot
      have hcell : ∀ i, i < len → ∀ j, j < 2 → w.cell? ⟨b, off + i * 2 + j, none⟩ = [Value.string (F i).key, .string (F i).val][j]? := by
        intro i hi j hj
        have := (World.cells?_some (hF i (by omega)).1).2.2 j hj
        rw [show ((⟨b, off, none⟩ : Addr).add (i * 2)).add j = ⟨b, off + i * 2 + j, none⟩ from by rw [Addr.add_lit, Addr.add_lit]] at this
        exact this
      refine ⟨b, off, rfl, World.block_lt_of_cell? w ⟨b, off + 0 * 2 + 0, none⟩ (by rw [hcell 0 (by omega) 0 (by omega)]; rfl), fun i hi => ?_⟩
      have e : ((List.range len).map F).getD i Ey.zero = F i := by simp [List.getD, hi]
      rw [e]
      exact ⟨hcell i hi 0 (by omega), hcell i hi 1 (by omega)⟩
end
/-! ### Equality -/
theorem Tryz.undEy : Tryz.prog.underlying 102 = some (.struct (Tryz.prog.fieldsOf 102)) := by kernel_rfl
theorem Tryz.heldEy : Tryz.prog.stoodInHeld 102 = false := by kernel_rfl
theorem Tryz.guardEy : Tryz.prog.eqGuardType Tryz.prog.depth 102 = false := by kernel_rfl
theorem Tryz.fieldsEy : (Tryz.prog.fieldsOf 102).toList.map (fun f => (f.name == "_", f.type, f.offset)) = [(false, 9, 0), (false, 9, 1)] := by kernel_rfl
set_option maxRecDepth 100000 in
theorem ey_fields (w : World) (k1 k2 v1 v2 : ByteArray) : (Op.equalIn 10000 102 (.agg #[.string k1, .string v1]) (.agg #[.string k2, .string v2])).run Tryz.prog w = .ok (k1.toList == k2.toList && v1.toList == v2.toList) w := by
  rw [run_equalIn_struct w 9999 _ _ _ Tryz.undEy Tryz.heldEy]
  have hF := Tryz.fieldsEy
  obtain ⟨l, hl⟩ : ∃ l, l = (Tryz.prog.fieldsOf 102).toList := ⟨_, rfl⟩
  rw [← hl] at hF ⊢
  match l, hF with
  | [f0, f1], hF =>
    simp only [List.map_cons, List.map_nil, List.cons.injEq, Prod.mk.injEq, and_true] at hF
    obtain ⟨⟨n0, t0, o0⟩, ⟨n1, t1, o1⟩⟩ := hF
    have m0 : f0.name ≠ "_" := by simpa using n0
    have m1 : f1.name ≠ "_" := by simpa using n1
    simp only [Op.eqFields, if_pos m0, if_pos m1, t0, t1, o0, o1]
    rw [vstep_field (vpart_str w _ 0 _ rfl) (vpart_str w _ 0 _ rfl) (veq_str w k1 k2)]
    rw [vstep_field (vpart_str w _ 1 _ rfl) (vpart_str w _ 1 _ rfl) (veq_str w v1 v2)]
    cases (k1.toList == k2.toList) <;> cases (v1.toList == v2.toList) <;> simp
/-- Are two versions the same? -/
def sameEy (x y : Ey) : Bool := x.key.toList == y.key.toList && x.val.toList == y.val.toList
theorem sameEy_iff (x y : Ey) : sameEy x y = true ↔ x = y := by
  obtain ⟨k1, v1⟩ := x
  obtain ⟨k2, v2⟩ := y
  simp only [sameEy, Bool.and_eq_true, beq_iff_eq, tl_inj, Ey.mk.injEq]
theorem ey_in (w : World) (x y : Ey) : (Op.equalIn 10000 102 (.agg #[.string x.key, .string x.val]) (.agg #[.string y.key, .string y.val])).run Tryz.prog w = .ok (sameEy x y) w := ey_fields w _ _ _ _
theorem ey_neq (w : World) (x y : Ey) : (binOp .neq 102 (.agg #[.string x.key, .string x.val]) (.agg #[.string y.key, .string y.val])).run Tryz.prog w = .ok (.bool (!sameEy x y)) w := by
  rw [run_neq_struct, ey_fields]
  rfl
theorem ey_eql (w : World) (x y : Ey) : (binOp .eql 102 (.agg #[.string x.key, .string x.val]) (.agg #[.string y.key, .string y.val])).run Tryz.prog w = .ok (.bool (sameEy x y)) w := by
  rw [run_eql_struct, ey_fields]
  rfl
end Go.Proofs.YtpdkdgmaofhlkaaGreatDoor
/- What the statements' helpers TwinEntries and LeftEntries answer. Conditions: at most 2^42 entries. -/
namespace Go.Proofs.YtpdkdgmaofhlkaaGreatDoor
open Go.ChangeShapes Go.WideShapes Go.ChangeAt Go.RowKit Go.Lib
set_option linter.unusedVariables false
set_option linter.unusedSimpArgs false

/-- The version that stands in a twin's spare room. -/
def spE : Ey := ⟨⟨#[115, 112, 97, 114, 101]⟩, ⟨#[]⟩⟩
theorem Tryz.infoEyW : (Tryz.prog.info? 102).map (fun i => (i.zero, i.size, i.bytes)) = some (some (.agg #[.string ⟨#[]⟩, .string ⟨#[]⟩]), 2, 32) := by kernel_rfl
theorem Tryz.undEysW : Tryz.prog.underlying 50 = some (.slice 102) := by kernel_rfl
theorem eown_full {w : World} {g n : Nat} {xs : List Value} (h : w.ownsRow 0 102 2 (.slice (some ⟨g, 0, none⟩) n n) n xs) : w.heap[g]? = some (.cells xs.toArray 102 (0, 0)) := by
  have hl := h.1
  rcases h.2 with ⟨hh, _⟩ | ⟨g', cap', cur, hh, _, hg, _, _, hcs, ht⟩
  · cases hh
  · cases hh
    rw [hg]
    congr 2
    rw [← Array.toList_inj]
    simp only
    rw [← ht, List.take_of_length_le (by simp [hcs])]

set_option maxHeartbeats 4000000 in
set_option maxRecDepth 100000 in
theorem twinEs_any (ao : Option Addr) (L cap : Nat) (ws : List Ey) (w : World) (h : YRs w ao ws) (hLe : L = ws.length) (hL : L ≤ 4398046511104) :
    Calls Tryz.prog 22 #[.slice ao L cap] w fun e w' => ∃ b, e = .returned (.slice (some ⟨b, 0, none⟩) L (L + 1)) ∧ w.heap.size ≤ b ∧ w'.heap[b]? = some (.cells (eysC (ws ++ [spE])).toArray 102 (0, 0)) ∧ Fr [] w w' := by
  obtain ⟨i0, hi, hz0, hz1, hz2⟩ := info_parts Tryz.infoEyW
  have HL : Hid (L = ws.length) := hLe
  clear hLe
  go_enter Tryz.func22, Tryz.ntmps22
  go_wp2_with (at_make; refine wpList_make_own _ rfl (.const (.int .i64 0)) (.tmp 7) 50 rfl 0 102 i0 _ 2 Tryz.undEysW hi hz0 hz1 .i64 .i64 ((L : Int) + 1) (L + 1) rfl rfl ?bC ?b2 ?b3 ?b4 ?_)
  case bC => simp
  case b2 => rw [hz2]; omega
  case b3 => unfold maxLen; omega
  case b4 => exact Nat.zero_le _
  intro w1 hown hgrow
  obtain ⟨g, hg⟩ : ∃ g, g = w.heap.size := ⟨_, rfl⟩
  have hgw : w.heap.size ≤ g := by omega
  rw [← hg] at hown ⊢
  have h01 : Fr [] w w1 := Fr.grown (S := []) hgrow (by simp)
  clear hgrow hg
  go_wp2_with fail
  go_loopw [3, 4] (fun vv ii wr => ∃ i : Nat, vv = .slice (some ⟨g, 0, none⟩) i (L + 1) ∧ ii = .int .i64 i ∧ i ≤ L ∧ wr.ownsRow 0 102 2 (.slice (some ⟨g, 0, none⟩) i (L + 1)) i (eysC (ws.take i)) ∧ Fr [] w wr) (fun _ ii _ => L - (RowKit.intOf ii).toNat)
  case atStart => exact ⟨0, rfl, rfl, Nat.zero_le _, hown, h01⟩
  case round =>
    obtain ⟨i, rfl, rfl, hiL, hO, hF⟩ := hrel
    have hsz := (hO.lt g rfl).2
    by_cases hil : i < L
    · have hi' : i < ws.length := by rw [← HL.out]; exact hil
      obtain ⟨b, off, e, _, hc⟩ := (h.keep hF).lies (by omega)
      subst e
      obtain ⟨d0, d1⟩ := hc i hi'
      obtain ⟨x, hx⟩ : ∃ x, x = ws.getD i Ey.zero := ⟨_, rfl⟩
      rw [← hx] at d0 d1
      have HE : Hid (eysC (ws.take (i + 1)) = eysC (ws.take i) ++ [.string x.key, .string x.val]) := by
        show _ = _
        rw [etake_snoc ws i hi', eysC_append, ← hx]; rfl
      clear hc hx
      obtain ⟨key, val⟩ := x
      simp only at d0 d1 HE
      go_wp2_with (at_builtin; refine wpList_append_fits _ rfl (.tmp 15) (.tmp 20) 50 rfl 0 102 i0 2 Tryz.undEysW hi hz1 g i (L + 1) _ rfl (hO.alloc _) ⟨wr.heap.size, 0, none⟩ 1 1 [.string key, .string val] rfl rfl ?c1 ?c2 ?c3 ?_)
      case c1 => intro j u hj; match j, hj with | 0, hj => simp at hj; subst hj; simp [Addr.add] | 1, hj => simp at hj; subst hj; simp [Addr.add]
      case c2 => intro u hu; simp at hu; rcases hu with rfl | rfl <;> rfl
      case c3 => omega
      intro w2 hO2 hg2
      rw [← HE.out] at hO2
      have hF2 : Fr [] w w2 := (hF.then (Fr.alloc [] wr _)).on (Fr.grown (S := [g]) hg2 (by intro k hk _; cases hk; simp)) (by intro y hy; simp at hy; omega)
      clear hO hg2 hF d0 d1
      go_wp2
      go_roundw
      case rel => exact ⟨i + 1, rfl, by simp, by omega, hO2, hF2⟩
      case measure => simp [RowKit.intOf]; omega
    · have hiL' : L ≤ i := by omega
      obtain rfl : i = L := by omega
      have HE : Hid (eysC (ws ++ [spE]) = eysC (ws.take i) ++ [.string ⟨#[115, 112, 97, 114, 101]⟩, .string ⟨#[]⟩]) := by
        show _ = _
        rw [List.take_of_length_le (by rw [← HL.out]; omega), eysC_append]; rfl
      go_wp2_with (at_builtin; refine wpList_append_fits _ rfl (.tmp 22) (.tmp 24) 50 rfl 0 102 i0 2 Tryz.undEysW hi hz1 g i (i + 1) _ rfl (hO.alloc _) ⟨wr.heap.size, 0, none⟩ 1 1 [.string ⟨#[115, 112, 97, 114, 101]⟩, .string ⟨#[]⟩] rfl rfl ?c1 ?c2 ?c3 ?_)
      case c1 => intro j u hj; match j, hj with | 0, hj => simp at hj; subst hj; simp [Addr.add] | 1, hj => simp at hj; subst hj; simp [Addr.add]
      case c2 => intro u hu; simp at hu; rcases hu with rfl | rfl <;> rfl
      case c3 => omega
      intro w2 hO2 hg2
      rw [← HE.out] at hO2
      have hF2 : Fr [] w w2 := (hF.then (Fr.alloc [] wr _)).on (Fr.grown (S := [g]) hg2 (by intro k hk _; cases hk; simp)) (by intro y hy; simp at hy; omega)
      have HRow : Hid (w2.heap[g]? = some (.cells (eysC (ws ++ [spE])).toArray 102 (0, 0))) := eown_full hO2
      clear hO hg2 hF hO2
      go_wp2
      go_ret
      exact ⟨g, rfl, hgw, HRow.out, hF2⟩
end Go.Proofs.YtpdkdgmaofhlkaaGreatDoor
