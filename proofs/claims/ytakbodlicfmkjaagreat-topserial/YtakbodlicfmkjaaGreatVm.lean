/- Versions as plain things and in memory: cells, slices that read as a list, versions that came in; what == says of two. Conditions as each lemma names them. -/
import Derived.Test.YtakbodlicfmkjaaGreatArg
import Derived.Deep.Slices
import Derived.SizedLaws
import Derived.Deep.RegionWith
import Derived.Deep.LoopGhost
import Derived.Laws.StructEq
namespace Go.Proofs.YtakbodlicfmkjaaGreat.O
open Go.ChangeShapes Go.WideShapes Go.ChangeAt Go.RowKit Go.Lib
set_option linter.unusedVariables false

def noS : ByteArray := ⟨#[]⟩
theorem noS_iff (s : ByteArray) : s.size = 0 ↔ s = noS := by
  constructor
  · intro h
    cases s with
    | mk d =>
      have hd : d.size = 0 := h
      have : d = #[] := Array.eq_empty_of_size_eq_zero hd
      rw [this]
      rfl
  · rintro rfl
    rfl
theorem tl_nil (s : ByteArray) : s.toList = [] ↔ s.size = 0 := by
  rw [ByteArray.toList_eq]
  constructor
  · intro h
    have h2 := congrArg List.length h
    simpa [Array.length_toList] using h2
  · intro h
    have h2 : s.data.toList.length = 0 := by rw [Array.length_toList]; exact h
    exact List.eq_nil_of_length_eq_zero h2
theorem tl_inj (a b : ByteArray) : a.toList = b.toList ↔ a = b := by
  rw [ByteArray.toList_eq, ByteArray.toList_eq]
  constructor
  · intro h
    exact bytes_inj h
  · rintro rfl
    rfl
/-- A version. -/
structure Vn where
  num : Int
  val : ByteArray
  drop : Bool
def Vn.zero : Vn := ⟨0, noS, false⟩
/-- A version's cells. -/
def vnC (x : Vn) : List Value := [.int .i64 x.num, .string x.val, .bool x.drop]
def vnsC : List Vn → List Value
  | [] => []
  | x :: r => vnC x ++ vnsC r
theorem vnsC_append (a b : List Vn) : vnsC (a ++ b) = vnsC a ++ vnsC b := by
  induction a with
  | nil => rfl
  | cons v r ih => simp [vnsC, ih]
theorem vnsC_length (a : List Vn) : (vnsC a).length = a.length * 3 := by
  induction a with
  | nil => rfl
  | cons v r ih => simp only [vnsC, vnC, List.length_append, List.length_cons, List.length_nil, ih]; omega
theorem vnsC_get (a : List Vn) (j c : Nat) (hj : j < a.length) (hc : c < 3) : (vnsC a)[j * 3 + c]? = (vnC (a.getD j Vn.zero))[c]? := by
  induction a generalizing j with
  | nil => simp at hj
  | cons v r ih =>
    cases j with
    | zero =>
      simp only [vnsC, Nat.zero_mul, Nat.zero_add]
      rw [List.getElem?_append_left (by simp [vnC]; omega)]
      simp
    | succ j =>
      simp only [vnsC]
      rw [List.getElem?_append_right (by simp [vnC]; omega)]
      have e : (j + 1) * 3 + c - (vnC v).length = j * 3 + c := by simp [vnC]; omega
      rw [e, ih j (by simpa using hj)]
      simp
theorem vnsC_oneCell (a : List Vn) : ∀ u ∈ vnsC a, u.oneCell' = true := by
  induction a with
  | nil => intro u hu; simp [vnsC] at hu
  | cons v r ih =>
    intro u hu
    rcases List.mem_append.1 hu with h | h
    · simp only [vnC, List.mem_cons, List.not_mem_nil, or_false] at h
      rcases h with rfl | rfl | rfl <;> rfl
    · exact ih u h
theorem vgetD_mem (vs : List Vn) (i : Nat) (h : i < vs.length) : vs.getD i Vn.zero ∈ vs := by simp [List.getD, h]
theorem vtake_snoc (vs : List Vn) (i : Nat) (h : i < vs.length) : vs.take (i + 1) = vs.take i ++ [vs.getD i Vn.zero] := by
  rw [List.take_add_one]
  simp [List.getD, h]
/-- A version lies at o in block b. -/
structure VAt (w : World) (b o : Nat) (x : Vn) : Prop where
  c0 : w.cell? ⟨b, o, none⟩ = some (.int .i64 x.num)
  c1 : w.cell? ⟨b, o + 1, none⟩ = some (.string x.val)
  c2 : w.cell? ⟨b, o + 2, none⟩ = some (.bool x.drop)
/-- What every version is. -/
structure VEach (x : Vn) : Prop where
  v : x.val.size ≤ 140737488355328
  lo : -9223372036854775808 ≤ x.num
  hi : x.num ≤ 9223372036854775807
/-- The slice at ao reads as the versions vs. -/
structure VRs (w : World) (ao : Option Addr) (vs : List Vn) : Prop where
  lies : 0 < vs.length → ∃ b off, ao = some ⟨b, off, none⟩ ∧ b < w.heap.size ∧ ∀ i, i < vs.length → VAt w b (off + i * 3) (vs.getD i Vn.zero)
  few : vs.length ≤ 4398046511104
  each : ∀ x ∈ vs, VEach x
theorem VRs.nil (w : World) (ao : Option Addr) : VRs w ao [] := ⟨fun h => by simp at h, by simp, by simp⟩
theorem VRs.keepS {S : List Nat} {w w' : World} {ao : Option Addr} {vs : List Vn} (h : VRs w ao vs) (hf : Fr S w w') (hn : 0 < vs.length → ∀ a, ao = some a → a.block ∉ S) : VRs w' ao vs := by
  refine ⟨fun h0 => ?_, h.few, h.each⟩
  obtain ⟨b, off, e, hb, hc⟩ := h.lies h0
  have hk : ∀ o, w'.cell? ⟨b, o, none⟩ = w.cell? ⟨b, o, none⟩ := fun o => World.cell?_of_block (hf.block b hb (hn h0 _ e))
  exact ⟨b, off, e, Nat.lt_of_lt_of_le hb hf.size, fun i hi => ⟨(hk _).trans (hc i hi).c0, (hk _).trans (hc i hi).c1, (hk _).trans (hc i hi).c2⟩⟩
theorem VRs.keep {w w' : World} {ao : Option Addr} {vs : List Vn} (h : VRs w ao vs) (hf : Fr [] w w') : VRs w' ao vs := h.keepS hf (by simp)
theorem VRs.cells {w : World} {ao : Option Addr} {vs : List Vn} (h : VRs w ao vs) {j : Nat} {u : Value} (hu : (vnsC vs)[j]? = some u) : ∃ b off, ao = some ⟨b, off, none⟩ ∧ w.cell? ⟨b, off + j, none⟩ = some u := by
  have hj := (List.getElem?_eq_some_iff.1 hu).1
  rw [vnsC_length] at hj
  obtain ⟨b, off, e, hb, hc⟩ := h.lies (by omega)
  refine ⟨b, off, e, ?_⟩
  have hi : j / 3 < vs.length := by omega
  have hm : j % 3 < 3 := Nat.mod_lt _ (by omega)
  have hg := vnsC_get vs (j / 3) (j % 3) hi hm
  have e3 : j / 3 * 3 + j % 3 = j := by omega
  rw [e3, hu] at hg
  have hA := hc (j / 3) hi
  rw [show off + j = off + j / 3 * 3 + j % 3 by omega, hg]
  have h3 : j % 3 = 0 ∨ j % 3 = 1 ∨ j % 3 = 2 := by omega
  rcases h3 with h3 | h3 | h3 <;> rw [h3]
  · exact hA.c0
  · exact hA.c1
  · exact hA.c2
theorem VRs.of_cells {w : World} {b off : Nat} {vs : List Vn} (hb : 0 < vs.length → b < w.heap.size) (h : ∀ j u, (vnsC vs)[j]? = some u → w.cell? ⟨b, off + j, none⟩ = some u) (hl : vs.length ≤ 4398046511104) (he : ∀ x ∈ vs, VEach x) : VRs w (some ⟨b, off, none⟩) vs := by
  refine ⟨fun h0 => ⟨b, off, rfl, hb h0, fun i hi => ?_⟩, hl, he⟩
  have key : ∀ c u, c < 3 → (vnC (vs.getD i Vn.zero))[c]? = some u → w.cell? ⟨b, off + i * 3 + c, none⟩ = some u := by
    intro c u hc hu
    rw [← vnsC_get vs i c hi hc] at hu
    rw [show off + i * 3 + c = off + (i * 3 + c) by omega]
    exact h _ _ hu
  exact ⟨key 0 _ (by omega) rfl, key 1 _ (by omega) rfl, key 2 _ (by omega) rfl⟩
theorem VRs.of_own {w : World} {base : Nat} {ro : Option Addr} {N rc : Nat} {vs : List Vn} (h : w.ownsRow base 128 3 (.slice ro N rc) N (vnsC vs)) (hN : N = vs.length) (hl : vs.length ≤ 4398046511104) (he : ∀ x ∈ vs, VEach x) : VRs w ro vs := by
  rcases h.2 with ⟨_, h1⟩ | ⟨g, cap, cur, hv, _, hg, _, _, _, ht⟩
  · have : vs = [] := List.eq_nil_of_length_eq_zero (by omega)
    subst this
    exact VRs.nil _ _
  · cases hv
    refine VRs.of_cells (fun _ => lt_of_block hg) (fun j u hu => ?_) hl he
    have hj := (List.getElem?_eq_some_iff.1 hu).1
    rw [vnsC_length] at hj
    rw [cell_of_row _ _ _ _ _ _ hg, Nat.zero_add, ← Array.getElem?_toList, ← hu, ← ht, List.getElem?_take_of_lt (by omega)]
/-- A part of a row. -/
theorem VRs.part {w : World} {ao : Option Addr} {vs : List Vn} (h : VRs w ao vs) (i j : Nat) (hij : i ≤ j) (hj : j ≤ vs.length) : VRs w (ao.map (·.add (i * 3))) ((vs.drop i).take (j - i)) := by
  refine ⟨fun h0 => ?_, ?_, fun x hx => h.each x (List.mem_of_mem_drop (List.mem_of_mem_take hx))⟩
  · simp only [List.length_take, List.length_drop] at h0
    obtain ⟨b, off, e, hb, hc⟩ := h.lies (by omega)
    refine ⟨b, off + i * 3, by rw [e]; simp [Addr.add_lit], hb, fun k hk => ?_⟩
    simp only [List.length_take, List.length_drop] at hk
    have e2 : ((vs.drop i).take (j - i)).getD k Vn.zero = vs.getD (i + k) Vn.zero := by
      simp only [List.getD, List.getElem?_take_of_lt (show k < j - i by omega), List.getElem?_drop]
    rw [e2, show off + i * 3 + k * 3 = off + (i + k) * 3 by omega]
    exact hc (i + k) (by omega)
  · have := h.few
    simp only [List.length_take, List.length_drop]
    omega
/-- A row from a place on, as slicing leaves it. -/
def fromV (ro : Option Addr) (rc K : Nat) : Option Addr := if rc = K then ro else ro.map (·.add (K * 3))
theorem VRs.from {w : World} {ao : Option Addr} {vs : List Vn} (h : VRs w ao vs) (rc i j : Nat) (hij : i ≤ j) (hj : j ≤ vs.length) (hrc : vs.length ≤ rc) : VRs w (fromV ao rc i) ((vs.drop i).take (j - i)) := by
  unfold fromV
  split
  · have : (vs.drop i).take (j - i) = [] := List.eq_nil_of_length_eq_zero (by simp only [List.length_take, List.length_drop]; omega)
    rw [this]
    exact VRs.nil _ _
  · exact h.part i j hij hj

section
variable {H : Type} {enc : TypeId × Value → H}
theorem vweightsAll_mem {P : Program} {e : TypeId} : ∀ {ds : List (DataW H)} {d : DataW H}, d ∈ ds → ∀ n ∈ d.weights P e, n ∈ DataW.weightsAll P e ds
  | x :: r, d, hd, n, hn => by
    simp only [DataW.weightsAll, List.mem_append]
    rcases List.mem_cons.1 hd with rfl | hd
    · exact Or.inl hn
    · exact Or.inr (vweightsAll_mem hd n hn)
theorem Tryz.undVns' : Tryz.prog.underlying 124 = some (.slice 128) := by kernel_rfl
theorem Tryz.cellsVn : Tryz.prog.cellsOf 128 = 3 := by kernel_rfl
theorem Tryz.vnFields : (match Tryz.prog.underlying 128 with | some (.struct fs) => fs.toList.map (fun f => (f.type, f.offset)) | _ => []) = [(3, 0), (9, 1), (4, 2)] := by kernel_rfl
theorem Tryz.vundI : Tryz.prog.underlying 3 = some (.int .i64) := by kernel_rfl
theorem Tryz.vundBl : Tryz.prog.underlying 4 = some .bool := by kernel_rfl
theorem Tryz.vcBl : Tryz.prog.cellsOf 4 = 1 := by kernel_rfl
theorem Tryz.vcI : Tryz.prog.cellsOf 3 = 1 := by kernel_rfl
theorem Tryz.vcS : Tryz.prog.cellsOf 9 = 1 := by kernel_rfl
set_option maxRecDepth 100000 in
theorem vn_open {w : World} {base : Nat} {spare : Nat → Bool} {held : Bool} {fuel : Nat} {cs : List Value} {x : DataW H × List MemPlace} (h : DataW.trod enc Tryz.prog w base spare held fuel 128 cs = some x) :
    ∃ v : Vn, cs = [.int .i64 v.num, .string v.val, .bool v.drop] ∧ v.val.size ∈ x.1.weights Tryz.prog 128 ∧ -9223372036854775808 ≤ v.num ∧ v.num ≤ 9223372036854775807 := by
  have hF := Tryz.vnFields
  cases hu : Tryz.prog.underlying 128 with
  | none => rw [hu] at hF; simp at hF
  | some u =>
    rw [hu] at hF
    cases u with
    | struct fs =>
      simp only at hF
      obtain ⟨ys, n, _, hx, hlen, hys, hf⟩ := DataW.trod_struct hu h
      rw [Tryz.cellsVn] at hlen
      match cs, hlen with
      | [v0, v1, v2], _ =>
        have hl3 : fs.toList.length = 3 := by have := congrArg List.length hF; simpa using this
        obtain ⟨l, hl⟩ : ∃ l, l = fs.toList := ⟨_, rfl⟩
        rw [← hl] at hF hl3
        match l, hl3 with
        | [f0, f1, f2], _ =>
          simp only [List.map_cons, List.map_nil, List.cons.injEq, Prod.mk.injEq, and_true] at hF
          obtain ⟨⟨t0, o0⟩, ⟨t1, o1⟩, ⟨t2, o2⟩⟩ := hF
          have g : ∀ (i : Nat) (f : Field), [f0, f1, f2][i]? = some f → fs[i]? = some f := by
            intro i f hi
            rw [hl] at hi
            simpa using hi
          have r0 := hf 0 f0 (g 0 f0 rfl)
          have r1 := hf 1 f1 (g 1 f1 rfl)
          have r2 := hf 2 f2 (g 2 f2 rfl)
          rw [t0, o0, Tryz.vcI] at r0
          rw [t1, o1, Tryz.vcS] at r1
          rw [t2, o2, Tryz.vcBl] at r2
          simp only [List.drop_zero, List.drop_succ_cons, List.take_succ_cons, List.take_zero] at r0 r1 r2
          have hy3 : ys.length = 3 := by rw [hys]; have := congrArg List.length hl; simpa using this.symm
          match ys, hy3 with
          | [y0, y1, y2], _ =>
            simp only [List.getElem?_cons_zero, List.getElem?_cons_succ] at r0 r1 r2
            obtain ⟨k0, e0, _, w0⟩ := DataW.trod_int Tryz.vundI r0
            obtain ⟨s1, e1, x1, _⟩ := DataW.trod_string Tryz.undStr r1
            obtain ⟨b2, e2, _⟩ := DataW.trod_bool Tryz.vundBl r2
            simp only [List.cons.injEq, and_true] at e0 e1 e2
            have b0 := bounds_i64 w0
            have hty : fs.toList.map (·.type) = [3, 9, 4] := by rw [← hl]; simp [t0, t1, t2]
            refine ⟨⟨k0, s1, b2⟩, by rw [e0, e1, e2], ?_, b0.1, b0.2⟩
            rw [hx]
            simp only [DataW.weights, hu]
            rw [hty]
            refine DataW.weights_mem_each (j := 1) (t := 9) (d := y1.1) rfl rfl _ ?_
            rw [x1]
            simp only [DataW.weights, List.mem_singleton]
            show s1.data.size = _
            simp
    | _ => simp at hF
set_option maxRecDepth 100000 in
theorem vs_open {w : World} {fuel : Nat} {v : Value} {d : DataW H} {ps : List MemPlace} (h : DataW.trod enc Tryz.prog w 0 (fun _ => true) true fuel 124 [v] = some (d, ps)) (hsz : ∀ n ∈ d.weights Tryz.prog 124, n ≤ reachBytes) :
    ∃ ao L cap vs, v = .slice ao L cap ∧ VRs w ao vs ∧ L = vs.length ∧ L ≤ cap := by
  rcases Go.Deep.open_slice Tryz.undVns' h with ⟨hcs, _⟩ | ⟨a, len, cap, m, n, D, Pl, hcs, hb, hl, hm, hmm, hx, hE⟩
  · simp only [List.cons.injEq, and_true] at hcs
    exact ⟨none, 0, 0, [], hcs, VRs.nil _ _, rfl, Nat.le_refl _⟩
  · simp only [List.cons.injEq, and_true] at hcs
    simp only [if_true] at hmm
    subst hmm
    rw [Tryz.cellsVn] at hE hx
    have hO : ∀ i, i < m → ∃ o : Vn, (w.cells? 0 (a.add (i * 3)) 3 = some [.int .i64 o.num, .string o.val, .bool o.drop]) ∧ o.val.size ∈ (D i).weights Tryz.prog 128 ∧ -9223372036854775808 ≤ o.num ∧ o.num ≤ 9223372036854775807 := by
      intro i hi
      obtain ⟨cs', h1, h2⟩ := hE i hi
      obtain ⟨o, rfl, rest⟩ := vn_open h2
      exact ⟨o, h1, rest⟩
    haveI : Inhabited Vn := ⟨Vn.zero⟩
    obtain ⟨F, hF⟩ := Go.Deep.choose_lt hO
    have hd : d = .slice ((List.range len).map D) ((List.range (m - len)).map fun j => D (len + j)) := by have := congrArg Prod.fst hx; simpa using this
    have hr := reachBytes_lt
    have hlen : len * 32 ≤ 140737488355328 := by
      have hw : len * Tryz.prog.bytesOf 128 ≤ reachBytes := by
        refine Nat.le_trans (Nat.mul_le_mul_right _ hl) (hsz _ ?_)
        rw [hd]
        simp only [DataW.weights, Tryz.undVns', List.length_map, List.length_range]
        rw [show len + (m - len) = m by omega]
        exact List.mem_cons_self
      rw [show Tryz.prog.bytesOf 128 = 32 from by kernel_rfl] at hw
      omega
    refine ⟨some a, len, m, (List.range len).map F, hcs, ⟨fun h0 => ?_, by simp; omega, ?_⟩, by simp, hl⟩
    rotate_left
    · intro o ho
      obtain ⟨i, hi, rfl⟩ := List.mem_map.1 ho
      have hi' : i < len := by simpa using hi
      have key : ∀ q ∈ (D i).weights Tryz.prog 128, q ≤ 140737488355328 := by
        intro q hq
        have : q ≤ reachBytes := by
          apply hsz
          rw [hd]
          simp only [DataW.weights, Tryz.undVns']
          refine List.mem_cons_of_mem _ (List.mem_append_left _ ?_)
          exact vweightsAll_mem (List.mem_map.2 ⟨i, by simpa using hi', rfl⟩) _ hq
        omega
      exact ⟨key _ (hF i (by omega)).2.1, (hF i (by omega)).2.2.1, (hF i (by omega)).2.2.2⟩
    · simp only [List.length_map, List.length_range] at h0 ⊢
      have hc0 := (World.cells?_some (hF 0 (by omega)).1).2.2
      obtain ⟨b, off, spot⟩ := a
      have hspot : spot = none := by
        have := hc0 0 (by omega)
        simp at this
        simpa [Addr.add] using World.cell?_spot this
      subst hspot
      have hcell : ∀ i, i < len → ∀ j, j < 3 → w.cell? ⟨b, off + i * 3 + j, none⟩ = [Value.int .i64 (F i).num, .string (F i).val, .bool (F i).drop][j]? := by
        intro i hi j hj
        have := (World.cells?_some (hF i (by omega)).1).2.2 j hj
        rw [show ((⟨b, off, none⟩ : Addr).add (i * 3)).add j = ⟨b, off + i * 3 + j, none⟩ from by rw [Addr.add_lit, Addr.add_lit]] at this
        exact this
      refine ⟨b, off, rfl, World.block_lt_of_cell? w ⟨b, off + 0 * 3 + 0, none⟩ (by rw [hcell 0 (by omega) 0 (by omega)]; rfl), fun i hi => ?_⟩
      have e : ((List.range len).map F).getD i Vn.zero = F i := by simp [List.getD, hi]
      rw [e]
      exact ⟨hcell i hi 0 (by omega), hcell i hi 1 (by omega), hcell i hi 2 (by omega)⟩
end
/-! ### Equality -/
theorem Tryz.undVn : Tryz.prog.underlying 128 = some (.struct (Tryz.prog.fieldsOf 128)) := by kernel_rfl
theorem Tryz.heldVn : Tryz.prog.stoodInHeld 128 = false := by kernel_rfl
theorem Tryz.guardVn : Tryz.prog.eqGuardType Tryz.prog.depth 128 = false := by kernel_rfl
theorem Tryz.fieldsVn : (Tryz.prog.fieldsOf 128).toList.map (fun f => (f.name == "_", f.type, f.offset)) = [(false, 3, 0), (false, 9, 1), (false, 4, 2)] := by kernel_rfl
theorem vpart_str (w : World) (cs : Array Value) (off : Nat) (v : Value) (h : cs[off]? = some v) : (part 9 cs off).run Tryz.prog w = .ok v w := by
  simp [part, isAgg, run_underlying Tryz.undStr, h, Sem.run_bind]
theorem vpart_bool (w : World) (cs : Array Value) (off : Nat) (v : Value) (h : cs[off]? = some v) : (part 4 cs off).run Tryz.prog w = .ok v w := by
  simp [part, isAgg, run_underlying Tryz.vundBl, h, Sem.run_bind]
theorem vpart_int (w : World) (cs : Array Value) (off : Nat) (v : Value) (h : cs[off]? = some v) : (part 3 cs off).run Tryz.prog w = .ok v w := by
  simp [part, isAgg, run_underlying Tryz.vundI, h, Sem.run_bind]
theorem veq_str (w : World) (a b : ByteArray) : (Op.equalIn 9999 9 (.string a) (.string b)).run Tryz.prog w = .ok (a.toList == b.toList) w := run_equalIn_string w 9998 _ a b Tryz.undStr
theorem veq_bool (w : World) (a b : Bool) : (Op.equalIn 9999 4 (.bool a) (.bool b)).run Tryz.prog w = .ok (a == b) w := run_equalIn_bool w 9998 _ a b Tryz.vundBl
theorem veq_int (w : World) (a b : Int) : (Op.equalIn 9999 3 (.int .i64 a) (.int .i64 b)).run Tryz.prog w = .ok (a == b) w := run_equalIn_int w 9998 _ .i64 .i64 a b Tryz.vundI
theorem vstep_field {P : Program} {w : World} {A B : Sem Value} {E : Value → Value → Sem Bool} {K : Sem Bool} {a b : Value} {r : Bool} (hA : A.run P w = .ok a w) (hB : B.run P w = .ok b w) (hE : (E a b).run P w = .ok r w) :
    (do let a ← A; let b ← B; let r ← E a b; if (!r) = true then pure false else K : Sem Bool).run P w = if r = true then K.run P w else .ok false w := by
  simp only [Sem.run_bind, hA, hB, hE, Result.andThen_ok]
  cases r <;> simp
set_option maxRecDepth 100000 in
theorem vn_fields (w : World) (k1 k2 : Int) (v1 v2 : ByteArray) (p1 p2 : Bool) : (Op.equalIn 10000 128 (.agg #[.int .i64 k1, .string v1, .bool p1]) (.agg #[.int .i64 k2, .string v2, .bool p2])).run Tryz.prog w = .ok (k1 == k2 && (v1.toList == v2.toList && p1 == p2)) w := by
  rw [run_equalIn_struct w 9999 _ _ _ Tryz.undVn Tryz.heldVn]
  have hF := Tryz.fieldsVn
  obtain ⟨l, hl⟩ : ∃ l, l = (Tryz.prog.fieldsOf 128).toList := ⟨_, rfl⟩
  rw [← hl] at hF ⊢
  match l, hF with
  | [f0, f1, f2], hF =>
    simp only [List.map_cons, List.map_nil, List.cons.injEq, Prod.mk.injEq, and_true] at hF
    obtain ⟨⟨n0, t0, o0⟩, ⟨n1, t1, o1⟩, ⟨n2, t2, o2⟩⟩ := hF
    have m0 : f0.name ≠ "_" := by simpa using n0
    have m1 : f1.name ≠ "_" := by simpa using n1
    have m2 : f2.name ≠ "_" := by simpa using n2
    simp only [Op.eqFields, if_pos m0, if_pos m1, if_pos m2, t0, t1, t2, o0, o1, o2]
    rw [vstep_field (vpart_int w _ 0 _ rfl) (vpart_int w _ 0 _ rfl) (veq_int w k1 k2)]
    rw [vstep_field (vpart_str w _ 1 _ rfl) (vpart_str w _ 1 _ rfl) (veq_str w v1 v2)]
    rw [vstep_field (vpart_bool w _ 2 _ rfl) (vpart_bool w _ 2 _ rfl) (veq_bool w p1 p2)]
    cases (k1 == k2) <;> cases (v1.toList == v2.toList) <;> cases (p1 == p2) <;> simp
/-- Are two versions the same? -/
def sameV (x y : Vn) : Bool := x.num == y.num && (x.val.toList == y.val.toList && x.drop == y.drop)
theorem sameV_iff (x y : Vn) : sameV x y = true ↔ x = y := by
  obtain ⟨k1, v1, p1⟩ := x
  obtain ⟨k2, v2, p2⟩ := y
  simp only [sameV, Bool.and_eq_true, beq_iff_eq, tl_inj, Vn.mk.injEq]
theorem vn_in (w : World) (x y : Vn) : (Op.equalIn 10000 128 (.agg #[.int .i64 x.num, .string x.val, .bool x.drop]) (.agg #[.int .i64 y.num, .string y.val, .bool y.drop])).run Tryz.prog w = .ok (sameV x y) w := vn_fields w _ _ _ _ _ _
theorem vn_neq (w : World) (x y : Vn) : (binOp .neq 128 (.agg #[.int .i64 x.num, .string x.val, .bool x.drop]) (.agg #[.int .i64 y.num, .string y.val, .bool y.drop])).run Tryz.prog w = .ok (.bool (!sameV x y)) w := by
  rw [run_neq_struct, vn_fields]
  rfl
theorem vn_eql (w : World) (x y : Vn) : (binOp .eql 128 (.agg #[.int .i64 x.num, .string x.val, .bool x.drop]) (.agg #[.int .i64 y.num, .string y.val, .bool y.drop])).run Tryz.prog w = .ok (.bool (sameV x y)) w := by
  rw [run_eql_struct, vn_fields]
  rfl
end Go.Proofs.YtakbodlicfmkjaaGreat.O
