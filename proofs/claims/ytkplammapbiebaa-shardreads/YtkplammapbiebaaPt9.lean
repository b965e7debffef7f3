/- Parts (a number and a write) as plain things and in memory; parts that came in; how great they are. Conditions as each lemma names them. -/
import Derived.Test.YtkplammapbiebaaSm9
namespace Go.Proofs.Ytkplammapbiebaa
open Go.ChangeShapes Go.WideShapes Go.ChangeAt Go.RowKit Go.Lib
set_option linter.unusedVariables false
set_option linter.unusedSimpArgs false

/-- A part: a key, and a version. -/
structure Pt where
  num : Int
  key : ByteArray
  val : ByteArray
  drop : Bool
def Pt.zero : Pt := ⟨0, noS, noS, false⟩
def Pt.v (p : Pt) : Vn := ⟨p.num, p.val, p.drop⟩
/-- A part's cells. -/
def ptC (x : Pt) : List Value := [.int .i64 x.num, .string x.key, .string x.val, .bool x.drop]
def ptsC : List Pt → List Value
  | [] => []
  | x :: r => ptC x ++ ptsC r
theorem ptsC_append (a b : List Pt) : ptsC (a ++ b) = ptsC a ++ ptsC b := by
  induction a with
  | nil => rfl
  | cons v r ih => simp [ptsC, ih]
theorem ptsC_length (a : List Pt) : (ptsC a).length = a.length * 4 := by
  induction a with
  | nil => rfl
  | cons v r ih => simp only [ptsC, ptC, List.length_append, List.length_cons, List.length_nil, ih]; omega
theorem ptsC_get (a : List Pt) (j c : Nat) (hj : j < a.length) (hc : c < 4) : (ptsC a)[j * 4 + c]? = (ptC (a.getD j Pt.zero))[c]? := by
  induction a generalizing j with
  | nil => simp at hj
  | cons v r ih =>
    cases j with
    | zero =>
      simp only [ptsC, Nat.zero_mul, Nat.zero_add]
      rw [List.getElem?_append_left (by simp [ptC]; omega)]
      simp
    | succ j =>
      simp only [ptsC]
      rw [List.getElem?_append_right (by simp [ptC]; omega)]
      have e : (j + 1) * 4 + c - (ptC v).length = j * 4 + c := by simp [ptC]; omega
      rw [e, ih j (by simpa using hj)]
      simp
theorem ptsC_oneCell (a : List Pt) : ∀ u ∈ ptsC a, u.oneCell' = true := by
  induction a with
  | nil => intro u hu; simp [ptsC] at hu
  | cons v r ih =>
    intro u hu
    rcases List.mem_append.1 hu with h | h
    · simp only [ptC, List.mem_cons, List.not_mem_nil, or_false] at h
      rcases h with rfl | rfl | rfl | rfl <;> rfl
    · exact ih u h
theorem pgetD_mem (vs : List Pt) (i : Nat) (h : i < vs.length) : vs.getD i Pt.zero ∈ vs := by simp [List.getD, h]
theorem ptake_snoc (vs : List Pt) (i : Nat) (h : i < vs.length) : vs.take (i + 1) = vs.take i ++ [vs.getD i Pt.zero] := by
  rw [List.take_add_one]
  simp [List.getD, h]
/-- A part lies at o in block b. -/
structure PAt (w : World) (b o : Nat) (x : Pt) : Prop where
  c0 : w.cell? ⟨b, o, none⟩ = some (.int .i64 x.num)
  c1 : w.cell? ⟨b, o + 1, none⟩ = some (.string x.key)
  c2 : w.cell? ⟨b, o + 2, none⟩ = some (.string x.val)
  c3 : w.cell? ⟨b, o + 3, none⟩ = some (.bool x.drop)
/-- What every part is. -/
structure PEach (x : Pt) : Prop where
  k : x.key.size ≤ 140737488355328
  v : x.val.size ≤ 140737488355328
  lo : -9223372036854775808 ≤ x.num
  hi : x.num ≤ 9223372036854775807
/-- The slice at ao reads as the parts vs. -/
structure PRs (w : World) (ao : Option Addr) (vs : List Pt) : Prop where
  lies : 0 < vs.length → ∃ b off, ao = some ⟨b, off, none⟩ ∧ b < w.heap.size ∧ ∀ i, i < vs.length → PAt w b (off + i * 4) (vs.getD i Pt.zero)
  few : vs.length ≤ 4398046511104
  each : ∀ x ∈ vs, PEach x
theorem PRs.nil (w : World) (ao : Option Addr) : PRs w ao [] := ⟨fun h => by simp at h, by simp, by simp⟩
theorem PRs.keepS {S : List Nat} {w w' : World} {ao : Option Addr} {vs : List Pt} (h : PRs w ao vs) (hf : Fr S w w') (hn : 0 < vs.length → ∀ a, ao = some a → a.block ∉ S) : PRs w' ao vs := by
  refine ⟨fun h0 => ?_, h.few, h.each⟩
  obtain ⟨b, off, e, hb, hc⟩ := h.lies h0
  have hk : ∀ o, w'.cell? ⟨b, o, none⟩ = w.cell? ⟨b, o, none⟩ := fun o => World.cell?_of_block (hf.block b hb (hn h0 _ e))
  exact ⟨b, off, e, Nat.lt_of_lt_of_le hb hf.size, fun i hi => ⟨(hk _).trans (hc i hi).c0, (hk _).trans (hc i hi).c1, (hk _).trans (hc i hi).c2, (hk _).trans (hc i hi).c3⟩⟩
theorem PRs.keep {w w' : World} {ao : Option Addr} {vs : List Pt} (h : PRs w ao vs) (hf : Fr [] w w') : PRs w' ao vs := h.keepS hf (by simp)
theorem PRs.of_own {w : World} {base : Nat} {ro : Option Addr} {N rc : Nat} {vs : List Pt} (h : w.ownsRow base 32 4 (.slice ro N rc) N (ptsC vs)) (hN : N = vs.length) (hl : vs.length ≤ 4398046511104) (he : ∀ x ∈ vs, PEach x) : PRs w ro vs := by
  rcases h.2 with ⟨_, h1⟩ | ⟨g, cap, cur, hv, _, hg, _, _, _, ht⟩
  · have : vs = [] := List.eq_nil_of_length_eq_zero (by omega)
    subst this
    exact PRs.nil _ _
  · cases hv
    refine ⟨fun h0 => ⟨g, 0, rfl, lt_of_block hg, fun i hi => ?_⟩, hl, he⟩
    have key : ∀ c u, c < 4 → (ptC (vs.getD i Pt.zero))[c]? = some u → w.cell? ⟨g, 0 + i * 4 + c, none⟩ = some u := by
      intro c u hc hu
      rw [← ptsC_get vs i c hi hc] at hu
      rw [cell_of_row _ _ _ _ _ _ hg, Nat.zero_add, ← Array.getElem?_toList, ← hu, ← ht, List.getElem?_take_of_lt (by omega)]
    exact ⟨key 0 _ (by omega) rfl, key 1 _ (by omega) rfl, key 2 _ (by omega) rfl, key 3 _ (by omega) rfl⟩

section
variable {H : Type} {enc : TypeId × Value → H}
theorem Try.undParts' : Try.prog.underlying 22 = some (.slice 32) := by kernel_rfl
theorem Try.cellsPart : Try.prog.cellsOf 32 = 4 := by kernel_rfl
theorem Try.cellsWt : Try.prog.cellsOf 30 = 3 := by kernel_rfl
theorem Try.wtFields : (match Try.prog.underlying 30 with | some (.struct fs) => fs.toList.map (fun f => (f.type, f.offset)) | _ => []) = [(9, 0), (9, 1), (4, 2)] := by kernel_rfl
theorem Try.ptFields : (match Try.prog.underlying 32 with | some (.struct fs) => fs.toList.map (fun f => (f.type, f.offset)) | _ => []) = [(3, 0), (30, 1)] := by kernel_rfl
set_option maxRecDepth 100000 in
theorem wt_open {w : World} {base : Nat} {spare : Nat → Bool} {held : Bool} {fuel : Nat} {cs : List Value} {x : DataW H × List MemPlace} (h : DataW.trod enc Try.prog w base spare held fuel 30 cs = some x) :
    ∃ (k v : ByteArray) (d : Bool), cs = [.string k, .string v, .bool d] ∧ k.size ∈ x.1.weights Try.prog 30 ∧ v.size ∈ x.1.weights Try.prog 30 := by
  have hF := Try.wtFields
  cases hu : Try.prog.underlying 30 with
  | none => rw [hu] at hF; simp at hF
  | some u =>
    rw [hu] at hF
    cases u with
    | struct fs =>
      simp only at hF
      obtain ⟨ys, n, _, hx, hlen, hys, hf⟩ := DataW.trod_struct hu h
      rw [Try.cellsWt] at hlen
      match cs, hlen with
      | [v0, v1, v2], _ =>
        have hl3 : fs.toList.length = 3 := by have := congrArg List.length hF; simpa using this
        obtain ⟨l, hl⟩ : ∃ l, l = fs.toList := ⟨_, rfl⟩
        rw [← hl] at hF hl3
        match l, hl3 with
        | [f0, f1, f2], _ =>
          simp only [List.map_cons, List.map_nil, List.cons.injEq, Prod.mk.injEq, and_true] at hF
          obtain ⟨⟨t0, o0⟩, ⟨t1, o1⟩, ⟨t2, o2⟩⟩ := hF
          have g : ∀ (i : Nat) (f : Field), [f0, f1, f2][i]? = some f → fs[i]? = some f := by
            intro i f hi
            rw [hl] at hi
            simpa using hi
          have r0 := hf 0 f0 (g 0 f0 rfl)
          have r1 := hf 1 f1 (g 1 f1 rfl)
          have r2 := hf 2 f2 (g 2 f2 rfl)
          rw [t0, o0, Try.vcS] at r0
          rw [t1, o1, Try.vcS] at r1
          rw [t2, o2, Try.vcBl] at r2
          simp only [List.drop_zero, List.drop_succ_cons, List.take_succ_cons, List.take_zero] at r0 r1 r2
          have hy3 : ys.length = 3 := by rw [hys]; have := congrArg List.length hl; simpa using this.symm
          match ys, hy3 with
          | [y0, y1, y2], _ =>
            simp only [List.getElem?_cons_zero, List.getElem?_cons_succ] at r0 r1 r2
            obtain ⟨s0, e0, x0, _⟩ := DataW.trod_string Try.undStr r0
            obtain ⟨s1, e1, x1, _⟩ := DataW.trod_string Try.undStr r1
            obtain ⟨b2, e2, _⟩ := DataW.trod_bool Try.vundBl r2
            simp only [List.cons.injEq, and_true] at e0 e1 e2
            have hty : fs.toList.map (·.type) = [9, 9, 4] := by rw [← hl]; simp [t0, t1, t2]
            refine ⟨s0, s1, b2, by rw [e0, e1, e2], ?_, ?_⟩
            · rw [hx]
              simp only [DataW.weights, hu]
              rw [hty]
              refine DataW.weights_mem_each (j := 0) (t := 9) (d := y0.1) rfl rfl _ ?_
              rw [x0]
              simp only [DataW.weights, List.mem_singleton]
              show s0.data.size = _
              simp
            · rw [hx]
              simp only [DataW.weights, hu]
              rw [hty]
              refine DataW.weights_mem_each (j := 1) (t := 9) (d := y1.1) rfl rfl _ ?_
              rw [x1]
              simp only [DataW.weights, List.mem_singleton]
              show s1.data.size = _
              simp
    | _ => simp at hF
set_option maxRecDepth 100000 in
theorem pt_open {w : World} {base : Nat} {spare : Nat → Bool} {held : Bool} {fuel : Nat} {cs : List Value} {x : DataW H × List MemPlace} (h : DataW.trod enc Try.prog w base spare held fuel 32 cs = some x) :
    ∃ v : Pt, cs = [.int .i64 v.num, .string v.key, .string v.val, .bool v.drop] ∧ v.key.size ∈ x.1.weights Try.prog 32 ∧ v.val.size ∈ x.1.weights Try.prog 32 ∧ -9223372036854775808 ≤ v.num ∧ v.num ≤ 9223372036854775807 := by
  have hF := Try.ptFields
  cases hu : Try.prog.underlying 32 with
  | none => rw [hu] at hF; simp at hF
  | some u =>
    rw [hu] at hF
    cases u with
    | struct fs =>
      simp only at hF
      obtain ⟨ys, n, _, hx, hlen, hys, hf⟩ := DataW.trod_struct hu h
      rw [Try.cellsPart] at hlen
      match cs, hlen with
      | [v0, v1, v2, v3], _ =>
        have hl3 : fs.toList.length = 2 := by have := congrArg List.length hF; simpa using this
        obtain ⟨l, hl⟩ : ∃ l, l = fs.toList := ⟨_, rfl⟩
        rw [← hl] at hF hl3
        match l, hl3 with
        | [f0, f1], _ =>
          simp only [List.map_cons, List.map_nil, List.cons.injEq, Prod.mk.injEq, and_true] at hF
          obtain ⟨⟨t0, o0⟩, ⟨t1, o1⟩⟩ := hF
          have g : ∀ (i : Nat) (f : Field), [f0, f1][i]? = some f → fs[i]? = some f := by
            intro i f hi
            rw [hl] at hi
            simpa using hi
          have r0 := hf 0 f0 (g 0 f0 rfl)
          have r1 := hf 1 f1 (g 1 f1 rfl)
          rw [t0, o0, Try.vcI] at r0
          rw [t1, o1, Try.cellsWt] at r1
          simp only [List.drop_zero, List.drop_succ_cons, List.take_succ_cons, List.take_zero] at r0 r1
          have hy3 : ys.length = 2 := by rw [hys]; have := congrArg List.length hl; simpa using this.symm
          match ys, hy3 with
          | [y0, y1], _ =>
            simp only [List.getElem?_cons_zero, List.getElem?_cons_succ] at r0 r1
            obtain ⟨k0, e0, _, w0⟩ := DataW.trod_int Try.vundI r0
            obtain ⟨s1, s2, b3, e1, m1, m2⟩ := wt_open r1
            simp only [List.cons.injEq, and_true] at e0 e1
            have b0 := bounds_i64 w0
            have hty : fs.toList.map (·.type) = [3, 30] := by rw [← hl]; simp [t0, t1]
            refine ⟨⟨k0, s1, s2, b3⟩, by rw [e0, e1.1, e1.2.1, e1.2.2], ?_, ?_, b0.1, b0.2⟩
            · rw [hx]
              simp only [DataW.weights, hu]
              rw [hty]
              exact DataW.weights_mem_each (j := 1) (t := 30) (d := y1.1) rfl rfl _ m1
            · rw [hx]
              simp only [DataW.weights, hu]
              rw [hty]
              exact DataW.weights_mem_each (j := 1) (t := 30) (d := y1.1) rfl rfl _ m2
    | _ => simp at hF
set_option maxRecDepth 100000 in
theorem ps_open {w : World} {fuel : Nat} {v : Value} {d : DataW H} {ps : List MemPlace} (h : DataW.trod enc Try.prog w 0 (fun _ => true) true fuel 22 [v] = some (d, ps)) (hsz : ∀ n ∈ d.weights Try.prog 22, n ≤ reachBytes) :
    ∃ ao L cap vs, v = .slice ao L cap ∧ PRs w ao vs ∧ L = vs.length ∧ L ≤ cap := by
  rcases Go.Deep.open_slice Try.undParts' h with ⟨hcs, _⟩ | ⟨a, len, cap, m, n, D, Pl, hcs, hb, hl, hm, hmm, hx, hE⟩
  · simp only [List.cons.injEq, and_true] at hcs
    exact ⟨none, 0, 0, [], hcs, PRs.nil _ _, rfl, Nat.le_refl _⟩
  · simp only [List.cons.injEq, and_true] at hcs
    simp only [if_true] at hmm
    subst hmm
    rw [Try.cellsPart] at hE hx
    have hO : ∀ i, i < m → ∃ o   : Pt, (w.cells? 0 (a.add (i * 4)) 4 = some [.int .i64 o.num, .string o.key, .string o.val, .bool o.drop]) ∧ o.key.size ∈ (D i).weights Try.prog 32 ∧ o.val.size ∈ (D i).weights Try.prog 32 ∧ -9223372036854775808 ≤ o.num ∧ o.num ≤ 9223372036854775807 := by
      intro i hi
      obtain ⟨cs', h1, h2⟩ := hE i hi
      obtain ⟨o, rfl, rest⟩ := pt_open h2
      exact ⟨o, h1, rest⟩
    haveI : Inhabited Pt := ⟨Pt.zero⟩
    obtain ⟨F, hF⟩ := Go.Deep.choose_lt hO
    have hd : d = .slice ((List.range len).map D) ((List.range (m - len)).map fun j => D (len + j)) := by have := congrArg Prod.fst hx; simpa using this
    have hr := reachBytes_lt
    have hlen : len * 48 ≤ 140737488355328 := by
      have hw : len * Try.prog.bytesOf 32 ≤ reachBytes := by
        refine Nat.le_trans (Nat.mul_le_mul_right _ hl) (hsz _ ?_)
        rw [hd]
        simp only [DataW.weights, Try.undParts', List.length_map, List.length_range]
        rw [show len + (m - len) = m by omega]
        exact List.mem_cons_self
      rw [show Try.prog.bytesOf 32 = 48 from by kernel_rfl] at hw
      omega
    refine ⟨some a, len, m, (List.range len).map F, hcs, ⟨fun h0 => ?_, by simp; omega, ?_⟩, by simp, hl⟩
    rotate_left
    · intro o ho
      obtain ⟨i, hi, rfl⟩ := List.mem_map.1 ho
      have hi' : i < len := by simpa using hi
      have key : ∀ q ∈ (D i).weights Try.prog 32, q ≤ 140737488355328 := by
        intro q hq
        have : q ≤ reachBytes := by
          apply hsz
          rw [hd]
          simp only [DataW.weights, Try.undParts']
          refine List.mem_cons_of_mem _ (List.mem_append_left _ ?_)
          exact vweightsAll_mem (List.mem_map.2 ⟨i, by simpa using hi', rfl⟩) _ hq
        omega
      exact ⟨key _ (hF i (by omega)).2.1, key _ (hF i (by omega)).2.2.1, (hF i (by omega)).2.2.2.1, (hF i (by omega)).2.2.2.2⟩
    · simp only [List.length_map, List.length_range] at h0 ⊢
      have hc0 := (World.cells?_some (hF 0 (by omega)).1).2.2
      obtain ⟨b, off, spot⟩ := a
      have hspot : spot = none := by
        have := hc0 0 (by omega)
        simp at this
        simpa [Addr.add] using World.cell?_spot this
      subst hspot
      have hcell : ∀ i, i < len → ∀ j, j < 4 → w.cell? ⟨b, off + i * 4 + j, none⟩ = [Value.int .i64 (F i).num, .string (F i).key, .string (F i).val, .bool (F i).drop][j]? := by
        intro i hi j hj
        have := (World.cells?_some (hF i (by omega)).1).2.2 j hj
        rw [show ((⟨b, off, none⟩ : Addr).add (i * 4)).add j = ⟨b, off + i * 4 + j, none⟩ from by rw [Addr.add_lit, Addr.add_lit]] at this
        exact this
      refine ⟨b, off, rfl, World.block_lt_of_cell? w ⟨b, off + 0 * 4 + 0, none⟩ (by rw [hcell 0 (by omega) 0 (by omega)]; rfl), fun i hi => ?_⟩
      have e : ((List.range len).map F).getD i Pt.zero = F i := by simp [List.getD, hi]
      rw [e]
      exact ⟨hcell i hi 0 (by omega), hcell i hi 1 (by omega), hcell i hi 2 (by omega), hcell i hi 3 (by omega)⟩
end
end Go.Proofs.Ytkplammapbiebaa
