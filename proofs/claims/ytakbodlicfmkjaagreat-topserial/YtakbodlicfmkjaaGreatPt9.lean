/- Parts (a number and a write) as plain things and in memory; parts that came in; how great they are. Conditions as each lemma names them. -/
import Derived.Test.YtakbodlicfmkjaaGreatSm9
namespace Go.Proofs.YtakbodlicfmkjaaGreat.O
open Go.ChangeShapes Go.WideShapes Go.ChangeAt Go.RowKit Go.Lib
set_option linter.unusedVariables false
set_option linter.unusedSimpArgs false

/-- A part: a key, and a version. -/
structure Pt where
  num : Int
  key : ByteArray
  val : ByteArray
  drop : Bool
def Pt.zero : Pt := ⟨0, noS, noS, false⟩
def Pt.v (p : Pt) : Vn := ⟨p.num, p.val, p.drop⟩
/-- A part's cells. -/
def ptC (x : Pt) : List Value := [.int .i64 x.num, .string x.key, .string x.val, .bool x.drop]
def ptsC : List Pt → List Value
  | [] => []
  | x :: r => ptC x ++ ptsC r
theorem ptsC_append (a b : List Pt) : ptsC (a ++ b) = ptsC a ++ ptsC b := by
  induction a with
  | nil => rfl
  | cons v r ih => simp [ptsC, ih]
theorem ptsC_length (a : List Pt) : (ptsC a).length = a.length * 4 := by
  induction a with
  | nil => rfl
  | cons v r ih => simp only [ptsC, ptC, List.length_append, List.length_cons, List.length_nil, ih]; omega
theorem ptsC_get (a : List Pt) (j c : Nat) (hj : j < a.length) (hc : c < 4) : (ptsC a)[j * 4 + c]? = (ptC (a.getD j Pt.zero))[c]? := by
  induction a generalizing j with
  | nil => simp at hj
  | cons v r ih =>
    cases j with
    | zero =>
      simp only [ptsC, Nat.zero_mul, Nat.zero_add]
      rw [List.getElem?_append_left (by simp [ptC]; omega)]
      simp
    | succ j =>
      simp only [ptsC]
      rw [List.getElem?_append_right (by simp [ptC]; omega)]
      have e : (j + 1) * 4 + c - (ptC v).length = j * 4 + c := by simp [ptC]; omega
      rw [e, ih j (by simpa using hj)]
      simp
theorem ptsC_oneCell (a : List Pt) : ∀ u ∈ ptsC a, u.oneCell' = true := by
  induction a with
  | nil => intro u hu; simp [ptsC] at hu
  | cons v r ih =>
    intro u hu
    rcases List.mem_append.1 hu with h | h
    · simp only [ptC, List.mem_cons, List.not_mem_nil, or_false] at h
      rcases h with rfl | rfl | rfl | rfl <;> rfl
    · exact ih u h
theorem pgetD_mem (vs : List Pt) (i : Nat) (h : i < vs.length) : vs.getD i Pt.zero ∈ vs := by simp [List.getD, h]
theorem ptake_snoc (vs : List Pt) (i : Nat) (h : i < vs.length) : vs.take (i + 1) = vs.take i ++ [vs.getD i Pt.zero] := by
  rw [List.take_add_one]
  simp [List.getD, h]
/-- A part lies at o in block b. -/
structure PAt (w : World) (b o : Nat) (x : Pt) : Prop where
  c0 : w.cell? ⟨b, o, none⟩ = some (.int .i64 x.num)
  c1 : w.cell? ⟨b, o + 1, none⟩ = some (.string x.key)
  c2 : w.cell? ⟨b, o + 2, none⟩ = some (.string x.val)
  c3 : w.cell? ⟨b, o + 3, none⟩ = some (.bool x.drop)
/-- What every part is. -/
structure PEach (x : Pt) : Prop where
  k : x.key.size ≤ 140737488355328
  v : x.val.size ≤ 140737488355328
  lo : -9223372036854775808 ≤ x.num
  hi : x.num ≤ 9223372036854775807
/-- The slice at ao reads as the parts vs. -/
structure PRs (w : World) (ao : Option Addr) (vs : List Pt) : Prop where
  lies : 0 < vs.length → ∃ b off, ao = some ⟨b, off, none⟩ ∧ b < w.heap.size ∧ ∀ i, i < vs.length → PAt w b (off + i * 4) (vs.getD i Pt.zero)
  few : vs.length ≤ 4398046511104
  each : ∀ x ∈ vs, PEach x
theorem PRs.nil (w : World) (ao : Option Addr) : PRs w ao [] := ⟨fun h => by simp at h, by simp, by simp⟩
theorem PRs.keepS {S : List Nat} {w w' : World} {ao : Option Addr} {vs : List Pt} (h : PRs w ao vs) (hf : Fr S w w') (hn : 0 < vs.length → ∀ a, ao = some a → a.block ∉ S) : PRs w' ao vs := by
  refine ⟨fun h0 => ?_, h.few, h.each⟩
  obtain ⟨b, off, e, hb, hc⟩ := h.lies h0
  have hk : ∀ o, w'.cell? ⟨b, o, none⟩ = w.cell? ⟨b, o, none⟩ := fun o => World.cell?_of_block (hf.block b hb (hn h0 _ e))
  exact ⟨b, off, e, Nat.lt_of_lt_of_le hb hf.size, fun i hi => ⟨(hk _).trans (hc i hi).c0, (hk _).trans (hc i hi).c1, (hk _).trans (hc i hi).c2, (hk _).trans (hc i hi).c3⟩⟩
theorem PRs.keep {w w' : World} {ao : Option Addr} {vs : List Pt} (h : PRs w ao vs) (hf : Fr [] w w') : PRs w' ao vs := h.keepS hf (by simp)
section
variable {H : Type} {enc : TypeId × Value → H}
theorem Tryz.cellsWt : Tryz.prog.cellsOf 56 = 3 := by kernel_rfl
theorem Tryz.wtFields : (match Tryz.prog.underlying 56 with | some (.struct fs) => fs.toList.map (fun f => (f.type, f.offset)) | _ => []) = [(9, 0), (9, 1), (4, 2)] := by kernel_rfl
set_option maxRecDepth 100000 in
theorem wt_open {w : World} {base : Nat} {spare : Nat → Bool} {held : Bool} {fuel : Nat} {cs : List Value} {x : DataW H × List MemPlace} (h : DataW.trod enc Tryz.prog w base spare held fuel 56 cs = some x) :
    ∃ (k v : ByteArray) (d : Bool), cs = [.string k, .string v, .bool d] ∧ k.size ∈ x.1.weights Tryz.prog 56 ∧ v.size ∈ x.1.weights Tryz.prog 56 := by
  have hF := Tryz.wtFields
  cases hu : Tryz.prog.underlying 56 with
  | none => rw [hu] at hF; simp at hF
  | some u =>
    rw [hu] at hF
    cases u with
    | struct fs =>
      simp only at hF
      obtain ⟨ys, n, _, hx, hlen, hys, hf⟩ := DataW.trod_struct hu h
      rw [Tryz.cellsWt] at hlen
      match cs, hlen with
      | [v0, v1, v2], _ =>
        have hl3 : fs.toList.length = 3 := by have := congrArg List.length hF; simpa using this
        obtain ⟨l, hl⟩ : ∃ l, l = fs.toList := ⟨_, rfl⟩
        rw [← hl] at hF hl3
        match l, hl3 with
        | [f0, f1, f2], _ =>
          simp only [List.map_cons, List.map_nil, List.cons.injEq, Prod.mk.injEq, and_true] at hF
          obtain ⟨⟨t0, o0⟩, ⟨t1, o1⟩, ⟨t2, o2⟩⟩ := hF
          have g : ∀ (i : Nat) (f : Field), [f0, f1, f2][i]? = some f → fs[i]? = some f := by
            intro i f hi
            rw [hl] at hi
            simpa using hi
          have r0 := hf 0 f0 (g 0 f0 rfl)
          have r1 := hf 1 f1 (g 1 f1 rfl)
          have r2 := hf 2 f2 (g 2 f2 rfl)
          rw [t0, o0, Tryz.vcS] at r0
          rw [t1, o1, Tryz.vcS] at r1
          rw [t2, o2, Tryz.vcBl] at r2
          simp only [List.drop_zero, List.drop_succ_cons, List.take_succ_cons, List.take_zero] at r0 r1 r2
          have hy3 : ys.length = 3 := by rw [hys]; have := congrArg List.length hl; simpa using this.symm
          match ys, hy3 with
          | [y0, y1, y2], _ =>
            simp only [List.getElem?_cons_zero, List.getElem?_cons_succ] at r0 r1 r2
            obtain ⟨s0, e0, x0, _⟩ := DataW.trod_string Tryz.undStr r0
            obtain ⟨s1, e1, x1, _⟩ := DataW.trod_string Tryz.undStr r1
            obtain ⟨b2, e2, _⟩ := DataW.trod_bool Tryz.vundBl r2
            simp only [List.cons.injEq, and_true] at e0 e1 e2
            have hty : fs.toList.map (·.type) = [9, 9, 4] := by rw [← hl]; simp [t0, t1, t2]
            refine ⟨s0, s1, b2, by rw [e0, e1, e2], ?_, ?_⟩
            · rw [hx]
              simp only [DataW.weights, hu]
              rw [hty]
              refine DataW.weights_mem_each (j := 0) (t := 9) (d := y0.1) rfl rfl _ ?_
              rw [x0]
              simp only [DataW.weights, List.mem_singleton]
              show s0.data.size = _
              simp
            · rw [hx]
              simp only [DataW.weights, hu]
              rw [hty]
              refine DataW.weights_mem_each (j := 1) (t := 9) (d := y1.1) rfl rfl _ ?_
              rw [x1]
              simp only [DataW.weights, List.mem_singleton]
              show s1.data.size = _
              simp
    | _ => simp at hF
end
end Go.Proofs.YtakbodlicfmkjaaGreat.O
