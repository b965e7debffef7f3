/- Texts of this claim laid together, one behind the other: contracts and plain lemmas; conditions as each names them. -/
import Derived.Test.YtomajifklajilaaGreatGp8
import Derived.WideLaws
import Derived.WalkSpells
/- Parts (a number and a write) as plain things and in memory; parts that came in; how great they are. Conditions as each lemma names them. -/
namespace Go.Proofs.YtomajifklajilaaGreat
open Go.ChangeShapes Go.WideShapes Go.ChangeAt Go.RowKit Go.Lib
set_option linter.unusedVariables false
set_option linter.unusedSimpArgs false

/-- A part: a key, and a version. -/
structure Pt where
  num : Int
  key : ByteArray
  val : ByteArray
  drop : Bool
def Pt.zero : Pt := ⟨0, noS, noS, false⟩
def Pt.v (p : Pt) : Vn := ⟨p.num, p.val, p.drop⟩
/-- A part's cells. -/
def ptC (x : Pt) : List Value := [.int .i64 x.num, .string x.key, .string x.val, .bool x.drop]
def ptsC : List Pt → List Value
  | [] => []
  | x :: r => ptC x ++ ptsC r
theorem ptsC_append (a b : List Pt) : ptsC (a ++ b) = ptsC a ++ ptsC b := by
  induction a with
  | nil => rfl
  | cons v r ih => simp [ptsC, ih]
theorem ptsC_length (a : List Pt) : (ptsC a).length = a.length * 4 := by
  induction a with
  | nil => rfl
  | cons v r ih => simp only [ptsC, ptC, List.length_append, List.length_cons, List.length_nil, ih]; omega
theorem ptsC_get (a : List Pt) (j c : Nat) (hj : j < a.length) (hc : c < 4) : (ptsC a)[j * 4 + c]? = (ptC (a.getD j Pt.zero))[c]? := by
  induction a generalizing j with
  | nil => simp at hj
  | cons v r ih =>
    cases j with
    | zero =>
      simp only [ptsC, Nat.zero_mul, Nat.zero_add]
      rw [List.getElem?_append_left (by simp [ptC]; omega)]
      simp
    | succ j =>
      simp only [ptsC]
      rw [List.getElem?_append_right (by simp [ptC]; omega)]
      have e : (j + 1) * 4 + c - (ptC v).length = j * 4 + c := by simp [ptC]; omega
      rw [e, ih j (by simpa using hj)]
      simp
theorem ptsC_oneCell (a : List Pt) : ∀ u ∈ ptsC a, u.oneCell' = true := by
  induction a with
  | nil => intro u hu; simp [ptsC] at hu
  | cons v r ih =>
    intro u hu
    rcases List.mem_append.1 hu with h | h
    · simp only [ptC, List.mem_cons, List.not_mem_nil, or_false] at h
      rcases h with rfl | rfl | rfl | rfl <;> rfl
    · exact ih u h
theorem pgetD_mem (vs : List Pt) (i : Nat) (h : i < vs.length) : vs.getD i Pt.zero ∈ vs := by simp [List.getD, h]
theorem ptake_snoc (vs : List Pt) (i : Nat) (h : i < vs.length) : vs.take (i + 1) = vs.take i ++ [vs.getD i Pt.zero] := by
  rw [List.take_add_one]
  simp [List.getD, h]
/-- A part lies at o in block b. -/
structure PAt (w : World) (b o : Nat) (x : Pt) : Prop where
  c0 : w.cell? ⟨b, o, none⟩ = some (.int .i64 x.num)
  c1 : w.cell? ⟨b, o + 1, none⟩ = some (.string x.key)
  c2 : w.cell? ⟨b, o + 2, none⟩ = some (.string x.val)
  c3 : w.cell? ⟨b, o + 3, none⟩ = some (.bool x.drop)
/-- What every part is. -/
structure PEach (x : Pt) : Prop where
  k : x.key.size ≤ 140737488355328
  v : x.val.size ≤ 140737488355328
  lo : -9223372036854775808 ≤ x.num
  hi : x.num ≤ 9223372036854775807
/-- The slice at ao reads as the parts vs. -/
structure PRs (w : World) (ao : Option Addr) (vs : List Pt) : Prop where
  lies : 0 < vs.length → ∃ b off, ao = some ⟨b, off, none⟩ ∧ b < w.heap.size ∧ ∀ i, i < vs.length → PAt w b (off + i * 4) (vs.getD i Pt.zero)
  few : vs.length ≤ 4398046511104
  each : ∀ x ∈ vs, PEach x
theorem PRs.nil (w : World) (ao : Option Addr) : PRs w ao [] := ⟨fun h => by simp at h, by simp, by simp⟩
theorem PRs.keepS {S : List Nat} {w w' : World} {ao : Option Addr} {vs : List Pt} (h : PRs w ao vs) (hf : Fr S w w') (hn : 0 < vs.length → ∀ a, ao = some a → a.block ∉ S) : PRs w' ao vs := by
  refine ⟨fun h0 => ?_, h.few, h.each⟩
  obtain ⟨b, off, e, hb, hc⟩ := h.lies h0
  have hk : ∀ o, w'.cell? ⟨b, o, none⟩ = w.cell? ⟨b, o, none⟩ := fun o => World.cell?_of_block (hf.block b hb (hn h0 _ e))
  exact ⟨b, off, e, Nat.lt_of_lt_of_le hb hf.size, fun i hi => ⟨(hk _).trans (hc i hi).c0, (hk _).trans (hc i hi).c1, (hk _).trans (hc i hi).c2, (hk _).trans (hc i hi).c3⟩⟩
theorem PRs.keep {w w' : World} {ao : Option Addr} {vs : List Pt} (h : PRs w ao vs) (hf : Fr [] w w') : PRs w' ao vs := h.keepS hf (by simp)
section
variable {H : Type} {enc : TypeId × Value → H}
theorem Tryz.cellsWt : Tryz.prog.cellsOf 33 = 3 := by kernel_rfl
theorem Tryz.wtFields : (match Tryz.prog.underlying 33 with | some (.struct fs) => fs.toList.map (fun f => (f.type, f.offset)) | _ => []) = [(9, 0), (9, 1), (4, 2)] := by kernel_rfl
set_option maxRecDepth 100000 in
theorem wt_open {w : World} {base : Nat} {spare : Nat → Bool} {held : Bool} {fuel : Nat} {cs : List Value} {x : DataW H × List MemPlace} (h : DataW.trod enc Tryz.prog w base spare held fuel 33 cs = some x) :
    ∃ (k v : ByteArray) (d : Bool), cs = [.string k, .string v, .bool d] ∧ k.size ∈ x.1.weights Tryz.prog 33 ∧ v.size ∈ x.1.weights Tryz.prog 33 := by
  have hF := Tryz.wtFields
  cases hu : Tryz.prog.underlying 33 with
  | none => rw [hu] at hF; simp at hF
  | some u =>
    rw [hu] at hF
    cases u with
    | struct fs =>
      simp only at hF
      obtain ⟨ys, n, _, hx, hlen, hys, hf⟩ := DataW.trod_struct hu h
      rw [Tryz.cellsWt] at hlen
      match cs, hlen with
      | [v0, v1, v2], _ =>
        have hl3 : fs.toList.length = 3 := by have := congrArg List.length hF; simpa using this
        obtain ⟨l, hl⟩ : ∃ l, l = fs.toList := ⟨_, rfl⟩
        rw [← hl] at hF hl3
        match l, hl3 with
        | [f0, f1, f2], _ =>
          simp only [List.map_cons, List.map_nil, List.cons.injEq, Prod.mk.injEq, and_true] at hF
          obtain ⟨⟨t0, o0⟩, ⟨t1, o1⟩, ⟨t2, o2⟩⟩ := hF
          have g : ∀ (i : Nat) (f : Field), [f0, f1, f2][i]? = some f → fs[i]? = some f := by
            intro i f hi
            rw [hl] at hi
            simpa using hi
          have r0 := hf 0 f0 (g 0 f0 rfl)
          have r1 := hf 1 f1 (g 1 f1 rfl)
          have r2 := hf 2 f2 (g 2 f2 rfl)
          rw [t0, o0, Tryz.vcS] at r0
          rw [t1, o1, Tryz.vcS] at r1
          rw [t2, o2, Tryz.vcBl] at r2
          simp only [List.drop_zero, List.drop_succ_cons, List.take_succ_cons, List.take_zero] at r0 r1 r2
          have hy3 : ys.length = 3 := by rw [hys]; have := congrArg List.length hl; simpa using this.symm
          match ys, hy3 with
          | [y0, y1, y2], _ =>
            simp only [List.getElem?_cons_zero, List.getElem?_cons_succ] at r0 r1 r2
            obtain ⟨s0, e0, x0, _⟩ := DataW.trod_string Tryz.undStr r0
            obtain ⟨s1, e1, x1, _⟩ := DataW.trod_string Tryz.undStr r1
            obtain ⟨b2, e2, _⟩ := DataW.trod_bool Tryz.vundBl r2
            simp only [List.cons.injEq, and_true] at e0 e1 e2
            have hty : fs.toList.map (·.type) = [9, 9, 4] := by rw [← hl]; simp [t0, t1, t2]
            refine ⟨s0, s1, b2, by rw [e0, e1, e2], ?_, ?_⟩
            · rw [hx]
              simp only [DataW.weights, hu]
              rw [hty]
              refine DataW.weights_mem_each (j := 0) (t := 9) (d := y0.1) rfl rfl _ ?_
              rw [x0]
              simp only [DataW.weights, List.mem_singleton]
              show s0.data.size = _
              simp
            · rw [hx]
              simp only [DataW.weights, hu]
              rw [hty]
              refine DataW.weights_mem_each (j := 1) (t := 9) (d := y1.1) rfl rfl _ ?_
              rw [x1]
              simp only [DataW.weights, List.mem_singleton]
              show s1.data.size = _
              simp
    | _ => simp at hF
end
end Go.Proofs.YtomajifklajilaaGreat
/- What is read of a key's versions at a mark; what an install makes; what goes in of parts: mathematics alone. -/
namespace Go.Proofs.YtomajifklajilaaGreat
set_option linter.unusedVariables false
set_option linter.unusedSimpArgs false

/-- The newest version at a mark. -/
def vAt (vs : List Vn) (k : Int) : Option Vn := (vs.filter fun v => decide (v.num ≤ k)).getLast?
/-- The value at a mark: none, if the newest is a Drop. -/
def valOf (o : Option Vn) : Option ByteArray :=
  match o with
  | none => none
  | some x => if x.drop = true then none else some x.val
def valAt (vs : List Vn) (k : Int) : Option ByteArray := valOf (vAt vs k)
theorem filt_upTo {vs : List Vn} {k : Int} {d : Nat} (h : UpTo vs k d) : vs.filter (fun v => decide (v.num ≤ k)) = vs.take d := by
  rw [← List.take_append_drop d vs, List.filter_append]
  have hle := h.le
  have h1 : (vs.take d).filter (fun v => decide (v.num ≤ k)) = vs.take d := by
    refine List.filter_eq_self.2 fun p hp => ?_
    obtain ⟨j, hj, e⟩ := List.mem_iff_getElem.1 hp
    have hj' : j < d ∧ j < vs.length := by simp at hj; omega
    have := h.lo j hj'.1
    simp only [List.getD, List.getElem?_eq_getElem hj'.2, Option.getD_some] at this
    rw [← e]
    simpa using this
  have h2 : (vs.drop d).filter (fun v => decide (v.num ≤ k)) = [] := by
    refine List.filter_eq_nil_iff.2 fun p hp => ?_
    obtain ⟨j, hj, e⟩ := List.mem_iff_getElem.1 hp
    have hj' : d + j < vs.length := by simp at hj; omega
    have := h.hi (d + j) (by omega) hj'
    simp only [List.getD, List.getElem?_eq_getElem hj', Option.getD_some] at this
    rw [← e]
    simp
    omega
  rw [h1, h2, List.append_nil, List.take_append_drop]
theorem vAt_upTo {vs : List Vn} {k : Int} {d : Nat} (h : UpTo vs k d) : vAt vs k = if d = 0 then none else some (atV vs d) := by
  unfold vAt
  rw [filt_upTo h]
  have hle := h.le
  by_cases h0 : d = 0
  · subst h0; simp
  · rw [if_neg h0, List.getLast?_eq_getElem?]
    unfold atV
    rw [if_neg h0]
    have e : (vs.take d).length - 1 = d - 1 := by simp; omega
    have hl : d - 1 < vs.length := by omega
    rw [e, List.getElem?_take_of_lt (by omega), List.getElem?_eq_getElem hl]
    simp [List.getD, hl]
theorem atV_mem {vs : List Vn} {d : Nat} (h0 : 0 < d) (hd : d ≤ vs.length) : atV vs d ∈ vs := by
  unfold atV
  rw [if_neg (by omega)]
  exact vgetD_mem vs (d - 1) (by omega)
/-- What Get says. -/
theorem get_told {vs : List Vn} {k : Int} {x : Vn} {ok : Bool} {c : Nat} (hok : okV vs) (h : AtTold vs k x ok c) : (ok && !x.drop) = (valAt vs k).isSome ∧ x.val = (valAt vs k).getD noS ∧ c = 0 := by
  rcases h with ⟨_, h, _⟩ | ⟨hc, _, d, hd, h1, h2⟩
  · exact absurd hok h
  · have hv := vAt_upTo hd
    unfold valAt valOf
    by_cases h0 : d = 0
    · rw [if_pos h0] at hv
      rw [hv, h1, h2]
      subst h0
      exact ⟨rfl, rfl, hc⟩
    · rw [if_neg h0] at hv
      rw [hv, h2]
      simp only
      rw [← h1]
      have hm : x ∈ vs := by rw [h1]; exact atV_mem (by omega) hd.le
      have hx := hok.1 x hm
      have hd0 : decide (0 < d) = true := by simp; omega
      rw [hd0]
      cases hdr : x.drop with
      | true => exact ⟨rfl, by simpa using hx.2.2.2 hdr, hc⟩
      | false => exact ⟨rfl, by simp, hc⟩
theorem valAt_nil (k : Int) : valAt [] k = none := rfl
/-- What putting a version makes of what the keys have. -/
def PutM (M : ByteArray → List Vn) (key : ByteArray) (v : Vn) (M' : ByteArray → List Vn) (ok : Bool) : Prop :=
  (ok = false ∧ M' = M ∧ ∃ y ∈ M key, y.num = v.num) ∨ (ok = true ∧ (∀ y ∈ M key, y.num ≠ v.num) ∧ ∃ us, M' = updM M key us ∧ okV us ∧ ∀ x, x ∈ us ↔ x ∈ M key ∨ x = v)
theorem putM_of {M : ByteArray → List Vn} {key : ByteArray} {v : Vn} {us : List Vn} {ok : Bool} {c : Nat} (hM : okV (M key)) (hv : okX v) (h : PuTold (M key) v us ok c) : c = 0 ∧ ((ok = false ∧ PutM M key v M false) ∨ (ok = true ∧ okV us ∧ 0 < us.length ∧ PutM M key v (updM M key us) true)) := by
  rcases h with ⟨_, h, _⟩ | ⟨hc, _, _, d, hd, h⟩
  · exact absurd ⟨hM, hv⟩ h
  refine ⟨hc, ?_⟩
  have ht := there_iff (v := v) hM.2 hd
  rcases h with ⟨h1, h2, h3⟩ | ⟨h1, h2, h3⟩
  · exact Or.inl ⟨h3, Or.inl ⟨rfl, rfl, ht.1 h1⟩⟩
  · have hus : okV us := by rw [h2]; exact okV_ins hM hv hd h1
    refine Or.inr ⟨h3, hus, by rw [h2, len_ins hd.le]; omega, Or.inr ⟨rfl, fun y hy e => h1 (ht.2 ⟨y, hy, e⟩), us, rfl, hus, fun x => ?_⟩⟩
    rw [h2, mem_ins]
    exact ⟨fun h => h.symm, fun h => h.symm⟩
theorem putM_snoc {M : ByteArray → List Vn} {key : ByteArray} {v : Vn} (hM : okV (M key)) (hv : okX v) (hl : ∀ y ∈ M key, y.num < v.num) : okV (M key ++ [v]) ∧ PutM M key v (updM M key (M key ++ [v])) true := by
  have h1 : okV (M key ++ [v]) := okV_snoc.2 ⟨hM, hv, hl⟩
  exact ⟨h1, Or.inr ⟨rfl, fun y hy e => by have := hl y hy; omega, _, rfl, h1, fun x => by simp⟩⟩
theorem last_lt {vs : List Vn} {k : Int} (h : Ris vs) (h0 : 0 < vs.length) (hl : (vs.getD (vs.length - 1) Vn.zero).num < k) : ∀ y ∈ vs, y.num < k := by
  intro y hy
  obtain ⟨j, hj, e⟩ := mem_get hy
  rw [← e]
  by_cases hjl : j = vs.length - 1
  · rw [hjl]; exact hl
  · have := ris_get h (show j < vs.length - 1 by omega) (by omega)
    omega
/-- May a part be? -/
def okP (p : Pt) : Prop := okK9 p.key ∧ okX p.v
/-- What an install tells, and makes of what the keys have. -/
def InTold (M : ByteArray → List Vn) (p : Pt) (M' : ByteArray → List Vn) (ok : Bool) (c : Nat) : Prop :=
  (c = 1 ∧ ok = false ∧ ¬ okP p ∧ M' = M) ∨ (c = 0 ∧ okP p ∧ PutM M p.key p.v M' ok)
/-- What goes in of parts, one behind the other. -/
inductive Goes : List Pt → List Pt → Prop
  | nil : Goes [] []
  | inn {ps ins : List Pt} {p : Pt} : Goes ps ins → okP p → (∀ q ∈ ins, q.key = p.key → q.num ≠ p.num) → Goes (ps ++ [p]) (ins ++ [p])
  | out {ps ins : List Pt} {p : Pt} : Goes ps ins → ¬ (okP p ∧ ∀ q ∈ ins, q.key = p.key → q.num ≠ p.num) → Goes (ps ++ [p]) ins
def DisP (ins : List Pt) : Prop := ins.Pairwise fun p q => p.key = q.key → p.num ≠ q.num
theorem Goes.dis {ps ins : List Pt} (h : Goes ps ins) : DisP ins := by
  induction h with
  | nil => exact List.Pairwise.nil
  | inn _ _ hq ih =>
    unfold DisP
    rw [List.pairwise_append]
    exact ⟨ih, List.pairwise_singleton _ _, fun a ha b hb e => by simp at hb; subst hb; exact hq a ha e⟩
  | out _ _ ih => exact ih
theorem Goes.ok {ps ins : List Pt} (h : Goes ps ins) : ∀ p ∈ ins, okP p := by
  induction h with
  | nil => simp
  | inn _ hp _ ih => intro q hq; rcases List.mem_append.1 hq with h | h; exact ih q h; simp at h; subst h; exact hp
  | out _ _ ih => exact ih
theorem Goes.len {ps ins : List Pt} (h : Goes ps ins) : ins.length ≤ ps.length := by
  induction h with
  | nil => simp
  | inn _ _ _ ih => simp; omega
  | out _ _ ih => simp; omega
theorem Goes.mem {ps ins : List Pt} (h : Goes ps ins) : ∀ p ∈ ins, p ∈ ps := by
  induction h with
  | nil => simp
  | inn _ _ _ ih =>
    intro q hq
    rcases List.mem_append.1 hq with h | h
    · exact List.mem_append_left _ (ih q h)
    · exact List.mem_append_right _ h
  | out _ _ ih => intro q hq; exact List.mem_append_left _ (ih q hq)
theorem Goes.all {ps ins : List Pt} (h : Goes ps ins) (ho : ∀ p ∈ ps, okP p) (hd : DisP ps) : ins = ps := by
  induction h with
  | nil => rfl
  | @inn ps ins p h1 h2 h3 ih =>
    unfold DisP at hd
    rw [List.pairwise_append] at hd
    rw [ih (fun q hq => ho q (List.mem_append_left _ hq)) hd.1]
  | @out ps ins p h1 h2 ih =>
    unfold DisP at hd
    rw [List.pairwise_append] at hd
    have e := ih (fun q hq => ho q (List.mem_append_left _ hq)) hd.1
    exact absurd ⟨ho p (by simp), fun q hq hk => hd.2.2 q (by rw [← e]; exact hq) p (by simp) hk⟩ h2
/-- The keys have what went in. -/
def HoldsP (M : ByteArray → List Vn) (ins : List Pt) : Prop := ∀ k x, x ∈ M k ↔ ∃ p ∈ ins, p.key = k ∧ x = p.v
theorem HoldsP.nil : HoldsP (fun _ => []) [] := fun k x => by simp
theorem HoldsP.step {M M' : ByteArray → List Vn} {ins : List Pt} {p : Pt} {ok : Bool} {c : Nat} (h : HoldsP M ins) (hI : InTold M p M' ok c) :
    (ok = true ∧ c = 0 ∧ HoldsP M' (ins ++ [p]) ∧ okP p ∧ ∀ q ∈ ins, q.key = p.key → q.num ≠ p.num) ∨ (ok = false ∧ HoldsP M' ins ∧ ¬ (okP p ∧ ∀ q ∈ ins, q.key = p.key → q.num ≠ p.num)) := by
  rcases hI with ⟨_, h1, h2, h3⟩ | ⟨h0, hp, h1⟩
  · exact Or.inr ⟨h1, by rw [h3]; exact h, fun e => h2 e.1⟩
  rcases h1 with ⟨h1, h2, y, hy, e⟩ | ⟨h1, h2, us, h3, _, h4⟩
  · refine Or.inr ⟨h1, by rw [h2]; exact h, fun e2 => ?_⟩
    obtain ⟨q, hq, hk, hv⟩ := (h p.key y).1 hy
    exact e2.2 q hq hk (by rw [hv] at e; exact e)
  · refine Or.inl ⟨h1, h0, fun k x => ?_, hp, fun q hq hk e => h2 q.v ((h p.key q.v).2 ⟨q, hq, hk, rfl⟩) e⟩
    rw [h3]
    unfold updM
    by_cases hk : k = p.key
    · rw [if_pos hk, h4, h p.key x, hk]
      constructor
      · rintro (⟨q, hq, e1, e2⟩ | e)
        · exact ⟨q, List.mem_append_left _ hq, e1, e2⟩
        · exact ⟨p, by simp, rfl, e⟩
      · rintro ⟨q, hq, e1, e2⟩
        rcases List.mem_append.1 hq with h5 | h5
        · exact Or.inl ⟨q, h5, e1, e2⟩
        · simp at h5; subst h5; exact Or.inr e2
    · rw [if_neg hk, h k x]
      constructor
      · rintro ⟨q, hq, e1, e2⟩
        exact ⟨q, List.mem_append_left _ hq, e1, e2⟩
      · rintro ⟨q, hq, e1, e2⟩
        rcases List.mem_append.1 hq with h5 | h5
        · exact ⟨q, h5, e1, e2⟩
        · simp at h5; subst h5; exact absurd e1.symm hk
theorem HoldsP.one {M M' : ByteArray → List Vn} {ins ins' : List Pt} (h : HoldsP M ins) (h' : HoldsP M' ins') (ho : ∀ k, okV (M k)) (ho' : ∀ k, okV (M' k)) (he : ∀ p, p ∈ ins ↔ p ∈ ins') : M = M' := by
  funext k
  refine ris_unique _ _ (ho k).2 (ho' k).2 fun v => ?_
  rw [h k v, h' k v]
  constructor
  · rintro ⟨p, hp, e⟩; exact ⟨p, (he p).1 hp, e⟩
  · rintro ⟨p, hp, e⟩; exact ⟨p, (he p).2 hp, e⟩
/-- How many versions. -/
def SzT (M : ByteArray → List Vn) (S : Nat) : Prop := ∃ ks : List ByteArray, ks.Nodup ∧ (∀ k, k ∈ ks ↔ M k ≠ []) ∧ S = (ks.map fun k => (M k).length).sum
theorem ris_nodup {vs : List Vn} (h : Ris vs) : vs.Nodup := List.Pairwise.imp (fun {a b} hab e => by rw [e] at hab; omega) h
theorem SzT.holds {M : ByteArray → List Vn} {ins : List Pt} {S : Nat} (h : SzT M S) (hM : HoldsP M ins) (ho : ∀ k, okV (M k)) (hd : DisP ins) : S = ins.length := by
  obtain ⟨ks, hn, hk, rfl⟩ := h
  have e1 : (ks.map fun k => (M k).length).sum = (ks.flatMap fun k => (M k).map fun v => (k, v)).length := by
    rw [List.length_flatMap]
    simp
  have e2 : ins.length = (ins.map fun p => (p.key, p.v)).length := by simp
  rw [e1, e2]
  refine List.Perm.length_eq ((List.perm_ext_iff_of_nodup ?_ ?_).2 fun x => ?_)
  · unfold List.Nodup
    rw [List.pairwise_flatMap]
    refine ⟨fun k _ => ?_, hn.imp fun {a b} hab x hx y hy e => ?_⟩
    · rw [List.pairwise_map]
      exact (ris_nodup (ho k).2).imp fun hne e => hne (by simpa using e)
    · obtain ⟨_, _, rfl⟩ := List.mem_map.1 hx
      obtain ⟨_, _, rfl⟩ := List.mem_map.1 hy
      simp at e
      exact hab e.1
  · unfold List.Nodup
    rw [List.pairwise_map]
    refine List.Pairwise.imp (fun {p q} hpq e => ?_) hd
    simp only [Prod.mk.injEq] at e
    exact hpq e.1 (congrArg Vn.num e.2)
  · obtain ⟨k, v⟩ := x
    rw [List.mem_flatMap, List.mem_map]
    constructor
    · rintro ⟨k', _, hx⟩
      obtain ⟨v', hv', e⟩ := List.mem_map.1 hx
      simp only [Prod.mk.injEq] at e
      obtain ⟨rfl, rfl⟩ := e
      obtain ⟨p, hp, e3, e4⟩ := (hM k' v').1 hv'
      exact ⟨p, hp, by rw [e3, e4]⟩
    · rintro ⟨p, hp, e⟩
      simp only [Prod.mk.injEq] at e
      have hv : v ∈ M k := (hM k v).2 ⟨p, hp, e.1, e.2.symm⟩
      exact ⟨k, (hk k).2 (List.ne_nil_of_mem hv), List.mem_map.2 ⟨v, hv, rfl⟩⟩
end Go.Proofs.YtomajifklajilaaGreat
/- Contracts of a shard's New, there, mayBe, Get, put, Install. Conditions as each names them. -/
namespace Go.Proofs.YtomajifklajilaaGreat
open Go.ChangeShapes Go.WideShapes Go.ChangeAt Go.RowKit Go.Lib Go.Maps
set_option linter.unusedVariables false
set_option linter.unusedSimpArgs false

theorem hnew_any (w : World) : Calls Tryz.prog 90 #[] w fun e w' => ∃ sb b, e = .returned (.pointer (some ⟨sb, 0, none⟩)) ∧ Sh w w' sb b 0 (fun _ => []) ∧ Fr [] w w' := by
  have hmm := @run_makeMap Tryz.prog
  have HS : Hid (Sh w ((w.alloc (.map #[] 0)).alloc (.cells #[.map (some w.heap.size)] 129)) (w.heap.size + 1) w.heap.size 0 (fun _ => [])) := Sh.made w w (Nat.le_refl _)
  have HF : Hid (Fr [] w ((w.alloc (.map #[] 0)).alloc (.cells #[.map (some w.heap.size)] 129))) := (Fr.alloc [] _ _).then (Fr.alloc [] _ _)
  go_enter Tryz.func90, Tryz.ntmps90
  go_wp2
  go_ret
  exact ⟨w.heap.size + 1, w.heap.size, rfl, HS.out, HF.out⟩
theorem Sh.cell {w0 w : World} {sb b n : Nat} {M : ByteArray → List Vn} (h : Sh w0 w sb b n M) : w.cell? ⟨sb, 0, none⟩ = some (.map (some b)) := by
  rw [cell_of_row _ _ _ _ _ _ h.box]; rfl
theorem hthere_any {w0 : World} {sb b n : Nat} {M : ByteArray → List Vn} (w : World) (h : Sh w0 w sb b n M) : Calls Tryz.prog 87 #[.pointer (some ⟨sb, 0, none⟩)] w fun e w' => e = .returned (.bool true) ∧ Fr [] w w' := by
  have qT : ∀ (w : World) (r : Option Nat), (binOp .neq 125 (.map r) (.map none)).run Tryz.prog w = .ok (.bool (!r.isNone)) w := fun w r => run_neq_map_nil w _ _ _ r Tryz.undVMap
  have c0 := h.cell
  go_enter Tryz.func87, Tryz.ntmps87
  go_wp2
  go_ret
  exact ⟨rfl, Fr.refl _ _⟩
set_option maxHeartbeats 1000000 in
theorem hmay_any (key : ByteArray) (B : Bool) (w : World) (hB : B = true ↔ okK9 key) : Calls Tryz.prog 91 #[.string key] w fun e w' => e = .returned (.bool B) ∧ Fr [] w w' := by
  have hE0 : (⟨#[]⟩ : ByteArray).toList = [] := (tl_nil _).2 rfl
  by_cases h1 : key.toList = []
  · obtain ⟨E, hE⟩ : ∃ E, (key.toList == ([] : List UInt8)) = E := ⟨_, rfl⟩
    have hE1 : E = true := by rw [← hE, h1]; rfl
    have hE2 : (key.toList != ([] : List UInt8)) = false := by rw [bne, hE, hE1]; rfl
    have hBf : B = false := by
      cases B with
      | false => rfl
      | true => have := (hB.1 rfl).1; have := (tl_nil key).1 h1; omega
    subst hBf
    clear hB h1
    go_enter Tryz.func91, Tryz.ntmps91
    go_wp2
    all_goals (go_ret; exact ⟨rfl, Fr.refl _ _⟩)
  · obtain ⟨E, hE⟩ : ∃ E, (key.toList == ([] : List UInt8)) = E := ⟨_, rfl⟩
    have hE1 : E = false := by rw [← hE]; simpa using h1
    have hE2 : (key.toList != ([] : List UInt8)) = true := by rw [bne, hE, hE1]; rfl
    have hpos : 1 ≤ key.size := by
      rcases Nat.eq_zero_or_pos key.size with h | h
      · exact absurd ((tl_nil key).2 h) h1
      · exact h
    have hBf : B = decide ((key.size : Int) ≤ 64) := by
      by_cases h2 : key.size ≤ 64
      · rw [hB.2 ⟨hpos, h2⟩]
        symm
        simp
        omega
      · have : B = false := by
          cases B with
          | false => rfl
          | true => exact absurd (hB.1 rfl).2 h2
        rw [this]
        symm
        simp
        omega
    rw [hBf]
    clear hB h1 hBf hpos
    go_enter Tryz.func91, Tryz.ntmps91
    go_wp2
    all_goals (go_ret; exact ⟨rfl, Fr.refl _ _⟩)
theorem VOut.each {w0 w : World} {ro : Option Addr} {N rc : Nat} {vs : List Vn} (h : VOut w0 w ro N rc vs) (ho : okV vs) : VRs w ro vs := h.rs (by have := okV_few ho; omega) (fun x hx => okX_each (ho.1 x hx))
set_option maxHeartbeats 4000000 in
set_option maxRecDepth 100000 in
theorem hget_any {w0 : World} {sb b n : Nat} {M : ByteArray → List Vn} (key : ByteArray) (k : Int) (w : World) (h : Sh w0 w sb b n M) (hk : key.size ≤ 140737488355328) :
    Calls Tryz.prog 62 #[.pointer (some ⟨sb, 0, none⟩), .string key, .int .i64 k] w fun e w' => e = .returned (.tuple #[.string ((valAt (M key) k).getD noS), .bool (valAt (M key) k).isSome]) ∧ Fr [] w w' := by
  have HT : Hid (Calls _ _ _ _ _) := hthere_any w h
  have HS : Hid (∀ W, Fr [] w W → Sh w0 W sb b n M) := fun W hf => h.keep hf
  clear h
  go_enter Tryz.func62, Tryz.ntmps62
  go_wp2_with fail
  refine Calls.mono HT.out ?_
  rintro e w1 ⟨rfl, hF1⟩
  have hS1 := HS.out _ hF1
  have c0 := hS1.cell
  obtain ⟨ro, N, rc, hlk, hV, _⟩ := hS1.look key (by unfold maxLen; omega)
  have hok := hS1.ok key
  have HA : Hid (Calls _ _ _ _ _) := at_any ro N rc k (M key) w1 (hV.each hok) hV.len
  have HO : Hid (okV (M key)) := hok
  clear HT hS1 hV hok
  go_wp2_with fail
  refine Calls.mono HA.out ?_
  rintro e w2 ⟨x, ok, c, rfl, hT, hF2⟩
  have hG := hF1.then hF2
  obtain ⟨h1, h2, rfl⟩ := get_told HO.out hT
  have HG : Hid (Fr [] w w2) := hG
  obtain ⟨num, val, drop⟩ := x
  simp only at h1 h2
  have HH : Hid ((ok && !drop) = (valAt (M key) k).isSome ∧ val = (valAt (M key) k).getD noS) := ⟨h1, h2⟩
  clear h1 h2 hT HA HO HS hF1 hF2 hG c0 hlk
  simp only
  cases ok with
  | true =>
    go_wp2_with fail
    go_quiet (fail)
    go_wp2
    refine bodyPost_ret (results_tmp2 rfl _ _ _) rfl ?_
    rw [← HH.out.1, ← HH.out.2]
    exact ⟨rfl, HG.out.then (((Fr.alloc _ _ _)).then (Fr.drewN _ _ _))⟩
  | false =>
    go_wp2_with fail
    go_quiet (fail)
    go_wp2
    refine bodyPost_ret (results_tmp2 rfl _ _ _) rfl ?_
    rw [← HH.out.1, ← HH.out.2]
    exact ⟨rfl, HG.out.then (((Fr.alloc _ _ _)).then (Fr.drewN _ _ _))⟩
end Go.Proofs.YtomajifklajilaaGreat
