/- Maps as functions, whatever their keys and elements; the three maps of a table. Conditions as each names them. -/
import Derived.Test.YtakbodlicfmkjaaGreatMem
import Derived.Maps.OwnOps
import Derived.Maps.OwnSet
import Derived.Maps.Views
import Derived.DeepKeys4
import Derived.WideLaws
namespace Go.Proofs.YtakbodlicfmkjaaGreat
open Go.ChangeShapes Go.WideShapes Go.ChangeAt Go.RowKit Go.Lib Go.Maps
set_option linter.unusedVariables false
set_option linter.unusedSimpArgs false

/-- A kind of map: how its keys and its elements read. -/
structure Kn (P : Program) (κ α : Type) where
  k : TypeId
  t : TypeId
  e : TypeId
  kv : κ → Value
  kl : κ → Lit
  ok : κ → Prop
  ev : α → Value
  ed : α → DataW Unit
  R : Value → Option (DataW Unit × List MemPlace)
  z0 : α
  und : P.underlying t = some (.map k e)
  keyed : Keyed P k
  key : ∀ x, ok x → keyOf P k (kv x) = some (kl x)
  kvinj : ∀ x y, kv x = kv y → x = y
  em : ∀ a, R (ev a) = some (ed a, [])
  inv : ∀ v y, R v = some y → ∃ a, v = ev a ∧ y = (ed a, [])
  edinj : ∀ a b, ed a = ed b → a = b
  zero : ∀ w, (zeroValue e).run P w = .ok (ev z0) w
section
variable {P : Program} {κ α : Type} (K : Kn P κ α)
theorem Kn.klinj {x y : κ} (hx : K.ok x) (hy : K.ok y) (h : K.kl x = K.kl y) : x = y := K.kvinj x y (K.keyed.inj (K.key x hx) (by rw [h]; exact K.key y hy))
/-- Block b is a map of at most n entries that says at each key what F says. -/
def MapG (w : World) (b n : Nat) (F : κ → Option α) : Prop :=
  ∃ D : DataW Unit, w.ownsMap P K.k K.R b n D ∧ ∀ x, K.ok x → (has D (K.kl x) = (F x).isSome ∧ ∀ a, F x = some a → ∀ z, D.atKey (K.kl x) z = K.ed a)
variable {K} {w : World} {b n : Nat} {F : κ → Option α}
theorem MapG.lt (h : MapG K w b n F) : b < w.heap.size := by
  obtain ⟨D, hD, _⟩ := h
  exact hD.lt
theorem MapG.block (h : MapG K w b n F) : ∃ es c, w.heap[b]? = some (.map es c) := by
  obtain ⟨D, ⟨es, clock, hb, hr⟩, h2⟩ := h
  exact ⟨es, clock, hb⟩
theorem MapG.keep {S : List Nat} {w' : World} (h : MapG K w b n F) (hf : Fr S w w') (hn : b ∉ S) : MapG K w' b n F := by
  have hlt := h.lt
  obtain ⟨D, ⟨es, clock, hb, hr⟩, h2⟩ := h
  exact ⟨D, ⟨es, clock, (hf.block b hlt hn).trans hb, hr⟩, h2⟩
theorem MapG.mono {m : Nat} (h : MapG K w b n F) (hn : n ≤ m) : MapG K w b m F := by
  obtain ⟨D, hD, h2⟩ := h
  exact ⟨D, hD.mono hn, h2⟩
theorem MapG.made (w : World) : MapG K (w.alloc (.map #[] 0)) w.heap.size 0 (fun _ => none) :=
  ⟨.map [], World.ownsMap_made w _ _ _, fun s _ => ⟨rfl, fun a h => by cases h⟩⟩
theorem MapG.look (h : MapG K w b n F) (x : κ) (hx : K.ok x) : (Instr.lookup K.t (.map (some b)) (K.kv x) false).run P w = .ok (K.ev ((F x).getD K.z0)) w := by
  obtain ⟨D, hD, hA⟩ := h
  obtain ⟨v, ps, hrun, hv⟩ := hD.lookup K.keyed K.und (K.zero _) (K.em K.z0) (K.key x hx)
  rw [hrun]
  obtain ⟨a, rfl, e⟩ := K.inv _ _ hv
  simp only [Prod.mk.injEq] at e
  obtain ⟨h1, h2⟩ := hA x hx
  cases hF : F x with
  | some y =>
    rw [h2 y hF] at e
    rw [K.edinj _ _ e.1]
    rfl
  | none =>
    rw [hF] at h1
    rw [atKey_of_not_has h1] at e
    rw [K.edinj _ _ e.1]
    rfl
theorem MapG.lookOk (h : MapG K w b n F) (x : κ) (hx : K.ok x) : (Instr.lookup K.t (.map (some b)) (K.kv x) true).run P w = .ok (.tuple #[K.ev ((F x).getD K.z0), .bool (F x).isSome]) w := by
  obtain ⟨D, hD, hA⟩ := h
  obtain ⟨v, ps, hrun, hv⟩ := hD.look_ok K.keyed K.und (K.zero _) (K.em K.z0) (K.key x hx)
  rw [hrun]
  obtain ⟨a, rfl, e⟩ := K.inv _ _ hv
  simp only [Prod.mk.injEq] at e
  obtain ⟨h1, h2⟩ := hA x hx
  rw [h1]
  cases hF : F x with
  | some y =>
    rw [h2 y hF] at e
    rw [K.edinj _ _ e.1]
    rfl
  | none =>
    rw [hF] at h1
    rw [atKey_of_not_has h1] at e
    rw [K.edinj _ _ e.1]
    rfl
open Classical in
/-- One entry more, or another one. -/
noncomputable def updF (F : κ → Option α) (x : κ) (a : Option α) : κ → Option α := fun y => if y = x then a else F y
theorem updF_same (F : κ → Option α) (x : κ) (a : Option α) : updF F x a x = a := by simp [updF]
theorem updF_other (F : κ → Option α) {x y : κ} (a : Option α) (h : y ≠ x) : updF F x a y = F y := by simp [updF, h]
theorem MapG.store (h : MapG K w b n F) (x : κ) (a : α) (hx : K.ok x) (hn : n < maxLen) :
    ∃ w', (Instr.mapUpdate K.t (.map (some b)) (K.kv x) (K.ev a)).run P w = .ok () w' ∧ MapG K w' b (n + 1) (updF F x (some a)) ∧ Fr [b] w w' := by
  obtain ⟨D, hD, hA⟩ := h
  have hI := hD.isMap
  obtain ⟨w', hrun, hO, hg⟩ := hD.update K.keyed K.und hn (K.key x hx) (K.em a)
  refine ⟨w', hrun, ⟨_, hO, fun y hy => ?_⟩, Fr.grown hg (by intro k hk _; cases hk; simp)⟩
  by_cases he : y = x
  · subst he
    rw [updF_same]
    refine ⟨by rw [has_put_same hI (K.keyed.key (K.key y hx))]; rfl, fun a' ha z => ?_⟩
    cases ha
    exact atKey_put_same hI (K.keyed.key (K.key y hx)) _ _
  · rw [updF_other _ _ he]
    have hne : K.kl y ≠ K.kl x := fun e => he (K.klinj hy hx e)
    refine ⟨by rw [has_put_other hne, (hA y hy).1], fun a' ha z => ?_⟩
    rw [atKey_put_other hne]
    exact (hA y hy).2 a' ha z
theorem MapG.drop (h : MapG K w b n F) (x : κ) (hx : K.ok x) (ty : TypeId) :
    ∃ w', (Builtin.delete_ #[K.t, K.k] ty #[.map (some b), K.kv x]).run P w = .ok (.tuple #[]) w' ∧ MapG K w' b n (updF F x none) ∧ Fr [b] w w' := by
  obtain ⟨D, hD, hA⟩ := h
  obtain ⟨w', hrun, hO, hg⟩ := hD.drop K.keyed K.und (K.key x hx) ty
  refine ⟨w', hrun, ⟨_, hO, fun y hy => ?_⟩, Fr.grown hg.grown (by intro k hk _; cases hk; simp)⟩
  by_cases he : y = x
  · subst he
    rw [updF_same]
    exact ⟨by rw [has_del_same]; rfl, fun a' ha => by cases ha⟩
  · rw [updF_other _ _ he]
    have hne : K.kl y ≠ K.kl x := fun e => he (K.klinj hy hx e)
    refine ⟨by rw [has_del_other hne, (hA y hy).1], fun a' ha z => ?_⟩
    rw [atKey_del_other hne]
    exact (hA y hy).2 a' ha z
end

theorem Tryz.undLMap : Tryz.prog.underlying 177 = some (.map 9 3) := by kernel_rfl
theorem Tryz.undOMap : Tryz.prog.underlying 175 = some (.map 3 176) := by kernel_rfl
theorem Tryz.undWMap : Tryz.prog.underlying 178 = some (.map 366 208) := by kernel_rfl
theorem Tryz.undI11 : Tryz.prog.underlying 3 = some (.int .i64) := by kernel_rfl
theorem Tryz.undPair : Tryz.prog.underlying 366 = some (.array 2 3) := by kernel_rfl
theorem Tryz.cellsPair : Tryz.prog.cellsOf 366 = 2 := by kernel_rfl
theorem Tryz.cellsI11 : Tryz.prog.cellsOf 3 = 1 := by kernel_rfl
theorem Tryz.laid11 : laidOutB Tryz.prog = true := by kernel_rfl
theorem Tryz.rowPair : (366 : TypeId) < Tryz.prog.types.size := of_decide_eq_true (by kernel_rfl)
theorem Tryz.widePair : (match Tryz.prog.underlying 366 with | some (.array _ _) | some (.struct _) => true | _ => false) = true := by rw [Tryz.undPair]
set_option maxRecDepth 100000 in
theorem Tryz.keyedPair : Keyed Tryz.prog 366 := Keyed.of_law (deep_law_laid Tryz.laid11 (m := 2) (by omega) Tryz.rowPair (by kernel_rfl) Tryz.widePair)
theorem Tryz.typesPos11 : ∃ m, Tryz.prog.types.size = m + 1 := ⟨Tryz.prog.types.size - 1, by have h : (366 : Nat) < Tryz.prog.types.size := Tryz.rowPair; omega⟩
theorem Tryz.keyPair : Tryz.prog.keyType 366 = true := by kernel_rfl
/-- A number of 64 bits. -/
def i64 (x : Int) : Prop := -9223372036854775808 ≤ x ∧ x ≤ 9223372036854775807
theorem i64.wf {x : Int} (h : i64 x) : (Lit.int .i64 x).wf = true := WalkArith.wf_i64 ⟨h.1, h.2⟩
set_option maxRecDepth 100000 in
theorem keyOf_pair (a b : Int) (ha : i64 a) (hb : i64 b) : keyOf Tryz.prog 366 (.agg #[.int .i64 a, .int .i64 b]) = some (.string (keyBytes [.int .i64 a, .int .i64 b])) := by
  obtain ⟨q, hq⟩ := Tryz.typesPos11
  unfold keyOf
  simp only [Tryz.undPair]
  rw [if_pos (by simp [Tryz.keyPair, Value.formed, Tryz.undPair, Tryz.cellsPair]), hq]
  unfold Program.keyLits
  simp only [Tryz.undPair, Value.cells]
  rw [if_pos (by rw [Tryz.cellsPair]; rfl), Tryz.cellsI11]
  have h1 := ha.wf
  have h2 := hb.wf
  have e : List.range 2 = [0, 1] := rfl
  rw [e]
  simp [Program.keyLits, Tryz.undI11, h1, h2]
def intElem (v : Value) : Option (DataW Unit × List MemPlace) :=
  match v with
  | .int .i64 a => some (.lit (.int .i64 a), [])
  | _ => none
def ptV : Option Nat → Value
  | none => .pointer none
  | some g => .pointer (some ⟨g, 0, none⟩)
def ptD : Option Nat → DataW Unit
  | none => .agg []
  | some g => .lit (.int .i64 g)
def ptElem (v : Value) : Option (DataW Unit × List MemPlace) :=
  match v with
  | .pointer none => some (ptD none, [])
  | .pointer (some ⟨g, 0, none⟩) => some (ptD (some g), [])
  | _ => none
def unElem (v : Value) : Option (DataW Unit × List MemPlace) :=
  match v with
  | .agg ⟨[]⟩ => some (.agg [], [])
  | _ => none
/-- Who wrote a key last. -/
def kLast : Kn Tryz.prog ByteArray Int where
  k := 9
  t := 177
  e := 3
  kv := .string
  kl := fun s => .string s.data.toList
  ok := fun s => s.size ≤ maxLen
  ev := .int .i64
  ed := fun a => .lit (.int .i64 a)
  R := intElem
  z0 := 0
  und := Tryz.undLMap
  keyed := string_keyed Tryz.undStr
  key := fun s hs => Go.WideMaps.keyOf_string_mk Tryz.undStr hs
  kvinj := fun x y h => by cases h; rfl
  em := fun a => rfl
  inv := fun v y h => by
    unfold intElem at h
    split at h
    · cases h; exact ⟨_, rfl, rfl⟩
    · cases h
  edinj := fun a b h => by cases h; rfl
  zero := fun w => by kernel_rfl
/-- Those that are open. -/
def kOpen : Kn Tryz.prog Int (Option Nat) where
  k := 3
  t := 175
  e := 176
  kv := .int .i64
  kl := .int .i64
  ok := i64
  ev := ptV
  ed := ptD
  R := ptElem
  z0 := none
  und := Tryz.undOMap
  keyed := int_keyed Tryz.undI11
  key := fun x hx => keyOf_int_mk Tryz.undI11 hx.wf
  kvinj := fun x y h => by cases h; rfl
  em := fun a => by cases a <;> rfl
  inv := fun v y h => by
    unfold ptElem at h
    split at h
    · cases h; exact ⟨none, rfl, rfl⟩
    · cases h; exact ⟨some _, rfl, rfl⟩
    · cases h
  edinj := fun a b h => by
    cases a <;> cases b
    · rfl
    · simp [ptD] at h
    · simp [ptD] at h
    · simp [ptD] at h
      exact congrArg some (by omega)
  zero := fun w => by kernel_rfl
/-- Who waits for whom. -/
def kWaits : Kn Tryz.prog (Int × Int) Unit where
  k := 366
  t := 178
  e := 208
  kv := fun p => .agg #[.int .i64 p.1, .int .i64 p.2]
  kl := fun p => .string (keyBytes [.int .i64 p.1, .int .i64 p.2])
  ok := fun p => i64 p.1 ∧ i64 p.2
  ev := fun _ => .agg #[]
  ed := fun _ => .agg []
  R := unElem
  z0 := ()
  und := Tryz.undWMap
  keyed := Tryz.keyedPair
  key := fun p hp => keyOf_pair p.1 p.2 hp.1 hp.2
  kvinj := fun x y h => by
    obtain ⟨a, b⟩ := x
    obtain ⟨c, d⟩ := y
    simp at h
    rw [h.1, h.2]
  em := fun a => rfl
  inv := fun v y h => by
    unfold unElem at h
    split at h
    · cases h; exact ⟨(), rfl, rfl⟩
    · cases h
  edinj := fun a b h => rfl
  zero := fun w => by kernel_rfl
end Go.Proofs.YtakbodlicfmkjaaGreat
