/- Maps as functions, whatever their keys and elements; the map of numbers beyond. Conditions as each names them. -/
import Derived.Test.YtakbodlicfmkjaaGreatMem
import Derived.Maps.OwnOps
import Derived.Maps.OwnSet
import Derived.Maps.Views
import Derived.DeepKeys4
import Derived.WideLaws
namespace Go.Proofs.YtakbodlicfmkjaaGreat.F
open Go.ChangeShapes Go.WideShapes Go.ChangeAt Go.RowKit Go.Lib Go.Maps
set_option linter.unusedVariables false
set_option linter.unusedSimpArgs false

/-- A kind of map: how its keys and its elements read. -/
structure Kn (P : Program) (κ α : Type) where
  k : TypeId
  t : TypeId
  e : TypeId
  kv : κ → Value
  kl : κ → Lit
  ok : κ → Prop
  ev : α → Value
  ed : α → DataW Unit
  R : Value → Option (DataW Unit × List MemPlace)
  z0 : α
  und : P.underlying t = some (.map k e)
  keyed : Keyed P k
  key : ∀ x, ok x → keyOf P k (kv x) = some (kl x)
  kvinj : ∀ x y, kv x = kv y → x = y
  em : ∀ a, R (ev a) = some (ed a, [])
  inv : ∀ v y, R v = some y → ∃ a, v = ev a ∧ y = (ed a, [])
  edinj : ∀ a b, ed a = ed b → a = b
  zero : ∀ w, (zeroValue e).run P w = .ok (ev z0) w
section
variable {P : Program} {κ α : Type} (K : Kn P κ α)
theorem Kn.klinj {x y : κ} (hx : K.ok x) (hy : K.ok y) (h : K.kl x = K.kl y) : x = y := K.kvinj x y (K.keyed.inj (K.key x hx) (by rw [h]; exact K.key y hy))
/-- Block b is a map of at most n entries that says at each key what F says. -/
def MapG (w : World) (b n : Nat) (F : κ → Option α) : Prop :=
  ∃ D : DataW Unit, w.ownsMap P K.k K.R b n D ∧ ∀ x, K.ok x → (has D (K.kl x) = (F x).isSome ∧ ∀ a, F x = some a → ∀ z, D.atKey (K.kl x) z = K.ed a)
variable {K} {w : World} {b n : Nat} {F : κ → Option α}
theorem MapG.lt (h : MapG K w b n F) : b < w.heap.size := by
  obtain ⟨D, hD, _⟩ := h
  exact hD.lt
theorem MapG.block (h : MapG K w b n F) : ∃ es c, w.heap[b]? = some (.map es c) := by
  obtain ⟨D, ⟨es, clock, hb, hr⟩, h2⟩ := h
  exact ⟨es, clock, hb⟩
theorem MapG.keep {S : List Nat} {w' : World} (h : MapG K w b n F) (hf : Fr S w w') (hn : b ∉ S) : MapG K w' b n F := by
  have hlt := h.lt
  obtain ⟨D, ⟨es, clock, hb, hr⟩, h2⟩ := h
  exact ⟨D, ⟨es, clock, (hf.block b hlt hn).trans hb, hr⟩, h2⟩
theorem MapG.mono {m : Nat} (h : MapG K w b n F) (hn : n ≤ m) : MapG K w b m F := by
  obtain ⟨D, hD, h2⟩ := h
  exact ⟨D, hD.mono hn, h2⟩
theorem MapG.made (w : World) : MapG K (w.alloc (.map #[] 0)) w.heap.size 0 (fun _ => none) :=
  ⟨.map [], World.ownsMap_made w _ _ _, fun s _ => ⟨rfl, fun a h => by cases h⟩⟩
theorem MapG.look (h : MapG K w b n F) (x : κ) (hx : K.ok x) : (Instr.lookup K.t (.map (some b)) (K.kv x) false).run P w = .ok (K.ev ((F x).getD K.z0)) w := by
  obtain ⟨D, hD, hA⟩ := h
  obtain ⟨v, ps, hrun, hv⟩ := hD.lookup K.keyed K.und (K.zero _) (K.em K.z0) (K.key x hx)
  rw [hrun]
  obtain ⟨a, rfl, e⟩ := K.inv _ _ hv
  simp only [Prod.mk.injEq] at e
  obtain ⟨h1, h2⟩ := hA x hx
  cases hF : F x with
  | some y =>
    rw [h2 y hF] at e
    rw [K.edinj _ _ e.1]
    rfl
  | none =>
    rw [hF] at h1
    rw [atKey_of_not_has h1] at e
    rw [K.edinj _ _ e.1]
    rfl
theorem MapG.lookOk (h : MapG K w b n F) (x : κ) (hx : K.ok x) : (Instr.lookup K.t (.map (some b)) (K.kv x) true).run P w = .ok (.tuple #[K.ev ((F x).getD K.z0), .bool (F x).isSome]) w := by
  obtain ⟨D, hD, hA⟩ := h
  obtain ⟨v, ps, hrun, hv⟩ := hD.look_ok K.keyed K.und (K.zero _) (K.em K.z0) (K.key x hx)
  rw [hrun]
  obtain ⟨a, rfl, e⟩ := K.inv _ _ hv
  simp only [Prod.mk.injEq] at e
  obtain ⟨h1, h2⟩ := hA x hx
  rw [h1]
  cases hF : F x with
  | some y =>
    rw [h2 y hF] at e
    rw [K.edinj _ _ e.1]
    rfl
  | none =>
    rw [hF] at h1
    rw [atKey_of_not_has h1] at e
    rw [K.edinj _ _ e.1]
    rfl
open Classical in
/-- One entry more, or another one. -/
noncomputable def updF (F : κ → Option α) (x : κ) (a : Option α) : κ → Option α := fun y => if y = x then a else F y
theorem updF_same (F : κ → Option α) (x : κ) (a : Option α) : updF F x a x = a := by simp [updF]
theorem updF_other (F : κ → Option α) {x y : κ} (a : Option α) (h : y ≠ x) : updF F x a y = F y := by simp [updF, h]
theorem MapG.store (h : MapG K w b n F) (x : κ) (a : α) (hx : K.ok x) (hn : n < maxLen) :
    ∃ w', (Instr.mapUpdate K.t (.map (some b)) (K.kv x) (K.ev a)).run P w = .ok () w' ∧ MapG K w' b (n + 1) (updF F x (some a)) ∧ Fr [b] w w' := by
  obtain ⟨D, hD, hA⟩ := h
  have hI := hD.isMap
  obtain ⟨w', hrun, hO, hg⟩ := hD.update K.keyed K.und hn (K.key x hx) (K.em a)
  refine ⟨w', hrun, ⟨_, hO, fun y hy => ?_⟩, Fr.grown hg (by intro k hk _; cases hk; simp)⟩
  by_cases he : y = x
  · subst he
    rw [updF_same]
    refine ⟨by rw [has_put_same hI (K.keyed.key (K.key y hx))]; rfl, fun a' ha z => ?_⟩
    cases ha
    exact atKey_put_same hI (K.keyed.key (K.key y hx)) _ _
  · rw [updF_other _ _ he]
    have hne : K.kl y ≠ K.kl x := fun e => he (K.klinj hy hx e)
    refine ⟨by rw [has_put_other hne, (hA y hy).1], fun a' ha z => ?_⟩
    rw [atKey_put_other hne]
    exact (hA y hy).2 a' ha z
theorem MapG.drop (h : MapG K w b n F) (x : κ) (hx : K.ok x) (ty : TypeId) :
    ∃ w', (Builtin.delete_ #[K.t, K.k] ty #[.map (some b), K.kv x]).run P w = .ok (.tuple #[]) w' ∧ MapG K w' b n (updF F x none) ∧ Fr [b] w w' := by
  obtain ⟨D, hD, hA⟩ := h
  obtain ⟨w', hrun, hO, hg⟩ := hD.drop K.keyed K.und (K.key x hx) ty
  refine ⟨w', hrun, ⟨_, hO, fun y hy => ?_⟩, Fr.grown hg.grown (by intro k hk _; cases hk; simp)⟩
  by_cases he : y = x
  · subst he
    rw [updF_same]
    exact ⟨by rw [has_del_same]; rfl, fun a' ha => by cases ha⟩
  · rw [updF_other _ _ he]
    have hne : K.kl y ≠ K.kl x := fun e => he (K.klinj hy hx e)
    refine ⟨by rw [has_del_other hne, (hA y hy).1], fun a' ha z => ?_⟩
    rw [atKey_del_other hne]
    exact (hA y hy).2 a' ha z
end

theorem Tryz.undBMap : Tryz.prog.underlying 161 = some (.map 3 208) := by kernel_rfl
theorem Tryz.undI16 : Tryz.prog.underlying 3 = some (.int .i64) := by kernel_rfl
/-- A number of 64 bits. -/
def i64 (x : Int) : Prop := -9223372036854775808 ≤ x ∧ x ≤ 9223372036854775807
theorem i64.wf {x : Int} (h : i64 x) : (Lit.int .i64 x).wf = true := WalkArith.wf_i64 ⟨h.1, h.2⟩
def unElem (v : Value) : Option (DataW Unit × List MemPlace) :=
  match v with
  | .agg ⟨[]⟩ => some (.agg [], [])
  | _ => none
/-- Those that are beyond. -/
def kBey : Kn Tryz.prog Int Unit where
  k := 3
  t := 161
  e := 208
  kv := .int .i64
  kl := .int .i64
  ok := i64
  ev := fun _ => .agg #[]
  ed := fun _ => .agg []
  R := unElem
  z0 := ()
  und := Tryz.undBMap
  keyed := int_keyed Tryz.undI16
  key := fun x hx => keyOf_int_mk Tryz.undI16 hx.wf
  kvinj := fun x y h => by cases h; rfl
  em := fun a => rfl
  inv := fun v y h => by
    unfold unElem at h
    split at h
    · cases h; exact ⟨(), rfl, rfl⟩
    · cases h
  edinj := fun a b h => rfl
  zero := fun w => by kernel_rfl
theorem run_makeMapB (n : Int) (w : World) : (Instr.makeMap 161 (some (.int .i64 n))).run Tryz.prog w = .ok (.map (some w.heap.size)) (w.alloc (.map #[] 0)) := by
  simp [Instr.makeMap, run_underlying Tryz.undBMap, asInt, asIntOf]
end Go.Proofs.YtakbodlicfmkjaaGreat.F
