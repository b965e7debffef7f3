/- Contracts of a table's Waits and Open; slices.Sort and slices.Compact of a row of numbers. Conditions as each names them. -/
import Derived.Test.YtaaghcimfcjehaaGreatDoorTc11
import Derived.Shelf.SlIterI.Nil
import Derived.Shelf.SortM.Plain
import Derived.Shelf.SortM.SortNone
import Derived.Shelf.Slices.CompactI
import Derived.Shelf.Lay
import Derived.Ground.GgzProg
import Derived.Ground.SlgmProg
import Derived.Ground.Names2Prog
import Derived.Sort.OwnSortedInts
namespace Go.Proofs
open Go.RowKit Go.Maps Go.Sort Go.Shelf
shelf_lay_g SlLaysM.n5 Slgm 5 at Tryz 200 as Tryz.sortA
shelf_lay Lays2.n20 Nm2 20 at Tryz as Tryz.compactA
end Go.Proofs
namespace Go.Proofs.YtaaghcimfcjehaaGreatDoor
open Go.ChangeShapes Go.WideShapes Go.ChangeAt Go.RowKit Go.Lib Go.Maps Go.Sort Go.Shelf
set_option linter.unusedVariables false
set_option linter.unusedSimpArgs false

/-- Numbers that are not too great, and not too many. -/
structure Good (D : Dt) : Prop where
  op : ∀ m, D.op m → 1 ≤ m ∧ m ≤ 65536
  ah : ∀ m, D.op m → (D.ah m).length ≤ 65536 ∧ ∀ x ∈ D.ah m, 1 ≤ x ∧ x ≤ 65536
  bh : ∀ m, D.op m → (D.bh m).length ≤ 65536 ∧ ∀ x ∈ D.bh m, 1 ≤ x ∧ x ≤ 65536
  last : ∀ k, i64 (D.last k)
theorem Inv.good {D : Dt} {L : Lg} {en : Int → Prop} (h : Inv D L en) (hn : D.newest ≤ 65536) : Good D := by
  have h1 : ∀ m, D.op m → 1 ≤ m ∧ m ≤ 65536 := fun m hm => by
    obtain ⟨⟨p, hp, e⟩, _⟩ := (h.op m).1 hm
    have := h.ris.pos p hp
    have := h.new.1 p hp
    omega
  refine ⟨h1, fun m hm => ?_, fun m hm => ?_, fun k => ?_⟩
  · have hx : ∀ x ∈ D.ah m, 1 ≤ x ∧ x ≤ 65536 := fun x hx => by
      have := ((h.ah m hm).2.1 x hx).lt h.ris
      have := h1 m hm
      omega
    exact ⟨(h.ah m hm).1.few (a := 1) (n := 65536) (fun x hx' => by have := hx x hx'; omega), hx⟩
  · have hx : ∀ x ∈ D.bh m, 1 ≤ x ∧ x ≤ 65536 := fun x hx => h1 x (((h.bh m hm).2 x).1 hx).1
    exact ⟨(h.bh m hm).1.few (a := 1) (n := 65536) (fun x hx' => by have := hx x hx'; omega), hx⟩
  · rw [h.last]
    by_cases h0 : lst L k = 0
    · rw [h0]; exact ⟨by omega, by omega⟩
    · obtain ⟨ks, h2, _⟩ := lst_some L k h.ris h0
      have := h.ris.pos _ h2
      have := h.new.1 _ h2
      simp only at *
      exact ⟨by omega, by omega⟩
theorem i64.of {x : Int} (h : 1 ≤ x ∧ x ≤ 65536) : i64 x := ⟨by omega, by omega⟩
theorem twaits_any {tb : Nat} {B : List Nat} {n : Nat} {D : Dt} (m : Int) (w : World) (h : Tb w tb B n D) (G : Good D) (hm : D.op m) :
    Calls Tryz.prog 175 #[.pointer (some ⟨tb, 0, none⟩), .int .i64 m] w fun e w' => ∃ so N c ys, e = .returned (.tuple #[.slice so N c, .int .i64 0]) ∧ IOw w.heap.size w' so N c ys ∧ AwT D m ys ∧ Fr [] w w' := by
  have HT : Hid (Calls _ _ _ _ _) := tthere_any w h
  have HK : Hid (∀ W, Fr [] w W → Tb W tb B n D) := fun W hf => h.quiet hf
  have HM : Hid (D.op m) := hm
  have hmi : i64 m := .of (G.op m hm)
  have HG : Hid (Good D) := G
  clear h hm G
  go_enter Tryz.func175, Tryz.ntmps175
  go_wp2_with fail
  refine Calls.mono HT.out ?_
  rintro e w1 ⟨rfl, hF1⟩
  go_wp2_with fail
  refine (tisopen_any m true _ (HK.out _ hF1) hmi ⟨fun _ => HM.out, fun _ => rfl⟩).mono ?_
  rintro e w2 ⟨rfl, hF2⟩
  have hG2 := hF1.then hF2
  go_wp2_with fail
  refine (tawaited_any m _ (HK.out _ hG2) HM.out hmi (fun x hx => .of ((HG.out.ah m HM.out).2 x hx)) (by have := (HG.out.ah m HM.out).1; omega)).mono ?_
  rintro e w3 ⟨so, N, c, ys, rfl, hO, hA, hF3⟩
  have HR : Hid (_ ∧ _ ∧ _) := ⟨hO.low hG2.size, hA, hG2.then hF3⟩
  clear hO hA
  go_wp2
  refine bodyPost_ret (results_tmp2 rfl _ _ _) rfl ?_
  exact ⟨so, N, c, ys, rfl, HR.out⟩
theorem twaits_no {tb : Nat} {B : List Nat} {n : Nat} {D : Dt} (m : Int) (w : World) (h : Tb w tb B n D) (hmi : i64 m) (hm : ¬ D.op m) :
    Calls Tryz.prog 175 #[.pointer (some ⟨tb, 0, none⟩), .int .i64 m] w fun e w' => e = .returned (.tuple #[.slice none 0 0, .int .i64 1]) ∧ Fr [] w w' := by
  have HT : Hid (Calls _ _ _ _ _) := tthere_any w h
  have HK : Hid (∀ W, Fr [] w W → Tb W tb B n D) := fun W hf => h.quiet hf
  have HM : Hid (¬ D.op m) := hm
  clear h hm
  go_enter Tryz.func175, Tryz.ntmps175
  go_wp2_with fail
  refine Calls.mono HT.out ?_
  rintro e w1 ⟨rfl, hF1⟩
  go_wp2_with fail
  refine (tisopen_any m false _ (HK.out _ hF1) hmi ⟨fun h => (by cases h), fun h => absurd h HM.out⟩).mono ?_
  rintro e w2 ⟨rfl, hF2⟩
  have hG2 := hF1.then hF2
  go_wp2
  refine bodyPost_ret (results_tmp2 rfl _ _ _) rfl ?_
  exact ⟨rfl, hG2⟩
theorem intKeys_is {H : Type} {P : Program} {k : TypeId} {R : Value → Option (DataW H × List MemPlace)} {w : World} {b n : Nat} {D0 : DataW H} (hown : w.ownsMap P k R b n D0) (K : Keyed P k) (hk : P.underlying k = some (.int .i64)) : (intKeys D0).Nodup ∧ ∀ x, x ∈ intKeys D0 ↔ has D0 (.int .i64 x) = true := by
  obtain ⟨es, hD, hpw, _⟩ := hown.entries K
  obtain ⟨es', hD', hko⟩ := hown.keysOf
  obtain rfl : es = es' := by rw [hD] at hD'; simpa using hD'
  subst hD
  have hk' : ∀ p ∈ es, ∃ x, p.1 = .int .i64 x := fun p hp => by obtain ⟨v, hv⟩ := hko p hp; obtain ⟨x, _, hx, _⟩ := Maps.keyOf_i64 hk hv; exact ⟨x, hx⟩
  constructor
  · show (es.map fun p => Go.intOf p.1).Nodup
    refine List.pairwise_map.2 (hpw.imp_of_mem fun {p q} hp' hq' hne e => hne ?_)
    obtain ⟨a, ha⟩ := hk' p hp'
    obtain ⟨b, hb⟩ := hk' q hq'
    rw [ha, hb] at e ⊢
    exact congrArg _ e
  · intro x
    rw [has_eq, List.any_eq_true]
    show x ∈ es.map (fun p => Go.intOf p.1) ↔ _
    rw [List.mem_map]
    constructor
    · rintro ⟨p, hp', rfl⟩
      obtain ⟨a, ha⟩ := hk' p hp'
      exact ⟨p, hp', by rw [ha]; simp [Lit.sameKey, Go.intOf]⟩
    · rintro ⟨p, hp', hs⟩
      obtain ⟨a, ha⟩ := hk' p hp'
      rw [ha] at hs
      exact ⟨p, hp', by rw [ha]; simpa [Lit.sameKey, Go.intOf] using hs⟩
theorem sortI_le (zs : List Int) : (zs.mergeSort fun x y => decide (x ≤ y)).Pairwise (fun x y => x ≤ y) := by
  have tr : ∀ a b c : Int, (fun x y : Int => decide (x ≤ y)) a b = true → (fun x y : Int => decide (x ≤ y)) b c = true → (fun x y : Int => decide (x ≤ y)) a c = true := fun a b c h1 h2 => by simp only [decide_eq_true_eq] at *; omega
  have tq : ∀ a b : Int, ((fun x y : Int => decide (x ≤ y)) a b || (fun x y : Int => decide (x ≤ y)) b a) = true := fun a b => by simp only [Bool.or_eq_true, decide_eq_true_eq]; omega
  exact (List.pairwise_mergeSort tr tq zs).imp fun h => by simpa using h
theorem sortI_ris (zs : List Int) (hn : zs.Nodup) : Ris (zs.mergeSort fun x y => decide (x ≤ y)) := by
  have h2 : (zs.mergeSort fun x y => decide (x ≤ y)).Nodup := (List.mergeSort_perm zs _).nodup_iff.2 hn
  exact ((sortI_le zs).and h2).imp fun {a b} h => by have := h.1; have := h.2; omega