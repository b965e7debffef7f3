/- Contracts of a table's Waits and Open; slices.Sort and slices.Compact of a row of numbers. Conditions as each names them. -/
import Derived.Test.YtakbodlicfmkjaaGreatTc11
import Derived.Shelf.SlIterI.Nil
import Derived.Shelf.SortM.Plain
import Derived.Shelf.SortM.SortNone
import Derived.Shelf.Slices.CompactI
import Derived.Shelf.Lay
import Derived.Ground.GgzProg
import Derived.Ground.SlgmProg
import Derived.Ground.Names2Prog
import Derived.Sort.OwnSortedInts
namespace Go.Proofs
open Go.RowKit Go.Maps Go.Sort Go.Shelf
shelf_lay_g SlLaysZI.n7 Ggz 7 at Tryz 79 as Tryz.keysA
shelf_lay_g SlLaysZI.n6 Ggz 6 at Tryz 78 as Tryz.sortedA
shelf_lay_g SlLaysM.n5 Slgm 5 at Tryz 108 as Tryz.sortA
shelf_lay Lays2.n20 Nm2 20 at Tryz as Tryz.compactA
theorem Tryz.sortsA (m : Nat) : AnyZI.SortsIn Tryz.prog Tryz.sortedA_ren Fence.wide m :=
  ⟨fun blk off cap ss W hH hblk hsz => callsIn_wide.2 (AnyM.slices_Sort_int Tryz.sortA blk off cap ss W hH hblk hsz),
   fun p cap W => callsIn_wide.2 (AnyM.slices_Sort_int_none Tryz.sortA p cap W)⟩
end Go.Proofs
namespace Go.Proofs.YtakbodlicfmkjaaGreat
open Go.ChangeShapes Go.WideShapes Go.ChangeAt Go.RowKit Go.Lib Go.Maps Go.Sort Go.Shelf
set_option linter.unusedVariables false
set_option linter.unusedSimpArgs false

/-- Numbers that are not too great, and not too many. -/
structure Good (D : Dt) : Prop where
  op : ∀ m, D.op m → 1 ≤ m ∧ m ≤ 65536
  ah : ∀ m, D.op m → (D.ah m).length ≤ 65536 ∧ ∀ x ∈ D.ah m, 1 ≤ x ∧ x ≤ 65536
  bh : ∀ m, D.op m → (D.bh m).length ≤ 65536 ∧ ∀ x ∈ D.bh m, 1 ≤ x ∧ x ≤ 65536
  last : ∀ k, i64 (D.last k)
theorem Inv.good {D : Dt} {L : Lg} {en : Int → Prop} (h : Inv D L en) (hn : D.newest ≤ 65536) : Good D := by
  have h1 : ∀ m, D.op m → 1 ≤ m ∧ m ≤ 65536 := fun m hm => by
    obtain ⟨⟨p, hp, e⟩, _⟩ := (h.op m).1 hm
    have := h.ris.pos p hp
    have := h.new.1 p hp
    omega
  refine ⟨h1, fun m hm => ?_, fun m hm => ?_, fun k => ?_⟩
  · have hx : ∀ x ∈ D.ah m, 1 ≤ x ∧ x ≤ 65536 := fun x hx => by
      have := ((h.ah m hm).2.1 x hx).lt h.ris
      have := h1 m hm
      omega
    exact ⟨(h.ah m hm).1.few (a := 1) (n := 65536) (fun x hx' => by have := hx x hx'; omega), hx⟩
  · have hx : ∀ x ∈ D.bh m, 1 ≤ x ∧ x ≤ 65536 := fun x hx => h1 x (((h.bh m hm).2 x).1 hx).1
    exact ⟨(h.bh m hm).1.few (a := 1) (n := 65536) (fun x hx' => by have := hx x hx'; omega), hx⟩
  · rw [h.last]
    by_cases h0 : lst L k = 0
    · rw [h0]; exact ⟨by omega, by omega⟩
    · obtain ⟨ks, h2, _⟩ := lst_some L k h.ris h0
      have := h.ris.pos _ h2
      have := h.new.1 _ h2
      simp only at *
      exact ⟨by omega, by omega⟩
theorem i64.of {x : Int} (h : 1 ≤ x ∧ x ≤ 65536) : i64 x := ⟨by omega, by omega⟩
theorem twaits_any {tb : Nat} {B : List Nat} {n : Nat} {D : Dt} (m : Int) (w : World) (h : Tb w tb B n D) (G : Good D) (hm : D.op m) :
    Calls Tryz.prog 345 #[.pointer (some ⟨tb, 0, none⟩), .int .i64 m] w fun e w' => ∃ so N c ys, e = .returned (.tuple #[.slice so N c, .int .i64 0]) ∧ IOw w.heap.size w' so N c ys ∧ AwT D m ys ∧ Fr [] w w' := by
  have HT : Hid (Calls _ _ _ _ _) := tthere_any w h
  have HK : Hid (∀ W, Fr [] w W → Tb W tb B n D) := fun W hf => h.quiet hf
  have HM : Hid (D.op m) := hm
  have hmi : i64 m := .of (G.op m hm)
  have HG : Hid (Good D) := G
  clear h hm G
  go_enter Tryz.func345, Tryz.ntmps345
  go_wp2_with fail
  refine Calls.mono HT.out ?_
  rintro e w1 ⟨rfl, hF1⟩
  go_wp2_with fail
  refine (tisopen_any m true _ (HK.out _ hF1) hmi ⟨fun _ => HM.out, fun _ => rfl⟩).mono ?_
  rintro e w2 ⟨rfl, hF2⟩
  have hG2 := hF1.then hF2
  go_wp2_with fail
  refine (tawaited_any m _ (HK.out _ hG2) HM.out hmi (fun x hx => .of ((HG.out.ah m HM.out).2 x hx)) (by have := (HG.out.ah m HM.out).1; omega)).mono ?_
  rintro e w3 ⟨so, N, c, ys, rfl, hO, hA, hF3⟩
  have HR : Hid (_ ∧ _ ∧ _) := ⟨hO.low hG2.size, hA, hG2.then hF3⟩
  clear hO hA
  go_wp2
  refine bodyPost_ret (results_tmp2 rfl _ _ _) rfl ?_
  exact ⟨so, N, c, ys, rfl, HR.out⟩
theorem twaits_no {tb : Nat} {B : List Nat} {n : Nat} {D : Dt} (m : Int) (w : World) (h : Tb w tb B n D) (hmi : i64 m) (hm : ¬ D.op m) :
    Calls Tryz.prog 345 #[.pointer (some ⟨tb, 0, none⟩), .int .i64 m] w fun e w' => e = .returned (.tuple #[.slice none 0 0, .int .i64 1]) ∧ Fr [] w w' := by
  have HT : Hid (Calls _ _ _ _ _) := tthere_any w h
  have HK : Hid (∀ W, Fr [] w W → Tb W tb B n D) := fun W hf => h.quiet hf
  have HM : Hid (¬ D.op m) := hm
  clear h hm
  go_enter Tryz.func345, Tryz.ntmps345
  go_wp2_with fail
  refine Calls.mono HT.out ?_
  rintro e w1 ⟨rfl, hF1⟩
  go_wp2_with fail
  refine (tisopen_any m false _ (HK.out _ hF1) hmi ⟨fun h => (by cases h), fun h => absurd h HM.out⟩).mono ?_
  rintro e w2 ⟨rfl, hF2⟩
  have hG2 := hF1.then hF2
  go_wp2
  refine bodyPost_ret (results_tmp2 rfl _ _ _) rfl ?_
  exact ⟨rfl, hG2⟩
theorem intKeys_is {H : Type} {P : Program} {k : TypeId} {R : Value → Option (DataW H × List MemPlace)} {w : World} {b n : Nat} {D0 : DataW H} (hown : w.ownsMap P k R b n D0) (K : Keyed P k) (hk : P.underlying k = some (.int .i64)) : (intKeys D0).Nodup ∧ ∀ x, x ∈ intKeys D0 ↔ has D0 (.int .i64 x) = true := by
  obtain ⟨es, hD, hpw, _⟩ := hown.entries K
  obtain ⟨es', hD', hko⟩ := hown.keysOf
  obtain rfl : es = es' := by rw [hD] at hD'; simpa using hD'
  subst hD
  have hk' : ∀ p ∈ es, ∃ x, p.1 = .int .i64 x := fun p hp => by obtain ⟨v, hv⟩ := hko p hp; obtain ⟨x, _, hx, _⟩ := Maps.keyOf_i64 hk hv; exact ⟨x, hx⟩
  constructor
  · show (es.map fun p => Go.intOf p.1).Nodup
    refine List.pairwise_map.2 (hpw.imp_of_mem fun {p q} hp' hq' hne e => hne ?_)
    obtain ⟨a, ha⟩ := hk' p hp'
    obtain ⟨b, hb⟩ := hk' q hq'
    rw [ha, hb] at e ⊢
    exact congrArg _ e
  · intro x
    rw [has_eq, List.any_eq_true]
    show x ∈ es.map (fun p => Go.intOf p.1) ↔ _
    rw [List.mem_map]
    constructor
    · rintro ⟨p, hp', rfl⟩
      obtain ⟨a, ha⟩ := hk' p hp'
      exact ⟨p, hp', by rw [ha]; simp [Lit.sameKey, Go.intOf]⟩
    · rintro ⟨p, hp', hs⟩
      obtain ⟨a, ha⟩ := hk' p hp'
      rw [ha] at hs
      exact ⟨p, hp', by rw [ha]; simpa [Lit.sameKey, Go.intOf] using hs⟩
theorem sortI_le (zs : List Int) : (zs.mergeSort fun x y => decide (x ≤ y)).Pairwise (fun x y => x ≤ y) := by
  have tr : ∀ a b c : Int, (fun x y : Int => decide (x ≤ y)) a b = true → (fun x y : Int => decide (x ≤ y)) b c = true → (fun x y : Int => decide (x ≤ y)) a c = true := fun a b c h1 h2 => by simp only [decide_eq_true_eq] at *; omega
  have tq : ∀ a b : Int, ((fun x y : Int => decide (x ≤ y)) a b || (fun x y : Int => decide (x ≤ y)) b a) = true := fun a b => by simp only [Bool.or_eq_true, decide_eq_true_eq]; omega
  exact (List.pairwise_mergeSort tr tq zs).imp fun h => by simpa using h
theorem sortI_ris (zs : List Int) (hn : zs.Nodup) : Ris (zs.mergeSort fun x y => decide (x ≤ y)) := by
  have h2 : (zs.mergeSort fun x y => decide (x ≤ y)).Nodup := (List.mergeSort_perm zs _).nodup_iff.2 hn
  exact ((sortI_le zs).and h2).imp fun {a b} h => by have := h.1; have := h.2; omega
set_option maxHeartbeats 1000000 in
theorem topen_any {tb : Nat} {B : List Nat} {n : Nat} {D : Dt} (w : World) (h : Tb w tb B n D) (G : Good D) (hn : n < 1099511627776) :
    Calls Tryz.prog 44 #[.pointer (some ⟨tb, 0, none⟩)] w fun e w' => ∃ so N c ys, e = .returned (.slice so N c) ∧ IOw w.heap.size w' so N c ys ∧ Ris ys ∧ (∀ x, x ∈ ys ↔ D.op x) ∧ Fr [] w w' := by
  have HT : Hid (Calls _ _ _ _ _) := tthere_any w h
  obtain ⟨lb, ob, wb, E, h⟩ := h
  have HK : Hid (∀ W, Fr [] w W → TbI W tb lb ob wb B n D E) := fun W hf => h.keep hf (by simp)
  have HG : Hid (Good D) := G
  clear h G
  go_enter Tryz.func44, Tryz.ntmps44
  go_wp2_with fail
  refine Calls.mono HT.out ?_
  rintro e w1 ⟨rfl, hF1⟩
  have hk1 := HK.out _ hF1
  have c2 := hk1.c2
  obtain ⟨D0, hown, hA⟩ := hk1.mapO
  have hbl := hown.lt
  have hmx : 1099511627776 ≤ maxLen := by unfold maxLen; omega
  have hsz := hown.size_le
  have hseq : SeqGives Fence.wide 2 Tryz.prog 109 #[.pointer (some ⟨w1.heap.size, 0, none⟩)] encZ (fun ss => ss.Perm (intKeys D0)) (Maps.size D0) (w1.alloc (.cells #[.map (some ob)] 175)) :=
    AnyZI.keys_gives (ρ := Tryz.keysA_ren) { Tryz.keysA with } Fence.wide _ trivial rfl (by omega) w1.heap.size ob n D0 _ (by simp) (by simp) (by
      obtain ⟨es, clock, hb, Ft, hs, hD⟩ := hown
      exact ⟨es, clock, (Below.heap_alloc _ _ ob hbl).trans hb, Ft, hs, hD⟩)
  have cK : Calls Tryz.prog 79 #[.map (some ob)] w1 fun e w' => e = .returned (.func (.func 109) #[] #[.pointer (some ⟨w1.heap.size, 0, none⟩)]) ∧ w' = w1.alloc (.cells #[.map (some ob)] 175) := (callsIn_wide (n := 5)).1 (AnyZI.keys_in Tryz.keysA Fence.wide 5 trivial rfl _ _)
  have cS := AnyZI.sorted_in Tryz.sortedA Fence.wide 5 trivial trivial trivial trivial rfl (by omega) (Tryz.sortsA _) (enters_of Tryz.func108 (by kernel_rfl) rfl) 109 #[.pointer (some ⟨w1.heap.size, 0, none⟩)] trivial (enters_of Tryz.func109 (by kernel_rfl) rfl) _ _ (by omega) (by omega) _ hseq
  have cS2 := (callsIn_wide (n := 5)).1 cS
  change Calls Tryz.prog 78 _ _ _ at cS2
  obtain ⟨hnd, hmem⟩ := intKeys_is hown kOpen.keyed Tryz.undI11
  have hin : ∀ x, has D0 (.int .i64 x) = true ↔ D.op x := fun x => by
    by_cases hx : i64 x
    · have h1 := (hA x hx).1
      rw [show kOpen.kl x = .int .i64 x from rfl] at h1
      rw [h1, Option.isSome_map, hk1.opn x]
    · constructor
      · intro h1
        have h2 := intKeys_wf hown Tryz.undI11 x ((hmem x).2 h1)
        exfalso
        apply hx
        simp only [Lit.wf, Bool.and_eq_true, decide_eq_true_eq] at h2
        exact ⟨h2.1, h2.2⟩
      · intro h1
        exact absurd (i64.of (HG.out.op x h1)) hx
  have HM : Hid ((intKeys D0).Nodup ∧ ∀ x, x ∈ intKeys D0 ↔ D.op x) := ⟨hnd, fun x => (hmem x).trans (hin x)⟩
  have HC : Hid (Calls _ _ _ _ _) := cS2
  have HC1 : Hid (Calls _ _ _ _ _) := cK
  clear cS cS2 cK hseq hown hA hnd hmem hin hk1 hsz hmx HT
  go_wp2_with fail
  refine Calls.mono HC1.out ?_
  rintro e w2 ⟨rfl, rfl⟩
  go_wp2_with fail
  refine Calls.mono HC.out ?_
  rintro e w3 ⟨v, ss, rfl, hS, hrow, hnil, hb⟩
  have HR : Hid (_ ∧ _ ∧ _) := ⟨hS, hrow, hb⟩
  obtain ⟨so, c, rfl⟩ : ∃ so c, v = .slice so ss.length c := by
    rcases hrow.2 with ⟨hh, h0⟩ | ⟨g, cap, cur, hh, _⟩
    · exact ⟨none, 0, by rw [h0]; exact hh⟩
    · exact ⟨_, cap, hh⟩
  clear hS hrow hnil hb
  go_wp2
  go_ret
  obtain ⟨hS, hrow, hb⟩ := HR.out
  have hp := (List.mergeSort_perm ss fun x y => decide (x ≤ y)).trans hS
  refine ⟨so, ss.length, c, ss.mergeSort fun x y => decide (x ≤ y), rfl, ⟨by rw [List.length_mergeSort], ?_⟩, sortI_ris ss (hS.nodup_iff.2 HM.out.1), fun x => ?_, ?_⟩
  · have := ownsRow_base_a hrow (show w.heap.size ≤ _ from Nat.le_trans hF1.size (by simp))
    exact this
  · rw [hp.mem_iff, HM.out.2]
  · exact hF1.then ((Fr.alloc [] _ _).then ⟨hb.os, hb.tape, hb.output, hb.size, fun k hk _ => hb.block k hk⟩)
end Go.Proofs.YtakbodlicfmkjaaGreat
