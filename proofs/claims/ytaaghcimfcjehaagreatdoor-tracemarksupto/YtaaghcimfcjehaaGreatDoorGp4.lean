/- Texts of this claim laid together, one behind the other: contracts and plain lemmas; conditions as each names them. -/
import Derived.Test.YtaaghcimfcjehaaGreatDoorGp3
import Derived.WalkSpells
import Derived.Shelf.SlIterI.Nil
import Derived.Shelf.SortM.Plain
import Derived.Shelf.SortM.SortNone
import Derived.Shelf.Slices.CompactI
import Derived.Shelf.Lay
import Derived.Ground.GgzProg
import Derived.Ground.SlgmProg
import Derived.Ground.Names2Prog
import Derived.Sort.OwnSortedInts
import Derived.Test.YtaaghcimfcjehaaGreatDoorGp1
import Derived.ShutString
import Derived.ChangeOld
import Derived.Below
import Derived.Deep.Slices
import Derived.SizedLaws
import Derived.Deep.RegionWith
import Derived.Deep.LoopGhost
/- Contracts of a table's New, there, isOpen, awaited, Waits, Last. Conditions as each names them. -/
namespace Go.Proofs.YtaaghcimfcjehaaGreatDoor
open Go.ChangeShapes Go.WideShapes Go.ChangeAt Go.RowKit Go.Lib Go.Maps
set_option linter.unusedVariables false
set_option linter.unusedSimpArgs false

theorem TbI.made (w : World) : TbI ((((w.alloc (.map #[] 0)).alloc (.map #[] 0)).alloc (.map #[] 0)).alloc (.cells #[.map (some w.heap.size), .int .i64 0, .map (some (w.heap.size + 1)), .map (some (w.heap.size + 2))] 199)) (w.heap.size + 3) w.heap.size (w.heap.size + 1) (w.heap.size + 2) [w.heap.size, w.heap.size + 1, w.heap.size + 2, w.heap.size + 3] 0 Dt.none (fun _ => none) := by
  obtain ⟨w1, h1⟩ : ∃ w1, w1 = w.alloc (.map #[] 0) := ⟨_, rfl⟩
  obtain ⟨w2, h2⟩ : ∃ w2, w2 = w1.alloc (.map #[] 0) := ⟨_, rfl⟩
  obtain ⟨w3, h3⟩ : ∃ w3, w3 = w2.alloc (.map #[] 0) := ⟨_, rfl⟩
  rw [← h1, ← h2, ← h3]
  have s1 : w1.heap.size = w.heap.size + 1 := by rw [h1]; simp
  have s2 : w2.heap.size = w.heap.size + 2 := by rw [h2]; simp; omega
  have s3 : w3.heap.size = w.heap.size + 3 := by rw [h3]; simp; omega
  have m1 : MapG kLast w1 w.heap.size 0 (fun _ => none) := by rw [h1]; exact MapG.made w
  have m2 : MapG kOpen w2 (w.heap.size + 1) 0 (fun _ => none) := by rw [h2, ← s1]; exact MapG.made w1
  have m3 : MapG kWaits w3 (w.heap.size + 2) 0 (fun _ => none) := by rw [h3, ← s2]; exact MapG.made w2
  have f2 : Fr [] w1 w2 := by rw [h2]; exact Fr.alloc _ _ _
  have f3 : Fr [] w2 w3 := by rw [h3]; exact Fr.alloc _ _ _
  have f4 : Fr [] w3 (w3.alloc (.cells #[.map (some w.heap.size), .int .i64 0, .map (some (w.heap.size + 1)), .map (some (w.heap.size + 2))] 199)) := Fr.alloc _ _ _
  refine ⟨?_, by simp, by simp, by simp, by simp, by omega, by omega, by omega, ?_, ⟨_, ((m1.keep f2 (by simp)).keep f3 (by simp)).keep f4 (by simp), fun _ => rfl⟩, (m2.keep f3 (by simp)).keep f4 (by simp), ⟨_, m3.keep f4 (by simp), fun a m => ?_⟩, fun m => ?_, ⟨Int.le_refl _, by decide⟩, fun m e h => (by cases h), fun m e m' e' h => (by cases h), fun m e m' e' k h => (by cases h), fun m e m' e' k h => (by cases h)⟩
  · rw [← s3]; exact heap_alloc_new w3 _
  · intro j hj
    simp at hj
    have : (w3.alloc (.cells #[.map (some w.heap.size), .int .i64 0, .map (some (w.heap.size + 1)), .map (some (w.heap.size + 2))] 199)).heap.size = w.heap.size + 4 := by simp [s3]
    rw [this]
    omega
  · simp [Dt.none]
  · simp [Dt.none]
theorem tnew_any (w : World) : Calls Tryz.prog 76 #[] w fun e w' => ∃ tb B, e = .returned (.pointer (some ⟨tb, 0, none⟩)) ∧ Tb w' tb B 0 Dt.none ∧ (∀ j ∈ B, w.heap.size ≤ j) ∧ Fr [] w w' := by
  have hmm := @run_makeMap Tryz.prog
  have HS : Hid _ := TbI.made w
  have HF : Hid (Fr [] w ((((w.alloc (.map #[] 0)).alloc (.map #[] 0)).alloc (.map #[] 0)).alloc (.cells #[.map (some w.heap.size), .int .i64 0, .map (some (w.heap.size + 1)), .map (some (w.heap.size + 2))] 199))) := ((Fr.alloc [] _ _).then (Fr.alloc [] _ _)).then ((Fr.alloc [] _ _).then (Fr.alloc [] _ _))
  go_enter Tryz.func76, Tryz.ntmps76
  go_wp2
  go_ret
  refine ⟨w.heap.size + 3, _, rfl, ⟨_, _, _, _, HS.out⟩, ?_, HF.out⟩
  intro j hj
  simp at hj
  omega
theorem tthere_any {tb : Nat} {B : List Nat} {n : Nat} {D : Dt} (w : World) (h : Tb w tb B n D) : Calls Tryz.prog 183 #[.pointer (some ⟨tb, 0, none⟩)] w fun e w' => e = .returned (.bool true) ∧ Fr [] w w' := by
  have qT : ∀ (w : World) (r : Option Nat), (binOp .neq 195 (.map r) (.map none)).run Tryz.prog w = .ok (.bool (!r.isNone)) w := fun w r => run_neq_map_nil w _ _ _ r Tryz.undLMap
  obtain ⟨lb, ob, wb, E, h⟩ := h
  have c0 := h.c0
  go_enter Tryz.func183, Tryz.ntmps183
  go_wp2
  go_ret
  exact ⟨rfl, Fr.refl _ _⟩
open Classical in
theorem tisopen_any {tb : Nat} {B : List Nat} {n : Nat} {D : Dt} (m : Int) (b : Bool) (w : World) (h : Tb w tb B n D) (hm : i64 m) (hb : b = true ↔ D.op m) : Calls Tryz.prog 186 #[.pointer (some ⟨tb, 0, none⟩), .int .i64 m] w fun e w' => e = .returned (.bool b) ∧ Fr [] w w' := by
  obtain ⟨lb, ob, wb, E, h⟩ := h
  have c2 := h.c2
  obtain ⟨v, hl⟩ := h.lookO m hm
  have e : decide (D.op m) = b := by
    cases b with
    | true => simpa using hb.1 rfl
    | false =>
      have : ¬ D.op m := fun ho => by have := hb.2 ho; cases this
      simpa using this
  rw [e] at hl
  clear h hb e
  go_enter Tryz.func186, Tryz.ntmps186
  go_wp2
  go_ret
  exact ⟨rfl, Fr.refl _ _⟩
/-- Those that one waits for: what awaited tells. -/
structure AwT (D : Dt) (m : Int) (ys : List Int) : Prop where
  sub : ∃ p : Int → Bool, ys = (D.ah m).filter p ∧ ∀ x, p x = true ↔ D.wt m x
theorem AwT.of {D : Dt} {L : Lg} {en : Int → Prop} (h : Inv D L en) {m : Int} (hm : D.op m) {ys : List Int} (ha : AwT D m ys) : WtT L D.op m ys := by
  obtain ⟨p, rfl, hp⟩ := ha.sub
  obtain ⟨h1, h2⟩ := h.await hm
  refine ⟨(h.ah m hm).1.filter _, fun x => ?_⟩
  rw [← h2 x, List.mem_filter, List.mem_filter, hp]
  simp
theorem ifilter_snoc (xs : List Int) (p : Int → Bool) (i : Nat) (hi : i < xs.length) : (xs.take (i + 1)).filter p = if p (xs.getD i 0) = true then (xs.take i).filter p ++ [xs.getD i 0] else (xs.take i).filter p := by
  rw [List.take_add_one, List.filter_append]
  have e : xs[i]?.toList = [xs.getD i 0] := by simp [List.getD, hi]
  rw [e]
  generalize xs.getD i 0 = y
  by_cases hp : p y = true
  · simp [hp]
  · simp [hp]
theorem igetD_mem (xs : List Int) (i : Nat) (h : i < xs.length) : xs.getD i 0 ∈ xs := by simp [List.getD, h]
set_option maxHeartbeats 4000000 in
set_option maxRecDepth 100000 in
theorem tawaited_any {tb : Nat} {B : List Nat} {n : Nat} {D : Dt} (m : Int) (w : World) (h : Tb w tb B n D) (hm : D.op m) (hmi : i64 m) (hx : ∀ x ∈ D.ah m, i64 x) (hfew : (D.ah m).length < 1099511627776) :
    Calls Tryz.prog 176 #[.pointer (some ⟨tb, 0, none⟩), .int .i64 m] w fun e w' => ∃ so N c ys, e = .returned (.slice so N c) ∧ IOw w.heap.size w' so N c ys ∧ AwT D m ys ∧ Fr [] w w' := by
  classical
  obtain ⟨lb, ob, wb, E, h⟩ := h
  obtain ⟨p, hp⟩ : ∃ p : Int → Bool, ∀ x, p x = decide (D.wt m x) := ⟨fun x => decide (D.wt m x), fun _ => rfl⟩
  have c2 := h.c2
  obtain ⟨e0, he0⟩ : ∃ e0, E m = some e0 := Option.isSome_iff_exists.1 ((h.opn m).2 hm)
  have hl := h.lookE m hmi e0 he0
  obtain ⟨h1, h2, h3, h4, h5, h6⟩ := h.ent m e0 he0
  obtain ⟨eg, ⟨ao, A, ac⟩, eb⟩ := e0
  simp only at *
  have ca : w.cell? ⟨eg, 0, none⟩ = some (.slice ao A ac) := by rw [cell_of_row _ _ _ _ _ _ h1]; rfl
  have HK : Hid (∀ W, Fr [] w W → W.cell? ⟨tb, 3, none⟩ = some (.map (some wb)) ∧ (∀ x, i64 x → (Instr.lookup 197 (.map (some wb)) (.agg #[.int .i64 m, .int .i64 x]) true).run Tryz.prog W = .ok (.tuple #[.agg #[], .bool (p x)]) W)) := fun W hf => by
    have hk := h.keep hf (by simp)
    refine ⟨hk.c3, fun x hx => ?_⟩
    rw [hp x]
    exact hk.lookW m x hmi hx
  have HP : Hid (∀ x, p x = true ↔ D.wt m x) := fun x => by rw [hp]; simp
  obtain ⟨xs, hxs⟩ : ∃ xs, xs = D.ah m := ⟨_, rfl⟩
  have HX : Hid (xs = D.ah m) := hxs
  rw [← hxs] at hx hfew h3
  have HA : Hid (A = xs.length) := h3.len
  have HXi : Hid (∀ x ∈ xs, i64 x) := hx
  have hAf : A < 1099511627776 := by rw [HA.out]; exact hfew
  have HR : Hid (0 < A → ∃ g, ao = some ⟨g, 0, none⟩ ∧ ∀ W, Fr [] w W → ∀ i, i < A → W.cell? ⟨g, i, none⟩ = some (.int .i64 (xs.getD i 0))) := fun h0 => by
    obtain ⟨g, hg, _, hlt, hc⟩ := h3.cells h0
    exact ⟨g, hg, fun W hf i hi => (World.cell?_of_block (hf.block g hlt (by simp))).trans (hc i hi)⟩
  clear h hp hxs hx hfew h1 h2 h3 h4 h5 h6 he0 hm hmi
  go_enter Tryz.func176, Tryz.ntmps176
  go_wp2_with fail
  go_loopw [5, 20] (fun ll ii wr => ∃ (i : Nat) (so : Option Addr) (N c : Nat), ii = .int .i64 i ∧ i ≤ A ∧ ll = .slice so N c ∧ Hid (IOw w.heap.size wr so N c ((xs.take i).filter p)) ∧ N ≤ i ∧ Fr [] w wr) (fun _ ii _ => A - (RowKit.intOf ii).toNat)
  case atStart => exact ⟨0, none, 0, 0, rfl, Nat.zero_le _, rfl, IOw.nil _ _, Nat.le_refl _, Fr.refl _ _⟩
  case round =>
    obtain ⟨i, so, N, c, rfl, hiA, rfl, HO, hNi, hF⟩ := hrel
    by_cases hi : i < A
    · obtain ⟨g, rfl, hcells⟩ := HR.out (by omega)
      have hc := hcells wr hF i hi
      obtain ⟨x, hxe⟩ : ∃ x, x = xs.getD i 0 := ⟨_, rfl⟩
      rw [← hxe] at hc
      have hxi : i64 x := by rw [hxe]; exact HXi.out _ (igetD_mem xs i (by rw [← HA.out]; exact hi))
      obtain ⟨hc3, hlw⟩ := HK.out wr hF
      have hlv := hlw x hxi
      have HS := ifilter_snoc xs p i (by rw [← HA.out]; exact hi)
      rw [← hxe] at HS
      have HS : Hid ((xs.take (i + 1)).filter p = _) := HS
      have HXE : Hid (x = xs.getD i 0) := hxe
      clear hxe hlw hcells
      obtain ⟨q, hq⟩ : ∃ q, p x = q := ⟨_, rfl⟩
      rw [hq] at hlv
      have HQ : Hid (p x = q) := hq
      clear hq
      cases q with
      | true =>
        rw [HQ.out, if_pos rfl] at HS
        have HO2 : Hid (∀ W, Fr [] wr W → IOw w.heap.size W so N c ((xs.take i).filter p)) := fun W hf => HO.out.keep hf
        have HB : Hid (∀ W W', Fr [] wr W → Fr (Value.slice so N c).ownBlock.toList W W' → Fr [] w W') := fun W W' h1 h2 => HO.out.on (Nat.le_refl _) hF h1 h2
        clear HO
        go_wp2_with (first
          | (at_builtin; refine wpList_appI w.heap.size _ rfl _ _ rfl so N c _ rfl (HO2.out _ ((Fr.alloc [] _ _).then (Fr.alloc [] _ _))) _ _ x rfl ?hcell (by omega) ?hsize ?_
             case hcell => exact cell_new2 _ _ _ _
             case hsize => have := hF.size; simp; omega
             intro o' c' w3 hO3 hF3 _
             have HR3 : Hid (_ ∧ _) := ⟨hO3, HB.out _ _ ((Fr.alloc [] _ _).then (Fr.alloc [] _ _)) hF3⟩
             clear hO3 hF3
             go_frame)
          | fail)
        go_roundw
        case rel => exact ⟨i + 1, o', N + 1, c', rfl, by omega, rfl, (by rw [HS.out]; exact HR3.out.1), by omega, HR3.out.2⟩
        case measure => simp [RowKit.intOf]; omega
      | false =>
        rw [HQ.out, if_neg (by simp)] at HS
        have HN : Hid (IOw w.heap.size wr so N c ((xs.take (i + 1)).filter p)) := by rw [HS.out]; exact HO.out
        clear HO HS
        go_wp2_with fail
        go_roundw
        case rel => exact ⟨i + 1, so, N, c, rfl, by omega, rfl, HN.out.keep (Fr.alloc [] _ _), by omega, hF.then (Fr.alloc [] _ _)⟩
        case measure => simp [RowKit.intOf]; omega
    · obtain rfl : i = A := by omega
      go_wp2
      go_ret
      refine ⟨so, N, c, _, rfl, HO.out, ⟨p, ?_, HP.out⟩, hF⟩
      rw [List.take_of_length_le (by rw [← HA.out]; exact Nat.le_refl _), HX.out]
end Go.Proofs.YtaaghcimfcjehaaGreatDoor
/- Contracts of a table's Waits and Open; slices.Sort and slices.Compact of a row of numbers. Conditions as each names them. -/
namespace Go.Proofs
open Go.RowKit Go.Maps Go.Sort Go.Shelf
shelf_lay_g SlLaysM.n5 Slgm 5 at Tryz 200 as Tryz.sortA
shelf_lay Lays2.n20 Nm2 20 at Tryz as Tryz.compactA
end Go.Proofs
namespace Go.Proofs.YtaaghcimfcjehaaGreatDoor
open Go.ChangeShapes Go.WideShapes Go.ChangeAt Go.RowKit Go.Lib Go.Maps Go.Sort Go.Shelf
set_option linter.unusedVariables false
set_option linter.unusedSimpArgs false

/-- Numbers that are not too great, and not too many. -/
structure Good (D : Dt) : Prop where
  op : ∀ m, D.op m → 1 ≤ m ∧ m ≤ 65536
  ah : ∀ m, D.op m → (D.ah m).length ≤ 65536 ∧ ∀ x ∈ D.ah m, 1 ≤ x ∧ x ≤ 65536
  bh : ∀ m, D.op m → (D.bh m).length ≤ 65536 ∧ ∀ x ∈ D.bh m, 1 ≤ x ∧ x ≤ 65536
  last : ∀ k, i64 (D.last k)
theorem Inv.good {D : Dt} {L : Lg} {en : Int → Prop} (h : Inv D L en) (hn : D.newest ≤ 65536) : Good D := by
  have h1 : ∀ m, D.op m → 1 ≤ m ∧ m ≤ 65536 := fun m hm => by
    obtain ⟨⟨p, hp, e⟩, _⟩ := (h.op m).1 hm
    have := h.ris.pos p hp
    have := h.new.1 p hp
    omega
  refine ⟨h1, fun m hm => ?_, fun m hm => ?_, fun k => ?_⟩
  · have hx : ∀ x ∈ D.ah m, 1 ≤ x ∧ x ≤ 65536 := fun x hx => by
      have := ((h.ah m hm).2.1 x hx).lt h.ris
      have := h1 m hm
      omega
    exact ⟨(h.ah m hm).1.few (a := 1) (n := 65536) (fun x hx' => by have := hx x hx'; omega), hx⟩
  · have hx : ∀ x ∈ D.bh m, 1 ≤ x ∧ x ≤ 65536 := fun x hx => h1 x (((h.bh m hm).2 x).1 hx).1
    exact ⟨(h.bh m hm).1.few (a := 1) (n := 65536) (fun x hx' => by have := hx x hx'; omega), hx⟩
  · rw [h.last]
    by_cases h0 : lst L k = 0
    · rw [h0]; exact ⟨by omega, by omega⟩
    · obtain ⟨ks, h2, _⟩ := lst_some L k h.ris h0
      have := h.ris.pos _ h2
      have := h.new.1 _ h2
      simp only at *
      exact ⟨by omega, by omega⟩
theorem i64.of {x : Int} (h : 1 ≤ x ∧ x ≤ 65536) : i64 x := ⟨by omega, by omega⟩
theorem twaits_any {tb : Nat} {B : List Nat} {n : Nat} {D : Dt} (m : Int) (w : World) (h : Tb w tb B n D) (G : Good D) (hm : D.op m) :
    Calls Tryz.prog 175 #[.pointer (some ⟨tb, 0, none⟩), .int .i64 m] w fun e w' => ∃ so N c ys, e = .returned (.tuple #[.slice so N c, .int .i64 0]) ∧ IOw w.heap.size w' so N c ys ∧ AwT D m ys ∧ Fr [] w w' := by
  have HT : Hid (Calls _ _ _ _ _) := tthere_any w h
  have HK : Hid (∀ W, Fr [] w W → Tb W tb B n D) := fun W hf => h.quiet hf
  have HM : Hid (D.op m) := hm
  have hmi : i64 m := .of (G.op m hm)
  have HG : Hid (Good D) := G
  clear h hm G
  go_enter Tryz.func175, Tryz.ntmps175
  go_wp2_with fail
  refine Calls.mono HT.out ?_
  rintro e w1 ⟨rfl, hF1⟩
  go_wp2_with fail
  refine (tisopen_any m true _ (HK.out _ hF1) hmi ⟨fun _ => HM.out, fun _ => rfl⟩).mono ?_
  rintro e w2 ⟨rfl, hF2⟩
  have hG2 := hF1.then hF2
  go_wp2_with fail
  refine (tawaited_any m _ (HK.out _ hG2) HM.out hmi (fun x hx => .of ((HG.out.ah m HM.out).2 x hx)) (by have := (HG.out.ah m HM.out).1; omega)).mono ?_
  rintro e w3 ⟨so, N, c, ys, rfl, hO, hA, hF3⟩
  have HR : Hid (_ ∧ _ ∧ _) := ⟨hO.low hG2.size, hA, hG2.then hF3⟩
  clear hO hA
  go_wp2
  refine bodyPost_ret (results_tmp2 rfl _ _ _) rfl ?_
  exact ⟨so, N, c, ys, rfl, HR.out⟩
theorem twaits_no {tb : Nat} {B : List Nat} {n : Nat} {D : Dt} (m : Int) (w : World) (h : Tb w tb B n D) (hmi : i64 m) (hm : ¬ D.op m) :
    Calls Tryz.prog 175 #[.pointer (some ⟨tb, 0, none⟩), .int .i64 m] w fun e w' => e = .returned (.tuple #[.slice none 0 0, .int .i64 1]) ∧ Fr [] w w' := by
  have HT : Hid (Calls _ _ _ _ _) := tthere_any w h
  have HK : Hid (∀ W, Fr [] w W → Tb W tb B n D) := fun W hf => h.quiet hf
  have HM : Hid (¬ D.op m) := hm
  clear h hm
  go_enter Tryz.func175, Tryz.ntmps175
  go_wp2_with fail
  refine Calls.mono HT.out ?_
  rintro e w1 ⟨rfl, hF1⟩
  go_wp2_with fail
  refine (tisopen_any m false _ (HK.out _ hF1) hmi ⟨fun h => (by cases h), fun h => absurd h HM.out⟩).mono ?_
  rintro e w2 ⟨rfl, hF2⟩
  have hG2 := hF1.then hF2
  go_wp2
  refine bodyPost_ret (results_tmp2 rfl _ _ _) rfl ?_
  exact ⟨rfl, hG2⟩
theorem intKeys_is {H : Type} {P : Program} {k : TypeId} {R : Value → Option (DataW H × List MemPlace)} {w : World} {b n : Nat} {D0 : DataW H} (hown : w.ownsMap P k R b n D0) (K : Keyed P k) (hk : P.underlying k = some (.int .i64)) : (intKeys D0).Nodup ∧ ∀ x, x ∈ intKeys D0 ↔ has D0 (.int .i64 x) = true := by
  obtain ⟨es, hD, hpw, _⟩ := hown.entries K
  obtain ⟨es', hD', hko⟩ := hown.keysOf
  obtain rfl : es = es' := by rw [hD] at hD'; simpa using hD'
  subst hD
  have hk' : ∀ p ∈ es, ∃ x, p.1 = .int .i64 x := fun p hp => by obtain ⟨v, hv⟩ := hko p hp; obtain ⟨x, _, hx, _⟩ := Maps.keyOf_i64 hk hv; exact ⟨x, hx⟩
  constructor
  · show (es.map fun p => Go.intOf p.1).Nodup
    refine List.pairwise_map.2 (hpw.imp_of_mem fun {p q} hp' hq' hne e => hne ?_)
    obtain ⟨a, ha⟩ := hk' p hp'
    obtain ⟨b, hb⟩ := hk' q hq'
    rw [ha, hb] at e ⊢
    exact congrArg _ e
  · intro x
    rw [has_eq, List.any_eq_true]
    show x ∈ es.map (fun p => Go.intOf p.1) ↔ _
    rw [List.mem_map]
    constructor
    · rintro ⟨p, hp', rfl⟩
      obtain ⟨a, ha⟩ := hk' p hp'
      exact ⟨p, hp', by rw [ha]; simp [Lit.sameKey, Go.intOf]⟩
    · rintro ⟨p, hp', hs⟩
      obtain ⟨a, ha⟩ := hk' p hp'
      rw [ha] at hs
      exact ⟨p, hp', by rw [ha]; simpa [Lit.sameKey, Go.intOf] using hs⟩
theorem sortI_le (zs : List Int) : (zs.mergeSort fun x y => decide (x ≤ y)).Pairwise (fun x y => x ≤ y) := by
  have tr : ∀ a b c : Int, (fun x y : Int => decide (x ≤ y)) a b = true → (fun x y : Int => decide (x ≤ y)) b c = true → (fun x y : Int => decide (x ≤ y)) a c = true := fun a b c h1 h2 => by simp only [decide_eq_true_eq] at *; omega
  have tq : ∀ a b : Int, ((fun x y : Int => decide (x ≤ y)) a b || (fun x y : Int => decide (x ≤ y)) b a) = true := fun a b => by simp only [Bool.or_eq_true, decide_eq_true_eq]; omega
  exact (List.pairwise_mergeSort tr tq zs).imp fun h => by simpa using h
theorem sortI_ris (zs : List Int) (hn : zs.Nodup) : Ris (zs.mergeSort fun x y => decide (x ≤ y)) := by
  have h2 : (zs.mergeSort fun x y => decide (x ≤ y)).Nodup := (List.mergeSort_perm zs _).nodup_iff.2 hn
  exact ((sortI_le zs).and h2).imp fun {a b} h => by have := h.1; have := h.2; omega
end Go.Proofs.YtaaghcimfcjehaaGreatDoor
/- A slice of bytes that came in, and the statements' own test of sizes. Conditions as each lemma names them. -/
namespace Go.Proofs.YtaaghcimfcjehaaGreatDoor
open Go.ChangeShapes Go.WideShapes Go.ChangeAt Go.RowKit Go.Lib
end Go.Proofs.YtaaghcimfcjehaaGreatDoor
/- Transactions as plain things. Plain lemmas. -/
namespace Go.Proofs.YtaaghcimfcjehaaGreatDoor
open Go.ChangeShapes Go.WideShapes Go.ChangeAt Go.RowKit Go.Lib

/-- A write. -/
structure Wt where
  key : ByteArray
  val : ByteArray
  drop : Bool

def noS : ByteArray := ⟨#[]⟩
theorem noS_iff (s : ByteArray) : s.size = 0 ↔ s = noS := by
  constructor
  · intro h
    cases s with
    | mk d =>
      have hd : d.size = 0 := h
      have : d = #[] := Array.eq_empty_of_size_eq_zero hd
      rw [this]
      rfl
  · rintro rfl
    rfl

/-- May a write be? -/
def okW (x : Wt) : Prop := 1 ≤ x.key.size ∧ x.key.size ≤ 64 ∧ x.val.size ≤ 1024 ∧ (x.drop = true → x.val = noS)
/-- May a transaction be? -/
def okT (n : Int) (ws : List Wt) : Prop := 1 ≤ n ∧ n ≤ 65536 ∧ ws.length ≤ 32 ∧ ∀ x ∈ ws, okW x

def refN (n : Nat) : Nat := if n < 1 ∨ 65536 < n then 1 else 0
def refC (n : Nat) : Nat := if 32 < n then 3 else 0
def refK (s : ByteArray) : Nat := if s.size = 0 then 1 else 0
def refD (n : Nat) : Nat := if n = 0 ∨ n = 1 then 0 else 4
def refV (_ : ByteArray) : Nat := 0
theorem drop_left (a b : List Nat) : (a ++ b).drop a.length = b := List.drop_left
theorem take_low (a b : List Nat) (k : Nat) (h : k < a.length) : (a ++ b).take k = a.take k := by
  rw [List.take_append_of_le_length (by omega)]
theorem take_high (a b : List Nat) (k : Nat) (h : a.length ≤ k) : (a ++ b).take k = a ++ b.take (k - a.length) := by
  rw [List.take_append, List.take_of_length_le h]

theorem refK_ok {x : Wt} (h : okW x) : refK x.key = 0 := by
  unfold refK
  rw [if_neg (by have := h.1; omega)]

theorem refN_ok {n : Nat} {ws : List Wt} (h : okT (n : Int) ws) : refN n = 0 := by
  unfold refN
  rw [if_neg (by have := h.1; have := h.2.1; omega)]
theorem refC_ok {n : Int} {ws : List Wt} (h : okT n ws) : refC ws.length = 0 := by
  unfold refC
  rw [if_neg (by have := h.2.2.1; omega)]
/-! ### What is taken is told again -/
theorem lt_drop {xs : List Nat} (hb : ∀ x ∈ xs, x < 256) (k : Nat) : ∀ x ∈ xs.drop k, x < 256 := fun x hx => hb x (List.mem_of_mem_drop hx)
/-! ### Errors are none of OK -/
end Go.Proofs.YtaaghcimfcjehaaGreatDoor
/- Writes in memory: cells, slices of writes that read as a list, structs of a transaction. Conditions as each lemma names them. -/
namespace Go.Proofs.YtaaghcimfcjehaaGreatDoor
open Go.ChangeShapes Go.WideShapes Go.ChangeAt Go.RowKit Go.Lib

def Wt.zero : Wt := ⟨noS, noS, false⟩
/-- A write's cells. -/
def wtC (x : Wt) : List Value := [.string x.key, .string x.val, .bool x.drop]
def wtsC : List Wt → List Value
  | [] => []
  | x :: r => wtC x ++ wtsC r
theorem wtsC_append (a b : List Wt) : wtsC (a ++ b) = wtsC a ++ wtsC b := by
  induction a with
  | nil => rfl
  | cons v r ih => simp [wtsC, ih]
theorem wtsC_length (a : List Wt) : (wtsC a).length = a.length * 3 := by
  induction a with
  | nil => rfl
  | cons v r ih => simp only [wtsC, wtC, List.length_append, List.length_cons, List.length_nil, ih]; omega
theorem wtsC_get (a : List Wt) (j c : Nat) (hj : j < a.length) (hc : c < 3) : (wtsC a)[j * 3 + c]? = (wtC (a.getD j Wt.zero))[c]? := by
  induction a generalizing j with
  | nil => simp at hj
  | cons v r ih =>
    cases j with
    | zero =>
      simp only [wtsC, Nat.zero_mul, Nat.zero_add]
      rw [List.getElem?_append_left (by simp [wtC]; omega)]
      simp
    | succ j =>
      simp only [wtsC]
      rw [List.getElem?_append_right (by simp [wtC]; omega)]
      have e : (j + 1) * 3 + c - (wtC v).length = j * 3 + c := by simp [wtC]; omega
      rw [e, ih j (by simpa using hj)]
      simp
theorem wtsC_oneCell (a : List Wt) : ∀ u ∈ wtsC a, u.oneCell' = true := by
  induction a with
  | nil => intro u hu; simp [wtsC] at hu
  | cons v r ih =>
    intro u hu
    rcases List.mem_append.1 hu with h | h
    · simp only [wtC, List.mem_cons, List.not_mem_nil, or_false] at h
      rcases h with rfl | rfl | rfl <;> rfl
    · exact ih u h

/-- A write lies at o in block b. -/
structure WAt (w : World) (b o : Nat) (x : Wt) : Prop where
  c0 : w.cell? ⟨b, o, none⟩ = some (.string x.key)
  c1 : w.cell? ⟨b, o + 1, none⟩ = some (.string x.val)
  c2 : w.cell? ⟨b, o + 2, none⟩ = some (.bool x.drop)
/-- The slice at ao reads as the writes ws. -/
structure WRs (w : World) (ao : Option Addr) (ws : List Wt) : Prop where
  lies : 0 < ws.length → ∃ b off, ao = some ⟨b, off, none⟩ ∧ b < w.heap.size ∧ ∀ i, i < ws.length → WAt w b (off + i * 3) (ws.getD i Wt.zero)
  few : ws.length ≤ 140737488355328
  each : ∀ x ∈ ws, x.key.size ≤ 140737488355328 ∧ x.val.size ≤ 140737488355328
theorem WRs.nil (w : World) (ao : Option Addr) : WRs w ao [] := ⟨fun h => by simp at h, by simp, by simp⟩
theorem WRs.keepS {S : List Nat} {w w' : World} {ao : Option Addr} {ws : List Wt} (h : WRs w ao ws) (hf : Fr S w w') (hn : 0 < ws.length → ∀ a, ao = some a → a.block ∉ S) : WRs w' ao ws := by
  refine ⟨fun h0 => ?_, h.few, h.each⟩
  obtain ⟨b, off, e, hb, hc⟩ := h.lies h0
  have hk : ∀ o, w'.cell? ⟨b, o, none⟩ = w.cell? ⟨b, o, none⟩ := fun o => World.cell?_of_block (hf.block b hb (hn h0 _ e))
  exact ⟨b, off, e, Nat.lt_of_lt_of_le hb hf.size, fun i hi => ⟨(hk _).trans (hc i hi).c0, (hk _).trans (hc i hi).c1, (hk _).trans (hc i hi).c2⟩⟩
theorem WRs.keep {w w' : World} {ao : Option Addr} {ws : List Wt} (h : WRs w ao ws) (hf : Fr [] w w') : WRs w' ao ws := h.keepS hf (by simp)
theorem WRs.of_row {w : World} {b : Nat} {ws : List Wt} {rest : List Value} {t : TypeId} {f : Nat × Nat} (h : w.heap[b]? = some (.cells (wtsC ws ++ rest).toArray t f)) (hl : ws.length ≤ 140737488355328) (he : ∀ x ∈ ws, x.key.size ≤ 140737488355328 ∧ x.val.size ≤ 140737488355328) : WRs w (some ⟨b, 0, none⟩) ws := by
  refine ⟨fun _ => ⟨b, 0, rfl, lt_of_block h, fun i hi => ?_⟩, hl, he⟩
  have key : ∀ c, c < 3 → w.cell? ⟨b, 0 + i * 3 + c, none⟩ = (wtC (ws.getD i Wt.zero))[c]? := by
    intro c hc
    rw [cell_of_row _ _ _ _ _ _ h, Nat.zero_add, ← wtsC_get ws i c hi hc]
    have hlt : i * 3 + c < (wtsC ws).length := by rw [wtsC_length]; omega
    simp [List.getElem?_append_left hlt]
  exact ⟨key 0 (by omega), key 1 (by omega), key 2 (by omega)⟩
theorem wgetD_mem (ws : List Wt) (i : Nat) (h : i < ws.length) : ws.getD i Wt.zero ∈ ws := by simp [List.getD, h]
theorem wtake_snoc (ws : List Wt) (i : Nat) (h : i < ws.length) : ws.take (i + 1) = ws.take i ++ [ws.getD i Wt.zero] := by
  rw [List.take_add_one]
  simp [List.getD, h]

/-- A transaction as a value. -/
def txV (n : Int) (ao : Option Addr) (L cap : Nat) : Value := .agg #[.int .i64 n, .slice ao L cap]

theorem tl_nil (s : ByteArray) : s.toList = [] ↔ s.size = 0 := by
  rw [ByteArray.toList_eq]
  constructor
  · intro h
    have h2 := congrArg List.length h
    simpa [Array.length_toList] using h2
  · intro h
    have h2 : s.data.toList.length = 0 := by rw [Array.length_toList]; exact h
    exact List.eq_nil_of_length_eq_zero h2
theorem tl_inj (a b : ByteArray) : a.toList = b.toList ↔ a = b := by
  rw [ByteArray.toList_eq, ByteArray.toList_eq]
  constructor
  · intro h
    exact bytes_inj h
  · rintro rfl
    rfl
theorem okW_iff (key val : ByteArray) (drop : Bool) : okW ⟨key, val, drop⟩ ↔ (¬ key.toList = []) ∧ (key.size : Int) ≤ 64 ∧ (val.size : Int) ≤ 1024 ∧ (drop = true → val.toList = []) := by
  unfold okW
  rw [tl_nil, tl_nil, ← noS_iff]
  simp only
  constructor
  · rintro ⟨h1, h2, h3, h4⟩
    exact ⟨by omega, by omega, by omega, h4⟩
  · rintro ⟨h1, h2, h3, h4⟩
    exact ⟨by omega, by omega, by omega, h4⟩
end Go.Proofs.YtaaghcimfcjehaaGreatDoor
