/- The newest write of a key at a mark among parts: mathematics; contract of the statements' newest. Conditions as each names them. -/
import Derived.Test.YtkplammapbiebaaHv9
namespace Go.Proofs.Ytkplammapbiebaa
open Go.ChangeShapes Go.WideShapes Go.ChangeAt Go.RowKit Go.Lib Go.Maps
set_option linter.unusedVariables false
set_option linter.unusedSimpArgs false

theorem vAt_some {vs : List Vn} (hR : Ris vs) {k : Int} {x : Vn} (hx : x ∈ vs) (hk : x.num ≤ k) (hm : ∀ y ∈ vs, y.num ≤ k → y.num ≤ x.num) : vAt vs k = some x := by
  obtain ⟨d, hd⟩ := UpTo.ex hR k
  rw [vAt_upTo hd]
  obtain ⟨j, hj, e⟩ := mem_get hx
  have hjd : j < d := by
    by_cases h : j < d
    · exact h
    · have := hd.hi j (by omega) hj
      rw [e] at this
      omega
  have hle := hd.le
  rw [if_neg (by omega)]
  have h1 := hd.lo (d - 1) (by omega)
  have h2 := hm _ (vgetD_mem vs (d - 1) (by omega)) h1
  have hjd2 : j = d - 1 := by
    by_cases h : j = d - 1
    · exact h
    · have := ris_get hR (show j < d - 1 by omega) (by omega)
      rw [e] at this
      omega
  unfold atV
  rw [if_neg (by omega), ← hjd2, e]
theorem vAt_none {vs : List Vn} (hR : Ris vs) {k : Int} (hm : ∀ y ∈ vs, ¬ y.num ≤ k) : vAt vs k = none := by
  unfold vAt
  rw [List.filter_eq_nil_iff.2 fun y hy => by simpa using hm y hy]
  rfl
/-- What is found among the first so many parts. -/
def Nw (ins : List Pt) (i : Nat) (key : ByteArray) (m : Int) (best : Int) (val : ByteArray) (ok : Bool) : Prop :=
  (best = 0 ∧ val = noS ∧ ok = false ∧ ∀ j, j < i → (ins.getD j Pt.zero).key = key → ¬ (ins.getD j Pt.zero).num ≤ m) ∨
  (∃ j, j < i ∧ (ins.getD j Pt.zero).key = key ∧ (ins.getD j Pt.zero).num ≤ m ∧ best = (ins.getD j Pt.zero).num ∧ val = (ins.getD j Pt.zero).val ∧ ok = !(ins.getD j Pt.zero).drop ∧ ∀ l, l < i → (ins.getD l Pt.zero).key = key → (ins.getD l Pt.zero).num ≤ m → (ins.getD l Pt.zero).num ≤ best)
theorem Nw.zero (ins : List Pt) (key : ByteArray) (m : Int) : Nw ins 0 key m 0 noS false := Or.inl ⟨rfl, rfl, rfl, fun j hj => by omega⟩
theorem Nw.skip {ins : List Pt} {i : Nat} {key : ByteArray} {m best : Int} {val : ByteArray} {ok : Bool} (h : Nw ins i key m best val ok) (hi : 1 ≤ (ins.getD i Pt.zero).num) (hn : ¬ ((ins.getD i Pt.zero).key = key ∧ (ins.getD i Pt.zero).num ≤ m ∧ best < (ins.getD i Pt.zero).num)) : Nw ins (i + 1) key m best val ok := by
  rcases h with ⟨h1, h2, h3, h4⟩ | ⟨j, h1, h2, h3, h4, h5, h6, h7⟩
  · refine Or.inl ⟨h1, h2, h3, fun j hj hk hm => ?_⟩
    by_cases hji : j < i
    · exact h4 j hji hk hm
    · obtain rfl : j = i := by omega
      exact hn ⟨hk, hm, by omega⟩
  · refine Or.inr ⟨j, by omega, h2, h3, h4, h5, h6, fun l hl hk hm => ?_⟩
    by_cases hli : l < i
    · exact h7 l hli hk hm
    · obtain rfl : l = i := by omega
      by_cases hb : best < (ins.getD l Pt.zero).num
      · exact absurd ⟨hk, hm, hb⟩ hn
      · omega
theorem Nw.take {ins : List Pt} {i : Nat} {key : ByteArray} {m best : Int} {val : ByteArray} {ok : Bool} (h : Nw ins i key m best val ok) (hk : (ins.getD i Pt.zero).key = key) (hm : (ins.getD i Pt.zero).num ≤ m) (hb : best < (ins.getD i Pt.zero).num) : Nw ins (i + 1) key m (ins.getD i Pt.zero).num (ins.getD i Pt.zero).val (!(ins.getD i Pt.zero).drop) := by
  refine Or.inr ⟨i, by omega, hk, hm, rfl, rfl, rfl, fun l hl hkl hml => ?_⟩
  by_cases hli : l < i
  · rcases h with ⟨_, _, _, h4⟩ | ⟨j, _, _, _, _, _, _, h7⟩
    · exact absurd hml (h4 l hli hkl)
    · have := h7 l hli hkl hml; omega
  · obtain rfl : l = i := by omega
    omega
theorem Nw.told {M : ByteArray → List Vn} {ins : List Pt} (h : HoldsP M ins) (ho : ∀ k, okV (M k)) {key : ByteArray} {m best : Int} {val : ByteArray} {ok : Bool} (hN : Nw ins ins.length key m best val ok) : ok = (valAt (M key) m).isSome ∧ (ok = true → val = (valAt (M key) m).getD noS) := by
  have hget : ∀ p ∈ ins, ∃ j, j < ins.length ∧ ins.getD j Pt.zero = p := fun p hp => by
    obtain ⟨j, hj, e⟩ := List.mem_iff_getElem.1 hp
    exact ⟨j, hj, by rw [← e]; simp [List.getD, hj]⟩
  rcases hN with ⟨_, h2, h3, h4⟩ | ⟨j, h1, h2, h3, h4, h5, h6, h7⟩
  · have e : vAt (M key) m = none := vAt_none (ho key).2 fun y hy hm => by
      obtain ⟨p, hp, hk, hv⟩ := (h key y).1 hy
      obtain ⟨j, hj, e⟩ := hget p hp
      rw [hv] at hm
      exact h4 j hj (by rw [e]; exact hk) (by rw [e]; exact hm)
    unfold valAt
    rw [e, h3]
    exact ⟨rfl, fun h => by cases h⟩
  · have hp : ins.getD j Pt.zero ∈ ins := pgetD_mem ins j h1
    have e : vAt (M key) m = some (ins.getD j Pt.zero).v := vAt_some (ho key).2 ((h key _).2 ⟨_, hp, h2, rfl⟩) h3 fun y hy hm => by
      obtain ⟨p, hp2, hk, hv⟩ := (h key y).1 hy
      obtain ⟨l, hl, e⟩ := hget p hp2
      rw [hv] at hm ⊢
      have := h7 l hl (by rw [e]; exact hk) (by rw [e]; exact hm)
      rw [e, h4] at this
      exact this
    unfold valAt
    rw [e, h6, h5]
    obtain ⟨p, hpp⟩ : ∃ p, p = ins.getD j Pt.zero := ⟨_, rfl⟩
    rw [← hpp]
    unfold valOf Pt.v
    cases p.drop <;> simp
set_option maxHeartbeats 8000000 in
set_option maxRecDepth 100000 in
theorem newest_any (ri : Option Addr) (N rc : Nat) (ins : List Pt) (key : ByteArray) (m : Int) (w : World) (hP : PRs w ri ins) (hN : N = ins.length) (hok : ∀ p ∈ ins, okP p) (hNs : N ≤ 200) :
    Calls Try.prog 17 #[.slice ri N rc, .string key, .int .i64 m] w fun e w' => ∃ best val ok, e = .returned (.tuple #[.string val, .bool ok]) ∧ Nw ins N key m best val ok ∧ Fr [] w w' := by
  have HN : Hid (N = ins.length) := hN
  have HO : Hid (∀ p ∈ ins, okP p) := hok
  have HP : Hid (∀ W, Fr [] w W → PRs W ri ins) := fun W hf => hP.keep hf
  clear hP hN hok
  go_enter Try.func17, Try.ntmps17
  go_wp2_with fail
  go_loopw [8, 9, 10, 11] (fun bb vv oo ii wr => ∃ (best : Int) (val : ByteArray) (ok : Bool) (i : Nat), bb = .int .i64 best ∧ vv = .string val ∧ oo = .bool ok ∧ ii = .int .i64 i ∧ i ≤ N ∧ 0 ≤ best ∧ best ≤ 65536 ∧ Hid (Nw ins i key m best val ok) ∧ Hid (Fr [] w wr)) (fun _ _ _ ii _ => N - (RowKit.intOf ii).toNat)
  case atStart => exact ⟨0, ⟨#[]⟩, false, 0, rfl, rfl, rfl, rfl, Nat.zero_le _, by omega, by omega, Nw.zero ins key m, Fr.refl _ _⟩
  case round =>
    obtain ⟨best, val, ok, i, rfl, rfl, rfl, rfl, hiN, hb0, hb6, HW, HF⟩ := hrel
    by_cases hi : i < N
    · have hi' : i < ins.length := by rw [← HN.out]; exact hi
      obtain ⟨pb, off, rfl, _, hat⟩ := (HP.out _ HF.out).lies (by omega)
      obtain ⟨c0, c1, c2, c3⟩ := hat i hi'
      have hokp := HO.out _ (pgetD_mem ins i hi')
      have HSk : Hid (¬ ((ins.getD i Pt.zero).key = key ∧ (ins.getD i Pt.zero).num ≤ m ∧ best < (ins.getD i Pt.zero).num) → Nw ins (i + 1) key m best val ok) := fun hn => HW.out.skip hokp.2.1 hn
      have HTk : Hid ((ins.getD i Pt.zero).key = key → (ins.getD i Pt.zero).num ≤ m → best < (ins.getD i Pt.zero).num → Nw ins (i + 1) key m (ins.getD i Pt.zero).num (ins.getD i Pt.zero).val (!(ins.getD i Pt.zero).drop)) := fun a b c => HW.out.take a b c
      have hn1 : 1 ≤ (ins.getD i Pt.zero).num := hokp.2.1
      have hn2 : (ins.getD i Pt.zero).num ≤ 65536 := hokp.2.2.1
      obtain ⟨p, hp⟩ : ∃ p, p = ins.getD i Pt.zero := ⟨_, rfl⟩
      rw [← hp] at c0 c1 c2 c3 HSk HTk hn1 hn2
      clear hp hat hokp HW
      obtain ⟨pn, pk, pv, pd⟩ := p
      simp only at c0 c1 c2 c3 HSk HTk hn1 hn2
      obtain ⟨t1, ht1⟩ : ∃ t, (pk.toList == key.toList) = t := ⟨_, rfl⟩
      obtain ⟨t2, ht2⟩ : ∃ t, decide (pn ≤ m) = t := ⟨_, rfl⟩
      obtain ⟨t3, ht3⟩ : ∃ t, decide (best < pn) = t := ⟨_, rfl⟩
      have hk1 : t1 = true ↔ pk = key := by rw [← ht1, beq_iff_eq, tl_inj]
      have hk2 : t2 = true ↔ pn ≤ m := by rw [← ht2, decide_eq_true_eq]
      have hk3 : t3 = true ↔ best < pn := by rw [← ht3, decide_eq_true_eq]
      have hway : t1 = false ∨ (t1 = true ∧ t2 = false) ∨ (t1 = true ∧ t2 = true ∧ t3 = false) ∨ (t1 = true ∧ t2 = true ∧ t3 = true) := by
        cases t1 <;> cases t2 <;> cases t3 <;> simp
      rcases hway with rfl | ⟨rfl, rfl⟩ | ⟨rfl, rfl, rfl⟩ | ⟨rfl, rfl, rfl⟩
      · have HW2 : Hid (Nw ins (i + 1) key m best val ok) := HSk.out (fun h => by have := hk1.2 h.1; cases this)
        clear HSk HTk hk1 hk2 hk3
        go_wp2_with fail
        go_roundw
        case rel => exact ⟨best, val, ok, i + 1, rfl, rfl, rfl, by simp, by omega, hb0, hb6, HW2, HF⟩
        case measure => simp [RowKit.intOf]; omega
      · have HW2 : Hid (Nw ins (i + 1) key m best val ok) := HSk.out (fun h => by have := hk2.2 h.2.1; cases this)
        clear HSk HTk hk1 hk2 hk3
        go_wp2_with fail
        go_roundw
        case rel => exact ⟨best, val, ok, i + 1, rfl, rfl, rfl, by simp, by omega, hb0, hb6, HW2, HF⟩
        case measure => simp [RowKit.intOf]; omega
      · have HW2 : Hid (Nw ins (i + 1) key m best val ok) := HSk.out (fun h => by have := hk3.2 h.2.2; cases this)
        clear HSk HTk hk1 hk2 hk3
        go_wp2_with fail
        go_roundw
        case rel => exact ⟨best, val, ok, i + 1, rfl, rfl, rfl, by simp, by omega, hb0, hb6, HW2, HF⟩
        case measure => simp [RowKit.intOf]; omega
      · have HW2 : Hid (Nw ins (i + 1) key m pn pv (!pd)) := HTk.out (hk1.1 rfl) (hk2.1 rfl) (hk3.1 rfl)
        clear HSk HTk hk1 hk2 hk3
        go_wp2_with fail
        go_roundw
        case rel => exact ⟨pn, pv, !pd, i + 1, rfl, rfl, rfl, by simp, by omega, by omega, by omega, HW2, HF⟩
        case measure => simp [RowKit.intOf]; omega
    · have hiN2 : i = N := by omega
      subst hiN2
      go_wp2
      refine bodyPost_ret (results_tmp2 rfl _ _ _) rfl ?_
      exact ⟨best, val, ok, rfl, HW.out, HF.out⟩
end Go.Proofs.Ytkplammapbiebaa
