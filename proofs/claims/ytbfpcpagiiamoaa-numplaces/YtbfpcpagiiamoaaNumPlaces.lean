/- NumPlaces: for every number of 64 bits, every range of bits and whatever is put there, Bits and Put answer what the reference answers, refusals too: the law returns true. Conditions: none. -/
import Derived.Test.YtbfpcpagiiamoaaRows
import Derived.Test.YtbfpcpagiiamoaaRefs2
import Derived.WalkKit
import Derived.ProofKit
import Derived.OpenShut
import Derived.Lib.SmallJoins
namespace Go.Proofs.Ytbfpcpagiiamoaa.numPlaces
open Go.ChangeShapes Go.WideShapes Go.ChangeAt Go.RowKit Go.Joins
set_option linter.unusedVariables false
set_option linter.unusedSimpArgs false

theorem own : ownKnob Try.prog.godebug = none := by kernel_rfl
theorem cells64 : Try.prog.cellsOf 64 = 2 := by kernel_rfl
theorem grown_drewN (v : World) (q : Nat) : Grown v (v.drewN q) := (Grown.refl v : Grown v v)
theorem grown_box (v : World) (c : Array Value) (t : TypeId) (q : Nat) : Grown v ((v.alloc (.cells c t)).drewN q) := ((Grown.refl v).alloc c t : Grown v (v.alloc (.cells c t)))

theorem bits_is (x f n : Int) (w : World) (b : Int) (hb : ((bitsN x.toNat f.toNat n.toNat : Nat) : Int) = b) (x0 : 0 ≤ x) (x1 : x < 18446744073709551616) (h0 : 0 ≤ f) (h1 : 0 ≤ n) (h2 : f + n ≤ 64) :
    Calls Try.prog 32 #[.int .u64 x, .int .i64 f, .int .i64 n] w fun e w' => e = .returned (.tuple #[.int .u64 b, .bool true]) ∧ ∃ q, w' = w.drewN q := by
  rw [← hb]; exact bits_yes x f n w x0 x1 h0 h1 h2
theorem rbits_is (x f n : Int) (w : World) (b : Int) (hb : ((bitsN x.toNat f.toNat n.toNat : Nat) : Int) = b) (x0 : 0 ≤ x) (x1 : x < 18446744073709551616) (h0 : 0 ≤ f) (h1 : 0 ≤ n) (h2 : f + n ≤ 64) :
    Calls Try.prog 34 #[.int .u64 x, .int .i64 f, .int .i64 n] w fun e w' => e = .returned (.tuple #[.int .u64 b, .bool true]) ∧ w' = w := by
  rw [← hb]; exact rbits_yes x f n w x0 x1 h0 h1 h2
theorem put_is (x f n v : Int) (w : World) (b : Int) (hb : ((putN x.toNat f.toNat n.toNat v.toNat : Nat) : Int) = b) (x0 : 0 ≤ x) (x1 : x < 18446744073709551616) (v0 : 0 ≤ v) (v1 : v ≤ (lowN n.toNat : Nat)) (h0 : 0 ≤ f) (h1 : 0 ≤ n) (h2 : f + n ≤ 64) :
    Calls Try.prog 33 #[.int .u64 x, .int .i64 f, .int .i64 n, .int .u64 v] w fun e w' => e = .returned (.tuple #[.int .u64 b, .bool true]) ∧ ∃ q, w' = w.drewN q := by
  rw [← hb]; exact put_yes x f n v w x0 x1 v0 v1 h0 h1 h2
theorem rput_is (x f n v : Int) (w : World) (b : Int) (hb : ((putN x.toNat f.toNat n.toNat v.toNat : Nat) : Int) = b) (x0 : 0 ≤ x) (x1 : x < 18446744073709551616) (v0 : 0 ≤ v) (vl : v ≤ 18446744073709551615) (v1 : v ≤ (lowN n.toNat : Nat)) (h0 : 0 ≤ f) (h1 : 0 ≤ n) (h2 : f + n ≤ 64) :
    Calls Try.prog 35 #[.int .u64 x, .int .i64 f, .int .i64 n, .int .u64 v] w fun e w' => e = .returned (.tuple #[.int .u64 b, .bool true]) ∧ w' = w := by
  rw [← hb]; exact rput_yes x f n v w x0 x1 v0 vl v1 h0 h1 h2

theorem walk (a0 a1 f n : Int) (w0 : (Lit.int .u64 a0).wf = true) (w1 : (Lit.int .u64 a1).wf = true) (w2 : (Lit.int .i64 f).wf = true) (w3 : (Lit.int .i64 n).wf = true) (w : World) :
    Calls Try.prog 5 #[.int .u64 a0, .int .u64 a1, .agg #[.int .i64 f, .int .i64 n]] w fun e w' => e = .returned (.bool true) ∧ Grown w w' := by
  obtain ⟨x0, x1⟩ := bounds_u64 w0
  obtain ⟨v0, v1⟩ := bounds_u64 w1
  obtain ⟨f0, f1⟩ := bounds_i64 w2
  obtain ⟨n0, n1⟩ := bounds_i64 w3
  clear w0 w1 w2 w3
  by_cases c : f < 0 ∨ n < 0 ∨ 64 < f + n
  · go_enter Try.func5, Try.ntmps5
    go_wp2_with (first
      | (go_at_call 32; refine (bits_no _ _ _ _ f0 f1 n0 n1 c).mono ?_; rintro e w' ⟨rfl, rfl⟩)
      | (go_at_call 33; refine (put_no _ _ _ _ _ f0 f1 n0 n1 c).mono ?_; rintro e w' ⟨rfl, rfl⟩)
      | (go_at_call 34; refine (rbits_no _ _ _ _ f0 f1 n0 n1 c).mono ?_; rintro e w' ⟨rfl, rfl⟩)
      | (go_at_call 35; refine (rput_no _ _ _ _ _ f0 f1 n0 n1 c).mono ?_; rintro e w' ⟨rfl, rfl⟩))
    go_ret
    exact ⟨rfl, (Grown.refl _).alloc _ _⟩
  have h0 : 0 ≤ f := by omega
  have h1 : 0 ≤ n := by omega
  have h2 : f + n ≤ 64 := by omega
  have x2 : a0 < 18446744073709551616 := by omega
  clear c
  obtain ⟨b, hb⟩ : ∃ b : Int, ((bitsN a0.toNat f.toNat n.toNat : Nat) : Int) = b := ⟨_, rfl⟩
  have HB : Hid (((bitsN a0.toNat f.toNat n.toNat : Nat) : Int) = b) := hb
  clear hb
  by_cases cv : ((lowN n.toNat : Nat) : Int) < a1
  · go_enter Try.func5, Try.ntmps5
    go_wp2_with (first
      | (go_at_call 32; refine (bits_is _ _ _ _ b HB.out x0 x2 h0 h1 h2).mono ?_; rintro e w' ⟨rfl, q1, rfl⟩)
      | (go_at_call 33; refine (put_big _ _ _ _ _ cv h0 h1 h2).mono ?_; rintro e w' ⟨rfl, rfl⟩)
      | (go_at_call 34; refine (rbits_is _ _ _ _ b HB.out x0 x2 h0 h1 h2).mono ?_; rintro e w' ⟨rfl, rfl⟩)
      | (go_at_call 35; refine (rput_big _ _ _ _ _ v0 v1 cv h0 h1 h2).mono ?_; rintro e w' ⟨rfl, rfl⟩))
    go_ret
    exact ⟨rfl, grown_box _ _ _ _⟩
  have CV : Hid (a1 ≤ ((lowN n.toNat : Nat) : Int)) := by show a1 ≤ _; omega
  clear cv
  obtain ⟨y, hy⟩ : ∃ y : Int, ((putN a0.toNat f.toNat n.toNat a1.toNat : Nat) : Int) = y := ⟨_, rfl⟩
  have HY : Hid (((putN a0.toNat f.toNat n.toNat a1.toNat : Nat) : Int) = y) := hy
  clear hy
  go_enter Try.func5, Try.ntmps5
  go_wp2_with (first
    | (go_at_call 32; refine (bits_is _ _ _ _ b HB.out x0 x2 h0 h1 h2).mono ?_; rintro e w' ⟨rfl, q1, rfl⟩)
    | (go_at_call 33; refine (put_is _ _ _ _ _ y HY.out x0 x2 v0 CV.out h0 h1 h2).mono ?_; rintro e w' ⟨rfl, q2, rfl⟩)
    | (go_at_call 34; refine (rbits_is _ _ _ _ b HB.out x0 x2 h0 h1 h2).mono ?_; rintro e w' ⟨rfl, rfl⟩)
    | (go_at_call 35; refine (rput_is _ _ _ _ _ y HY.out x0 x2 v0 v1 CV.out h0 h1 h2).mono ?_; rintro e w' ⟨rfl, rfl⟩))
  go_ret
  exact ⟨rfl, grown_box _ _ _ _⟩

set_option maxRecDepth 100000 in
theorem lifted (os : Os) (started : os.Started) (H : Type) (enc : TypeId × Value → H) :
    ReturnsInHanded {} Try.checked os 5 .any (Rows.numPlacesSpec.pre6 enc Try.prog Try.f5 Rows.numPlacesRow.domain false) (Rows.numPlacesSpec.post enc Try.prog Try.f5 false true false false) := by
  refine returnsInHanded_of_change (C := Try.checked) own started (by kernel_rfl) Try.func5
    (ChangeSpec.witness6 (enc := enc) (C := Try.checked) false ⟨#[], #[.int .u64 0, .int .u64 0, .agg #[.int .i64 0, .int .i64 0]], []⟩ 8 (by kernel_rfl) (by kernel_rfl) (by kernel_rfl) (by kernel_rfl)) ?_
  intro W base args ds gs before hval0 hW hcnd _
  have hval : ∀ (j : Nat) t v, Try.f5.params[j]? = some t → args[j]? = some v → Value.okWide Try.prog W .any base t v := hval0
  have hW' := hW
  obtain ⟨p, q, hA0, hV, rfl, hfz, hnd⟩ := hW
  have hA : DataW.TrodAll enc Try.prog W 0 (fun _ => true) true Try.f5.params.toList args.toList ds p := hA0
  rw [Try.params5] at hA hval
  obtain ⟨v0, vs0, d0, ds0, p0, q0, hargs, rfl, rfl, h0, r0⟩ := trodAll_cons hA
  obtain ⟨v1, vs1, d1, ds1, p1, q1, rfl, rfl, rfl, h1, r1⟩ := trodAll_cons r0
  obtain ⟨v2, vs2, d2, ds2, p2, q2, rfl, rfl, rfl, h2, r2⟩ := trodAll_cons r1
  obtain ⟨rfl, rfl, rfl⟩ := trodAll_nil r2
  obtain rfl : args = #[v0, v1, v2] := by cases args; simp_all
  obtain ⟨rfl, rfl⟩ := trodVars_none hV
  obtain ⟨a0, rfl, rfl, rfl, w0⟩ := open_int Try.underlying42 (hval 0 42 v0 rfl rfl) h0
  obtain ⟨a1, rfl, rfl, rfl, w1⟩ := open_int Try.underlying42 (hval 1 42 v1 rfl rfl) h1
  obtain ⟨c0, c1, y0, y1, m, rfl, rfl, rfl, hy0, hy1⟩ := open_agg2 Try.underlying64 (by kernel_rfl) cells64 (hval 2 64 v2 rfl rfl) h2
  obtain ⟨f, e0, rfl, w2⟩ := DataW.trod_int Try.underlying3 hy0
  obtain ⟨n, e1, rfl, w3⟩ := DataW.trod_int Try.underlying3 hy1
  simp at e0 e1
  subst e0 e1
  clear hA0 hval0
  simp only [List.append_nil] at hW'
  have structReads : ∀ (W' : World) (sp : Nat → Bool), DataW.Trod enc Try.prog W' 0 sp true 64 (.agg #[.int .i64 f, .int .i64 n]) (.agg [.lit (.int .i64 f), .lit (.int .i64 n)]) [] := fun W' sp =>
    shut_agg2 (y0 := (.lit (.int .i64 f), [])) (y1 := (.lit (.int .i64 n), [])) Try.underlying64 (by kernel_rfl) cells64 ⟨1, by simp [DataW.trod, Try.underlying3, w2]⟩ ⟨1, by simp [DataW.trod, Try.underlying3, w3]⟩
  refine (walk a0 a1 f n w0 w1 w2 w3 W).mono fun e W' ⟨he, hg⟩ => ?_
  subst he
  exact ⟨_, rfl, post_of_same (pa := []) (pv := []) hW' (fun _ _ _ => (trodAll_cons_mk (shut_bool Try.underlying4 _) trodAll_mk0)) (fun sp _ => (trodAll_cons_mk (shut_int Try.underlying42 w0) (trodAll_cons_mk (shut_int Try.underlying42 w1) (trodAll_cons_mk (structReads _ sp) trodAll_mk0)))) (fun _ _ => rfl) rfl
    (hg.frame _) hg.2.1 (ok_one (by kernel_rfl) rfl (okWide_bool_mk Try.underlying4 _))⟩

theorem over : Rows.numPlacesRow.holds Try.pinned (OpenSpec.ofChange Rows.numPlacesSpec) :=
  OpenClaim.holds_of_wide 5 Try.f5 rfl rfl rfl rfl rfl rfl rfl ⟨rfl, rfl, rfl, rfl, rfl⟩ rfl rfl rfl rfl rfl (by kernel_rfl) Try.func5 (by kernel_rfl)
    (of_decide_eq_true (by kernel_rfl)) (by unfold Func.isWrapper; first | (rw [if_pos (by decide +kernel)]; kernel_rfl) | (rw [if_neg (by decide +kernel)]; exact ⟨rfl, rfl⟩))
    (fun os started H enc _ => lifted os started H enc)
end Go.Proofs.Ytbfpcpagiiamoaa.numPlaces

namespace Go.Proofs.Ytbfpcpagiiamoaa
theorem numplaces_holds : Rows.NumPlacesSaid := numPlaces.over
#print axioms numplaces_holds
end Go.Proofs.Ytbfpcpagiiamoaa
