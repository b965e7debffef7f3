/- For every configuration, every row of events and every place in it the law StatParts returns true, and all read as they did. No conditions. -/
import Derived.Test.YtfhfjplhfjlpaaaPa26
import Derived.SizedLaws
import Derived.ChangeMaps5
namespace Go.Proofs.Ytfhfjplhfjlpaaa.statParts
open Go.ChangeShapes Go.WideShapes Go.ChangeAt Go.RowKit Go.Lib Go.ChangeMaps
set_option linter.unusedVariables false
set_option linter.unusedSimpArgs false

/-- What a call leaves: its stats in a box. -/
def Bx (w1 : World) (S : Sst) (p : Value) (W : World) : Prop := ∃ b, p = .pointer (some ⟨b, 0, none⟩) ∧ Hid (W.heap[b]? = some (.cells S.a 27 (0, 0)) ∧ Fr [] w1 W)
theorem row_put5 {w : World} {B : Nat} {ty : TypeId} {x0 x1 x2 x3 x4 : Value} (h : w.heap[B]? = some (.cells #[x0, x1, x2, x3, x4] ty (0, 0))) (v0 v1 v2 v3 v4 : Value) :
    (((((w.setCell ⟨B, 0, none⟩ v0).setCell ⟨B, 1, none⟩ v1).setCell ⟨B, 2, none⟩ v2).setCell ⟨B, 3, none⟩ v3).setCell ⟨B, 4, none⟩ v4).heap[B]? = some (.cells #[v0, v1, v2, v3, v4] ty (0, 0)) := by
  have hh := row_putj (v := v4) (j := 4) (row_putj (v := v3) (j := 3) (row_putj (v := v2) (j := 2) (row_putj (v := v1) (j := 1) (row_putj (v := v0) (j := 0) h))))
  simp only [List.setIfInBounds_toArray, List.set_cons_succ, List.set_cons_zero] at hh
  exact hh
theorem fr_put5 {w : World} {B : Nat} (v0 v1 v2 v3 v4 : Value) :
    Fr [B] w (((((w.setCell ⟨B, 0, none⟩ v0).setCell ⟨B, 1, none⟩ v1).setCell ⟨B, 2, none⟩ v2).setCell ⟨B, 3, none⟩ v3).setCell ⟨B, 4, none⟩ v4) := by
  have f : ∀ (W : World) (j : Nat) (v : Value), Fr [B] W (W.setCell ⟨B, j, none⟩ v) := fun W j v => Fr.set _ _ _ (by simp)
  exact ((((f _ _ _).then (f _ _ _)).then (f _ _ _)).then (f _ _ _)).then (f _ _ _)
abbrev zO : Obj := .cells #[.int .i64 0, .int .i64 0, .int .i64 0, .int .i64 0, .int .i64 0] 27
/-- A call, whether its box is made ahead of it or behind it. -/
theorem both {l s x q : Int} {ao : Option Addr} {k cap b : Nat} {n i g r er : Int} {bu : Int} {wb w1 : World} (hM : ∀ W, Fr [] wb W → CfM W b l s x q) (hf : Fr [] wb w1)
    (h : ∀ W, Fr [] wb W → Calls Try.prog 4 #[.agg #[.int .i64 l, .int .i64 s, .int .i64 x, .int .i64 q], .slice ao k cap] W fun e w' => e = .returned (.tuple #[.agg #[.int .i64 n, .int .i64 i, .int .i64 g, .int .i64 bu, .int .i64 r], .int .i64 er]) ∧ Fr [] W w') :
    (Calls Try.prog 4 #[.agg #[.int .i64 l, .int .i64 s, .int .i64 x, .int .i64 q], .slice ao k cap] w1.drew fun e w' => e = .returned (.tuple #[.agg #[.int .i64 n, .int .i64 i, .int .i64 g, .int .i64 bu, .int .i64 r], .int .i64 er]) ∧ w'.cell? ⟨b, 0, none⟩ = some (.int .i64 l) ∧ w'.cell? ⟨b, 1, none⟩ = some (.int .i64 s) ∧ w'.cell? ⟨b, 2, none⟩ = some (.int .i64 x) ∧ w'.cell? ⟨b, 3, none⟩ = some (.int .i64 q) ∧ Hid (Fr [] w1 w')) ∧
    (Calls Try.prog 4 #[.agg #[.int .i64 l, .int .i64 s, .int .i64 x, .int .i64 q], .slice ao k cap] (w1.alloc zO).drew fun e w' => e = .returned (.tuple #[.agg #[.int .i64 n, .int .i64 i, .int .i64 g, .int .i64 bu, .int .i64 r], .int .i64 er]) ∧ w'.cell? ⟨b, 0, none⟩ = some (.int .i64 l) ∧ w'.cell? ⟨b, 1, none⟩ = some (.int .i64 s) ∧ w'.cell? ⟨b, 2, none⟩ = some (.int .i64 x) ∧ w'.cell? ⟨b, 3, none⟩ = some (.int .i64 q) ∧
      (w'.cell? ⟨w1.heap.size, 0, none⟩ = some (.int .i64 0) ∧ w'.cell? ⟨w1.heap.size, 1, none⟩ = some (.int .i64 0) ∧ w'.cell? ⟨w1.heap.size, 2, none⟩ = some (.int .i64 0) ∧ w'.cell? ⟨w1.heap.size, 3, none⟩ = some (.int .i64 0) ∧ w'.cell? ⟨w1.heap.size, 4, none⟩ = some (.int .i64 0)) ∧ (∀ j, w'.frozen? ⟨w1.heap.size, j, none⟩ = false) ∧ Hid (w'.heap[w1.heap.size]? = some zO ∧ Fr [] w1 w')) := by
  have f1 : Fr [] w1 w1.drew := Fr.drew _ _
  have f2 : Fr [] w1 (w1.alloc zO).drew := (Fr.alloc _ _ _).then (Fr.drew _ _)
  refine ⟨(h _ (hf.then f1)).mono fun e w' hh => ?_, (h _ (hf.then f2)).mono fun e w' hh => ?_⟩
  · obtain ⟨_, c0, c1, c2, c3⟩ := hM _ ((hf.then f1).then hh.2)
    exact ⟨hh.1, c0, c1, c2, c3, f1.then hh.2⟩
  · obtain ⟨_, c0, c1, c2, c3⟩ := hM _ ((hf.then f2).then hh.2)
    have hr : w'.heap[w1.heap.size]? = some zO := ((Fr.drew [] _).then hh.2).keep (heap_alloc_new w1 zO) (by simp)
    exact ⟨hh.1, c0, c1, c2, c3, ⟨by rw [cell_of_row _ _ _ _ _ _ hr]; rfl, by rw [cell_of_row _ _ _ _ _ _ hr]; rfl, by rw [cell_of_row _ _ _ _ _ _ hr]; rfl, by rw [cell_of_row _ _ _ _ _ _ hr]; rfl, by rw [cell_of_row _ _ _ _ _ _ hr]; rfl⟩, fun j => by simp [World.frozen?, hr], hr, f2.then hh.2⟩
set_option maxHeartbeats 32000000 in
set_option maxRecDepth 100000 in
theorem walk (l s x q : Int) (ao : Option Addr) (L cap : Nat) (es : List Ev) (m : Nat) (hm : m < 65536) (w : World) (hok : Cf.ok ⟨l, s, x, q⟩) (hE : ERs w ao es) (hL : L = es.length) (hC : L ≤ cap) :
    Calls Try.prog 3 #[.agg #[.int .i64 l, .int .i64 s, .int .i64 x, .int .i64 q], .slice ao L cap, .int .u16 (m : Int)] w fun e w' => e = .returned (.bool true) ∧ Fr [] w w' := by
  obtain ⟨k, hk⟩ : ∃ k, k = m % (L + 1) := ⟨_, rfl⟩
  have hkL : k ≤ L := by rw [hk]; have := Nat.mod_lt m (show 0 < L + 1 by omega); omega
  have hfew := hE.few
  have hwl : IntKind.i64.wrap ((L : Int) + 1) = (L : Int) + 1 := by rw [IntKind.wrap_i64]; omega
  have hrem : (m : Int).tmod ((L : Int) + 1) = (k : Int) := by rw [hk]; rfl
  have hz : ¬ ((L : Int) + 1 = 0) := by omega
  have hne : ((L : Int) + 1 == 0) = false := by simp [hz]
  obtain ⟨wb, HW⟩ : ∃ wb, Hid (w.alloc (.cells #[.int .i64 l, .int .i64 s, .int .i64 x, .int .i64 q] 23) = wb) := ⟨_, rfl⟩
  have hM : CfM wb w.heap.size l s x q := by rw [← HW.out]; exact CfM.new w l s x q 23
  have HF : Hid (Fr [] w wb) := by rw [← HW.out]; exact Fr.alloc [] w _
  obtain ⟨b, HB⟩ : ∃ b, Hid (w.heap.size = b) := ⟨_, rfl⟩
  rw [HB.out] at hM
  have HM : Hid (∀ W, Fr [] wb W → CfM W b l s x q) := fun W hf => hM.keep hf
  have HA : Hid (∀ W, Fr [] wb W → Calls Try.prog 4 #[.agg #[.int .i64 l, .int .i64 s, .int .i64 x, .int .i64 q], .slice ao k cap] W fun e w' => e = .returned (.tuple #[.agg (ofS ⟨l, s, x, q⟩ (es.take k)).a, .int .i64 (Cf.err ⟨l, s, x, q⟩)]) ∧ Fr [] W w') := fun W hf => of_any l s x q ao k cap (es.take k) W ((hE.keep (HF.out.then hf)).take k) (by rw [List.length_take]; omega)
  have HBc : Hid (∀ W, Fr [] wb W → Calls Try.prog 4 #[.agg #[.int .i64 l, .int .i64 s, .int .i64 x, .int .i64 q], .slice (fromE ao cap k) (L - k) (cap - k)] W fun e w' => e = .returned (.tuple #[.agg (ofS ⟨l, s, x, q⟩ (es.drop k)).a, .int .i64 (Cf.err ⟨l, s, x, q⟩)]) ∧ Fr [] W w') := fun W hf => of_any l s x q _ _ _ (es.drop k) W ((hE.keep (HF.out.then hf)).from cap k (by omega)) (by rw [List.length_drop]; omega)
  have HS : Hid (∀ W, Fr [] wb W → Calls Try.prog 4 #[.agg #[.int .i64 l, .int .i64 s, .int .i64 x, .int .i64 q], .slice ao L cap] W fun e w' => e = .returned (.tuple #[.agg (ofS ⟨l, s, x, q⟩ es).a, .int .i64 (Cf.err ⟨l, s, x, q⟩)]) ∧ Fr [] W w') := fun W hf => of_any l s x q ao L cap es W (hE.keep (HF.out.then hf)) hL
  have HLv : Hid (∀ W, Calls Try.prog 5 #[] W fun e w' => e = .returned (.bool true) ∧ Fr [] W w') := fun W => lives_any W
  have HQ : Hid ((¬ Cf.may ⟨l, s, x, q⟩ ∧ Cf.err ⟨l, s, x, q⟩ = 7) ∨ (Cf.err ⟨l, s, x, q⟩ = 0 ∧ (ofS ⟨l, s, x, q⟩ es).n = (ofS ⟨l, s, x, q⟩ (es.take k)).n + (ofS ⟨l, s, x, q⟩ (es.drop k)).n ∧ (ofS ⟨l, s, x, q⟩ es).i = (ofS ⟨l, s, x, q⟩ (es.take k)).i + (ofS ⟨l, s, x, q⟩ (es.drop k)).i ∧ (ofS ⟨l, s, x, q⟩ es).r = (ofS ⟨l, s, x, q⟩ (es.take k)).r + (ofS ⟨l, s, x, q⟩ (es.drop k)).r ∧ (ofS ⟨l, s, x, q⟩ es).g = max (ofS ⟨l, s, x, q⟩ (es.take k)).g (ofS ⟨l, s, x, q⟩ (es.drop k)).g ∧ (ofS ⟨l, s, x, q⟩ (es.take k)).b ≤ (ofS ⟨l, s, x, q⟩ es).b ∧ ((ofS ⟨l, s, x, q⟩ es).n ≤ 4398046511104 ∧ (ofS ⟨l, s, x, q⟩ es).i ≤ 4398046511104 ∧ (ofS ⟨l, s, x, q⟩ es).r ≤ 4398046511104) ∧ (0 ≤ (ofS ⟨l, s, x, q⟩ es).n ∧ 0 ≤ (ofS ⟨l, s, x, q⟩ es).i ∧ 0 ≤ (ofS ⟨l, s, x, q⟩ es).r))) := by
    by_cases hc : Cf.may ⟨l, s, x, q⟩
    · refine Or.inr ⟨by unfold Cf.err; rw [if_pos hc], ?_⟩
      unfold ofS
      simp only [if_pos hc]
      have e1 : (es.take k).length = k := by rw [List.length_take]; omega
      have e2 : (es.drop k).length = L - k := by rw [List.length_drop]; omega
      rw [e1, e2, sta_take _ es k k (Nat.le_refl _), ← hL]
      obtain ⟨h1, h2, h3, h4, h5⟩ := sta_sum l.toNat es k (L - k)
      rw [show k + (L - k) = L by omega] at h1 h2 h3 h4 h5
      have g1 := sta_n l.toNat es L
      have g2 := sta_i l.toNat es L
      have g3 := sta_r l.toNat es L
      exact ⟨h1, h2, h3, h4, h5, ⟨by omega, by omega, by omega⟩, by omega, by omega, by omega⟩
    · exact Or.inl ⟨hc, by unfold Cf.err; rw [if_neg hc]⟩
  have hsl1 := slE_h ao L cap k (by omega)
  have hsl2 := slE_l ao L cap k hkL
  generalize Cf.err ⟨l, s, x, q⟩ = er at HA HBc HS HQ
  generalize ofS ⟨l, s, x, q⟩ (es.take k) = A at HA HQ
  generalize ofS ⟨l, s, x, q⟩ (es.drop k) = B at HBc HQ
  generalize ofS ⟨l, s, x, q⟩ es = S at HS HQ
  obtain ⟨an, ai, ag, ab, ar⟩ := A
  obtain ⟨bn, bi, bg, bb, br⟩ := B
  obtain ⟨sn, si, sg, sb, sr⟩ := S
  simp only [Sst.a, stA] at HA HBc HS HQ
  generalize fromE ao cap k = fo at HBc hsl2
  clear hE hL hC hok hM hfew hk hz
  go_enter Try.func3, Try.ntmps3
  go_upto_region 1 with fail
  rw [HW.out, HB.out]
  obtain ⟨_, m0, m1, m2, m3⟩ := HM.out wb (Fr.refl _ _)
  go_upto_region 2 with fail
  go_cut [8, 9] from 8 to 27 (fun p ee wx => Bx wb ⟨an, ai, ag, ab, ar⟩ p wx ∧ ee = .int .i64 er)
  case first =>
    have q1 : b ≠ wb.heap.size := by have := (HM.out wb (Fr.refl _ _)).1; omega
    have q2 : wb.heap.size ≠ b := q1.symm
    obtain ⟨HX1, HX2⟩ := both HM.out (Fr.refl _ _) HA.out
    have HX1 : Hid (Calls _ _ _ _ _) := HX1
    have HX2 : Hid (Calls _ _ _ _ _) := HX2
    go_region_held3 (fun W => W.cell? ⟨b, 0, none⟩ = some (.int .i64 l) ∧ W.cell? ⟨b, 1, none⟩ = some (.int .i64 s) ∧ W.cell? ⟨b, 2, none⟩ = some (.int .i64 x) ∧ W.cell? ⟨b, 3, none⟩ = some (.int .i64 q)) (go_keep)
      (first
        | (with_reducible refine Calls.mono HX1.out ?_; rintro e w4 ⟨rfl, d0, d1, d2, d3, HF4⟩)
        | (with_reducible refine Calls.mono HX2.out ?_; rintro e w4 ⟨rfl, d0, d1, d2, d3, ⟨z0, z1, z2, z3, z4⟩, hz, HF4⟩))
    · go_wp2_with fail
      go_meet
      exact ⟨⟨_, rfl, heap_alloc_new w4 _, HF4.out.then (Fr.alloc _ _ _)⟩, rfl⟩
    · go_wp2_with fail
      go_meet
      exact ⟨⟨_, rfl, row_put5 HF4.out.1 _ _ _ _ _, HF4.out.2.on (fr_put5 _ _ _ _ _) (by intro y hy; simp at hy; omega)⟩, rfl⟩
  case rest =>
    obtain ⟨⟨sa, rfl, HSa⟩, rfl⟩ := hcut
    generalize wc = w2 at *
    clear m0 m1 m2 m3
    obtain ⟨_, m0, m1, m2, m3⟩ := HM.out w2 HSa.out.2
    go_upto_region 3 with fail
    go_cut [10, 11] from 10 to 35 (fun p ee wx => Bx w2 ⟨bn, bi, bg, bb, br⟩ p wx ∧ ee = .int .i64 er)
    case first =>
      have q1 : b ≠ w2.heap.size := by have := (HM.out w2 HSa.out.2).1; omega
      have q2 : w2.heap.size ≠ b := q1.symm
      obtain ⟨HX1, HX2⟩ := both HM.out HSa.out.2 HBc.out
      have HX1 : Hid (Calls _ _ _ _ _) := HX1
      have HX2 : Hid (Calls _ _ _ _ _) := HX2
      go_region_held3 (fun W => W.cell? ⟨b, 0, none⟩ = some (.int .i64 l) ∧ W.cell? ⟨b, 1, none⟩ = some (.int .i64 s) ∧ W.cell? ⟨b, 2, none⟩ = some (.int .i64 x) ∧ W.cell? ⟨b, 3, none⟩ = some (.int .i64 q)) (go_keep)
        (first
          | (with_reducible refine Calls.mono HX1.out ?_; rintro e w4 ⟨rfl, d0, d1, d2, d3, HF4⟩)
          | (with_reducible refine Calls.mono HX2.out ?_; rintro e w4 ⟨rfl, d0, d1, d2, d3, ⟨z0, z1, z2, z3, z4⟩, hz, HF4⟩))
      · go_wp2_with fail
        go_meet
        exact ⟨⟨_, rfl, heap_alloc_new w4 _, HF4.out.then (Fr.alloc _ _ _)⟩, rfl⟩
      · go_wp2_with fail
        go_meet
        exact ⟨⟨_, rfl, row_put5 HF4.out.1 _ _ _ _ _, HF4.out.2.on (fr_put5 _ _ _ _ _) (by intro y hy; simp at hy; omega)⟩, rfl⟩
    case rest =>
      obtain ⟨⟨sd, rfl, HSd⟩, rfl⟩ := hcut
      generalize wc = w3 at *
      clear m0 m1 m2 m3
      have HF3 : Hid (Fr [] wb w3) := HSa.out.2.then HSd.out.2
      obtain ⟨_, m0, m1, m2, m3⟩ := HM.out w3 HF3.out
      go_wp2_with fail
      with_reducible refine Calls.mono (HS.out w3 HF3.out) ?_
      rintro e w4 ⟨rfl, hf4⟩
      obtain ⟨w5, HW5⟩ : ∃ w5, Hid (w4.alloc (.cells #[.int .i64 sn, .int .i64 si, .int .i64 sg, .int .i64 sb, .int .i64 sr] 27) = w5) := ⟨_, rfl⟩
      obtain ⟨sc, HSc⟩ : ∃ sc, Hid (w4.heap.size = sc) := ⟨_, rfl⟩
      have hf5 : Fr [] w4 w5 := by rw [← HW5.out]; exact Fr.alloc _ _ _
      have hrc : w5.heap[sc]? = some (.cells (stA sn si sg sb sr) 27 (0, 0)) := by rw [← HW5.out, ← HSc.out]; exact heap_alloc_new _ _
      have hra : w5.heap[sa]? = some (.cells (stA an ai ag ab ar) 27 (0, 0)) := ((HSd.out.2.then hf4).then hf5).keep HSa.out.1 (by simp)
      have hrd : w5.heap[sd]? = some (.cells (stA bn bi bg bb br) 27 (0, 0)) := (hf4.then hf5).keep HSd.out.1 (by simp)
      have HF5 : Hid (Fr [] w w5) := HF.out.then (HF3.out.then (hf4.then hf5))
      have a0 : w5.cell? ⟨sa, 0, none⟩ = some (.int .i64 an) := by rw [cell_of_row _ _ _ _ _ _ hra]; rfl
      have a1 : w5.cell? ⟨sa, 1, none⟩ = some (.int .i64 ai) := by rw [cell_of_row _ _ _ _ _ _ hra]; rfl
      have a2 : w5.cell? ⟨sa, 2, none⟩ = some (.int .i64 ag) := by rw [cell_of_row _ _ _ _ _ _ hra]; rfl
      have a3 : w5.cell? ⟨sa, 3, none⟩ = some (.int .i64 ab) := by rw [cell_of_row _ _ _ _ _ _ hra]; rfl
      have a4 : w5.cell? ⟨sa, 4, none⟩ = some (.int .i64 ar) := by rw [cell_of_row _ _ _ _ _ _ hra]; rfl
      have d0 : w5.cell? ⟨sd, 0, none⟩ = some (.int .i64 bn) := by rw [cell_of_row _ _ _ _ _ _ hrd]; rfl
      have d1 : w5.cell? ⟨sd, 1, none⟩ = some (.int .i64 bi) := by rw [cell_of_row _ _ _ _ _ _ hrd]; rfl
      have d2 : w5.cell? ⟨sd, 2, none⟩ = some (.int .i64 bg) := by rw [cell_of_row _ _ _ _ _ _ hrd]; rfl
      have d3 : w5.cell? ⟨sd, 3, none⟩ = some (.int .i64 bb) := by rw [cell_of_row _ _ _ _ _ _ hrd]; rfl
      have d4 : w5.cell? ⟨sd, 4, none⟩ = some (.int .i64 br) := by rw [cell_of_row _ _ _ _ _ _ hrd]; rfl
      have c0 : w5.cell? ⟨sc, 0, none⟩ = some (.int .i64 sn) := by rw [cell_of_row _ _ _ _ _ _ hrc]; rfl
      have c1 : w5.cell? ⟨sc, 1, none⟩ = some (.int .i64 si) := by rw [cell_of_row _ _ _ _ _ _ hrc]; rfl
      have c2 : w5.cell? ⟨sc, 2, none⟩ = some (.int .i64 sg) := by rw [cell_of_row _ _ _ _ _ _ hrc]; rfl
      have c3 : w5.cell? ⟨sc, 3, none⟩ = some (.int .i64 sb) := by rw [cell_of_row _ _ _ _ _ _ hrc]; rfl
      have c4 : w5.cell? ⟨sc, 4, none⟩ = some (.int .i64 sr) := by rw [cell_of_row _ _ _ _ _ _ hrc]; rfl
      clear hf4 hf5 hra hrd hrc m0 m1 m2 m3
      go_upto_region 5 with fail
      rw [HW5.out, HSc.out]
      clear HW5 HSc
      rcases HQ.out with ⟨_, rfl⟩ | ⟨rfl, h1, h2, h3, h4, h5, h6, h7⟩
      · go_wp2_with fail
        with_reducible refine Calls.mono (HLv.out _) ?_
        rintro e w6 ⟨rfl, hf6⟩
        have HF6 : Hid (Fr [] w5 w6) := hf6
        clear hf6
        go_wp2_with fail
        go_ret
        exact ⟨rfl, HF5.out.then HF6.out⟩
      · subst h1 h2 h3
        have g1 : IntKind.i64.wrap (an + bn) = an + bn := by rw [IntKind.wrap_i64]; omega
        have g2 : IntKind.i64.wrap (ai + bi) = ai + bi := by rw [IntKind.wrap_i64]; omega
        have g3 : IntKind.i64.wrap (ar + br) = ar + br := by rw [IntKind.wrap_i64]; omega
        have HQ2 : Hid (_ ∧ _) := ⟨h6, h7⟩
        clear h6 h7 HQ
        rcases Int.lt_trichotomy ag bg with hx | hx | hx
        · obtain rfl : sg = bg := by omega
          clear h4
          go_wp2_with fail
          all_goals first
            | omega
            | (with_reducible refine Calls.mono (HLv.out _) ?_
               rintro e w6 ⟨rfl, hf6⟩
               have HF6 : Hid (Fr [] w5 w6) := hf6
               clear hf6
               go_wp2_with fail
               go_ret
               exact ⟨rfl, HF5.out.then HF6.out⟩)
        · subst hx
          obtain rfl : sg = ag := by omega
          clear h4
          go_wp2_with fail
          all_goals first
            | omega
            | (with_reducible refine Calls.mono (HLv.out _) ?_
               rintro e w6 ⟨rfl, hf6⟩
               have HF6 : Hid (Fr [] w5 w6) := hf6
               clear hf6
               go_wp2_with fail
               go_ret
               exact ⟨rfl, HF5.out.then HF6.out⟩)
        · obtain rfl : sg = ag := by omega
          clear h4
          go_wp2_with fail
          all_goals first
            | omega
            | (with_reducible refine Calls.mono (HLv.out _) ?_
               rintro e w6 ⟨rfl, hf6⟩
               have HF6 : Hid (Fr [] w5 w6) := hf6
               clear hf6
               go_wp2_with fail
               go_ret
               exact ⟨rfl, HF5.out.then HF6.out⟩)

theorem own : ownKnob Try.prog.godebug = none := by kernel_rfl
theorem laidOut : laidOutB Try.prog = true := by kernel_rfl
set_option maxHeartbeats 4000000 in
set_option maxRecDepth 100000 in
theorem lifted (os : Os) (started : os.Started) (H : Type) (enc : TypeId × Value → H) :
    ReturnsInHanded {} Try.checked os 3 .any (Rows.statPartsSpec.pre6 enc Try.prog Try.f3 Rows.statPartsRow.domain false) (Rows.statPartsSpec.post enc Try.prog Try.f3 false true false false) := by
  refine returnsInHanded_of_change_sized (C := Try.checked) own started (by kernel_rfl) Try.func3
    (ChangeSpec.witness6 (enc := enc) (C := Try.checked) false ⟨#[], #[.agg #[.int .i64 0, .int .i64 0, .int .i64 0, .int .i64 0], .slice none 0 0, .int .u16 0], []⟩ 8 (by kernel_rfl) (by kernel_rfl) (by kernel_rfl) (by kernel_rfl)) ?_
  intro W base args ds gs before hval0 hW hcnd hsz0 _
  have hval : ∀ (j : Nat) t v, Try.f3.params[j]? = some t → args[j]? = some v → Value.okWide Try.prog W .any base t v := hval0
  have hsz : (DataW.weightsEach Try.prog (Try.f3.params.toList ++ Rows.statPartsSpec.plain.varTypes Try.prog) (ds ++ gs)).all (· ≤ reachBytes) = true := hsz0
  have hW' := hW
  obtain ⟨p, q, hA0, hV, rfl, hfz, hnd⟩ := hW
  have hA : DataW.TrodAll enc Try.prog W 0 (fun _ => true) true Try.f3.params.toList args.toList ds p := hA0
  rw [Try.params3] at hA hval hsz
  obtain ⟨v0, vs0, d0, ds0, p0, q0, hargs, rfl, rfl, h0, r0⟩ := trodAll_cons hA
  obtain ⟨v1, vs1, d1, ds1, p1, q1, rfl, rfl, rfl, h1, r1⟩ := trodAll_cons r0
  obtain ⟨v2, vs2, d2, ds2, p2, q2, rfl, rfl, rfl, h2, r2⟩ := trodAll_cons r1
  obtain ⟨rfl, rfl, rfl⟩ := trodAll_nil r2
  obtain rfl : args = #[v0, v1, v2] := by cases args; simp_all
  obtain ⟨rfl, rfl⟩ := trodVars_none hV
  obtain ⟨cs0, rfl, _⟩ := okWide_struct Try.underlying23 (hval 0 23 v0 rfl rfl)
  have k0 := h0
  have lt0 : ∀ x ∈ p0, x.block < W.heap.size := by obtain ⟨m, hm⟩ := k0; exact DataW.trod_lt m _ _ _ hm
  obtain ⟨ca0, cb0, cc0, cd0, rfl, hB0⟩ : ∃ (a b c d : Int), cs0 = #[.int .i64 a, .int .i64 b, .int .i64 c, .int .i64 d] ∧ Cf.ok ⟨a, b, c, d⟩ := by
    obtain ⟨fuel, hf⟩ := h0
    obtain ⟨a, b, c, d, e, hk⟩ := cf_open hf
    exact ⟨a, b, c, d, by cases cs0; simpa [Value.cells] using e, hk⟩
  have k1 := h1
  have lt1 : ∀ x ∈ p1, x.block < W.heap.size := by obtain ⟨m, hm⟩ := k1; exact DataW.trod_lt m _ _ _ hm
  obtain ⟨a1, len1, cap1, es1, rfl, hB1, hL1, hC1⟩ : ∃ ao L cap es, v1 = .slice ao L cap ∧ ERs W ao es ∧ L = es.length ∧ L ≤ cap := by
    obtain ⟨fuel, hf⟩ := h1
    obtain ⟨ao, L, cap, rfl⟩ := okWide_slice Try.undEvs' (hval 1 24 v1 rfl rfl)
    obtain ⟨ao2, L2, cap2, es, hh⟩ := evs_open (d := d1) (ps := p1) hf (fun n hn => of_decide_eq_true (List.all_eq_true.1 hsz n (DataW.weights_mem_each (j := 1) (t := 24) rfl rfl n hn)))
    rcases hh with ⟨e, h1, h2, h3, _, _⟩ | e
    · exact ⟨ao2, L2, cap2, es, e, h1, h2, h3⟩
    · exact ⟨none, 0, 0, [], e, ERs.nil _ _, rfl, Nat.le_refl _⟩
  obtain ⟨n2, rfl, rfl, rfl, w2⟩ := open_int Try.underlying25 (hval 2 25 v2 rfl rfl) h2
  have b2 := bounds_u16 w2
  obtain ⟨m2, rfl⟩ : ∃ m : Nat, n2 = (m : Int) := ⟨n2.toNat, by omega⟩
  clear hA0 hval0
  refine (walk ca0 cb0 cc0 cd0 a1 len1 cap1 es1 m2 (by omega) W hB0 hB1 hL1 hC1).mono fun e W' ⟨he, hf⟩ => ?_
  subst he
  have bel : Below W.heap.size W W' := hf.below (Nat.le_refl _) (by simp)
  exact ⟨_, rfl, _, _, _, [], _, [], hW', trodAll_mk1 (shut_bool Try.underlying4 _), (trodAll_cons_mk (Below.trod laidOut (by kernel_rfl) (of_decide_eq_true (by kernel_rfl)) k0 bel lt0) (trodAll_cons_mk (Below.trod laidOut (by kernel_rfl) (of_decide_eq_true (by kernel_rfl)) k1 bel lt1) (trodAll_cons_mk (shut_int Try.underlying25 w2) trodAll_mk0))), rfl, bel.frame _, fun h => by cases h⟩

theorem over : Rows.statPartsRow.holds Try.pinned (OpenSpec.ofChange Rows.statPartsSpec) :=
  OpenClaim.holds_of_wide 3 Try.f3 rfl rfl rfl rfl rfl rfl rfl ⟨rfl, rfl, rfl, rfl, rfl⟩ rfl rfl rfl rfl rfl (by kernel_rfl) Try.func3 (by kernel_rfl)
    (of_decide_eq_true (by kernel_rfl)) (by unfold Func.isWrapper; first | (rw [if_pos (by decide +kernel)]; kernel_rfl) | (rw [if_neg (by decide +kernel)]; exact ⟨rfl, rfl⟩))
    (fun os started H enc _ => lifted os started H enc)
end Go.Proofs.Ytfhfjplhfjlpaaa.statParts
namespace Go.Proofs.Ytfhfjplhfjlpaaa
theorem statparts_holds : Rows.StatPartsSaid := statParts.over
#print axioms statparts_holds
end Go.Proofs.Ytfhfjplhfjlpaaa
