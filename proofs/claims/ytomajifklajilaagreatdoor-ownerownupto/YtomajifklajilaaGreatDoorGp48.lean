/- Texts of this claim laid together, one behind the other: contracts and plain lemmas; conditions as each names them. -/
import Derived.Test.YtomajifklajilaaGreatDoorGp47
import Derived.Test.YtomajifklajilaaGreatDoorRows
import Derived.Test.YtomajifklajilaaGreatDoorGp24
/- The walk of the law OwnerOwn. Conditions: how its arguments lie in memory, no more than 1048576 keys; the table of powers of ten reads as the library lays it. -/
namespace Go.Proofs.YtomajifklajilaaGreatDoor
open Go.ChangeShapes Go.WideShapes Go.ChangeAt Go.RowKit Go.Lib Go.Maps
set_option linter.unusedVariables false
set_option linter.unusedSimpArgs false
/-- An owner, a Book that was told nothing, and blocks H that are none of the owner's. -/
structure Sx (w0 : World) (ob sb b g bk : Nat) (H : Nat → Prop) (n : Nat) (M : ByteArray → List Vn) (w : World) : Prop where
  ow : ∃ pb rs, OwS w0 (fun _ => False) w ob sb b n g pb 4 M rs ∧ Nh ob sb b g pb H w
  bx : w.heap[bk]? = some (.cells Bq.newBk 46 (0, 0))
  hb : H bk
  h0 : ∀ j, H j → w0.heap.size ≤ j
section
variable {w0 w w' : World} {ob sb b g bk n : Nat} {H : Nat → Prop} {M : ByteArray → List Vn}
theorem Sx.fr (h : Sx w0 ob sb b g bk H n M w) : Fr [] w0 w := by
  obtain ⟨pb, rs, h1, _⟩ := h.ow
  exact h1.fr
theorem Sx.lt (h : Sx w0 ob sb b g bk H n M w) {j : Nat} (hj : H j) : j < w.heap.size := by
  obtain ⟨pb, rs, _, h2⟩ := h.ow
  exact (h2 j hj).1
/-- New memory; some of it may be kept an eye on. -/
theorem Sx.add (h : Sx w0 ob sb b g bk H n M w) (hf : Fr [] w w') (X : Nat → Prop) (hX : ∀ j, X j → w.heap.size ≤ j ∧ j < w'.heap.size) : Sx w0 ob sb b g bk (fun j => H j ∨ X j) n M w' := by
  obtain ⟨pb, rs, h1, h2⟩ := h.ow
  refine ⟨⟨pb, rs, h1.same hf, fun j hj => ?_⟩, hf.keep h.bx (by simp), Or.inl h.hb, fun j hj => ?_⟩
  · rcases hj with q | q
    · exact h2.same h1 hf j q
    · exact ⟨(hX j q).2, fun r => by have := h1.ltA (r.backS hf (by simp) h1.sh.bl); have := (hX j q).1; omega⟩
  · rcases hj with q | q
    · exact h.h0 j q
    · have := (hX j q).1; have := h1.fr.size; omega
theorem Sx.less (h : Sx w0 ob sb b g bk H n M w) {H' : Nat → Prop} (hb : H' bk) (hs : ∀ j, H' j → H j) : Sx w0 ob sb b g bk H' n M w := by
  obtain ⟨pb, rs, h1, h2⟩ := h.ow
  exact ⟨⟨pb, rs, h1, fun j hj => h2 j (hs j hj)⟩, h.bx, hb, fun j hj => h.h0 j (hs j hj)⟩
theorem sx_ask (h : Sx w0 ob sb b g bk H n M w) (x : Rv) (ns : List Int) (hR : RqB w x ns) : Calls Tryz.prog 6 #[.pointer (some ⟨ob, 0, none⟩), x.v] w fun e w' => ∃ (ok : Bool) (er : Int), e = .returned (.tuple #[.bool ok, .int .i64 er]) ∧ Sx w0 ob sb b g bk H n M w' := by
  obtain ⟨pb, rs, h1, h2⟩ := h.ow
  refine (os_ask1 h1 x ns hR).mono ?_
  rintro e w' ⟨ok, er, pb', rs', rfl, hO, hF, hp⟩
  obtain ⟨z1, z2⟩ := h2.call h1 hF hp
  exact ⟨ok, er, rfl, ⟨pb', rs', hO, z1⟩, (z2 bk h.hb).trans h.bx, h.hb, h.h0⟩
theorem sx_serve (h : Sx w0 ob sb b g bk H n M w) (hn : n < 3518437208882) : Calls Tryz.prog 7 #[.pointer (some ⟨ob, 0, none⟩)] w fun e w' => ∃ (f : Int) (ok : Bool) (eo : Option Addr) (el ec : Nat) (ho : Option Addr) (hl hc : Nat) (c er : Int) (M' : ByteArray → List Vn) (R : Nat → Prop), e = .returned (.tuple #[.agg #[.int .i64 f, .bool ok, .slice eo el ec, .slice ho hl hc, .int .i64 c], .int .i64 er]) ∧ Sx w0 ob sb b g bk (fun j => H j ∨ R j) (n + 1) M' w' ∧ Rp w w' n R eo el ec ho hl hc ∧ (∀ j, R j → w.heap.size ≤ j) ∧ (∀ j, H j → w'.heap[j]? = w.heap[j]?) ∧ w.heap.size ≤ w'.heap.size := by
  obtain ⟨pb, rs, h1, h2⟩ := h.ow
  refine (os_serve1 h1 hn).mono ?_
  rintro e w' ⟨f, ok, eo, el, ec, ho, hl, hc, c, er, M', rs', R, rfl, hO, hF, hRp, hN, hR⟩
  obtain ⟨z1, z2⟩ := h2.call h1 hF (pb' := pb) (fun k e => Or.inl e)
  have s0 := h1.fr.size
  refine ⟨f, ok, eo, el, ec, ho, hl, hc, c, er, M', R, rfl, ⟨⟨pb, rs', hO, fun j hj => ?_⟩, (z2 bk h.hb).trans h.bx, Or.inl h.hb, fun j hj => ?_⟩, hRp, hR, z2, hF.size⟩
  · rcases hj with q | q
    · exact z1 j q
    · exact hN j q
  · rcases hj with q | q
    · exact h.h0 j q
    · have := hR j q; omega
theorem os_all1 {pb : Option Nat} {C : Nat} {rs : List Rq} (h1 : OwS w0 (fun _ => False) w ob sb b n g pb C M rs) (hn : n < 3518437208880) : Calls Tryz.prog 8 #[.pointer (some ⟨ob, 0, none⟩)] w fun e w' => ∃ ro N rc hs, e = .returned (.slice ro N rc) ∧ HOut w w' ro N rc hs ∧ N ≤ n ∧ PkT M M hs ∧ LoOk hs ∧ Fr [] w w' := by
  refine (os_all h1 (by omega)).mono ?_
  rintro e w' ⟨ro, N, rc, hs, rfl, hO, hN, hP, hF⟩
  exact ⟨ro, N, rc, hs, rfl, hO, hN, hP, hP.ok h1.sh.keyO h1.sh.ok, hF⟩
theorem Sx.book (h : Sx w0 ob sb b g bk H n M w) : ∃ pb rs, Ob w0 w0 w ob sb b n g pb 4 M rs bk 0 [bk] ∧ Nh ob sb b g pb H w := by
  obtain ⟨pb, rs, h1, h2⟩ := h.ow
  exact ⟨pb, rs, ⟨h1, ⟨.slice none 0 0, .slice none 0 0, .slice none 0 0, [], [], [], Bq.B3.new h.bx (h.h0 bk h.hb), by simp [Bq.kbs, Bq.own3, Bq.lbs, Value.ownBlock]⟩, fun j hj => by
    simp only [List.mem_singleton] at hj
    subst hj
    exact ⟨h.h0 j h.hb, (h2 j h.hb).2⟩⟩, h2⟩
end
set_option maxHeartbeats 8000000 in
set_option maxRecDepth 100000 in
theorem own_walk (ao : Option Addr) (L cap : Nat) (ts : List Hd) (x : Rv) (ns : List Int) (w : World) (hH : HRs w ao ts) (hL : L = ts.length) (hm : L ≤ 1048576) (hR : RqB w x ns) (htab : Bq.Tab w) :
    Calls Tryz.prog 3 #[.slice ao L cap, x.v] w fun e w' => e = .returned (.bool true) ∧ Fr [] w w' := by
  obtain ⟨xk, xf, xn, xa, xb, xd, xc, xe, xo, xl, xm⟩ := x
  obtain ⟨wz, HWz⟩ : ∃ wz, Hid (w.alloc (.cells #[.int .u8 xk, .int .i64 xf, .int .i64 xn, .string xa, .string xb, .bool xd, .string xc, .string xe, .slice xo xl xm] 28) = wz) := ⟨_, rfl⟩
  have hF0 : Fr [] w wz := by rw [← HWz.out]; exact Fr.alloc [] w _
  have hr0 : wz.heap[w.heap.size]? = some (.cells #[.int .u8 xk, .int .i64 xf, .int .i64 xn, .string xa, .string xb, .bool xd, .string xc, .string xe, .slice xo xl xm] 28 (0, 0)) := by rw [← HWz.out]; exact heap_alloc_new w _
  obtain ⟨Z, HZ⟩ : ∃ Z, Hid (w.heap.size = Z) := ⟨_, rfl⟩
  rw [HZ.out] at hr0
  have HNw : Hid (Calls _ _ _ _ _) := onew_any 0 4 ao L cap ts wz (by unfold okN; omega) (hH.keep hF0) hL
  have HF0 : Hid (Fr [] w wz) := hF0
  have HTb : Hid (Bq.Tab wz) := htab.keep hF0 (by simp)
  have HRq : Hid (∀ W, Fr [] wz W → RqB W ⟨xk, xf, xn, xa, xb, xd, xc, xe, xo, xl, xm⟩ ns) := fun W hf => hR.keep (hF0.then hf)
  have HC : Hid (∀ W, Fr [] wz W → W.cell? ⟨Z, 0, none⟩ = some (.int .u8 xk) ∧ W.cell? ⟨Z, 1, none⟩ = some (.int .i64 xf) ∧ W.cell? ⟨Z, 2, none⟩ = some (.int .i64 xn) ∧ W.cell? ⟨Z, 3, none⟩ = some (.string xa) ∧ W.cell? ⟨Z, 4, none⟩ = some (.string xb) ∧ W.cell? ⟨Z, 5, none⟩ = some (.bool xd) ∧ W.cell? ⟨Z, 6, none⟩ = some (.string xc) ∧ W.cell? ⟨Z, 7, none⟩ = some (.string xe) ∧ W.cell? ⟨Z, 8, none⟩ = some (.slice xo xl xm)) := fun W hf => by
    have h := hf.keep hr0 (by simp)
    refine ⟨?_, ?_, ?_, ?_, ?_, ?_, ?_, ?_, ?_⟩ <;> (rw [cell_of_row _ _ _ _ _ _ h]; rfl)
  clear hH hL hR htab hF0 hr0
  simp only [Rv.v]
  go_enter Tryz.func3, Tryz.ntmps3
  go_upto_region 1 with fail
  rw [HWz.out, HZ.out]
  clear HWz HZ
  go_wp2_with fail
  refine Calls.mono HNw.out ?_
  rintro e v1 (⟨hl, rfl, hF1⟩ | ⟨hl, ob, sb, b, g, rfl, hO⟩)
  · have HF1 : Hid (Fr [] wz v1) := hF1
    clear hF1 HNw hl
    go_wp2_with fail
    refine (lives_any _).mono ?_
    rintro e w3 ⟨rfl, hF3⟩
    go_wp2
    go_ret
    exact ⟨rfl, HF0.out.then (HF1.out.then hF3)⟩
  have HO : Hid (OwS wz (fun _ => False) v1 ob sb b L g none (4 : Int).toNat (mOf ts) []) := hO
  clear hO HNw hl
  obtain ⟨bk, HBk⟩ : ∃ bk, Hid (bk = v1.heap.size) := ⟨_, rfl⟩
  obtain ⟨v2, HV2⟩ : ∃ v2, Hid (v2 = v1.alloc (.cells Bq.newBk 46)) := ⟨_, rfl⟩
  have hS2 : Sx wz ob sb b g bk (fun j => j = bk) L (mOf ts) v2 := by
    have hf : Fr [] v1 v2 := by rw [HV2.out]; exact Fr.alloc _ _ _
    have hb : v2.heap[bk]? = some (.cells Bq.newBk 46 (0, 0)) := by rw [HV2.out, HBk.out]; exact heap_alloc_new v1 _
    refine ⟨⟨none, [], HO.out.same hf, fun j hj => ⟨by rw [hj]; exact lt_of_block hb, fun r => ?_⟩⟩, hb, rfl, fun j hj => ?_⟩
    · have := HO.out.ltA (r.backS hf (by simp) HO.out.sh.bl)
      have := HBk.out
      omega
    · rw [hj, HBk.out]; exact HO.out.fr.size
  have HS2 : Hid (Sx wz ob sb b g bk (fun j => j = bk) L (mOf ts) v2) := hS2
  unfold Bq.newBk at HV2
  clear hS2 HO
  go_upto_region 5 with fail
  rw [← HV2.out, ← HBk.out]
  clear HV2 HBk
  -- both asks
  have H1 : Hid (Calls _ _ _ _ _) := sx_ask HS2.out ⟨xk, xf, xn, xa, xb, xd, xc, xe, xo, xl, xm⟩ ns (HRq.out _ HS2.out.fr)
  obtain ⟨t0, t1, t2, t3, t4, t5, t6, t7, t8⟩ := HC.out _ HS2.out.fr
  simp only [Rv.v] at H1
  go_wp2_with fail
  refine Calls.mono H1.out ?_
  rintro e v3 ⟨ok1, er1, rfl, hS3⟩
  have HS3 : Hid (Sx wz ob sb b g bk (fun j => j = bk) L (mOf ts) v3) := hS3
  clear hS3 H1 t0 t1 t2 t3 t4 t5 t6 t7 t8 HS2
  have H1 : Hid (Calls _ _ _ _ _) := sx_ask HS3.out ⟨xk, xf, xn, xa, xb, xd, xc, xe, xo, xl, xm⟩ ns (HRq.out _ HS3.out.fr)
  obtain ⟨t0, t1, t2, t3, t4, t5, t6, t7, t8⟩ := HC.out _ HS3.out.fr
  simp only [Rv.v] at H1
  go_wp2_with fail
  refine Calls.mono H1.out ?_
  rintro e v4 ⟨ok2, er2, rfl, hS4⟩
  have HS4 : Hid (Sx wz ob sb b g bk (fun j => j = bk) L (mOf ts) v4) := hS4
  clear hS4 H1 t0 t1 t2 t3 t4 t5 t6 t7 t8 HS3
  -- both serves
  have H1 : Hid (Calls _ _ _ _ _) := sx_serve HS4.out (by omega)
  go_wp2_with fail
  refine Calls.mono H1.out ?_
  rintro e v5 ⟨f1, k1, eo1, el1, ec1, ho1, hl1, hc1, c1, r1, M1, R1, rfl, hS5, hR1, hN1, _, hs5⟩
  obtain ⟨A, HA⟩ : ∃ A, Hid (A = v5.heap.size) := ⟨_, rfl⟩
  obtain ⟨v6, HV6⟩ : ∃ v, Hid (v = v5.alloc (.cells #[.int .i64 f1, .bool k1, .slice eo1 el1 ec1, .slice ho1 hl1 hc1, .int .i64 c1] 51)) := ⟨_, rfl⟩
  have hf6 : Fr [] v5 v6 := by rw [HV6.out]; exact Fr.alloc _ _ _
  have hA6 : v6.heap[A]? = some (.cells #[.int .i64 f1, .bool k1, .slice eo1 el1 ec1, .slice ho1 hl1 hc1, .int .i64 c1] 51 (0, 0)) := by rw [HV6.out, HA.out]; exact heap_alloc_new v5 _
  have HS6 : Hid (Sx wz ob sb b g bk (fun j => (j = bk ∨ R1 j) ∨ j = A) (L + 1) M1 v6) := hS5.add hf6 (fun j => j = A) (fun j hj => by rw [hj]; exact ⟨by rw [HA.out]; exact Nat.le_refl _, lt_of_block hA6⟩)
  have s45 : v4.heap.size ≤ v5.heap.size := hs5
  have HR1 : Hid (Rp v4 v6 L R1 eo1 el1 ec1 ho1 hl1 hc1 ∧ (∀ j, R1 j → v4.heap.size ≤ j ∧ j < v5.heap.size) ∧ bk < v4.heap.size ∧ A = v5.heap.size ∧ v4.heap.size ≤ v5.heap.size ∧ v5.heap.size < v6.heap.size) := ⟨hR1.move (fun j q => hf6.block j (hS5.lt (Or.inr q)) (by simp)), fun j q => ⟨hN1 j q, hS5.lt (Or.inr q)⟩, HS4.out.lt rfl, HA.out, s45, by rw [HV6.out]; simp⟩
  have HA6 := (show Hid _ from hA6)
  clear hS5 hR1 hN1 hA6 hf6 H1 HS4 s45 hs5
  go_upto_region 8 with fail
  rw [← HV6.out, ← HA.out]
  clear HV6 HA
  have H1 : Hid (Calls _ _ _ _ _) := sx_serve HS6.out (by omega)
  go_wp2_with fail
  refine Calls.mono H1.out ?_
  rintro e v7 ⟨f2, k2, eo2, el2, ec2, ho2, hl2, hc2, c2, r2, M2, R2, rfl, hS7, hR2, hN2, hK7, hs7⟩
  obtain ⟨D, HD⟩ : ∃ A, Hid (A = v7.heap.size) := ⟨_, rfl⟩
  obtain ⟨v8, HV8⟩ : ∃ v, Hid (v = v7.alloc (.cells #[.int .i64 f2, .bool k2, .slice eo2 el2 ec2, .slice ho2 hl2 hc2, .int .i64 c2] 51)) := ⟨_, rfl⟩
  have hf8 : Fr [] v7 v8 := by rw [HV8.out]; exact Fr.alloc _ _ _
  have hD8 : v8.heap[D]? = some (.cells #[.int .i64 f2, .bool k2, .slice eo2 el2 ec2, .slice ho2 hl2 hc2, .int .i64 c2] 51 (0, 0)) := by rw [HV8.out, HD.out]; exact heap_alloc_new v7 _
  have k68 : ∀ j, ((j = bk ∨ R1 j) ∨ j = A) → v8.heap[j]? = v6.heap[j]? := fun j q => (hf8.block j (hS7.lt (Or.inl q)) (by simp)).trans (hK7 j q)
  have HS8 : Hid (Sx wz ob sb b g bk (fun j => ((j = bk ∨ R1 j) ∨ j = A) ∨ R2 j) (L + 1 + 1) M2 v8) := (hS7.add hf8 (fun _ => False) (fun j q => q.elim)).less (Or.inl (Or.inl (Or.inl rfl))) (fun j q => Or.inl q)
  have HR2 : Hid (Rp v6 v8 (L + 1) R2 eo2 el2 ec2 ho2 hl2 hc2 ∧ (∀ j, R2 j → v6.heap.size ≤ j ∧ j < v7.heap.size) ∧ Rp v4 v8 L R1 eo1 el1 ec1 ho1 hl1 hc1 ∧ D = v7.heap.size ∧ v6.heap.size ≤ v7.heap.size ∧ v7.heap.size < v8.heap.size) := ⟨hR2.move (fun j q => hf8.block j (hS7.lt (Or.inr q)) (by simp)), fun j q => ⟨hN2 j q, hS7.lt (Or.inr q)⟩, HR1.out.1.move (fun j q => k68 j (Or.inl (Or.inr q))), HD.out, hs7, by rw [HV8.out]; simp⟩
  have HB8 : Hid (v8.heap[A]? = some (.cells #[.int .i64 f1, .bool k1, .slice eo1 el1 ec1, .slice ho1 hl1 hc1, .int .i64 c1] 51 (0, 0)) ∧ v8.heap[D]? = some (.cells #[.int .i64 f2, .bool k2, .slice eo2 el2 ec2, .slice ho2 hl2 hc2, .int .i64 c2] 51 (0, 0))) := ⟨(k68 A (Or.inr rfl)).trans HA6.out, hD8⟩
  clear hS7 hR2 hN2 hK7 hs7 hD8 hf8 H1 HS6 k68 HA6
  go_upto_region 9 with fail
  rw [← HV8.out, ← HD.out]
  clear HV8 HD
  obtain ⟨pb8, rs8, ho8, hn8⟩ := HS8.out.ow
  have H1 : Hid (Calls _ _ _ _ _) := os_all1 ho8 (by omega)
  clear ho8 hn8
  go_wp2_with fail
  refine Calls.mono H1.out ?_
  rintro e v9 ⟨ro, N, rc, hs, rfl, hW, hNn, hP, hlo, hF9⟩
  have HS9 : Hid (Sx wz ob sb b g bk (fun j => ((j = bk ∨ R1 j) ∨ j = A) ∨ R2 j) (L + 1 + 1) M2 v9) := (HS8.out.add hF9 (fun _ => False) (fun j q => q.elim)).less (Or.inl (Or.inl (Or.inl rfl))) (fun j q => Or.inl q)
  have HW : Hid (HOut v8 v9 ro N rc hs ∧ N ≤ L + 1 + 1 ∧ PkT M2 M2 hs ∧ LoOk hs ∧ v8.heap.size ≤ v9.heap.size) := ⟨hW, hNn, hP, hlo, hF9.size⟩
  have HR9 : Hid (Rp v6 v9 (L + 1) R2 eo2 el2 ec2 ho2 hl2 hc2 ∧ Rp v4 v9 L R1 eo1 el1 ec1 ho1 hl1 hc1) := ⟨HR2.out.1.move (fun j q => hF9.block j (HS8.out.lt (Or.inr q)) (by simp)), HR2.out.2.2.1.move (fun j q => hF9.block j (HS8.out.lt (Or.inl (Or.inl (Or.inr q)))) (by simp))⟩
  have HB9 : Hid (v9.heap[A]? = some (.cells #[.int .i64 f1, .bool k1, .slice eo1 el1 ec1, .slice ho1 hl1 hc1, .int .i64 c1] 51 (0, 0)) ∧ v9.heap[D]? = some (.cells #[.int .i64 f2, .bool k2, .slice eo2 el2 ec2, .slice ho2 hl2 hc2, .int .i64 c2] 51 (0, 0))) := ⟨hF9.keep HB8.out.1 (by simp), hF9.keep HB8.out.2 (by simp)⟩
  clear hW hNn hP hlo hF9 H1 HS8 HB8
  -- the Book is told both replies
  obtain ⟨pb, rs, hOb, hNh⟩ := HS9.out.book
  have HOb : Hid (Ob wz wz v9 ob sb b (L + 1 + 1) g pb 4 M2 rs bk 0 [bk] ∧ Nh ob sb b g pb (fun j => ((j = bk ∨ R1 j) ∨ j = A) ∨ R2 j) v9) := ⟨hOb, hNh⟩
  clear hOb hNh
  have H1 : Hid (Calls _ _ _ _ _) := ob_resp HOb.out.1 HR9.out.2 (fun j q => ⟨⟨HS9.out.h0 j (Or.inl (Or.inl (Or.inr q))), (HOb.out.2 j (Or.inl (Or.inl (Or.inr q)))).2⟩, by simp only [List.mem_singleton]; have := HR1.out.2.1 j q; have := HR1.out.2.2.1; omega, (HOb.out.2 j (Or.inl (Or.inl (Or.inr q)))).1⟩) (by omega) (by omega) f1 c1 k1
  have a0 : v9.cell? ⟨A, 0, none⟩ = some (.int .i64 f1) := by rw [cell_of_row _ _ _ _ _ _ HB9.out.1]; rfl
  have a1 : v9.cell? ⟨A, 1, none⟩ = some (.bool k1) := by rw [cell_of_row _ _ _ _ _ _ HB9.out.1]; rfl
  have a2 : v9.cell? ⟨A, 2, none⟩ = some (.slice eo1 el1 ec1) := by rw [cell_of_row _ _ _ _ _ _ HB9.out.1]; rfl
  have a3 : v9.cell? ⟨A, 3, none⟩ = some (.slice ho1 hl1 hc1) := by rw [cell_of_row _ _ _ _ _ _ HB9.out.1]; rfl
  have a4 : v9.cell? ⟨A, 4, none⟩ = some (.int .i64 c1) := by rw [cell_of_row _ _ _ _ _ _ HB9.out.1]; rfl
  go_wp2_with fail
  refine Calls.mono H1.out ?_
  rintro e v10 ⟨rfl, KB1, hb1, hk1, hp1, hz1, ho1'⟩
  have hDb : D ≠ bk := by have := HR2.out; have := HR1.out; omega
  have hDl : D < v9.heap.size := lt_of_block HB9.out.2
  have HD10 : Hid (v10.heap[D]? = some (.cells #[.int .i64 f2, .bool k2, .slice eo2 el2 ec2, .slice ho2 hl2 hc2, .int .i64 c2] 51 (0, 0))) := (hp1 D hDl (by simpa using hDb)).trans HB9.out.2
  have r2lt : ∀ j, R2 j → j < v9.heap.size := fun j q => (HOb.out.2 j (Or.inr q)).1
  have r2bk : ∀ j, R2 j → j ≠ bk := fun j q => by have := HR2.out.2.1 j q; have := HR1.out.2.2; omega
  have HR10 : Hid (Rp v6 v10 (L + 1) R2 eo2 el2 ec2 ho2 hl2 hc2) := HR9.out.1.move (fun j q => hp1 j (r2lt j q) (by simpa using r2bk j q))
  have h1e : hl1 ≤ L := by obtain ⟨_, _, _, _, _, _, q, _⟩ := HR9.out.2; exact q
  have HQ1 : Hid (Ob wz wz v10 ob sb b (L + 1 + 1) g pb 4 M2 rs bk (0 + hl1 + 2) KB1 ∧ (∀ j ∈ KB1, j ∈ [bk] ∨ R1 j ∨ v9.heap.size ≤ j) ∧ (∀ j, j < v9.heap.size → j ∉ [bk] → v10.heap[j]? = v9.heap[j]?) ∧ v9.heap.size ≤ v10.heap.size ∧ ∀ j, OwnA ob sb b g pb v10 j → OwnA ob sb b g pb v9 j) := ⟨hb1, hk1, hp1, hz1, ho1'⟩
  clear hb1 hk1 hp1 hz1 ho1' H1 a0 a1 a2 a3 a4 hDb hDl
  have H1 : Hid (Calls _ _ _ _ _) := ob_resp HQ1.out.1 HR10.out (fun j q => ⟨⟨HS9.out.h0 j (Or.inr q), fun r => (HOb.out.2 j (Or.inr q)).2 (HQ1.out.2.2.2.2 j r)⟩, fun hm => by
      have g1 := HR2.out.2.1 j q
      have g2 := r2lt j q
      rcases HQ1.out.2.1 j hm with r | r | r
      · exact r2bk j q (by simpa using r)
      · have := HR1.out.2.1 j r
        have := HR1.out.2.2
        omega
      · omega, Nat.lt_of_lt_of_le (r2lt j q) HQ1.out.2.2.2.1⟩) (by omega) (by omega) f2 c2 k2
  have a0 : v10.cell? ⟨D, 0, none⟩ = some (.int .i64 f2) := by rw [cell_of_row _ _ _ _ _ _ HD10.out]; rfl
  have a1 : v10.cell? ⟨D, 1, none⟩ = some (.bool k2) := by rw [cell_of_row _ _ _ _ _ _ HD10.out]; rfl
  have a2 : v10.cell? ⟨D, 2, none⟩ = some (.slice eo2 el2 ec2) := by rw [cell_of_row _ _ _ _ _ _ HD10.out]; rfl
  have a3 : v10.cell? ⟨D, 3, none⟩ = some (.slice ho2 hl2 hc2) := by rw [cell_of_row _ _ _ _ _ _ HD10.out]; rfl
  have a4 : v10.cell? ⟨D, 4, none⟩ = some (.int .i64 c2) := by rw [cell_of_row _ _ _ _ _ _ HD10.out]; rfl
  go_wp2_with fail
  refine Calls.mono H1.out ?_
  rintro e v11 ⟨rfl, KB2, hb2, hk2, hp2, hz2, _⟩
  have h2e : hl2 ≤ L + 1 := by obtain ⟨_, _, _, _, _, _, q, _⟩ := HR10.out; exact q
  have HQ2 : Hid (Ob wz wz v11 ob sb b (L + 1 + 1) g pb 4 M2 rs bk (0 + hl1 + 2 + hl2 + 2) KB2 ∧ (∀ j ∈ KB2, j ∈ KB1 ∨ R2 j ∨ v10.heap.size ≤ j) ∧ (∀ j, j < v10.heap.size → j ∉ KB1 → v11.heap[j]? = v10.heap[j]?) ∧ v10.heap.size ≤ v11.heap.size) := ⟨hb2, hk2, hp2, hz2⟩
  clear hb2 hk2 hp2 hz2 H1 a0 a1 a2 a3 a4
  -- and all
  have H1 : Hid (Calls _ _ _ _ _) := os_all1 HQ2.out.1.ow (by omega)
  go_wp2_with fail
  refine Calls.mono H1.out ?_
  rintro e v12 ⟨ro3, N3, rc3, hs3, rfl, hW3, hNn3, hP3, hlo3, hF12⟩
  have hOb3 := HQ2.out.1.same hF12
  have HF12 : Hid (Fr [] v11 v12) := hF12
  have lt3 : ∀ j ∈ KB2, j < v11.heap.size := HQ2.out.1.lt
  have nA3 : ∀ j, (v11.heap.size ≤ j) → wz.heap.size ≤ j ∧ ¬ OwnA ob sb b g pb v12 j := fun j q => ⟨by have := HQ2.out.1.ow.fr.size; omega, fun r => by have := HQ2.out.1.ow.ltA (r.backS hF12 (by simp) HQ2.out.1.ow.sh.bl); omega⟩
  have H2 : Hid (Calls _ _ _ _ _) := ob_helds (H := fun j => v11.heap.size ≤ j) hOb3 hW3 (fun x hx => Nat.le_trans (okV_few (hlo3.2 x hx).2.2) (by omega)) nA3 (fun k q => by
      have g := (owns_cells hW3.row q).1
      exact ⟨g, fun hm => by have := lt3 k hm; omega⟩) (fun x hx a q => by
      have g := ((hW3.each x hx).block a q).1
      exact ⟨g, fun hm => by have := lt3 _ hm; omega⟩) (by omega) (by omega)
  clear hW3 hNn3 hP3 hlo3 hF12 hOb3 lt3 nA3 H1
  go_wp2_with fail
  refine Calls.mono H2.out ?_
  rintro e v13 ⟨rfl, KB3, S3, hb3, hk3, hf3, hs3', _⟩
  have HQ3 : Hid (Ob wz wz v13 ob sb b (L + 1 + 1) g pb 4 M2 rs bk (0 + hl1 + 2 + hl2 + 2 + N3 + 1) KB3 ∧ (∀ j ∈ KB3, j ∈ KB2 ∨ v11.heap.size ≤ j ∨ v12.heap.size ≤ j) ∧ Fr S3 v12 v13 ∧ ∀ j ∈ S3, j ∈ KB2) := ⟨hb3, hk3, hf3, hs3'⟩
  clear hb3 hk3 hf3 hs3' H2
  have H1 : Hid (Calls _ _ _ _ _) := ob_apart HQ3.out.1 HTb.out
  go_wp2_with fail
  refine Calls.mono H1.out ?_
  rintro e v14 ⟨rfl, hO14, S4, hf4, hs4⟩
  have HO14 : Hid (OwS wz (fun _ => False) v14 ob sb b (L + 1 + 1) g pb 4 M2 rs) := hO14
  have HW14 : Hid (HOut v8 v14 ro N rc hs) := HW.out.1.move (fun j g1 g2 => by
      have z1 := HR1.out.2.2
      have z2 := HR2.out.2.2.2
      have nK1 : j ∉ KB1 := fun hm => by
        rcases HQ1.out.2.1 j hm with r | r | r
        · have : j = bk := by simpa using r
          omega
        · have := HR1.out.2.1 j r
          omega
        · omega
      have nK2 : j ∉ KB2 := fun hm => by
        rcases HQ2.out.2.1 j hm with r | r | r
        · exact nK1 r
        · have := HR2.out.2.1 j r
          omega
        · have := HQ1.out.2.2.2.1
          omega
      have y1 := HQ1.out.2.2.2.1
      have y2 := HQ2.out.2.2.2
      have y3 := HF12.out.size
      have y4 := HQ3.out.2.2.1.size
      have nK3 : j ∉ KB3 := fun hm => by
        rcases HQ3.out.2.1 j hm with r | r | r
        · exact nK2 r
        · omega
        · omega
      rw [hf4.block j (by omega) (fun hm => nK3 (hs4 j hm)), HQ3.out.2.2.1.block j (by omega) (fun hm => nK2 (HQ3.out.2.2.2 j hm)), HF12.out.block j (by omega) (by simp), HQ2.out.2.2.1 j (by omega) nK1, HQ1.out.2.2.1 j (by omega) (by simp only [List.mem_singleton]; omega)]) (Nat.le_refl _)
  clear hO14 hf4 hs4 H1
  have H1 : Hid (Calls _ _ _ _ _) := os_all1 HO14.out (by omega)
  go_wp2_with fail
  refine Calls.mono H1.out ?_
  rintro e v15 ⟨ro5, N5, rc5, hs5, rfl, hW5, hNn5, hP5, hlo5, hF15⟩
  have e1 : hs.map hkv = hs5.map hkv := HW.out.2.2.1.one hP5
  have l1 : hs.length = hs5.length := by have := congrArg List.length e1; simpa using this
  have HC2 : Hid (Calls Tryz.prog 12 #[.slice ro N rc, .slice ro5 N5 rc5] v15 fun e w' => e = .returned (.bool true) ∧ Fr [] v15 w') := by
    have e3 : N5 = N := by rw [hW5.len, HW14.out.len, l1]
    subst e3
    exact sameHelds_any ro ro5 N5 rc rc5 hs hs5 v15 ((HW14.out.rs HW.out.2.2.2.1 (by omega)).keep hF15) (hW5.rs hlo5 (by omega)) HW14.out.len e1
  have HF15 : Hid (Fr [] wz v15) := HO14.out.fr.then hF15
  clear hW5 hNn5 hP5 hlo5 hF15 e1 l1 H1
  go_wp2_with fail
  refine Calls.mono HC2.out ?_
  rintro e v16 ⟨rfl, hF16⟩
  have HF16 : Hid (Fr [] wz v16) := HF15.out.then hF16
  clear hF16 HC2
  go_wp2_with fail
  refine (lives_any _).mono ?_
  rintro e v17 ⟨rfl, hF17⟩
  go_wp2
  go_ret
  exact ⟨rfl, HF0.out.then (HF16.out.then hF17)⟩
end Go.Proofs.YtomajifklajilaaGreatDoor
/- What a bound on the bulk of what came in says of a slice. Conditions as each names them. -/
namespace Go.Proofs.YtomajifklajilaaGreatDoor
open Go.ChangeShapes Go.WideShapes Go.ChangeAt Go.RowKit Go.Lib
set_option linter.unusedVariables false
set_option linter.unusedSimpArgs false
section
variable {H : Type} {enc : TypeId × Value → H} {w : World}
theorem bulk_one (d : DataW H) : 1 ≤ Rows.uptoBulk d := by
  cases d with
  | lit l => cases l <;> simp [Rows.uptoBulk]
  | _ => simp [Rows.uptoBulk]
theorem bulk_mem {d : DataW H} : ∀ {l : List (DataW H)}, d ∈ l → Rows.uptoBulk d ≤ Rows.uptoBulkAll l
  | [], h => by cases h
  | x :: r, h => by
    simp only [Rows.uptoBulkAll]
    rcases List.mem_cons.1 h with e | e
    · subst e; omega
    · have := bulk_mem e; omega
theorem bulk_len : ∀ l : List (DataW H), l.length ≤ Rows.uptoBulkAll l
  | [] => by simp [Rows.uptoBulkAll]
  | x :: r => by have := bulk_one x; have := bulk_len r; simp only [Rows.uptoBulkAll, List.length_cons]; omega
theorem bulk_slice {t e : TypeId} {fuel : Nat} {ao : Option Addr} {L cap : Nat} {x : DataW H × List MemPlace} (ht : Tryz.prog.underlying t = some (.slice e)) (h : DataW.trod enc Tryz.prog w 0 (fun _ => true) true fuel t [.slice ao L cap] = some x) : L ≤ Rows.uptoBulk x.1 := by
  rcases Go.Deep.open_slice ht h with ⟨hcs, _⟩ | ⟨a, len, c, m, n, D, Pl, hcs, hb, hl, hm, hmm, hx, hE⟩
  · simp only [List.cons.injEq, Value.slice.injEq, and_true] at hcs
    omega
  · simp only [List.cons.injEq, Value.slice.injEq, and_true] at hcs
    rw [hx]
    simp only [Rows.uptoBulk]
    have := bulk_len ((List.range len).map D)
    simp only [List.length_map, List.length_range] at this
    omega
end
end Go.Proofs.YtomajifklajilaaGreatDoor
