/- Contracts and plain lemmas of this claim. -/
import Derived.Test.YtembflnhhfliaaaGreatDoorGp9
import Derived.Test.YtembflnhhfliaaaGreatDoorGp1
import Derived.Maps.OwnOps
import Derived.Maps.AppendAt
import Derived.Test.YtembflnhhfliaaaGreatDoorGp8
set_option linter.unusedSimpArgs false
set_option linter.unusedVariables false
namespace Go.Proofs.YtembflnhhfliaaaGreatDoor
open Go.ChangeShapes Go.WideShapes Go.ChangeAt Go.RowKit Go.Lib Go.Maps
theorem zbh {fn : Func} {p : Tmp} {ty : TypeId} (h : fn.results = #[.cell p ty]) (tmps : Array Value) (P : Program) (w : World) :
    (results fn tmps).run P w = ((asAddr (tmps.getD p undef)).run P w).andThen fun a w₁ => (loadVar ty a).run P w₁ := by
  simp only [results, h]
  simp [Sem.run_bind, Result.andThen]
def VerP (t g r : Nat) (xs : List Nat) (w : World) (e : Ending) (w' : World) : Prop :=
  (∃ c n, dX xs = .error c /\ e = .returned (.agg #[.int .i64 n, .string ⟨#[]⟩, .bool false]) /\ Td w' t g c /\ Fr [t, g] w w') \/ (∃ v ys, dX xs = .ok (v, ys) /\ e = .returned (.agg #[.int .i64 v.num, .string v.val, .bool v.drop]) /\ Tl w' t g r ys /\ Fr [t, g] w w')
theorem dX_n {xs : List Nat} {c : Nat} (h : dN xs = .error c) : dX xs = .error c := by unfold dX; rw [h]
theorem dX_d {xs ys : List Nat} {n c : Nat} (h : dN xs = .ok (n, ys)) (h2 : dF ys = .error c) : dX xs = .error c := by unfold dX; rw [h]; simp only; unfold dXd; rw [h2]
theorem dX_1 {xs ys zs : List Nat} {n : Nat} (h : dN xs = .ok (n, ys)) (h2 : dF ys = .ok (1, zs)) : dX xs = .ok (⟨(n : Int), noS, true⟩, zs) := by unfold dX; rw [h]; simp only; unfold dXd; rw [h2]; rfl
theorem dX_v {xs ys zs : List Nat} {n d c : Nat} (h : dN xs = .ok (n, ys)) (h2 : dF ys = .ok (d, zs)) (hd : d ≠ 1) (h3 : dT 1024 zs = .error c) : dX xs = .error c := by unfold dX; rw [h]; simp only; unfold dXd; rw [h2]; simp only [if_neg hd]; unfold dXv; rw [h3]
theorem zxl {xs ys zs us : List Nat} {n d : Nat} {s : ByteArray} (h : dN xs = .ok (n, ys)) (h2 : dF ys = .ok (d, zs)) (hd : d ≠ 1) (h3 : dT 1024 zs = .ok (s, us)) : dX xs = .ok (⟨(n : Int), s, false⟩, us) := by unfold dX; rw [h]; simp only; unfold dXd; rw [h2]; simp only [if_neg hd]; unfold dXv; rw [h3]
theorem zyb {w w0 W : World} {t g b0 : Nat} (h0 : Fr [] w w0) (hb0 : w0.heap[b0]? = some (.cells #[.int .i64 0, .string ⟨#[]⟩, .bool false] 136 (0, 0))) (hn : w.heap.size <= b0) (hbt : b0 ≠ t) (hbg : b0 ≠ g) (hW : Fr [t, g] w0 W) (a : Int) (b : ByteArray) (d : Bool) (W3 : World) (e : ((W.setCell ⟨b0, 0, none⟩ (.int .i64 a)).setCell ⟨b0, 1, none⟩ (.string b)).setCell ⟨b0, 2, none⟩ (.bool d) = W3) :
    W3.cell? ⟨b0, 0, none⟩ = some (.int .i64 a) /\ W3.cell? ⟨b0, 1, none⟩ = some (.string b) /\ W3.cell? ⟨b0, 2, none⟩ = some (.bool d) /\ Fr [b0] W W3 /\ Fr [t, g] w W3 := by
  have hr := zaab (hW.keep hb0 (by simp; exact ⟨hbt, hbg⟩)) (.int .i64 a) (.string b) (.bool d)
  rw [e] at hr
  have hFs : Fr [b0] W W3 := by rw [<- e]; exact ((Fr.set _ _ _ (by simp)).then (Fr.set _ _ _ (by simp))).then (Fr.set _ _ _ (by simp))
  refine ⟨?_, ?_, ?_, hFs, (((h0.mono (T := [t, g]) (by simp)).then hW).trans hFs (fun _ x _ => x) (fun x hx hl => by simp at hx; omega))⟩
  · rw [cell_of_row _ _ _ _ _ _ hr]; rfl
  · rw [cell_of_row _ _ _ _ _ _ hr]; rfl
  · rw [cell_of_row _ _ _ _ _ _ hr]; rfl
theorem ztr {w0 W : World} {t g b0 : Nat} (hb0 : w0.heap[b0]? = some (.cells #[.int .i64 0, .string ⟨#[]⟩, .bool false] 136 (0, 0))) (hbt : b0 ≠ t) (hbg : b0 ≠ g) (hW : Fr [t, g] w0 W) :
    W.cell? ⟨b0, 0, none⟩ = some (.int .i64 0) /\ W.cell? ⟨b0, 1, none⟩ = some (.string ⟨#[]⟩) /\ W.cell? ⟨b0, 2, none⟩ = some (.bool false) /\ W.frozen? ⟨b0, 0, none⟩ = false /\ W.frozen? ⟨b0, 1, none⟩ = false /\ W.frozen? ⟨b0, 2, none⟩ = false := by
  have hb2 := hW.keep hb0 (by simp; exact ⟨hbt, hbg⟩)
  exact ⟨by rw [cell_of_row _ _ _ _ _ _ hb2]; rfl, by rw [cell_of_row _ _ _ _ _ _ hb2]; rfl, by rw [cell_of_row _ _ _ _ _ _ hb2]; rfl, zfs hb2 0, zfs hb2 1, zfs hb2 2⟩
theorem Tl.off {w w' : World} {t g r b : Nat} {ys : List Nat} (h : Tl w t g r ys) (hf : Fr [b] w w') (ht : b ≠ t) (hg : b ≠ g) (hr : b ≠ r) : Tl w' t g r ys := h.keep hf (by simp; exact fun e => ht e.symm) (by simp; exact fun e => hg e.symm) (by simp; exact fun e => hr e.symm)
theorem Td.off {w w' : World} {t g c b : Nat} (h : Td w t g c) (hf : Fr [b] w w') (ht : b ≠ t) : Td w' t g c := ⟨h.tb.keep hf (by simp; exact fun e => ht e.symm), h.bad⟩
set_option maxHeartbeats 8000000 in
set_option maxRecDepth 100000 in
theorem zyc (t g r bx : Nat) (xs : List Nat) (w : World) (h : Tl w t g r xs) (hbx : w.cell? ⟨bx, 0, none⟩ = some (.pointer (some ⟨t, 0, none⟩))) (hxt : bx ≠ t) (hxg : bx ≠ g) (hxl : bx < w.heap.size) :
    Calls Tryz.prog 191 #[.pointer (some ⟨bx, 0, none⟩)] w fun e w' => VerP t g r xs w e w' := by
  have htl := h.tb.lt
  obtain ⟨hgl, hrl⟩ : g < w.heap.size /\ r < w.heap.size := by obtain ⟨ao, cap, hR⟩ := h.rd; exact ⟨hR.lt, hR.sl.blk⟩
  obtain ⟨w0, HW0⟩ : ∃ w0, Hid (w.alloc (.cells #[.int .i64 0, .string ⟨#[]⟩, .bool false] 136) = w0) := ⟨_, rfl⟩
  have hF0 : Fr [] w w0 := by rw [<- HW0.out]; exact Fr.alloc [] w _
  have hb0 : w0.heap[w.heap.size]? = some (.cells #[.int .i64 0, .string ⟨#[]⟩, .bool false] 136 (0, 0)) := by rw [<- HW0.out]; exact heap_alloc_new w _
  have hT0 := h.keep0 hF0
  have HX : Hid (∀ W, Fr [t, g] w0 W -> W.cell? ⟨bx, 0, none⟩ = some (.pointer (some ⟨t, 0, none⟩))) := fun W hf => zbq ((hF0.mono (T := [t, g]) (by simp)).then hf) hbx hxl (by simp; exact ⟨hxt, hxg⟩)
  have HZ : Hid (∀ W, Fr [t, g] w0 W -> W.cell? ⟨w.heap.size, 0, none⟩ = some (.int .i64 0) /\ W.cell? ⟨w.heap.size, 1, none⟩ = some (.string ⟨#[]⟩) /\ W.cell? ⟨w.heap.size, 2, none⟩ = some (.bool false) /\ W.frozen? ⟨w.heap.size, 0, none⟩ = false /\ W.frozen? ⟨w.heap.size, 1, none⟩ = false /\ W.frozen? ⟨w.heap.size, 2, none⟩ = false) := fun W hf => ztr hb0 (by omega) (by omega) hf
  have HS : Hid (∀ W, Fr [t, g] w0 W -> ∀ (a : Int) (b : ByteArray) (d : Bool) (W3 : World), ((W.setCell ⟨w.heap.size, 0, none⟩ (.int .i64 a)).setCell ⟨w.heap.size, 1, none⟩ (.string b)).setCell ⟨w.heap.size, 2, none⟩ (.bool d) = W3 ->
      W3.cell? ⟨w.heap.size, 0, none⟩ = some (.int .i64 a) /\ W3.cell? ⟨w.heap.size, 1, none⟩ = some (.string b) /\ W3.cell? ⟨w.heap.size, 2, none⟩ = some (.bool d) /\ Fr [w.heap.size] W W3 /\ Fr [t, g] w W3) := fun W hW a b d W3 e => zyb hF0 hb0 (Nat.le_refl _) (by omega) (by omega) hW a b d W3 e
  have HN : Hid (w.heap.size ≠ t /\ w.heap.size ≠ g /\ w.heap.size ≠ r) := ⟨by omega, by omega, by omega⟩
  have HC : Hid (Calls _ _ _ _ _) := zcm t g r xs w0 hT0
  have cx := HX.out w0 (Fr.refl _ _)
  clear h hT0 hb0 htl hgl hrl hbx hxt hxg hxl hF0
  go_enter Tryz.func191, Tryz.ntmps191
  go_upto_region 1 with fail
  rw [HW0.out]
  go_wp2_with fail
  refine Calls.mono HC.out ?_
  rintro e w1 (⟨c, h1, rfl, hT1, hF1⟩ | ⟨n, ys, h1, rfl, hT1, hF1⟩)
  · have H1 : Hid (dX xs = .error c) := dX_n h1
    have cx := HX.out _ hF1
    have HF1 : Hid (Fr [t, g] w0 w1) := hF1
    have HT1 : Hid (Td w1 t g c) := hT1
    have HC2 : Hid (Calls _ _ _ _ _) := ztq t g c w1 hT1
    clear hT1 hF1 h1 HC
    go_wp2_with fail
    refine Calls.mono HC2.out ?_
    rintro e w2 ⟨rfl, hF2⟩
    have HT : Hid (Td w2 t g c) := HT1.out.keep0 hF2
    have HF2 : Hid (Fr [t, g] w0 w2) := HF1.out.then (hF2.mono (by simp))
    have cx := HX.out _ HF2.out
    clear HC2 HT1 hF2 HF1
    have HC3 : Hid (Calls _ _ _ _ _) := zju t g c 1024 w2 HT.out (by decide)
    go_wp2_with fail
    refine Calls.mono HC3.out ?_
    rintro e w3 ⟨rfl, hF3⟩
    have HT3 : Hid (Td w3 t g c) := HT.out.keep0 hF3
    have hG : Fr [t, g] w0 w3 := HF2.out.then (hF3.mono (by simp))
    clear HC3 HT hF3
    have HG : Hid (Fr [t, g] w0 w3) := hG
    obtain ⟨z0, z1, z2, y0, y1, y2⟩ := HZ.out _ hG
    clear hG HX
    go_wp2
    have hS := HS.out _ HG.out (0) ⟨#[]⟩ false
    obtain ⟨W3, HW3⟩ : ∃ W3, Hid (((w3.setCell ⟨w.heap.size, 0, none⟩ (.int .i64 (0))).setCell ⟨w.heap.size, 1, none⟩ (.string ⟨#[]⟩)).setCell ⟨w.heap.size, 2, none⟩ (.bool false) = W3) := ⟨_, rfl⟩
    obtain ⟨q0, q1, q2, hfs, hfin⟩ := hS _ HW3.out
    rw [HW3.out]
    have HRR : Hid (Fr [w.heap.size] w3 W3 /\ Fr [t, g] w W3) := ⟨hfs, hfin⟩
    clear hS HS HZ hfs hfin z0 z1 z2
    refine bodyPost_ret (v := .agg #[.int .i64 (0), .string ⟨#[]⟩, .bool false]) (by rw [zbh rfl]; go_simp) rfl ?_
    exact Or.inl ⟨c, 0, H1.out, rfl, HT3.out.off HRR.out.1 HN.out.1, HRR.out.2⟩
  · have H1 : Hid (dN xs = .ok (n, ys)) := h1
    have cx := HX.out _ hF1
    have HF1 : Hid (Fr [t, g] w0 w1) := hF1
    have HC2 : Hid (Calls _ _ _ _ _) := zwb t g r ys w1 hT1
    clear hT1 hF1 h1 HC
    go_wp2_with fail
    refine Calls.mono HC2.out ?_
    rintro e w2 (⟨c, h2, rfl, hT2, hF2⟩ | ⟨d, zs, h2, rfl, hT2, hF2⟩)
    · have H2 : Hid (dX xs = .error c) := dX_d H1.out h2
      have HT : Hid (Td w2 t g c) := hT2
      have HF2 : Hid (Fr [t, g] w0 w2) := HF1.out.then hF2
      have cx := HX.out _ HF2.out
      clear HC2 hT2 hF2 HF1 h2 H1
      have HC3 : Hid (Calls _ _ _ _ _) := zju t g c 1024 w2 HT.out (by decide)
      go_wp2_with fail
      refine Calls.mono HC3.out ?_
      rintro e w3 ⟨rfl, hF3⟩
      have HT3 : Hid (Td w3 t g c) := HT.out.keep0 hF3
      have hG : Fr [t, g] w0 w3 := HF2.out.then (hF3.mono (by simp))
      clear HC3 HT hF3
      have HG : Hid (Fr [t, g] w0 w3) := hG
      obtain ⟨z0, z1, z2, y0, y1, y2⟩ := HZ.out _ hG
      clear hG HX
      go_wp2
      have hS := HS.out _ HG.out ((n : Int)) ⟨#[]⟩ false
      obtain ⟨W3, HW3⟩ : ∃ W3, Hid (((w3.setCell ⟨w.heap.size, 0, none⟩ (.int .i64 ((n : Int)))).setCell ⟨w.heap.size, 1, none⟩ (.string ⟨#[]⟩)).setCell ⟨w.heap.size, 2, none⟩ (.bool false) = W3) := ⟨_, rfl⟩
      obtain ⟨q0, q1, q2, hfs, hfin⟩ := hS _ HW3.out
      rw [HW3.out]
      have HRR : Hid (Fr [w.heap.size] w3 W3 /\ Fr [t, g] w W3) := ⟨hfs, hfin⟩
      clear hS HS HZ hfs hfin z0 z1 z2
      refine bodyPost_ret (v := .agg #[.int .i64 ((n : Int)), .string ⟨#[]⟩, .bool false]) (by rw [zbh rfl]; go_simp) rfl ?_
      exact Or.inl ⟨c, n, H2.out, rfl, HT3.out.off HRR.out.1 HN.out.1, HRR.out.2⟩
    · by_cases hd : d = 1
      · subst hd
        have H2 : Hid (dX xs = .ok (⟨(n : Int), noS, true⟩, zs)) := dX_1 H1.out h2
        have HT : Hid (Tl w2 t g r zs) := hT2
        have hG : Fr [t, g] w0 w2 := HF1.out.then hF2
        clear HC2 hT2 hF2 HF1 h2 H1
        have HG : Hid (Fr [t, g] w0 w2) := hG
        obtain ⟨z0, z1, z2, y0, y1, y2⟩ := HZ.out _ hG
        clear hG HX
        go_wp2
        have hS := HS.out _ HG.out ((n : Int)) ⟨#[]⟩ true
        obtain ⟨W3, HW3⟩ : ∃ W3, Hid (((w2.setCell ⟨w.heap.size, 0, none⟩ (.int .i64 ((n : Int)))).setCell ⟨w.heap.size, 1, none⟩ (.string ⟨#[]⟩)).setCell ⟨w.heap.size, 2, none⟩ (.bool true) = W3) := ⟨_, rfl⟩
        obtain ⟨q0, q1, q2, hfs, hfin⟩ := hS _ HW3.out
        rw [HW3.out]
        have HRR : Hid (Fr [w.heap.size] w2 W3 /\ Fr [t, g] w W3) := ⟨hfs, hfin⟩
        clear hS HS HZ hfs hfin z0 z1 z2
        refine bodyPost_ret (v := .agg #[.int .i64 ((n : Int)), .string ⟨#[]⟩, .bool true]) (by rw [zbh rfl]; go_simp) rfl ?_
        exact Or.inr ⟨⟨(n : Int), noS, true⟩, zs, H2.out, rfl, HT.out.off HRR.out.1 HN.out.1 HN.out.2.1 HN.out.2.2, HRR.out.2⟩
      · have hdf : decide (d = 1) = false := by simp [hd]
        have H2 : Hid (dF ys = .ok (d, zs)) := h2
        have HD : Hid (d ≠ 1) := hd
        have HF2 : Hid (Fr [t, g] w0 w2) := HF1.out.then hF2
        have cx := HX.out _ HF2.out
        have HC3 : Hid (Calls _ _ _ _ _) := zln t g r 1024 zs w2 hT2 (by decide)
        clear HC2 hT2 hF2 HF1 h2 hd
        rw [hdf]
        clear hdf
        go_wp2_with fail
        refine Calls.mono HC3.out ?_
        rintro e w3 (⟨c, h3, rfl, hT3, hF3⟩ | ⟨s, us, h3, rfl, hT3, hF3⟩)
        · have H3 : Hid (dX xs = .error c) := dX_v H1.out H2.out HD.out h3
          have HT3 : Hid (Td w3 t g c) := hT3
          have hG : Fr [t, g] w0 w3 := HF2.out.then hF3
          clear HC3 hT3 hF3 h3 H1 H2 HD
          have HG : Hid (Fr [t, g] w0 w3) := hG
          obtain ⟨z0, z1, z2, y0, y1, y2⟩ := HZ.out _ hG
          clear hG HX
          go_wp2
          have hS := HS.out _ HG.out ((n : Int)) ⟨#[]⟩ false
          obtain ⟨W3, HW3⟩ : ∃ W3, Hid (((w3.setCell ⟨w.heap.size, 0, none⟩ (.int .i64 ((n : Int)))).setCell ⟨w.heap.size, 1, none⟩ (.string ⟨#[]⟩)).setCell ⟨w.heap.size, 2, none⟩ (.bool false) = W3) := ⟨_, rfl⟩
          obtain ⟨q0, q1, q2, hfs, hfin⟩ := hS _ HW3.out
          rw [HW3.out]
          have HRR : Hid (Fr [w.heap.size] w3 W3 /\ Fr [t, g] w W3) := ⟨hfs, hfin⟩
          clear hS HS HZ hfs hfin z0 z1 z2
          refine bodyPost_ret (v := .agg #[.int .i64 ((n : Int)), .string ⟨#[]⟩, .bool false]) (by rw [zbh rfl]; go_simp) rfl ?_
          exact Or.inl ⟨c, n, H3.out, rfl, HT3.out.off HRR.out.1 HN.out.1, HRR.out.2⟩
        · have H3 : Hid (dX xs = .ok (⟨(n : Int), s, false⟩, us)) := zxl H1.out H2.out HD.out h3
          have HT3 : Hid (Tl w3 t g r us) := hT3
          have hG : Fr [t, g] w0 w3 := HF2.out.then hF3
          clear HC3 hT3 hF3 h3 H1 H2 HD
          have HG : Hid (Fr [t, g] w0 w3) := hG
          obtain ⟨z0, z1, z2, y0, y1, y2⟩ := HZ.out _ hG
          clear hG HX
          go_wp2
          have hS := HS.out _ HG.out ((n : Int)) s false
          obtain ⟨W3, HW3⟩ : ∃ W3, Hid (((w3.setCell ⟨w.heap.size, 0, none⟩ (.int .i64 ((n : Int)))).setCell ⟨w.heap.size, 1, none⟩ (.string s)).setCell ⟨w.heap.size, 2, none⟩ (.bool false) = W3) := ⟨_, rfl⟩
          obtain ⟨q0, q1, q2, hfs, hfin⟩ := hS _ HW3.out
          rw [HW3.out]
          have HRR : Hid (Fr [w.heap.size] w3 W3 /\ Fr [t, g] w W3) := ⟨hfs, hfin⟩
          clear hS HS HZ hfs hfin z0 z1 z2
          refine bodyPost_ret (v := .agg #[.int .i64 ((n : Int)), .string s, .bool false]) (by rw [zbh rfl]; go_simp) rfl ?_
          exact Or.inr ⟨⟨(n : Int), s, false⟩, us, H3.out, rfl, HT3.out.off HRR.out.1 HN.out.1 HN.out.2.1 HN.out.2.2, HRR.out.2⟩
def ints (ns : List Int) : List Value := ns.map (Value.int .i64)
theorem zrf {S : List Nat} {w w' : World} {base : Nat} {e : TypeId} {size : Nat} {v : Value} {n : Nat} {xs : List Value} (h : w.ownsRow base e size v n xs) (hf : Fr S w w') (hn : ∀ k, v.ownBlock = some k -> k ∉ S) : w'.ownsRow base e size v n xs := by
  refine ⟨h.1, ?_⟩
  rcases h.2 with hh | ⟨g, cap, cur, rfl, hb, hgg, rest⟩
  · exact .inl hh
  · exact .inr ⟨g, cap, cur, rfl, hb, hf.keep hgg (hn g rfl), rest⟩
structure IOw (base : Nat) (w : World) (o : Option Addr) (n c : Nat) (xs : List Int) : Prop where
  len : n = xs.length
  row : w.ownsRow base 3 1 (.slice o n c) n (ints xs)
section
variable {base : Nat} {w w' : World} {o : Option Addr} {n c : Nat} {xs : List Int}
theorem IOw.nil (base : Nat) (w : World) : IOw base w none 0 0 [] := ⟨rfl, rfl, .inl ⟨rfl, rfl⟩⟩
theorem IOw.keepS {S : List Nat} (h : IOw base w o n c xs) (hf : Fr S w w') (hn : ∀ k, (Value.slice o n c).ownBlock = some k -> k ∉ S) : IOw base w' o n c xs := ⟨h.len, zrf h.row hf hn⟩
theorem IOw.keep (h : IOw base w o n c xs) (hf : Fr [] w w') : IOw base w' o n c xs := h.keepS hf (by simp)
theorem IOw.blk (h : IOw base w o n c xs) {k : Nat} (hk : (Value.slice o n c).ownBlock = some k) : base <= k /\ ∃ cur, w.heap[k]? = some (.cells cur 3 (0, 0)) := by
  rcases h.row.2 with ⟨hh, _⟩ | ⟨g, cap, cur, hh, hb, hgg, _⟩
  · rw [hh] at hk; simp [Value.ownBlock] at hk
  · rw [hh] at hk
    simp [Value.ownBlock] at hk
    subst hk
    exact ⟨hb, cur, hgg⟩
theorem IOw.low {b' : Nat} (h : IOw base w o n c xs) (hb : b' <= base) : IOw b' w o n c xs := by
  refine ⟨h.len, h.row.1, ?_⟩
  rcases h.row.2 with hh | ⟨g, cap, cur, hh, hb', rest⟩
  · exact .inl hh
  · exact .inr ⟨g, cap, cur, hh, Nat.le_trans hb hb', rest⟩
theorem IOw.cap (h : IOw base w o n c xs) : n <= c := by
  rcases h.row.2 with ⟨hh, h0⟩ | ⟨g, cap, cur, hh, hb', hg, hc, _⟩
  · omega
  · cases hh; exact hc
theorem IOw.at (h : IOw base w o n c xs) (i : Nat) (hi : i < xs.length) : ∃ g, o = some ⟨g, 0, none⟩ /\ base <= g /\ w.cell? ⟨g, i, none⟩ = some (.int .i64 (xs.getD i 0)) := by
  rcases h.row.2 with ⟨_, h0⟩ | ⟨g, cap, cur, hv, hb, hg, _, _, _, ht⟩
  · have := h.len; omega
  · cases hv
    refine ⟨g, rfl, hb, ?_⟩
    have hN := h.len
    rw [cell_of_row _ _ _ _ _ _ hg, <- Array.getElem?_toList]
    have h1 : (cur.toList.take (n * 1))[i]? = (ints xs)[i]? := by rw [ht]
    rw [List.getElem?_take_of_lt (by omega)] at h1
    rw [h1]
    simp [ints, List.getD, hi]
theorem IOw.cells (h : IOw base w o n c xs) (h0 : 0 < n) : ∃ g, o = some ⟨g, 0, none⟩ /\ base <= g /\ g < w.heap.size /\ ∀ i, i < n -> w.cell? ⟨g, i, none⟩ = some (.int .i64 (xs.getD i 0)) := by
  obtain ⟨g, hg, hb, _⟩ := h.at 0 (by rw [<- h.len]; exact h0)
  obtain ⟨_, cur, hc⟩ := h.blk (k := g) (by rw [hg]; rfl)
  refine ⟨g, hg, hb, lt_of_block hc, fun i hi => ?_⟩
  obtain ⟨g', hg', _, h2⟩ := h.at i (by rw [<- h.len]; exact hi)
  rw [hg] at hg'
  cases hg'
  exact h2
end
theorem zlo (w : World) (v : Value) (t : TypeId) : (w.alloc (.cells #[v] t)).cell? ⟨w.heap.size, 0, none⟩ = some v := by
  rw [cell_of_row _ _ _ _ _ _ (heap_alloc_new w (.cells #[v] t))]; rfl
theorem IOw.on {base : Nat} {w0 w W W' : World} {o : Option Addr} {n c : Nat} {xs : List Int} (h : IOw base w o n c xs) (hb : w0.heap.size <= base) (h0 : Fr [] w0 w) (h1 : Fr [] w W) (h2 : Fr (Value.slice o n c).ownBlock.toList W W') : Fr [] w0 W' :=
  (h0.then h1).on h2 (fun x hx => Nat.le_trans hb (h.blk (Option.mem_toList.1 hx)).1)
theorem Tryz.undIs11 : Tryz.prog.underlying 54 = some (.slice 3) := by kernel_rfl
theorem Tryz.infoI11 : (Tryz.prog.info? 3).map (fun i => (i.zero, i.size, i.bytes)) = some (some (.int .i64 0), 1, 8) := by kernel_rfl
theorem zox : ∃ i, Tryz.prog.info? 3 = some i /\ i.zero = some (.int .i64 0) /\ i.size = 1 /\ i.bytes = 8 := by
  have h := Tryz.infoI11
  cases hi : Tryz.prog.info? 3 with
  | none => rw [hi] at h; cases h
  | some i =>
    rw [hi] at h
    simp only [Option.map_some, Option.some.injEq, Prod.mk.injEq] at h
    exact ⟨i, rfl, h.1, h.2.1, h.2.2⟩
theorem znh (base : Nat) (w : World) (ty : TypeId) (o : Option Addr) (n c : Nat) (xs : List Int) (hO : IOw base w o n c xs) (ad : Addr) (cc : Nat) (x : Int) (hx : w.cell? ad = some (.int .i64 x)) (hn : n < 1099511627776) (hb : base <= w.heap.size) :
    ∃ o' c' w', (Builtin.append_ #[54, 54] ty #[.slice o n c, .slice (some ad) 1 cc]).run Tryz.prog w = .ok (.slice o' (n + 1) c') w' /\ IOw base w' o' (n + 1) c' (xs ++ [x]) /\ Fr (Value.slice o n c).ownBlock.toList w w' /\ (∀ g, (Value.slice o' (n + 1) c').ownBlock = some g -> (Value.slice o n c).ownBlock = some g \/ w.heap.size <= g) := by
  obtain ⟨i0, hi, hz0, hz1, hz2⟩ := zox
  have hmx : 2199023255552 <= maxLen := by unfold maxLen; omega
  have hnews : ∀ j u, ([Value.int .i64 x] : List Value)[j]? = some u -> w.cell? (ad.add j) = some u := by
    intro j u hu
    match j, hu with
    | 0, hu => rw [show ad.add 0 = ad from by cases ad; simp [Addr.add], hx]; exact hu
    | (j + 1), hu => simp at hu
  obtain ⟨v', w', hr, h2, h3, h4, h5⟩ := run_append_own_at (P := Tryz.prog) w base 54 ty 3 i0 _ 1 8 Tryz.undIs11 hi hz0 hz1 hz2 rfl (by decide) (.slice o n c) n (ints xs) hO.row ad 1 cc [.int .i64 x] rfl hnews (by intro u hu; simp at hu; subst hu; rfl) (by omega) (by omega) hb
  obtain ⟨o', c', rfl⟩ : ∃ o' c', v' = .slice o' (n + 1) c' := by
    rcases h2.2 with ⟨_, h1⟩ | ⟨g, cap, _, rfl, _⟩
    · omega
    · exact ⟨_, cap, rfl⟩
  have hst : ints (xs ++ [x]) = ints xs ++ [.int .i64 x] := by simp [ints]
  refine ⟨o', c', w', hr, ⟨by rw [hO.len]; simp, by rw [hst]; exact h2⟩, Fr.grown h3 (fun y hy _ => Option.mem_toList.2 hy), fun g hg => ?_⟩
  rcases h5 with h5 | h5
  · rw [h5] at hg; exact Or.inl hg
  · rw [h5] at hg
    simp only [Option.some.injEq] at hg
    exact Or.inr (by omega)
theorem zoy (base : Nat) (w : World) {ops : Array Oper} {rest : List Oper} {op : Oper} {a : Act} {Q : Exit -> Act -> World -> Prop} (hgd : op.guard = none) (s x : Operand)
    (ho : op.op = .call { callee := .builtin .append, args := #[s, x], argTypes := #[54, 54] })
    (o : Option Addr) (n c : Nat) (xs : List Int) (hs : a.eval s = .slice o n c) (hO : IOw base w o n c xs) (ad : Addr) (cc : Nat) (y : Int) (hx : a.eval x = .slice (some ad) 1 cc) (hy : w.cell? ad = some (.int .i64 y)) (hn : n < 1099511627776) (hb : base <= w.heap.size)
    (h : ∀ o' c' w', IOw base w' o' (n + 1) c' (xs ++ [y]) -> Fr (Value.slice o n c).ownBlock.toList w w' -> (∀ g, (Value.slice o' (n + 1) c').ownBlock = some g -> (Value.slice o n c).ownBlock = some g \/ w.heap.size <= g) -> wpList Tryz.prog ops Q rest (a.put op.dst (.slice o' (n + 1) c')) w') : wpList Tryz.prog ops Q (op :: rest) a w := by
  refine wpList_plain hgd fun K hK => ?_
  obtain ⟨o', c', w', hr, h2, h3, h4⟩ := znh base w op.type o n c xs hO ad cc y hy hn hb
  unfold Oper.wp execOp
  simp only [ho, resolve, invoke, builtin, Sem.run_bind, Sem.run_pure, Result.andThen_ok, List.map_toArray, List.map_cons, List.map_nil, hs, hx, hr]
  exact hK _ _ (h o' c' w' h2 h3 h4)
theorem zts (base : Nat) (w : World) {ops : Array Oper} {op : Oper} {a : Act} {K : Act -> World -> Prop} {Q : Exit -> Act -> World -> Prop} {E : Prop} (hg : op.guard = none) (s x : Operand)
    (ho : op.op = .call { callee := .builtin .append, args := #[s, x], argTypes := #[54, 54] })
    (o : Option Addr) (n c : Nat) (xs : List Int) (hs : a.eval s = .slice o n c) (hO : IOw base w o n c xs) (ad : Addr) (cc : Nat) (y : Int) (hx : a.eval x = .slice (some ad) 1 cc) (hy : w.cell? ad = some (.int .i64 y)) (hn : n < 1099511627776) (hb : base <= w.heap.size)
    (h : ∀ o' c' w', IOw base w' o' (n + 1) c' (xs ++ [y]) -> Fr (Value.slice o n c).ownBlock.toList w w' -> (∀ g, (Value.slice o' (n + 1) c').ownBlock = some g -> (Value.slice o n c).ownBlock = some g \/ w.heap.size <= g) -> K (a.put op.dst (.slice o' (n + 1) c')) w') :
    if Region.wanted op (yielded ops a.tmps) = true then Oper.wp Tryz.prog op a w K Q else E := by
  have hw : Region.wanted op (yielded ops a.tmps) = true := by simp [Region.wanted, hg]
  rw [if_pos hw]
  obtain ⟨o', c', w', hr, h2, h3, h4⟩ := znh base w op.type o n c xs hO ad cc y hy hn hb
  unfold Oper.wp execOp
  simp only [ho, resolve, invoke, builtin, Sem.run_bind, Sem.run_pure, Result.andThen_ok, List.map_toArray, List.map_cons, List.map_nil, hs, hx, hr]
  exact h o' c' w' h2 h3 h4
def hdC (h : Hd) : List Value := [.string h.key, .slice h.vo h.L h.cap]
def hdsC (hs : List Hd) : List Value := hs.flatMap hdC
theorem zdq (hs : List Hd) : (hdsC hs).length = hs.length * 2 := by
  induction hs with
  | nil => rfl
  | cons p ps ih => simp [hdsC, hdC] at *; omega
theorem ztt (hs : List Hd) (x : Hd) : hdsC (hs ++ [x]) = hdsC hs ++ hdC x := by simp [hdsC]
theorem zgo (hs : List Hd) (i : Nat) (h : i < hs.length) : (hdsC hs)[i * 2]? = some (.string (hs.getD i Hd.zero).key) /\ (hdsC hs)[i * 2 + 1]? = some (.slice (hs.getD i Hd.zero).vo (hs.getD i Hd.zero).L (hs.getD i Hd.zero).cap) := by
  induction hs generalizing i with
  | nil => simp at h
  | cons p ps ih =>
    cases i with
    | zero => simp [hdsC, hdC]
    | succ i =>
      have := ih i (by simpa using h)
      have e1 : (hdsC (p :: ps))[(i + 1) * 2]? = (hdsC ps)[i * 2]? := by
        rw [show (i + 1) * 2 = i * 2 + 2 by omega]
        simp [hdsC, hdC]
      have e2 : (hdsC (p :: ps))[(i + 1) * 2 + 1]? = (hdsC ps)[i * 2 + 1]? := by
        rw [show (i + 1) * 2 + 1 = i * 2 + 1 + 2 by omega]
        simp [hdsC, hdC]
      rw [e1, e2]
      simpa using this
theorem zyd (h : Hd) : ∀ u ∈ hdC h, u.oneCell' = true := by
  intro u hu
  simp only [hdC, List.mem_cons, List.not_mem_nil, or_false] at hu
  rcases hu with rfl | rfl <;> rfl
def Apa (a b : Option Addr) : Prop := ∀ p q, a = some p -> b = some q -> p.block ≠ q.block
structure HOut (w w' : World) (ro : Option Addr) (N rc : Nat) (hs : List Hd) : Prop where
  len : N = hs.length
  row : w'.ownsRow w.heap.size 147 2 (.slice ro N rc) N (hdsC hs)
  each : ∀ h ∈ hs, VOut w w' h.vo h.L h.cap h.vs
  apart : hs.Pairwise fun a b => Apa a.vo b.vo
theorem HOut.keep {w w1 w2 : World} {ro : Option Addr} {N rc : Nat} {hs : List Hd} (h : HOut w w1 ro N rc hs) (hf : Fr [] w1 w2) : HOut w w2 ro N rc hs := ⟨h.len, zas h.row hf (by simp), fun x hx => (h.each x hx).keepS hf (by simp), h.apart⟩
theorem VOut.block {w w' : World} {ro : Option Addr} {N rc : Nat} {vs : List Vn} (h : VOut w w' ro N rc vs) (p : Addr) (hp : ro = some p) : w.heap.size <= p.block /\ p.block < w'.heap.size := by
  obtain ⟨rf, _, ho⟩ := h.own
  have e : (Value.slice ro N rf).ownBlock = some p.block := by rw [hp]; rfl
  obtain ⟨h1, cur, h2⟩ := zak ho e
  exact ⟨h1, lt_of_block h2⟩
theorem HOut.newApart {w wr w2 : World} {ro : Option Addr} {N rc : Nat} {hs : List Hd} {vo : Option Addr} {L c : Nat} {vs : List Vn} (h : HOut w wr ro N rc hs) (hV : VOut wr w2 vo L c vs) : ∀ x ∈ hs, Apa x.vo vo := by
  intro x hx p q hp hq e
  have h1 := (h.each x hx).block p hp
  have h2 := hV.block q hq
  omega
theorem HOut.rs {w w' : World} {ro : Option Addr} {N rc : Nat} {hs : List Hd} (h : HOut w w' ro N rc hs) (hl : LoOk hs) (hN : N <= 3518437208882) : HRs w' ro hs := by
  refine ⟨fun h0 => ?_, by rw [<- h.len]; exact hN, fun x hx => ?_⟩
  · rcases h.row.2 with ⟨_, h1⟩ | ⟨g, cap, cur, hv, _, hg, _, _, _, ht⟩
    · have := h.len; omega
    · cases hv
      refine ⟨g, 0, rfl, lt_of_block hg, fun i hi => ?_⟩
      obtain ⟨e1, e2⟩ := zgo hs i hi
      have hN2 := h.len
      constructor
      · rw [cell_of_row _ _ _ _ _ _ hg, Nat.zero_add, <- Array.getElem?_toList, <- e1, <- ht, List.getElem?_take_of_lt (by omega)]
      · rw [cell_of_row _ _ _ _ _ _ hg, Nat.zero_add, <- Array.getElem?_toList, <- e2, <- ht, List.getElem?_take_of_lt (by omega)]
  · have hV := h.each x hx
    have ho := hl.2 x hx
    exact ⟨by have := ho.1.2; omega, hV.len, hV.cap, hV.each ho.2.2⟩
theorem Tryz.undHds : Tryz.prog.underlying 55 = some (.slice 147) := by kernel_rfl
theorem Tryz.infoHd : (Tryz.prog.info? 147).map (fun i => (i.zero, i.size, i.bytes)) = some (some (.agg #[.string ⟨#[]⟩, .slice none 0 0]), 2, 40) := by kernel_rfl
theorem zni : ∃ i, Tryz.prog.info? 147 = some i /\ i.zero = some (.agg #[.string ⟨#[]⟩, .slice none 0 0]) /\ i.size = 2 /\ i.bytes = 40 := by
  have h := Tryz.infoHd
  cases hi : Tryz.prog.info? 147 with
  | none => rw [hi] at h; cases h
  | some i =>
    rw [hi] at h
    simp only [Option.map_some, Option.some.injEq, Prod.mk.injEq] at h
    exact ⟨i, rfl, h.1, h.2.1, h.2.2⟩
theorem zfi (w0 w : World) {ops : Array Oper} {rest : List Oper} {o : Oper} {a : Act} {Q : Exit -> Act -> World -> Prop} (hgd : o.guard = none) (s x : Operand)
    (ho : o.op = .call { callee := .builtin .append, args := #[s, x], argTypes := #[55, 55] })
    (so : Option Addr) (N c : Nat) (hs : List Hd) (hsv : a.eval s = .slice so N c) (hK : HOut w0 w so N c hs) (hN : N < 3518437208883) (h0 : w0.heap.size <= w.heap.size) (p : Hd) (hV : VOut w0 w p.vo p.L p.cap p.vs) (hAp : ∀ x ∈ hs, Apa x.vo p.vo) (hx : a.eval x = .slice (some ⟨w.heap.size, 0, none⟩) 1 1)
    (h : ∀ so' c' w', HOut w0 w' so' (N + 1) c' (hs ++ [p]) -> Fr (Value.slice so N c).ownBlock.toList w w' -> wpList Tryz.prog ops Q rest (a.put o.dst (.slice so' (N + 1) c')) w') : wpList Tryz.prog ops Q (o :: rest) a (w.alloc (.cells #[.string p.key, .slice p.vo p.L p.cap] 147)) := by
  obtain ⟨i0, hi, hz0, hz1, hz2⟩ := zni
  have hmx : 3518437208884 <= maxLen := by unfold maxLen; omega
  refine wpList_append_own (w.alloc (.cells #[.string p.key, .slice p.vo p.L p.cap] 147)) hgd s x 55 ho w0.heap.size 147 i0 _ 2 40 Tryz.undHds hi hz0 hz1 hz2 rfl (by decide) (.slice so N c) N (hdsC hs) hsv (zas hK.row (Fr.alloc [] w _) (by simp)) ⟨w.heap.size, 0, none⟩ 1 1 (hdC p) hx rfl ?_ (zyd p) (by omega) (by omega) (by simp; omega) ?_
  · intro j u hu
    have hr := heap_alloc_new w (.cells #[.string p.key, .slice p.vo p.L p.cap] 147)
    rw [Addr.add_lit, cell_of_row _ _ _ _ _ _ hr, Nat.zero_add]
    simpa [hdC] using hu
  · intro v' w' hown' hg' _
    obtain ⟨bo, cap', rfl⟩ : ∃ bo cap', v' = .slice bo (N + 1) cap' := by
      rcases hown'.2 with ⟨_, h1⟩ | ⟨g, cap, _, rfl, _⟩
      · omega
      · exact ⟨_, cap, rfl⟩
    rw [<- ztt] at hown'
    have hF : Fr (Value.slice so N c).ownBlock.toList w w' := ((Fr.alloc [] w _).mono (by simp)).then (Fr.grown (S := (Value.slice so N c).ownBlock.toList) hg' (fun y hy _ => Option.mem_toList.2 hy))
    refine h bo cap' w' ⟨by rw [hK.len]; simp, hown', fun y hy => ?_, by rw [List.pairwise_append]; exact ⟨hK.apart, List.pairwise_singleton _ _, fun a ha b hb => by simp at hb; subst hb; exact hAp a ha⟩⟩ hF
    have hVy : VOut w0 w y.vo y.L y.cap y.vs := by
      rcases List.mem_append.1 hy with h1 | h1
      · exact hK.each y h1
      · simp at h1; subst h1; exact hV
    refine hVy.keepS hF fun j hj hm => ?_
    obtain ⟨_, c1, e1⟩ := hVy.blk j hj
    obtain ⟨_, c2, e2⟩ := zak hK.row (Option.mem_toList.1 hm)
    rw [e1] at e2
    simp only [Option.some.injEq, Obj.cells.injEq] at e2
    exact absurd e2.2.1 (by decide)
end Go.Proofs.YtembflnhhfliaaaGreatDoor
