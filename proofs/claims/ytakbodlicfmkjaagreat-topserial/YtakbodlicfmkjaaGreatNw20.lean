/- The newest version at a mark: newestAt. Conditions as each names them. -/
import Derived.Test.YtakbodlicfmkjaaGreatBv20
import Derived.Test.YtakbodlicfmkjaaGreatKy20
namespace Go.Proofs.YtakbodlicfmkjaaGreat
open Go.ChangeShapes Go.WideShapes Go.ChangeAt Go.RowKit Go.Lib
set_option linter.unusedVariables false
set_option linter.unusedSimpArgs false
attribute [local go_sem] Oper.semAt_some

/-- A version's cells. -/
def vnA (v : O.Vn) : Array Value := #[.int .i64 v.num, .string v.val, .bool v.drop]
/-- Between two rounds. -/
structure Nq20 (w0 : World) (b3 b4 b5 bb D lr : Nat) (mark : Int) (sl : Value) (rec : Loop) (v4 : O.Vn) (v5 : Bool) (W : World) : Prop where
  c3 : W.heap[b3]? = some (.cells #[.int .i64 mark] 3 (0, 0))
  c4 : W.heap[b4]? = some (.cells (vnA v4) 128 (0, 0))
  c5 : W.heap[b5]? = some (.cells #[.bool v5] 4 (0, 0))
  cb : W.heap[bb]? = some (.cells #[sl] 124 (0, 0))
  lp : W.heap[lr]? = some (.loop rec)
  df : W.heap[D]? = some (.deferred (some []))
  fr : Fr [] w0 W
/-- The blocks in their order. -/
structure Nd20 (w0 : World) (b3 b4 b5 bb D lr : Nat) : Prop where
  a : w0.heap.size ≤ b3 ∧ b3 < b4 ∧ b4 < b5 ∧ b5 < bb ∧ bb < D ∧ D < lr
section
variable {w0 W W' : World} {b3 b4 b5 bb D lr : Nat} {mark : Int} {sl : Value} {rec : Loop} {v4 : O.Vn} {v5 : Bool}
theorem Nq20.quiet (h : Nq20 w0 b3 b4 b5 bb D lr mark sl rec v4 v5 W) (hf : Fr [] W W') : Nq20 w0 b3 b4 b5 bb D lr mark sl rec v4 v5 W' :=
  ⟨hf.keep h.c3 (by simp), hf.keep h.c4 (by simp), hf.keep h.c5 (by simp), hf.keep h.cb (by simp), hf.keep h.lp (by simp), hf.keep h.df (by simp), h.fr.then hf⟩
theorem Nq20.rec_ (d : Nd20 w0 b3 b4 b5 bb D lr) (h : Nq20 w0 b3 b4 b5 bb D lr mark sl rec v4 v5 W) (rec' : Loop) : Nq20 w0 b3 b4 b5 bb D lr mark sl rec' v4 v5 (W.putObj lr (.loop rec')) := by
  obtain ⟨d1, d2, d3, d4, d5, d6⟩ := d.a
  have hf := Fr.putObj W lr (.loop rec')
  exact ⟨hf.keep h.c3 (by simp; omega), hf.keep h.c4 (by simp; omega), hf.keep h.c5 (by simp; omega), hf.keep h.cb (by simp; omega), World.putObj_heap_same (Array.getElem?_eq_some_iff.1 h.lp).1, hf.keep h.df (by simp; omega), h.fr.on hf (fun x hx => by simp at hx; omega)⟩
/-- The results are stored. -/
theorem Nq20.fin (d : Nd20 w0 b3 b4 b5 bb D lr) (h : Nq20 w0 b3 b4 b5 bb D lr mark sl rec v4 v5 W) (u : O.Vn) (v : Bool) : Nq20 w0 b3 b4 b5 bb D lr mark sl rec u v ((((W.setCell ⟨b4, 0, none⟩ (.int .i64 u.num)).setCell ⟨b4, 1, none⟩ (.string u.val)).setCell ⟨b4, 2, none⟩ (.bool u.drop)).setCell ⟨b5, 0, none⟩ (.bool v)) := by
  obtain ⟨d1, d2, d3, d4, d5, d6⟩ := d.a
  obtain ⟨W4, hW4⟩ : ∃ W4, W4 = (((W.setCell ⟨b4, 0, none⟩ (.int .i64 u.num)).setCell ⟨b4, 1, none⟩ (.string u.val)).setCell ⟨b4, 2, none⟩ (.bool u.drop)) := ⟨_, rfl⟩
  have f4 : Fr [b4] W W4 := by rw [hW4]; exact ((Fr.set _ _ _ (by simp)).then (Fr.set _ _ _ (by simp))).then (Fr.set _ _ _ (by simp))
  have r4 : W4.heap[b4]? = some (.cells (vnA u) 128 (0, 0)) := by rw [hW4]; exact row_putE _ (row_putE _ (row_putE _ h.c4))
  rw [← hW4]
  have r5 := f4.keep h.c5 (by simp; omega)
  have f5 : Fr [b5] W4 (W4.setCell ⟨b5, 0, none⟩ (.bool v)) := Fr.set _ _ _ (by simp)
  have q5 := row_put20 (v := .bool v) r5
  exact ⟨f5.keep (f4.keep h.c3 (by simp; omega)) (by simp; omega), f5.keep r4 (by simp; omega), q5, f5.keep (f4.keep h.cb (by simp; omega)) (by simp; omega), f5.keep (f4.keep h.lp (by simp; omega)) (by simp; omega), f5.keep (f4.keep h.df (by simp; omega)) (by simp; omega), (h.fr.on f4 (fun x hx => by simp at hx; omega)).on f5 (fun x hx => by simp at hx; omega)⟩
end
theorem load_vn20 {w : World} {g : Nat} {v : O.Vn} (h : w.heap[g]? = some (.cells (vnA v) 128 (0, 0))) : (loadVar 128 ⟨g, 0, none⟩).run Tryz.prog w = .ok (.agg (vnA v)) w :=
  run_loadVar_row (P := Tryz.prog) _ g _ 128 _ _ (.struct (Tryz.prog.fieldsOf 128)) h (by kernel_rfl) rfl (by kernel_rfl)
/-- The newest of at most a mark. -/
def NwP (vs : List O.Vn) (mark : Int) (v : O.Vn) (ok : Bool) : Prop :=
  (ok = true ∧ ∃ k, k < vs.length ∧ v = vs.getD k O.Vn.zero ∧ v.num ≤ mark ∧ ∀ j, k < j → j < vs.length → ¬ (vs.getD j O.Vn.zero).num ≤ mark) ∨ (ok = false ∧ v = O.Vn.zero ∧ ∀ j, j < vs.length → ¬ (vs.getD j O.Vn.zero).num ≤ mark)
def nwGo (vs : List O.Vn) (n : Nat) (mark : Int) (i : Nat) : Bool := decide (¬ (vs.getD (n - 1 - i) O.Vn.zero).num ≤ mark)
def NwAll (vs : List O.Vn) (n : Nat) (mark : Int) (i : Nat) : Prop := ∀ j, j < i → ¬ (vs.getD (n - 1 - j) O.Vn.zero).num ≤ mark
def NwAt (vs : List O.Vn) (n : Nat) (i : Nat) : O.Vn := vs.getD (n - 1 - i) O.Vn.zero
set_option maxRecDepth 100000 in
set_option maxHeartbeats 8000000 in
theorem newest_in {w : World} {vs : List O.Vn} {sb off n cap : Nat} (hn0 : n = vs.length) (hnl : n ≤ 4398046511104) (hcap : n ≤ cap) (hsb : sb < w.heap.size) (hV : ∀ k, k < n → O.VAt w sb (off + k * 3) (vs.getD k O.Vn.zero)) (mark : Int) :
    CallsIn Fence.wide 3 Tryz.prog 46 #[.slice (some ⟨sb, off, none⟩) n cap, .int .i64 mark] w fun e w' => (∃ v ok, e = .returned (.tuple #[.agg (vnA v), .bool ok]) ∧ NwP vs mark v ok) ∧ Fr [] w w' := by
  have mixed : Tryz.prog.follows .mixedOrders = true := by kernel_rfl
  have HV : Hid (∀ W, Fr [] w W → ∀ k, k < n → O.VAt W sb (off + k * 3) (vs.getD k O.Vn.zero)) := fun W hf k hk => by
    have hc : ∀ o, W.cell? ⟨sb, o, none⟩ = w.cell? ⟨sb, o, none⟩ := fun o => World.cell?_of_block (hf.block sb hsb (by simp))
    exact ⟨(hc _).trans (hV k hk).c0, (hc _).trans (hV k hk).c1, (hc _).trans (hV k hk).c2⟩
  have HN : Hid (n = vs.length) := hn0
  clear hV hn0 hsb
  obtain ⟨wa, HWa⟩ : ∃ wa, Hid ((((w.alloc (.cells #[.int .i64 mark] 3)).alloc (.cells #[.int .i64 0, .string ⟨#[]⟩, .bool false] 128)).alloc (.cells #[.bool false] 4)) = wa) := ⟨_, rfl⟩
  have hF : Fr [] w wa := by rw [← HWa.out]; exact ((Fr.alloc [] _ _).then (Fr.alloc [] _ _)).then (Fr.alloc [] _ _)
  have r3 : wa.heap[w.heap.size]? = some (.cells #[.int .i64 mark] 3 (0, 0)) := by rw [← HWa.out]; exact (Below.heap_alloc _ _ _ (by simp; omega)).trans ((Below.heap_alloc _ _ _ (by simp)).trans (heap_alloc_new w _))
  have r4 : wa.heap[w.heap.size + 1]? = some (.cells (vnA O.Vn.zero) 128 (0, 0)) := by rw [← HWa.out]; exact (Below.heap_alloc _ _ _ (by simp)).trans (heap_at1 _ _ _)
  have r5 : wa.heap[w.heap.size + 1 + 1]? = some (.cells #[.bool false] 4 (0, 0)) := by rw [← HWa.out]; exact heap_at2 _ _ _ _
  have hsa : wa.heap.size = w.heap.size + 3 := by rw [← HWa.out]; simp
  refine callsIn_of_wp_marks Tryz.func46 rfl trivial ?_ rfl
  simp only [Tryz.ntmps46, List.size_toArray, List.length_cons, List.length_nil, Nat.reduceAdd, Nat.reduceSub, Array.replicate_succ, Array.replicate_zero, List.push_toArray, List.append_toArray, List.nil_append, List.cons_append]
  gi_wp2_with fail
  rw [HWa.out]
  refine ⟨trivial, (callsIn_wide.2 (backV_any _ _ _ _)).mono ?_⟩
  rintro e w5' ⟨rfl, rfl⟩
  have rb : (wa.alloc (.cells #[.slice (some ⟨sb, off, none⟩) n cap] 124)).heap[wa.heap.size]? = some (.cells #[.slice (some ⟨sb, off, none⟩) n cap] 124 (0, 0)) := heap_alloc_new wa _
  have hF5 : Fr [] wa (wa.alloc (.cells #[.slice (some ⟨sb, off, none⟩) n cap] 124)) := Fr.alloc _ _ _
  have hs5 : (wa.alloc (.cells #[.slice (some ⟨sb, off, none⟩) n cap] 124)).heap.size = wa.heap.size + 1 := by simp
  obtain ⟨bb, hbb⟩ : ∃ b, b = wa.heap.size := ⟨_, rfl⟩
  obtain ⟨b3, hb3⟩ : ∃ b, b = w.heap.size := ⟨_, rfl⟩
  obtain ⟨b4, hb4⟩ : ∃ b, b = w.heap.size + 1 := ⟨_, rfl⟩
  obtain ⟨b5, hb5⟩ : ∃ b, b = w.heap.size + 1 + 1 := ⟨_, rfl⟩
  obtain ⟨w5, HW5⟩ : ∃ w5, Hid (wa.alloc (.cells #[.slice (some ⟨sb, off, none⟩) n cap] 124) = w5) := ⟨_, rfl⟩
  rw [HW5.out] at rb hF5 hs5 ⊢
  rw [← hbb] at rb ⊢
  rw [← hb5] at r5 ⊢
  rw [← hb4] at r4 ⊢
  rw [← hb3] at r3 ⊢
  have HB : Hid (b3 = w.heap.size ∧ b4 = w.heap.size + 1 ∧ b5 = w.heap.size + 2 ∧ bb = w.heap.size + 3 ∧ w5.heap.size = w.heap.size + 4) := ⟨hb3, hb4, hb5, by omega, by omega⟩
  clear HWa HW5 hb3 hb4 hb5 hbb
  gi_wp2_with fail
  refine Fo.range_of rfl (fun _ => True.intro) rfl (gf := 110) (lb := #[.pointer (some ⟨bb, 0, none⟩)]) rfl (enters_of Tryz.func110 (by kernel_rfl) rfl) ?_
  intro fn RC HRC
  obtain ⟨D, hD⟩ : ∃ D, D = w5.heap.size := ⟨_, rfl⟩
  obtain ⟨lr, hlr⟩ : ∃ lr, lr = w5.heap.size + 1 := ⟨_, rfl⟩
  have hF6 : Fr [] w5 ((w5.alloc (.deferred (some []))).alloc (.loop (RC .ready none))) := (Fr.alloc [] _ _).then (Fr.alloc [] _ _)
  have hL6 : ((w5.alloc (.deferred (some []))).alloc (.loop (RC .ready none))).heap[w5.heap.size + 1]? = some (.loop (RC .ready none)) := by
    have := World.alloc_heap_new (w5.alloc (.deferred (some []))) (.loop (RC .ready none)); rwa [World.size_alloc] at this
  have hK6 : ((w5.alloc (.deferred (some []))).alloc (.loop (RC .ready none))).heap[w5.heap.size]? = some (.deferred (some [])) :=
    (Below.heap_alloc _ _ _ (by simp)).trans (World.alloc_heap_new w5 _)
  obtain ⟨w6, HW6⟩ : ∃ w6, Hid ((w5.alloc (.deferred (some []))).alloc (.loop (RC .ready none)) = w6) := ⟨_, rfl⟩
  rw [HW6.out] at hF6 hL6 hK6 ⊢
  rw [← hlr] at hL6 ⊢
  rw [← hD] at HRC hK6 ⊢
  obtain ⟨e1, e2, e3, e4, e5⟩ := HB.out
  have hLd : Nd20 w b3 b4 b5 bb D lr := ⟨by omega, by omega, by omega, by omega, by omega, by omega⟩
  have hF56 := hF5.then hF6
  have hA0 : Nq20 w b3 b4 b5 bb D lr mark (.slice (some ⟨sb, off, none⟩) n cap) (RC .ready none) O.Vn.zero false w6 :=
    ⟨hF56.keep r3 (by simp), hF56.keep r4 (by simp), hF56.keep r5 (by simp), hF6.keep rb (by simp), hL6, hK6, hF.then hF56⟩
  clear hD hlr HW6 e1 e2 e3 e4 e5 hF56 hF6 hF5 hF r3 r4 r5 rb hL6 hK6 HB hsa hs5
  have HLd : Hid (Nd20 w b3 b4 b5 bb D lr) := hLd
  refine (back1v_all 1 lr bb sb off n cap vs w6 (fun i W => NwAll vs n mark i ∧ Nq20 w b3 b4 b5 bb D lr mark (.slice (some ⟨sb, off, none⟩) n cap) (RC .ready none) O.Vn.zero false W) (fun i W => Nq20 w b3 b4 b5 bb D lr mark (.slice (some ⟨sb, off, none⟩) n cap) (RC .done (some .ret)) (NwAt vs n i) true W ∧ nwGo vs n mark i = false ∧ NwAll vs n mark i) (nwGo vs n mark) hnl hcap ?_ ⟨fun j hj => absurd hj (by omega), hA0⟩ ?_).mono ?_
  · rintro i W ⟨_, hL⟩
    exact ⟨by rw [cell_of_row _ _ _ _ _ _ hL.cb]; rfl, HV.out W hL.fr⟩
  · rintro i k W ⟨hall, hL⟩ hik
    have ek : n - 1 - i = k := by omega
    have HALL : Hid (NwAll vs n mark i) := hall
    have HEK : Hid (n - 1 - i = k) := ek
    clear hall
    obtain ⟨⟨num, val, drop⟩, hv⟩ : ∃ v, vs.getD k O.Vn.zero = v := ⟨_, rfl⟩
    have HVK : Hid (vs.getD k O.Vn.zero = ⟨num, val, drop⟩) := hv
    rw [hv]
    simp only
    have HAt : Hid (NwAt vs n i = ⟨num, val, drop⟩) := by show vs.getD (n - 1 - i) _ = _; rw [ek, hv]
    refine round_of20 HRC hL.lp ?_
    have hLa := hL.quiet (Fr.alloc [] W (.cells #[.int .i64 num, .string val, .bool drop] 128))
    have hbr := Fo.begin_of (P := Tryz.prog) HRC hLa.lp
    have hLb := hLa.rec_ hLd (RC .busy none)
    have hlW : lr < W.heap.size := (Array.getElem?_eq_some_iff.1 hL.lp).1
    have h7 : ((W.alloc (.cells #[.int .i64 num, .string val, .bool drop] 128)).putObj lr (.loop (RC .busy none))).heap[W.heap.size]? = some (.cells #[.int .i64 num, .string val, .bool drop] 128 (0, 0)) := (Fr.putObj _ lr _).keep (heap_alloc_new W _) (by simp; omega)
    obtain ⟨Wb, HWb⟩ : ∃ Wb, Hid ((W.alloc (.cells #[.int .i64 num, .string val, .bool drop] 128)).putObj lr (.loop (RC .busy none)) = Wb) := ⟨_, rfl⟩
    rw [HWb.out] at hbr hLb h7
    have HLb : Hid (Nq20 w b3 b4 b5 bb D lr mark (.slice (some ⟨sb, off, none⟩) n cap) (RC .busy none) O.Vn.zero false Wb) := hLb
    have HWlt : Hid (lr < W.heap.size) := hlW
    have x3 : Wb.cell? ⟨b3, 0, none⟩ = some (.int .i64 mark) := by rw [cell_of_row _ _ _ _ _ _ hLb.c3]; rfl
    have k0 : Wb.cell? ⟨W.heap.size, 0, none⟩ = some (.int .i64 num) := by rw [cell_of_row _ _ _ _ _ _ h7]; rfl
    have k1 : Wb.cell? ⟨W.heap.size, 1, none⟩ = some (.string val) := by rw [cell_of_row _ _ _ _ _ _ h7]; rfl
    have k2 : Wb.cell? ⟨W.heap.size, 2, none⟩ = some (.bool drop) := by rw [cell_of_row _ _ _ _ _ _ h7]; rfl
    clear hL hLa hLb HWb hlW hv ek hik h7
    simp only [List.setIfInBounds_toArray, List.set_cons_succ, List.set_cons_zero]
    by_cases hle : num ≤ mark
    · have HLE : Hid (num ≤ mark) := hle
      have hh := HLb.out
      have hlw := HWlt.out
      obtain ⟨o1, o2, o3, o4, o5, o6⟩ := HLd.out.a
      have u40 : Wb.frozen? ⟨b4, 0, none⟩ = false := by simp [World.frozen?, hh.c4]
      have u41 : Wb.frozen? ⟨b4, 1, none⟩ = false := by simp [World.frozen?, hh.c4]
      have u42 : Wb.frozen? ⟨b4, 2, none⟩ = false := by simp [World.frozen?, hh.c4]
      have u5 : Wb.frozen? ⟨b5, 0, none⟩ = false := by simp [World.frozen?, hh.c5]
      have y40 : Wb.cell? ⟨b4, 0, none⟩ = some (.int .i64 0) := by rw [cell_of_row _ _ _ _ _ _ hh.c4]; rfl
      have y41 : Wb.cell? ⟨b4, 1, none⟩ = some (.string ⟨#[]⟩) := by rw [cell_of_row _ _ _ _ _ _ hh.c4]; rfl
      have y42 : Wb.cell? ⟨b4, 2, none⟩ = some (.bool false) := by rw [cell_of_row _ _ _ _ _ _ hh.c4]; rfl
      have y5 : Wb.cell? ⟨b5, 0, none⟩ = some (.bool false) := by rw [cell_of_row _ _ _ _ _ _ hh.c5]; rfl
      have n45 : b4 ≠ b5 := by omega
      have n54 : b5 ≠ b4 := by omega
      have n74 : W.heap.size ≠ b4 := by omega
      have n47 : b4 ≠ W.heap.size := by omega
      have n75 : W.heap.size ≠ b5 := by omega
      have n57 : b5 ≠ W.heap.size := by omega
      clear hh hlw o1 o2 o3 o4 o5 o6
      gi_wp2_with fail
      have hA4 := HLb.out.fin HLd.out ⟨num, val, drop⟩ true
      have hend := Fo.end_of (P := Tryz.prog) HRC hA4.lp (some .ret)
      have hA5 := hA4.rec_ HLd.out (RC .done (some .ret))
      have hgo : nwGo vs n mark i = false := by unfold nwGo; rw [HEK.out, HVK.out]; simp [HLE.out]
      refine ⟨_, _, hend, by rw [hgo]; rfl, fun e => absurd e (by rw [hgo]; decide), fun _ => ⟨?_, hgo, HALL.out⟩⟩
      rw [HAt.out]
      exact hA5
    · have hd : decide (num ≤ mark) = false := decide_eq_false hle
      have HLE : Hid (¬ num ≤ mark) := hle
      gi_wp2_with fail
      have hend := Fo.end_of (P := Tryz.prog) HRC HLb.out.lp none
      have hA5 := HLb.out.rec_ HLd.out (RC .ready none)
      have hgo : nwGo vs n mark i = true := by unfold nwGo; rw [HEK.out, HVK.out]; simp [HLE.out]
      refine ⟨_, _, hend, by rw [hgo]; rfl, fun _ => ⟨fun j hj => ?_, hA5⟩, fun e => absurd e (by rw [hgo]; decide)⟩
      rcases Nat.lt_or_ge j i with h | h
      · exact HALL.out j h
      · obtain rfl : j = i := by omega
        rw [HEK.out, HVK.out]
        have := HLE.out
        show ¬ num ≤ mark
        omega
  · rintro e W3 ⟨⟨v0, rfl⟩, hEnd⟩
    have hF5 : ∀ W, Fr [D] W (W.putObj D (.deferred none)) := fun W => Fr.putObj _ D _
    rcases hEnd with ⟨⟨hall, hL⟩, _⟩ | ⟨i, hi1, _, _, hL, hgo, hall⟩
    · have hle := Fo.loop_end_of (P := Tryz.prog) HRC hL.lp (by simp)
      have hL4 := hL.rec_ HLd.out (RC .exhausted none)
      obtain ⟨W4, HW4⟩ : ∃ W4, Hid (W3.putObj lr (.loop (RC .exhausted none)) = W4) := ⟨_, rfl⟩
      rw [HW4.out] at hle hL4
      have HL4 : Hid (Nq20 w b3 b4 b5 bb D lr mark (.slice (some ⟨sb, off, none⟩) n cap) (RC .exhausted none) O.Vn.zero false W4) := hL4
      have HALL : Hid (NwAll vs n mark n) := hall
      have y40 : W4.cell? ⟨b4, 0, none⟩ = some (.int .i64 0) := by rw [cell_of_row _ _ _ _ _ _ hL4.c4]; rfl
      have y41 : W4.cell? ⟨b4, 1, none⟩ = some (.string ⟨#[]⟩) := by rw [cell_of_row _ _ _ _ _ _ hL4.c4]; rfl
      have y42 : W4.cell? ⟨b4, 2, none⟩ = some (.bool false) := by rw [cell_of_row _ _ _ _ _ _ hL4.c4]; rfl
      have y5 : W4.cell? ⟨b5, 0, none⟩ = some (.bool false) := by rw [cell_of_row _ _ _ _ _ _ hL4.c5]; rfl
      have u40 : W4.frozen? ⟨b4, 0, none⟩ = false := by simp [World.frozen?, hL4.c4]
      have u41 : W4.frozen? ⟨b4, 1, none⟩ = false := by simp [World.frozen?, hL4.c4]
      have u42 : W4.frozen? ⟨b4, 2, none⟩ = false := by simp [World.frozen?, hL4.c4]
      have u5 : W4.frozen? ⟨b5, 0, none⟩ = false := by simp [World.frozen?, hL4.c5]
      have n45 : b4 ≠ b5 := by have := hLd.a; omega
      have n54 : b5 ≠ b4 := by have := hLd.a; omega
      clear hL hL4 HRC hA0 hall
      refine ⟨none, W4, hle, ?_⟩
      clear hle
      gi_wp2_with fail
      have hfin := HL4.out.fin HLd.out O.Vn.zero false
      obtain ⟨o1, o2, o3, o4, o5, o6⟩ := HLd.out.a
      refine ⟨by simp, .inl ⟨_, _, rfl, run_takeDeferred hfin.df, ?_⟩⟩
      refine ⟨_, results_cc_row20 rfl _ _ _ b4 b5 _ _ rfl rfl (load_vn20 (v := O.Vn.zero) ((hF5 _).keep hfin.c4 (by simp; omega))) (load_bool20 (x := false) ((hF5 _).keep hfin.c5 (by simp; omega))), ?_⟩
      refine ⟨⟨O.Vn.zero, false, rfl, Or.inr ⟨rfl, rfl, fun j hj => ?_⟩⟩, hfin.fr.on (hF5 _) (fun x hx => by simp at hx; omega)⟩
      have := HALL.out (n - 1 - j) (by have := HN.out; omega)
      rw [show n - 1 - (n - 1 - j) = j by have := HN.out; omega] at this
      exact this
    · have hle := Fo.loop_end_of (P := Tryz.prog) HRC hL.lp (by simp)
      have hL4 := hL.rec_ HLd.out (RC .exhausted (some .ret))
      obtain ⟨W4, HW4⟩ : ∃ W4, Hid (W3.putObj lr (.loop (RC .exhausted (some .ret))) = W4) := ⟨_, rfl⟩
      rw [HW4.out] at hle hL4
      have HL4 : Hid (Nq20 w b3 b4 b5 bb D lr mark (.slice (some ⟨sb, off, none⟩) n cap) (RC .exhausted (some .ret)) (NwAt vs n i) true W4) := hL4
      have HP : Hid (NwP vs mark (NwAt vs n i) true) := by
        refine Or.inl ⟨rfl, n - 1 - i, by have := HN.out; omega, rfl, by simpa [nwGo, NwAt] using hgo, fun j h1 h2 => ?_⟩
        have := hall (n - 1 - j) (by have := HN.out; omega)
        rw [show n - 1 - (n - 1 - j) = j by have := HN.out; omega] at this
        exact this
      clear hL hL4 HRC hA0 hall hgo
      refine ⟨some .ret, W4, hle, ?_⟩
      clear hle
      gi_wp2_with fail
      have hfin := HL4.out
      obtain ⟨o1, o2, o3, o4, o5, o6⟩ := HLd.out.a
      refine ⟨by simp, .inl ⟨_, _, rfl, run_takeDeferred hfin.df, ?_⟩⟩
      refine ⟨_, results_cc_row20 rfl _ _ _ b4 b5 _ _ rfl rfl (load_vn20 (v := NwAt vs n i) ((hF5 _).keep hfin.c4 (by simp; omega))) (load_bool20 (x := true) ((hF5 _).keep hfin.c5 (by simp; omega))), ?_⟩
      exact ⟨⟨_, true, rfl, HP.out⟩, hfin.fr.on (hF5 _) (fun x hx => by simp at hx; omega)⟩
end Go.Proofs.YtakbodlicfmkjaaGreat
