/- A Book is told a reply; an owner's Ask and Serve by one word. Conditions as each names them. -/
import Derived.Test.YtomajifklajilaaGreatDoorOx15
namespace Go.Proofs.YtomajifklajilaaGreatDoor
open Go.ChangeShapes Go.WideShapes Go.ChangeAt Go.RowKit Go.Lib Go.Maps
set_option linter.unusedVariables false
set_option linter.unusedSimpArgs false
section
variable {w0 w1 w w' B : World} {ob sb b n g C bk T : Nat} {pb : Option Nat} {M : ByteArray → List Vn} {rs : List Rq} {KB : List Nat}
theorem os_ask1 (h : OwS w0 (fun _ => False) w ob sb b n g pb C M rs) (x : Rv) (ns : List Int) (hR : RqB w x ns) : Calls Tryz.prog 6 #[.pointer (some ⟨ob, 0, none⟩), x.v] w fun e w' => ∃ (ok : Bool) (er : Int) (pb' : Option Nat) (rs' : List Rq), e = .returned (.tuple #[.bool ok, .int .i64 er]) ∧ OwS w0 (fun _ => False) w' ob sb b n g pb' C M rs' ∧ OwF b g pb w w' ∧ ∀ k, pb' = some k → pb = some k ∨ w.heap.size ≤ k := by
  refine (os_ask h (fun k q => q.elim) x ns hR).mono ?_
  rintro e w' (⟨_, rfl, hO, hF⟩ | ⟨_, _, rfl, hO, hF⟩ | ⟨_, _, rfl, pb', hO, hF, hp⟩)
  · exact ⟨_, _, pb, rs, rfl, hO, OwF.of hF, fun k e => Or.inl e⟩
  · exact ⟨_, _, pb, rs, rfl, hO, OwF.of hF, fun k e => Or.inl e⟩
  · exact ⟨_, _, pb', _, rfl, hO, hF, hp⟩
theorem os_serve1 (h : OwS w0 (fun _ => False) w ob sb b n g pb C M rs) (hn : n < 3518437208882) : Calls Tryz.prog 7 #[.pointer (some ⟨ob, 0, none⟩)] w fun e w' => ∃ (f : Int) (ok : Bool) (eo : Option Addr) (el ec : Nat) (ho : Option Addr) (hl hc : Nat) (c er : Int) (M' : ByteArray → List Vn) (rs' : List Rq) (H : Nat → Prop), e = .returned (.tuple #[.agg #[.int .i64 f, .bool ok, .slice eo el ec, .slice ho hl hc, .int .i64 c], .int .i64 er]) ∧ OwS w0 (fun _ => False) w' ob sb b (n + 1) g pb C M' rs' ∧ OwF b g pb w w' ∧ Rp w w' n H eo el ec ho hl hc ∧ Nh ob sb b g pb H w' ∧ ∀ j, H j → w.heap.size ≤ j := by
  cases rs with
  | nil =>
    refine (os_idle h).mono ?_
    rintro e w' ⟨rfl, hO, hF⟩
    exact ⟨0, false, none, 0, 0, none, 0, 0, 0, 9, M, [], fun _ => False, rfl, ⟨hO.q, hO.sh.mono (Nat.le_succ n), hO.fr, hO.gn, hO.on, hO.pn⟩, OwF.of hF, rp_nil _ _ _ _, fun j q => q.elim, fun j q => q.elim⟩
  | cons r rs =>
    refine (os_serve h hn).mono ?_
    rintro e w' ⟨ok, eo, el, ec, ho, hl, hc, c, M', rfl, hO, hF, hR⟩
    obtain ⟨H, z1, z2, z3⟩ := rep_rp h hO hR
    exact ⟨r.f, ok, eo, el, ec, ho, hl, hc, c, 0, M', rs, H, rfl, hO, hF, z1, z2, z3⟩
set_option maxHeartbeats 2000000 in
set_option maxRecDepth 100000 in
theorem ob_resp {m : Nat} {H : Nat → Prop} {eo ho : Option Addr} {el ec hl hc : Nat} (h : Ob w0 w1 w ob sb b n g pb C M rs bk T KB) (hR : Rp B w m H eo el ec ho hl hc) (hH : ∀ j, H j → (w0.heap.size ≤ j ∧ ¬ OwnA ob sb b g pb w j) ∧ j ∉ KB ∧ j < w.heap.size) (hm : m < 2097000) (hT : T + m < 67100000) (f c : Int) (ok : Bool) :
    Calls Tryz.prog 9 #[.pointer (some ⟨bk, 0, none⟩), .agg #[.int .i64 f, .bool ok, .slice eo el ec, .slice ho hl hc, .int .i64 c]] w fun e w' => e = .returned (.tuple #[]) ∧ ∃ KB', Ob w0 w1 w' ob sb b n g pb C M rs bk (T + hl + 2) KB' ∧ (∀ j ∈ KB', j ∈ KB ∨ H j ∨ w.heap.size ≤ j) ∧ (∀ j, j < w.heap.size → j ∉ KB → w'.heap[j]? = w.heap[j]?) ∧ w.heap.size ≤ w'.heap.size ∧ (∀ j, OwnA ob sb b g pb w' j → OwnA ob sb b g pb w j) := by
  obtain ⟨wz, HWz⟩ : ∃ wz, Hid (w.alloc (.cells #[.int .i64 f, .bool ok, .slice eo el ec, .slice ho hl hc, .int .i64 c] 51) = wz) := ⟨_, rfl⟩
  have hF0 : Fr [] w wz := by rw [← HWz.out]; exact Fr.alloc [] w _
  have hr0 : wz.heap[w.heap.size]? = some (.cells #[.int .i64 f, .bool ok, .slice eo el ec, .slice ho hl hc, .int .i64 c] 51 (0, 0)) := by rw [← HWz.out]; exact heap_alloc_new w _
  obtain ⟨Z, HZ⟩ : ∃ Z, Hid (w.heap.size = Z) := ⟨_, rfl⟩
  rw [HZ.out] at hr0
  have hlz := h.lt
  have hz := h.same hF0
  obtain ⟨ps, hs, hE, hO, hlo, b1, b2, k1, k2, k3⟩ := hR.move (W' := wz) (fun j q => hF0.block j (hH j q).2.2 (by simp))
  have nA : ∀ j, H j → w0.heap.size ≤ j ∧ ¬ OwnA ob sb b g pb wz j := fun j q => ⟨(hH j q).1.1, fun r => (hH j q).1.2 (r.backS hF0 (by simp) h.ow.sh.bl)⟩
  have H1 : Hid (Calls _ _ _ _ _) := ob_entries (H := fun k => (Value.slice eo el ec).ownBlock = some k) hz hE (fun j q => nA j (k1 j q)) (fun k q => ⟨q, (hH k (k1 k q)).2.1⟩) (by omega) (by omega)
  have HZl : Hid (Z = w.heap.size ∧ Z < wz.heap.size) := ⟨HZ.out.symm, lt_of_block hr0⟩
  have H2 : Hid (∀ V KB1 S, Ob w0 w1 V ob sb b n g pb C M rs bk (T + 1) KB1 → (∀ j ∈ KB1, j ∈ KB ∨ (Value.slice eo el ec).ownBlock = some j ∨ wz.heap.size ≤ j) → Fr S wz V → (∀ j ∈ S, j ∈ KB) → Calls Tryz.prog 10 #[.pointer (some ⟨bk, 0, none⟩), .slice ho hl hc] V fun e w' => e = .returned (.tuple #[]) ∧ ∃ KB', Ob w0 w1 w' ob sb b n g pb C M rs bk (T + hl + 2) KB' ∧ (∀ j ∈ KB', j ∈ KB ∨ H j ∨ w.heap.size ≤ j) ∧ (∀ j, j < w.heap.size → j ∉ KB → w'.heap[j]? = w.heap[j]?) ∧ w.heap.size ≤ w'.heap.size ∧ (∀ j, OwnA ob sb b g pb w' j → OwnA ob sb b g pb w j)) := fun V KB1 S hV hKB hFS hS => by
    have kS : ∀ j, j < wz.heap.size → j ∉ KB → V.heap[j]? = wz.heap[j]? := fun j hj hn => hFS.block j hj (fun hm => hn (hS j hm))
    have hlt : ∀ j, H j → j < wz.heap.size := fun j q => Nat.lt_of_lt_of_le (hH j q).2.2 hF0.size
    have hO1 : HOut B V ho hl hc hs := ⟨hO.len, owns_moveO hO.row (fun k e => kS k (hlt k (k2 k e)) (hH k (k2 k e)).2.1), fun x hx => (hO.each x hx).moveO (fun a e => kS _ (hlt _ (k3 x hx a e)) (hH _ (k3 x hx a e)).2.1), hO.apart⟩
    have hbS : b ∉ S := fun hm => (h.nk b (hS b hm)).2 (Or.inr (Or.inr (Or.inl rfl)))
    have nE : ∀ k cur tt, wz.heap[k]? = some (.cells cur tt (0, 0)) → tt ≠ 61 → (Value.slice eo el ec).ownBlock ≠ some k := fun k cur tt e ht q => by
      obtain ⟨_, c2, e2⟩ := owns_cells hE.row q
      rw [e] at e2
      simp only [Option.some.injEq, Obj.cells.injEq] at e2
      exact ht e2.2.1
    have nK : ∀ k cur tt, H k → wz.heap[k]? = some (.cells cur tt (0, 0)) → tt ≠ 61 → k ∉ KB1 := fun k cur tt q e ht hm => by
      rcases hKB k hm with r | r | r
      · exact (hH k q).2.1 r
      · exact nE k cur tt e ht r
      · have := hlt k q
        omega
    have s2 := hFS.size
    refine (ob_helds (H := H) hV hO1 (fun x hx => Nat.le_trans (okV_few (hlo.2 x hx).2.2) (by omega)) (fun j q => ⟨(nA j q).1, fun r => (nA j q).2 (r.backS hFS hbS hz.ow.sh.bl)⟩) (fun k q => ?_) (fun x hx a e => ?_) (by omega) (by omega)).mono ?_
    · obtain ⟨_, cur, e2⟩ := owns_cells hO.row q
      exact ⟨k2 k q, nK k cur _ (k2 k q) e2 (by decide)⟩
    · obtain ⟨rc', hr, ho'⟩ := (hO.each x hx).own
      obtain ⟨_, cur, e2⟩ := owns_cells ho' (k := a.block) (by rw [e]; simp [Value.ownBlock])
      exact ⟨k3 x hx a e, nK _ cur _ (k3 x hx a e) e2 (by decide)⟩
    · rintro e' V2 ⟨rfl, KB2, S2, q1, q2, q3, q4, q5⟩
      have s3 := q3.size
      have s1 := hF0.size
      refine ⟨rfl, KB2, by rw [show T + hl + 2 = T + 1 + hl + 1 by omega]; exact q1, fun j hj => ?_, fun j hj hn => ?_, by omega, fun j r => ((r.backS q3 (fun hm => (hV.nk b (q4 b hm)).2 (Or.inr (Or.inr (Or.inl rfl)))) hV.ow.sh.bl).backS hFS hbS hz.ow.sh.bl).backS hF0 (by simp) h.ow.sh.bl⟩
      · rcases q2 j hj with r | r | r
        · rcases hKB j r with r | r | r
          · exact Or.inl r
          · exact Or.inr (Or.inl (k1 j r))
          · exact Or.inr (Or.inr (by omega))
        · exact Or.inr (Or.inl r)
        · exact Or.inr (Or.inr (by omega))
      · by_cases hk : j ∈ S2
        · rcases hKB j (q4 j hk) with r | r | r
          · exact absurd r hn
          · exfalso
            obtain ⟨cur, tt, e1, e2, _⟩ := q5 j hk
            obtain ⟨_, c3, e3⟩ := owns_cells hE.row r
            rw [kS j (hlt j (k1 j r)) hn, e3] at e1
            simp only [Option.some.injEq, Obj.cells.injEq] at e1
            exact e2 e1.2.1.symm
          · omega
        · rw [q3.block j (by omega) hk, kS j (by omega) hn, hF0.block j hj (by simp)]
  have HB : Hid (∀ V S, Fr S wz V → (∀ j ∈ S, j ∈ KB) → V.heap[Z]? = wz.heap[Z]?) := fun V S hf hS => hf.block Z HZl.out.2 (fun hm => by have := hlz _ (hS _ hm); have := HZl.out.1; omega)
  have c2 : wz.cell? ⟨Z, 2, none⟩ = some (.slice eo el ec) := by rw [cell_of_row _ _ _ _ _ _ hr0]; rfl
  have HR0 := (show Hid _ from hr0)
  clear h hz hR hH hE hO hlo b1 b2 k1 k2 k3 nA hlz hr0 hF0
  go_enter Tryz.func9, Tryz.ntmps9
  go_upto_region 1 with fail
  rw [HWz.out, HZ.out]
  clear HWz HZ
  go_wp2_with fail
  refine Calls.mono H1.out ?_
  rintro e v1 ⟨rfl, KB1, S1, q1, q2, q3, q4, _⟩
  have c3 : v1.cell? ⟨Z, 3, none⟩ = some (.slice ho hl hc) := by rw [cell_of_row _ _ _ _ _ _ ((HB.out v1 S1 q3 q4).trans HR0.out)]; rfl
  have HC : Hid (Calls _ _ _ _ _) := H2.out v1 KB1 S1 q1 q2 q3 q4
  clear q1 q2 q3 q4 H1 H2 c2
  go_wp2_with fail
  refine Calls.mono HC.out ?_
  rintro e w' ⟨rfl, R⟩
  have HR : Hid _ := R
  clear R HC
  go_wp2_with fail
  go_end0
  exact ⟨rfl, HR.out⟩
end
end Go.Proofs.YtomajifklajilaaGreatDoor
