/- An owner and a Book beside it: what each of the Book's calls leaves. Conditions as each names them. -/
import Derived.Test.YtomajifklajilaaGreatDoorOh15
import Derived.Test.YtomajifklajilaaGreatDoorHdb
namespace Go.Proofs.YtomajifklajilaaGreatDoor
open Go.ChangeShapes Go.WideShapes Go.ChangeAt Go.RowKit Go.Lib Go.Maps
set_option linter.unusedVariables false
set_option linter.unusedSimpArgs false
section
variable {V w : World}
/-- Keys with versions as a Book sees them. -/
def dsOf (hs : List Hd) : List Bq.Dt := hs.map fun h => (h.key, .slice h.vo h.L h.cap)
theorem dsOf_C (hs : List Hd) : Bq.dtC (dsOf hs) = hdsC hs := by unfold dsOf Bq.dtC hdsC; rw [List.flatMap_map]; rfl
theorem dsOf_get {hs : List Hd} {i : Nat} {d : Bq.Dt} (h : (dsOf hs)[i]? = some d) : ∃ x, hs[i]? = some x ∧ d = (x.key, .slice x.vo x.L x.cap) := by
  unfold dsOf at h
  rw [List.getElem?_map] at h
  cases hx : hs[i]? with
  | none => rw [hx] at h; simp at h
  | some x => rw [hx] at h; simp at h; exact ⟨x, rfl, h.symm⟩
theorem own_blk9 {ao : Option Addr} {L c k : Nat} (h : (Value.slice ao L c).ownBlock = some k) : ∃ p, ao = some p ∧ p.block = k := by
  cases ao with
  | none => simp [Value.ownBlock] at h
  | some p => simp [Value.ownBlock] at h; exact ⟨p, rfl, h⟩
theorem HOut.dts {ro : Option Addr} {N rc : Nat} {hs : List Hd} (h : HOut V w ro N rc hs) (hr : ∀ x ∈ hs, x.vs.length ≤ 131072) (hN : N < 2097152) : Bq.Dts w ro N rc (dsOf hs) := by
  refine ⟨by rw [dsOf_C]; exact Bq.own_base8 h.row, by rw [h.len]; simp [dsOf], hN, fun i d hd => ?_, fun i j a b ha hb hij k hka hkb => ?_⟩
  · obtain ⟨x, hx, rfl⟩ := dsOf_get hd
    have hm := List.mem_of_getElem? hx
    obtain ⟨n, vs, h1, h2⟩ := Bq.P0.of_out (n := 0) (h.each x hm) (by have := (h.each x hm).len; have := hr x hm; omega)
    exact ⟨n, vs, h1, h2⟩
  · obtain ⟨x, hx, rfl⟩ := dsOf_get ha
    obtain ⟨y, hy, rfl⟩ := dsOf_get hb
    obtain ⟨p, hp, e1⟩ := own_blk9 hka
    obtain ⟨q, hq, e2⟩ := own_blk9 hkb
    have hil := (List.getElem?_eq_some_iff.1 hx).1
    have hjl := (List.getElem?_eq_some_iff.1 hy).1
    have hxe := (List.getElem?_eq_some_iff.1 hx).2
    have hye := (List.getElem?_eq_some_iff.1 hy).2
    rcases Nat.lt_or_gt_of_ne hij with hlt | hlt
    · have := List.pairwise_iff_getElem.1 h.apart i j hil hjl hlt
      rw [hxe, hye] at this
      exact this p q hp hq (e1.trans e2.symm)
    · have := List.pairwise_iff_getElem.1 h.apart j i hjl hil hlt
      rw [hxe, hye] at this
      exact this q p hq hp (e2.trans e1.symm)
end
theorem kbs_ty {w1 w : World} {bk T : Nat} {rB rE rD : Value} {hB hE hD : List Bq.HB} (h : Bq.B3 w1 w bk T rB rE rD hB hE hD) : ∀ k ∈ Bq.kbs bk rB rE rD hB hE hD, ∃ cur tt, w.heap[k]? = some (.cells cur tt (0, 0)) ∧ tt ≠ 3 := by
  intro k hk
  obtain ⟨cs, hX, hc⟩ := h.box
  have lb : ∀ {K : Bq.Kd} {rv : Value} {hs : List Bq.HB}, Bq.S0 K w bk rv hs → k ∈ Bq.lbs hs → ∃ cur, w.heap[k]? = some (.cells cur K.tE (0, 0)) := fun hS hk => by
    obtain ⟨b, hb, hb2⟩ := Bq.mem_lbs.1 hk
    obtain ⟨j, hj⟩ := List.getElem?_of_mem hb
    exact (hS.each j b hj).type k hb2
  rcases Bq.mem_kbs.1 hk with rfl | (e | e) | (e | e) | (e | e)
  · exact ⟨_, _, hX.box, by decide⟩
  · obtain ⟨_, cur, e⟩ := owns_cells h.sB.bl.row e
    exact ⟨cur, _, e, by decide⟩
  · obtain ⟨cur, e⟩ := lb h.sB e
    exact ⟨cur, _, e, by decide⟩
  · obtain ⟨_, cur, e⟩ := owns_cells h.sE.bl.row e
    exact ⟨cur, _, e, by decide⟩
  · obtain ⟨cur, e⟩ := lb h.sE e
    exact ⟨cur, _, e, by decide⟩
  · obtain ⟨_, cur, e⟩ := owns_cells h.sD.bl.row e
    exact ⟨cur, _, e, by decide⟩
  · obtain ⟨cur, e⟩ := lb h.sD e
    exact ⟨cur, _, e, by decide⟩
theorem OwnA.backS {S : List Nat} {w w' : World} {ob sb b g j : Nat} {pb : Option Nat} (h : OwnA ob sb b g pb w' j) (hf : Fr S w w') (hb : b ∉ S) (hl : b < w.heap.size) : OwnA ob sb b g pb w j := by
  rcases h with e | e | e | e | e | e
  · exact Or.inl e
  · exact Or.inr (Or.inl e)
  · exact Or.inr (Or.inr (Or.inl e))
  · exact Or.inr (Or.inr (Or.inr (Or.inl e)))
  · exact Or.inr (Or.inr (Or.inr (Or.inr (Or.inl e))))
  · exact Or.inr (Or.inr (Or.inr (Or.inr (Or.inr (e.back hf hb hl)))))
theorem OwS.ltA {w0 w : World} {t : Nat → Prop} {ob sb b n g C j : Nat} {pb : Option Nat} {M : ByteArray → List Vn} {rs : List Rq} (h : OwS w0 t w ob sb b n g pb C M rs) (hj : OwnA ob sb b g pb w j) : j < w.heap.size := by
  rcases hj.is h with q | ⟨es, c, q⟩ | ⟨cur, tt, q, _⟩
  · obtain ⟨_, cur, e⟩ := h.sh.rowLt q
    exact lt_of_block e
  · rcases Nat.lt_or_ge j w.heap.size with h1 | h1
    · exact h1
    · rw [Array.getElem?_eq_none h1] at q; cases q
  · exact lt_of_block q
/-- An owner, and a Book beside it with its blocks KB. -/
structure Ob (w0 w1 w : World) (ob sb b n g : Nat) (pb : Option Nat) (C : Nat) (M : ByteArray → List Vn) (rs : List Rq) (bk T : Nat) (KB : List Nat) : Prop where
  ow : OwS w0 (fun _ => False) w ob sb b n g pb C M rs
  bo : ∃ rB rE rD hB hE hD, Bq.B3 w1 w bk T rB rE rD hB hE hD ∧ KB = Bq.kbs bk rB rE rD hB hE hD
  nk : ∀ j ∈ KB, w0.heap.size ≤ j ∧ ¬ OwnA ob sb b g pb w j
section
variable {w0 w1 w w' B : World} {ob sb b n g C bk T : Nat} {pb : Option Nat} {M : ByteArray → List Vn} {rs : List Rq} {KB : List Nat}
theorem Ob.lt (h : Ob w0 w1 w ob sb b n g pb C M rs bk T KB) : ∀ j ∈ KB, j < w.heap.size := by
  obtain ⟨rB, rE, rD, hB, hE, hD, hb, rfl⟩ := h.bo
  exact hb.lt
theorem Ob.same (h : Ob w0 w1 w ob sb b n g pb C M rs bk T KB) (hf : Fr [] w w') : Ob w0 w1 w' ob sb b n g pb C M rs bk T KB := by
  obtain ⟨rB, rE, rD, hB, hE, hD, hb, e⟩ := h.bo
  exact ⟨h.ow.same hf, ⟨rB, rE, rD, hB, hE, hD, hb.keep hf, e⟩, fun j hj => ⟨(h.nk j hj).1, fun q => (h.nk j hj).2 (q.backS hf (by simp) h.ow.sh.bl)⟩⟩
/-- The owner behind what the Book writes. -/
theorem Ob.far {S : List Nat} (h : Ob w0 w1 w ob sb b n g pb C M rs bk T KB) (hf : Fr S w w') (hS : ∀ j ∈ S, j ∈ KB) : OwS w0 (fun _ => False) w' ob sb b n g pb C M rs := by
  obtain ⟨rB, rE, rD, hB, hE, hD, hb, e⟩ := h.bo
  exact h.ow.far hf (fun j hj _ => ⟨(h.nk j (hS j hj)).1, (h.nk j (hS j hj)).2, Or.inr (kbs_ty hb j (by rw [← e]; exact hS j hj))⟩)
theorem Ob.told {T' : Nat} {rB' rE' rD' : Value} {hB' hE' hD' : List Bq.HB} {S : List Nat} (h : Ob w0 w1 w ob sb b n g pb C M rs bk T KB) (hb' : Bq.B3 w1 w' bk T' rB' rE' rD' hB' hE' hD') (hf : Fr S w w') (hS : ∀ j ∈ S, j ∈ KB) {H : Nat → Prop} (hH : ∀ j, H j → w0.heap.size ≤ j ∧ ¬ OwnA ob sb b g pb w j) (hN : ∀ j ∈ Bq.kbs bk rB' rE' rD' hB' hE' hD', j ∈ KB ∨ H j ∨ w.heap.size ≤ j) :
    ∃ KB', Ob w0 w1 w' ob sb b n g pb C M rs bk T' KB' ∧ ∀ j ∈ KB', j ∈ KB ∨ H j ∨ w.heap.size ≤ j := by
  have hbS : b ∉ S := fun hm => (h.nk b (hS b hm)).2 (Or.inr (Or.inr (Or.inl rfl)))
  have s0 := h.ow.fr.size
  refine ⟨_, ⟨h.far hf hS, ⟨rB', rE', rD', hB', hE', hD', hb', rfl⟩, fun j hj => ?_⟩, hN⟩
  have back : OwnA ob sb b g pb w' j → OwnA ob sb b g pb w j := fun q => q.backS hf hbS h.ow.sh.bl
  rcases hN j hj with q | q | q
  · exact ⟨(h.nk j q).1, fun r => (h.nk j q).2 (back r)⟩
  · exact ⟨(hH j q).1, fun r => (hH j q).2 (back r)⟩
  · exact ⟨by omega, fun r => by have := h.ow.ltA (back r); omega⟩
theorem ob_entries {ro : Option Addr} {N rc : Nat} {ps : List Pr} {H : Nat → Prop} (h : Ob w0 w1 w ob sb b n g pb C M rs bk T KB) (hS : EOut B w ro N rc ps) (hH : ∀ j, H j → w0.heap.size ≤ j ∧ ¬ OwnA ob sb b g pb w j) (hr : ∀ k, (Value.slice ro N rc).ownBlock = some k → H k ∧ k ∉ KB) (hm : N < 17179869184) (hT : T < 67107000) :
    Calls Tryz.prog 21 #[.pointer (some ⟨bk, 0, none⟩), .slice ro N rc] w fun e w' => e = .returned (.tuple #[]) ∧ ∃ KB' S, Ob w0 w1 w' ob sb b n g pb C M rs bk (T + 1) KB' ∧ (∀ j ∈ KB', j ∈ KB ∨ H j ∨ w.heap.size ≤ j) ∧ Fr S w w' ∧ (∀ j ∈ S, j ∈ KB) ∧ ∀ j ∈ S, ∃ cur tt, w.heap[j]? = some (.cells cur tt (0, 0)) ∧ tt ≠ 61 ∧ tt ≠ 79 ∧ tt ≠ 106 := by
  obtain ⟨rB, rE, rD, hB, hE, hD, hb, e⟩ := h.bo
  refine (Bq.entries_any hb ro N rc ⟨N, celsE ps, Bq.Cut.of (Bq.own_base8 hS.row), hm⟩ (fun k hk hm2 => (hr k hk).2 (by rw [e]; exact Bq.mem_kbs.2 (Or.inr (Or.inr (Or.inl (Or.inr hm2)))))) (by omega)).mono ?_
  rintro e' w' ⟨rfl, rv', hb', hF, hM⟩
  have hSK : ∀ j ∈ bk :: rE.ownBlock.toList, j ∈ KB := fun j hj => by
    rw [e]
    rcases List.mem_cons.1 hj with q | q
    · exact Bq.mem_kbs.2 (Or.inl q)
    · exact Bq.mem_kbs.2 (Or.inr (Or.inr (Or.inl (Or.inl (Option.mem_toList.1 q)))))
  obtain ⟨KB', z1, z2⟩ := h.told hb' hF hSK hH (fun j hj => by
    rw [e]
    rcases Bq.mem_kbs.1 hj with q | (q | q) | (q | q) | (q | q)
    · exact Or.inl (Bq.mem_kbs.2 (Or.inl q))
    · exact Or.inl (Bq.mem_kbs.2 (Or.inr (Or.inl (Or.inl q))))
    · exact Or.inl (Bq.mem_kbs.2 (Or.inr (Or.inl (Or.inr q))))
    · rcases Bq.moved_of hM q with q2 | q2
      · exact Or.inl (Bq.mem_kbs.2 (Or.inr (Or.inr (Or.inl (Or.inl q2)))))
      · exact Or.inr (Or.inr q2)
    · rcases Bq.lbs_snoc q with q2 | q2
      · exact Or.inl (Bq.mem_kbs.2 (Or.inr (Or.inr (Or.inl (Or.inr q2)))))
      · exact Or.inr (Or.inl (hr j q2).1)
    · exact Or.inl (Bq.mem_kbs.2 (Or.inr (Or.inr (Or.inr (Or.inl q)))))
    · exact Or.inl (Bq.mem_kbs.2 (Or.inr (Or.inr (Or.inr (Or.inr q))))))
  refine ⟨rfl, KB', _, z1, z2, hF, hSK, fun j hj => ?_⟩
  rcases List.mem_cons.1 hj with q | q
  · obtain ⟨cs, hX, _⟩ := hb.box
    rw [q]
    exact ⟨_, _, hX.box, by decide, by decide, by decide⟩
  · obtain ⟨_, cur, e⟩ := owns_cells hb.sE.bl.row (Option.mem_toList.1 q)
    exact ⟨cur, _, e, by decide, by decide, by decide⟩
theorem ob_helds {ro : Option Addr} {N rc : Nat} {hs : List Hd} {H : Nat → Prop} (h : Ob w0 w1 w ob sb b n g pb C M rs bk T KB) (hO : HOut B w ro N rc hs) (hl : ∀ x ∈ hs, x.vs.length ≤ 131072) (hH : ∀ j, H j → w0.heap.size ≤ j ∧ ¬ OwnA ob sb b g pb w j) (hr : ∀ k, (Value.slice ro N rc).ownBlock = some k → H k ∧ k ∉ KB) (hv : ∀ x ∈ hs, ∀ a, x.vo = some a → H a.block ∧ a.block ∉ KB) (hm : N < 2097152) (hT : T + N < 67107000) :
    Calls Tryz.prog 10 #[.pointer (some ⟨bk, 0, none⟩), .slice ro N rc] w fun e w' => e = .returned (.tuple #[]) ∧ ∃ KB' S, Ob w0 w1 w' ob sb b n g pb C M rs bk (T + N + 1) KB' ∧ (∀ j ∈ KB', j ∈ KB ∨ H j ∨ w.heap.size ≤ j) ∧ Fr S w w' ∧ (∀ j ∈ S, j ∈ KB) ∧ ∀ j ∈ S, ∃ cur tt, w.heap[j]? = some (.cells cur tt (0, 0)) ∧ tt ≠ 61 ∧ tt ≠ 79 ∧ tt ≠ 106 := by
  obtain ⟨rB, rE, rD, hB, hE, hD, hb, e⟩ := h.bo
  have hver : ∀ (i : Nat) (d : Bq.Dt), (dsOf hs)[i]? = some d → ∀ k, d.2.ownBlock = some k → H k ∧ k ∉ KB := fun i d hd k hk => by
    obtain ⟨x, hx, rfl⟩ := dsOf_get hd
    obtain ⟨p, hp, e1⟩ := own_blk9 hk
    rw [← e1]
    exact hv x (List.mem_of_getElem? hx) p hp
  refine (Bq.helds_any hb ro N rc (dsOf hs) (hO.dts hl (by omega)) (fun i d hd k hk hm2 => (hver i d hd k hk).2 (by rw [e]; exact Bq.mem_kbs.2 (Or.inr (Or.inl (Or.inr hm2))))) (fun k hk hm2 => (hr k hk).2 (by rw [e]; exact Bq.mem_kbs.2 (Or.inr (Or.inr (Or.inr (Or.inr hm2)))))) (by omega)).mono ?_
  rintro e' w' ⟨rfl, rB', rD', hb', hF, hM1, hM2⟩
  have hSK : ∀ j ∈ bk :: (rB.ownBlock.toList ++ rD.ownBlock.toList), j ∈ KB := fun j hj => by
    rw [e]
    rcases List.mem_cons.1 hj with q | q
    · exact Bq.mem_kbs.2 (Or.inl q)
    · rcases List.mem_append.1 q with q | q
      · exact Bq.mem_kbs.2 (Or.inr (Or.inl (Or.inl (Option.mem_toList.1 q))))
      · exact Bq.mem_kbs.2 (Or.inr (Or.inr (Or.inr (Or.inl (Option.mem_toList.1 q)))))
  obtain ⟨KB', z1, z2⟩ := h.told hb' hF hSK hH (fun j hj => by
    rw [e]
    rcases Bq.mem_kbs.1 hj with q | (q | q) | (q | q) | (q | q)
    · exact Or.inl (Bq.mem_kbs.2 (Or.inl q))
    · rcases Bq.moved_of hM1 q with q2 | q2
      · exact Or.inl (Bq.mem_kbs.2 (Or.inr (Or.inl (Or.inl q2))))
      · exact Or.inr (Or.inr q2)
    · rw [Bq.lbs_append] at q
      rcases List.mem_append.1 q with q2 | q2
      · exact Or.inl (Bq.mem_kbs.2 (Or.inr (Or.inl (Or.inr q2))))
      · obtain ⟨i, d, hd, hk⟩ := Bq.mem_held q2
        exact Or.inr (Or.inl (hver i d hd j hk).1)
    · exact Or.inl (Bq.mem_kbs.2 (Or.inr (Or.inr (Or.inl (Or.inl q)))))
    · exact Or.inl (Bq.mem_kbs.2 (Or.inr (Or.inr (Or.inl (Or.inr q)))))
    · rcases Bq.moved_of hM2 q with q2 | q2
      · exact Or.inl (Bq.mem_kbs.2 (Or.inr (Or.inr (Or.inr (Or.inl q2)))))
      · exact Or.inr (Or.inr q2)
    · rcases Bq.lbs_snoc q with q2 | q2
      · exact Or.inl (Bq.mem_kbs.2 (Or.inr (Or.inr (Or.inr (Or.inr q2)))))
      · exact Or.inr (Or.inl (hr j q2).1))
  refine ⟨rfl, KB', _, z1, z2, hF, hSK, fun j hj => ?_⟩
  rcases List.mem_cons.1 hj with q | q
  · obtain ⟨cs, hX, _⟩ := hb.box
    rw [q]
    exact ⟨_, _, hX.box, by decide, by decide, by decide⟩
  · rcases List.mem_append.1 q with q | q
    · obtain ⟨_, cur, e⟩ := owns_cells hb.sB.bl.row (Option.mem_toList.1 q)
      exact ⟨cur, _, e, by decide, by decide, by decide⟩
    · obtain ⟨_, cur, e⟩ := owns_cells hb.sD.bl.row (Option.mem_toList.1 q)
      exact ⟨cur, _, e, by decide, by decide, by decide⟩
theorem ob_apart (h : Ob w0 w1 w ob sb b n g pb C M rs bk T KB) (ht : Bq.Tab w0) : Calls Tryz.prog 11 #[.pointer (some ⟨bk, 0, none⟩)] w fun e w' => e = .returned (.bool true) ∧ OwS w0 (fun _ => False) w' ob sb b n g pb C M rs ∧ ∃ S, Fr S w w' ∧ ∀ j ∈ S, j ∈ KB := by
  obtain ⟨rB, rE, rD, hB, hE, hD, hb, e⟩ := h.bo
  obtain ⟨cs, hX, _⟩ := hb.box
  have hin : ∀ j ∈ Bq.own3 rB rE rD hB hE hD, j ∈ KB := fun j hj => by rw [e]; exact List.mem_cons_of_mem _ hj
  refine (Bq.apart3_any bk cs rB rE rD hB hE hD w hX hb.sB hb.sE hb.sD (ht.keep h.ow.fr (by simp)) (fun hm => by have := (h.nk _ (hin _ hm)).1; have := ht.lt; omega)).mono ?_
  rintro e' w' ⟨rfl, hF⟩
  exact ⟨rfl, h.far hF hin, _, hF, hin⟩
end
end Go.Proofs.YtomajifklajilaaGreatDoor
