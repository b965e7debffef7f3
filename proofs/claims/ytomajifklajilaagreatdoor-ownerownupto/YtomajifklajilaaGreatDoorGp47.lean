/- Texts of this claim laid together, one behind the other: contracts and plain lemmas; conditions as each names them. -/
import Derived.Test.YtomajifklajilaaGreatDoorGp40
import Derived.Test.YtomajifklajilaaGreatDoorGp46
/- An owner and a Book beside it: what each of the Book's calls leaves. Conditions as each names them. -/
namespace Go.Proofs.YtomajifklajilaaGreatDoor
open Go.ChangeShapes Go.WideShapes Go.ChangeAt Go.RowKit Go.Lib Go.Maps
set_option linter.unusedVariables false
set_option linter.unusedSimpArgs false
section
variable {V w : World}
/-- Keys with versions as a Book sees them. -/
def dsOf (hs : List Hd) : List Bq.Dt := hs.map fun h => (h.key, .slice h.vo h.L h.cap)
theorem dsOf_C (hs : List Hd) : Bq.dtC (dsOf hs) = hdsC hs := by unfold dsOf Bq.dtC hdsC; rw [List.flatMap_map]; rfl
theorem dsOf_get {hs : List Hd} {i : Nat} {d : Bq.Dt} (h : (dsOf hs)[i]? = some d) : ∃ x, hs[i]? = some x ∧ d = (x.key, .slice x.vo x.L x.cap) := by
  unfold dsOf at h
  rw [List.getElem?_map] at h
  cases hx : hs[i]? with
  | none => rw [hx] at h; simp at h
  | some x => rw [hx] at h; simp at h; exact ⟨x, rfl, h.symm⟩
theorem own_blk9 {ao : Option Addr} {L c k : Nat} (h : (Value.slice ao L c).ownBlock = some k) : ∃ p, ao = some p ∧ p.block = k := by
  cases ao with
  | none => simp [Value.ownBlock] at h
  | some p => simp [Value.ownBlock] at h; exact ⟨p, rfl, h⟩
theorem HOut.dts {ro : Option Addr} {N rc : Nat} {hs : List Hd} (h : HOut V w ro N rc hs) (hr : ∀ x ∈ hs, x.vs.length ≤ 131072) (hN : N < 2097152) : Bq.Dts w ro N rc (dsOf hs) := by
  refine ⟨by rw [dsOf_C]; exact Bq.own_base8 h.row, by rw [h.len]; simp [dsOf], hN, fun i d hd => ?_, fun i j a b ha hb hij k hka hkb => ?_⟩
  · obtain ⟨x, hx, rfl⟩ := dsOf_get hd
    have hm := List.mem_of_getElem? hx
    obtain ⟨n, vs, h1, h2⟩ := Bq.P0.of_out (n := 0) (h.each x hm) (by have := (h.each x hm).len; have := hr x hm; omega)
    exact ⟨n, vs, h1, h2⟩
  · obtain ⟨x, hx, rfl⟩ := dsOf_get ha
    obtain ⟨y, hy, rfl⟩ := dsOf_get hb
    obtain ⟨p, hp, e1⟩ := own_blk9 hka
    obtain ⟨q, hq, e2⟩ := own_blk9 hkb
    have hil := (List.getElem?_eq_some_iff.1 hx).1
    have hjl := (List.getElem?_eq_some_iff.1 hy).1
    have hxe := (List.getElem?_eq_some_iff.1 hx).2
    have hye := (List.getElem?_eq_some_iff.1 hy).2
    rcases Nat.lt_or_gt_of_ne hij with hlt | hlt
    · have := List.pairwise_iff_getElem.1 h.apart i j hil hjl hlt
      rw [hxe, hye] at this
      exact this p q hp hq (e1.trans e2.symm)
    · have := List.pairwise_iff_getElem.1 h.apart j i hjl hil hlt
      rw [hxe, hye] at this
      exact this q p hq hp (e2.trans e1.symm)
end
theorem kbs_ty {w1 w : World} {bk T : Nat} {rB rE rD : Value} {hB hE hD : List Bq.HB} (h : Bq.B3 w1 w bk T rB rE rD hB hE hD) : ∀ k ∈ Bq.kbs bk rB rE rD hB hE hD, ∃ cur tt, w.heap[k]? = some (.cells cur tt (0, 0)) ∧ tt ≠ 3 := by
  intro k hk
  obtain ⟨cs, hX, hc⟩ := h.box
  have lb : ∀ {K : Bq.Kd} {rv : Value} {hs : List Bq.HB}, Bq.S0 K w bk rv hs → k ∈ Bq.lbs hs → ∃ cur, w.heap[k]? = some (.cells cur K.tE (0, 0)) := fun hS hk => by
    obtain ⟨b, hb, hb2⟩ := Bq.mem_lbs.1 hk
    obtain ⟨j, hj⟩ := List.getElem?_of_mem hb
    exact (hS.each j b hj).type k hb2
  rcases Bq.mem_kbs.1 hk with rfl | (e | e) | (e | e) | (e | e)
  · exact ⟨_, _, hX.box, by decide⟩
  · obtain ⟨_, cur, e⟩ := owns_cells h.sB.bl.row e
    exact ⟨cur, _, e, by decide⟩
  · obtain ⟨cur, e⟩ := lb h.sB e
    exact ⟨cur, _, e, by decide⟩
  · obtain ⟨_, cur, e⟩ := owns_cells h.sE.bl.row e
    exact ⟨cur, _, e, by decide⟩
  · obtain ⟨cur, e⟩ := lb h.sE e
    exact ⟨cur, _, e, by decide⟩
  · obtain ⟨_, cur, e⟩ := owns_cells h.sD.bl.row e
    exact ⟨cur, _, e, by decide⟩
  · obtain ⟨cur, e⟩ := lb h.sD e
    exact ⟨cur, _, e, by decide⟩
theorem OwnA.backS {S : List Nat} {w w' : World} {ob sb b g j : Nat} {pb : Option Nat} (h : OwnA ob sb b g pb w' j) (hf : Fr S w w') (hb : b ∉ S) (hl : b < w.heap.size) : OwnA ob sb b g pb w j := by
  rcases h with e | e | e | e | e | e
  · exact Or.inl e
  · exact Or.inr (Or.inl e)
  · exact Or.inr (Or.inr (Or.inl e))
  · exact Or.inr (Or.inr (Or.inr (Or.inl e)))
  · exact Or.inr (Or.inr (Or.inr (Or.inr (Or.inl e))))
  · exact Or.inr (Or.inr (Or.inr (Or.inr (Or.inr (e.back hf hb hl)))))
theorem OwS.ltA {w0 w : World} {t : Nat → Prop} {ob sb b n g C j : Nat} {pb : Option Nat} {M : ByteArray → List Vn} {rs : List Rq} (h : OwS w0 t w ob sb b n g pb C M rs) (hj : OwnA ob sb b g pb w j) : j < w.heap.size := by
  rcases hj.is h with q | ⟨es, c, q⟩ | ⟨cur, tt, q, _⟩
  · obtain ⟨_, cur, e⟩ := h.sh.rowLt q
    exact lt_of_block e
  · rcases Nat.lt_or_ge j w.heap.size with h1 | h1
    · exact h1
    · rw [Array.getElem?_eq_none h1] at q; cases q
  · exact lt_of_block q
/-- An owner, and a Book beside it with its blocks KB. -/
structure Ob (w0 w1 w : World) (ob sb b n g : Nat) (pb : Option Nat) (C : Nat) (M : ByteArray → List Vn) (rs : List Rq) (bk T : Nat) (KB : List Nat) : Prop where
  ow : OwS w0 (fun _ => False) w ob sb b n g pb C M rs
  bo : ∃ rB rE rD hB hE hD, Bq.B3 w1 w bk T rB rE rD hB hE hD ∧ KB = Bq.kbs bk rB rE rD hB hE hD
  nk : ∀ j ∈ KB, w0.heap.size ≤ j ∧ ¬ OwnA ob sb b g pb w j
section
variable {w0 w1 w w' B : World} {ob sb b n g C bk T : Nat} {pb : Option Nat} {M : ByteArray → List Vn} {rs : List Rq} {KB : List Nat}
theorem Ob.lt (h : Ob w0 w1 w ob sb b n g pb C M rs bk T KB) : ∀ j ∈ KB, j < w.heap.size := by
  obtain ⟨rB, rE, rD, hB, hE, hD, hb, rfl⟩ := h.bo
  exact hb.lt
theorem Ob.same (h : Ob w0 w1 w ob sb b n g pb C M rs bk T KB) (hf : Fr [] w w') : Ob w0 w1 w' ob sb b n g pb C M rs bk T KB := by
  obtain ⟨rB, rE, rD, hB, hE, hD, hb, e⟩ := h.bo
  exact ⟨h.ow.same hf, ⟨rB, rE, rD, hB, hE, hD, hb.keep hf, e⟩, fun j hj => ⟨(h.nk j hj).1, fun q => (h.nk j hj).2 (q.backS hf (by simp) h.ow.sh.bl)⟩⟩
/-- The owner behind what the Book writes. -/
theorem Ob.far {S : List Nat} (h : Ob w0 w1 w ob sb b n g pb C M rs bk T KB) (hf : Fr S w w') (hS : ∀ j ∈ S, j ∈ KB) : OwS w0 (fun _ => False) w' ob sb b n g pb C M rs := by
  obtain ⟨rB, rE, rD, hB, hE, hD, hb, e⟩ := h.bo
  exact h.ow.far hf (fun j hj _ => ⟨(h.nk j (hS j hj)).1, (h.nk j (hS j hj)).2, Or.inr (kbs_ty hb j (by rw [← e]; exact hS j hj))⟩)
theorem Ob.told {T' : Nat} {rB' rE' rD' : Value} {hB' hE' hD' : List Bq.HB} {S : List Nat} (h : Ob w0 w1 w ob sb b n g pb C M rs bk T KB) (hb' : Bq.B3 w1 w' bk T' rB' rE' rD' hB' hE' hD') (hf : Fr S w w') (hS : ∀ j ∈ S, j ∈ KB) {H : Nat → Prop} (hH : ∀ j, H j → w0.heap.size ≤ j ∧ ¬ OwnA ob sb b g pb w j) (hN : ∀ j ∈ Bq.kbs bk rB' rE' rD' hB' hE' hD', j ∈ KB ∨ H j ∨ w.heap.size ≤ j) :
    ∃ KB', Ob w0 w1 w' ob sb b n g pb C M rs bk T' KB' ∧ ∀ j ∈ KB', j ∈ KB ∨ H j ∨ w.heap.size ≤ j := by
  have hbS : b ∉ S := fun hm => (h.nk b (hS b hm)).2 (Or.inr (Or.inr (Or.inl rfl)))
  have s0 := h.ow.fr.size
  refine ⟨_, ⟨h.far hf hS, ⟨rB', rE', rD', hB', hE', hD', hb', rfl⟩, fun j hj => ?_⟩, hN⟩
  have back : OwnA ob sb b g pb w' j → OwnA ob sb b g pb w j := fun q => q.backS hf hbS h.ow.sh.bl
  rcases hN j hj with q | q | q
  · exact ⟨(h.nk j q).1, fun r => (h.nk j q).2 (back r)⟩
  · exact ⟨(hH j q).1, fun r => (hH j q).2 (back r)⟩
  · exact ⟨by omega, fun r => by have := h.ow.ltA (back r); omega⟩
theorem ob_entries {ro : Option Addr} {N rc : Nat} {ps : List Pr} {H : Nat → Prop} (h : Ob w0 w1 w ob sb b n g pb C M rs bk T KB) (hS : EOut B w ro N rc ps) (hH : ∀ j, H j → w0.heap.size ≤ j ∧ ¬ OwnA ob sb b g pb w j) (hr : ∀ k, (Value.slice ro N rc).ownBlock = some k → H k ∧ k ∉ KB) (hm : N < 17179869184) (hT : T < 67107000) :
    Calls Tryz.prog 21 #[.pointer (some ⟨bk, 0, none⟩), .slice ro N rc] w fun e w' => e = .returned (.tuple #[]) ∧ ∃ KB' S, Ob w0 w1 w' ob sb b n g pb C M rs bk (T + 1) KB' ∧ (∀ j ∈ KB', j ∈ KB ∨ H j ∨ w.heap.size ≤ j) ∧ Fr S w w' ∧ (∀ j ∈ S, j ∈ KB) ∧ ∀ j ∈ S, ∃ cur tt, w.heap[j]? = some (.cells cur tt (0, 0)) ∧ tt ≠ 61 ∧ tt ≠ 79 ∧ tt ≠ 106 := by
  obtain ⟨rB, rE, rD, hB, hE, hD, hb, e⟩ := h.bo
  refine (Bq.entries_any hb ro N rc ⟨N, celsE ps, Bq.Cut.of (Bq.own_base8 hS.row), hm⟩ (fun k hk hm2 => (hr k hk).2 (by rw [e]; exact Bq.mem_kbs.2 (Or.inr (Or.inr (Or.inl (Or.inr hm2)))))) (by omega)).mono ?_
  rintro e' w' ⟨rfl, rv', hb', hF, hM⟩
  have hSK : ∀ j ∈ bk :: rE.ownBlock.toList, j ∈ KB := fun j hj => by
    rw [e]
    rcases List.mem_cons.1 hj with q | q
    · exact Bq.mem_kbs.2 (Or.inl q)
    · exact Bq.mem_kbs.2 (Or.inr (Or.inr (Or.inl (Or.inl (Option.mem_toList.1 q)))))
  obtain ⟨KB', z1, z2⟩ := h.told hb' hF hSK hH (fun j hj => by
    rw [e]
    rcases Bq.mem_kbs.1 hj with q | (q | q) | (q | q) | (q | q)
    · exact Or.inl (Bq.mem_kbs.2 (Or.inl q))
    · exact Or.inl (Bq.mem_kbs.2 (Or.inr (Or.inl (Or.inl q))))
    · exact Or.inl (Bq.mem_kbs.2 (Or.inr (Or.inl (Or.inr q))))
    · rcases Bq.moved_of hM q with q2 | q2
      · exact Or.inl (Bq.mem_kbs.2 (Or.inr (Or.inr (Or.inl (Or.inl q2)))))
      · exact Or.inr (Or.inr q2)
    · rcases Bq.lbs_snoc q with q2 | q2
      · exact Or.inl (Bq.mem_kbs.2 (Or.inr (Or.inr (Or.inl (Or.inr q2)))))
      · exact Or.inr (Or.inl (hr j q2).1)
    · exact Or.inl (Bq.mem_kbs.2 (Or.inr (Or.inr (Or.inr (Or.inl q)))))
    · exact Or.inl (Bq.mem_kbs.2 (Or.inr (Or.inr (Or.inr (Or.inr q))))))
  refine ⟨rfl, KB', _, z1, z2, hF, hSK, fun j hj => ?_⟩
  rcases List.mem_cons.1 hj with q | q
  · obtain ⟨cs, hX, _⟩ := hb.box
    rw [q]
    exact ⟨_, _, hX.box, by decide, by decide, by decide⟩
  · obtain ⟨_, cur, e⟩ := owns_cells hb.sE.bl.row (Option.mem_toList.1 q)
    exact ⟨cur, _, e, by decide, by decide, by decide⟩
theorem ob_helds {ro : Option Addr} {N rc : Nat} {hs : List Hd} {H : Nat → Prop} (h : Ob w0 w1 w ob sb b n g pb C M rs bk T KB) (hO : HOut B w ro N rc hs) (hl : ∀ x ∈ hs, x.vs.length ≤ 131072) (hH : ∀ j, H j → w0.heap.size ≤ j ∧ ¬ OwnA ob sb b g pb w j) (hr : ∀ k, (Value.slice ro N rc).ownBlock = some k → H k ∧ k ∉ KB) (hv : ∀ x ∈ hs, ∀ a, x.vo = some a → H a.block ∧ a.block ∉ KB) (hm : N < 2097152) (hT : T + N < 67107000) :
    Calls Tryz.prog 10 #[.pointer (some ⟨bk, 0, none⟩), .slice ro N rc] w fun e w' => e = .returned (.tuple #[]) ∧ ∃ KB' S, Ob w0 w1 w' ob sb b n g pb C M rs bk (T + N + 1) KB' ∧ (∀ j ∈ KB', j ∈ KB ∨ H j ∨ w.heap.size ≤ j) ∧ Fr S w w' ∧ (∀ j ∈ S, j ∈ KB) ∧ ∀ j ∈ S, ∃ cur tt, w.heap[j]? = some (.cells cur tt (0, 0)) ∧ tt ≠ 61 ∧ tt ≠ 79 ∧ tt ≠ 106 := by
  obtain ⟨rB, rE, rD, hB, hE, hD, hb, e⟩ := h.bo
  have hver : ∀ (i : Nat) (d : Bq.Dt), (dsOf hs)[i]? = some d → ∀ k, d.2.ownBlock = some k → H k ∧ k ∉ KB := fun i d hd k hk => by
    obtain ⟨x, hx, rfl⟩ := dsOf_get hd
    obtain ⟨p, hp, e1⟩ := own_blk9 hk
    rw [← e1]
    exact hv x (List.mem_of_getElem? hx) p hp
  refine (Bq.helds_any hb ro N rc (dsOf hs) (hO.dts hl (by omega)) (fun i d hd k hk hm2 => (hver i d hd k hk).2 (by rw [e]; exact Bq.mem_kbs.2 (Or.inr (Or.inl (Or.inr hm2))))) (fun k hk hm2 => (hr k hk).2 (by rw [e]; exact Bq.mem_kbs.2 (Or.inr (Or.inr (Or.inr (Or.inr hm2)))))) (by omega)).mono ?_
  rintro e' w' ⟨rfl, rB', rD', hb', hF, hM1, hM2⟩
  have hSK : ∀ j ∈ bk :: (rB.ownBlock.toList ++ rD.ownBlock.toList), j ∈ KB := fun j hj => by
    rw [e]
    rcases List.mem_cons.1 hj with q | q
    · exact Bq.mem_kbs.2 (Or.inl q)
    · rcases List.mem_append.1 q with q | q
      · exact Bq.mem_kbs.2 (Or.inr (Or.inl (Or.inl (Option.mem_toList.1 q))))
      · exact Bq.mem_kbs.2 (Or.inr (Or.inr (Or.inr (Or.inl (Option.mem_toList.1 q)))))
  obtain ⟨KB', z1, z2⟩ := h.told hb' hF hSK hH (fun j hj => by
    rw [e]
    rcases Bq.mem_kbs.1 hj with q | (q | q) | (q | q) | (q | q)
    · exact Or.inl (Bq.mem_kbs.2 (Or.inl q))
    · rcases Bq.moved_of hM1 q with q2 | q2
      · exact Or.inl (Bq.mem_kbs.2 (Or.inr (Or.inl (Or.inl q2))))
      · exact Or.inr (Or.inr q2)
    · rw [Bq.lbs_append] at q
      rcases List.mem_append.1 q with q2 | q2
      · exact Or.inl (Bq.mem_kbs.2 (Or.inr (Or.inl (Or.inr q2))))
      · obtain ⟨i, d, hd, hk⟩ := Bq.mem_held q2
        exact Or.inr (Or.inl (hver i d hd j hk).1)
    · exact Or.inl (Bq.mem_kbs.2 (Or.inr (Or.inr (Or.inl (Or.inl q)))))
    · exact Or.inl (Bq.mem_kbs.2 (Or.inr (Or.inr (Or.inl (Or.inr q)))))
    · rcases Bq.moved_of hM2 q with q2 | q2
      · exact Or.inl (Bq.mem_kbs.2 (Or.inr (Or.inr (Or.inr (Or.inl q2)))))
      · exact Or.inr (Or.inr q2)
    · rcases Bq.lbs_snoc q with q2 | q2
      · exact Or.inl (Bq.mem_kbs.2 (Or.inr (Or.inr (Or.inr (Or.inr q2)))))
      · exact Or.inr (Or.inl (hr j q2).1))
  refine ⟨rfl, KB', _, z1, z2, hF, hSK, fun j hj => ?_⟩
  rcases List.mem_cons.1 hj with q | q
  · obtain ⟨cs, hX, _⟩ := hb.box
    rw [q]
    exact ⟨_, _, hX.box, by decide, by decide, by decide⟩
  · rcases List.mem_append.1 q with q | q
    · obtain ⟨_, cur, e⟩ := owns_cells hb.sB.bl.row (Option.mem_toList.1 q)
      exact ⟨cur, _, e, by decide, by decide, by decide⟩
    · obtain ⟨_, cur, e⟩ := owns_cells hb.sD.bl.row (Option.mem_toList.1 q)
      exact ⟨cur, _, e, by decide, by decide, by decide⟩
theorem ob_apart (h : Ob w0 w1 w ob sb b n g pb C M rs bk T KB) (ht : Bq.Tab w0) : Calls Tryz.prog 11 #[.pointer (some ⟨bk, 0, none⟩)] w fun e w' => e = .returned (.bool true) ∧ OwS w0 (fun _ => False) w' ob sb b n g pb C M rs ∧ ∃ S, Fr S w w' ∧ ∀ j ∈ S, j ∈ KB := by
  obtain ⟨rB, rE, rD, hB, hE, hD, hb, e⟩ := h.bo
  obtain ⟨cs, hX, _⟩ := hb.box
  have hin : ∀ j ∈ Bq.own3 rB rE rD hB hE hD, j ∈ KB := fun j hj => by rw [e]; exact List.mem_cons_of_mem _ hj
  refine (Bq.apart3_any bk cs rB rE rD hB hE hD w hX hb.sB hb.sE hb.sD (ht.keep h.ow.fr (by simp)) (fun hm => by have := (h.nk _ (hin _ hm)).1; have := ht.lt; omega)).mono ?_
  rintro e' w' ⟨rfl, hF⟩
  exact ⟨rfl, h.far hF hin, _, hF, hin⟩
end
end Go.Proofs.YtomajifklajilaaGreatDoor
/- A Book is told a reply; an owner's Ask and Serve by one word. Conditions as each names them. -/
namespace Go.Proofs.YtomajifklajilaaGreatDoor
open Go.ChangeShapes Go.WideShapes Go.ChangeAt Go.RowKit Go.Lib Go.Maps
set_option linter.unusedVariables false
set_option linter.unusedSimpArgs false
section
variable {w0 w1 w w' B : World} {ob sb b n g C bk T : Nat} {pb : Option Nat} {M : ByteArray → List Vn} {rs : List Rq} {KB : List Nat}
theorem os_ask1 (h : OwS w0 (fun _ => False) w ob sb b n g pb C M rs) (x : Rv) (ns : List Int) (hR : RqB w x ns) : Calls Tryz.prog 6 #[.pointer (some ⟨ob, 0, none⟩), x.v] w fun e w' => ∃ (ok : Bool) (er : Int) (pb' : Option Nat) (rs' : List Rq), e = .returned (.tuple #[.bool ok, .int .i64 er]) ∧ OwS w0 (fun _ => False) w' ob sb b n g pb' C M rs' ∧ OwF b g pb w w' ∧ ∀ k, pb' = some k → pb = some k ∨ w.heap.size ≤ k := by
  refine (os_ask h (fun k q => q.elim) x ns hR).mono ?_
  rintro e w' (⟨_, rfl, hO, hF⟩ | ⟨_, _, rfl, hO, hF⟩ | ⟨_, _, rfl, pb', hO, hF, hp⟩)
  · exact ⟨_, _, pb, rs, rfl, hO, OwF.of hF, fun k e => Or.inl e⟩
  · exact ⟨_, _, pb, rs, rfl, hO, OwF.of hF, fun k e => Or.inl e⟩
  · exact ⟨_, _, pb', _, rfl, hO, hF, hp⟩
theorem os_serve1 (h : OwS w0 (fun _ => False) w ob sb b n g pb C M rs) (hn : n < 3518437208882) : Calls Tryz.prog 7 #[.pointer (some ⟨ob, 0, none⟩)] w fun e w' => ∃ (f : Int) (ok : Bool) (eo : Option Addr) (el ec : Nat) (ho : Option Addr) (hl hc : Nat) (c er : Int) (M' : ByteArray → List Vn) (rs' : List Rq) (H : Nat → Prop), e = .returned (.tuple #[.agg #[.int .i64 f, .bool ok, .slice eo el ec, .slice ho hl hc, .int .i64 c], .int .i64 er]) ∧ OwS w0 (fun _ => False) w' ob sb b (n + 1) g pb C M' rs' ∧ OwF b g pb w w' ∧ Rp w w' n H eo el ec ho hl hc ∧ Nh ob sb b g pb H w' ∧ ∀ j, H j → w.heap.size ≤ j := by
  cases rs with
  | nil =>
    refine (os_idle h).mono ?_
    rintro e w' ⟨rfl, hO, hF⟩
    exact ⟨0, false, none, 0, 0, none, 0, 0, 0, 9, M, [], fun _ => False, rfl, ⟨hO.q, hO.sh.mono (Nat.le_succ n), hO.fr, hO.gn, hO.on, hO.pn⟩, OwF.of hF, rp_nil _ _ _ _, fun j q => q.elim, fun j q => q.elim⟩
  | cons r rs =>
    refine (os_serve h hn).mono ?_
    rintro e w' ⟨ok, eo, el, ec, ho, hl, hc, c, M', rfl, hO, hF, hR⟩
    obtain ⟨H, z1, z2, z3⟩ := rep_rp h hO hR
    exact ⟨r.f, ok, eo, el, ec, ho, hl, hc, c, 0, M', rs, H, rfl, hO, hF, z1, z2, z3⟩
set_option maxHeartbeats 2000000 in
set_option maxRecDepth 100000 in
theorem ob_resp {m : Nat} {H : Nat → Prop} {eo ho : Option Addr} {el ec hl hc : Nat} (h : Ob w0 w1 w ob sb b n g pb C M rs bk T KB) (hR : Rp B w m H eo el ec ho hl hc) (hH : ∀ j, H j → (w0.heap.size ≤ j ∧ ¬ OwnA ob sb b g pb w j) ∧ j ∉ KB ∧ j < w.heap.size) (hm : m < 2097000) (hT : T + m < 67100000) (f c : Int) (ok : Bool) :
    Calls Tryz.prog 9 #[.pointer (some ⟨bk, 0, none⟩), .agg #[.int .i64 f, .bool ok, .slice eo el ec, .slice ho hl hc, .int .i64 c]] w fun e w' => e = .returned (.tuple #[]) ∧ ∃ KB', Ob w0 w1 w' ob sb b n g pb C M rs bk (T + hl + 2) KB' ∧ (∀ j ∈ KB', j ∈ KB ∨ H j ∨ w.heap.size ≤ j) ∧ (∀ j, j < w.heap.size → j ∉ KB → w'.heap[j]? = w.heap[j]?) ∧ w.heap.size ≤ w'.heap.size ∧ (∀ j, OwnA ob sb b g pb w' j → OwnA ob sb b g pb w j) := by
  obtain ⟨wz, HWz⟩ : ∃ wz, Hid (w.alloc (.cells #[.int .i64 f, .bool ok, .slice eo el ec, .slice ho hl hc, .int .i64 c] 51) = wz) := ⟨_, rfl⟩
  have hF0 : Fr [] w wz := by rw [← HWz.out]; exact Fr.alloc [] w _
  have hr0 : wz.heap[w.heap.size]? = some (.cells #[.int .i64 f, .bool ok, .slice eo el ec, .slice ho hl hc, .int .i64 c] 51 (0, 0)) := by rw [← HWz.out]; exact heap_alloc_new w _
  obtain ⟨Z, HZ⟩ : ∃ Z, Hid (w.heap.size = Z) := ⟨_, rfl⟩
  rw [HZ.out] at hr0
  have hlz := h.lt
  have hz := h.same hF0
  obtain ⟨ps, hs, hE, hO, hlo, b1, b2, k1, k2, k3⟩ := hR.move (W' := wz) (fun j q => hF0.block j (hH j q).2.2 (by simp))
  have nA : ∀ j, H j → w0.heap.size ≤ j ∧ ¬ OwnA ob sb b g pb wz j := fun j q => ⟨(hH j q).1.1, fun r => (hH j q).1.2 (r.backS hF0 (by simp) h.ow.sh.bl)⟩
  have H1 : Hid (Calls _ _ _ _ _) := ob_entries (H := fun k => (Value.slice eo el ec).ownBlock = some k) hz hE (fun j q => nA j (k1 j q)) (fun k q => ⟨q, (hH k (k1 k q)).2.1⟩) (by omega) (by omega)
  have HZl : Hid (Z = w.heap.size ∧ Z < wz.heap.size) := ⟨HZ.out.symm, lt_of_block hr0⟩
  have H2 : Hid (∀ V KB1 S, Ob w0 w1 V ob sb b n g pb C M rs bk (T + 1) KB1 → (∀ j ∈ KB1, j ∈ KB ∨ (Value.slice eo el ec).ownBlock = some j ∨ wz.heap.size ≤ j) → Fr S wz V → (∀ j ∈ S, j ∈ KB) → Calls Tryz.prog 10 #[.pointer (some ⟨bk, 0, none⟩), .slice ho hl hc] V fun e w' => e = .returned (.tuple #[]) ∧ ∃ KB', Ob w0 w1 w' ob sb b n g pb C M rs bk (T + hl + 2) KB' ∧ (∀ j ∈ KB', j ∈ KB ∨ H j ∨ w.heap.size ≤ j) ∧ (∀ j, j < w.heap.size → j ∉ KB → w'.heap[j]? = w.heap[j]?) ∧ w.heap.size ≤ w'.heap.size ∧ (∀ j, OwnA ob sb b g pb w' j → OwnA ob sb b g pb w j)) := fun V KB1 S hV hKB hFS hS => by
    have kS : ∀ j, j < wz.heap.size → j ∉ KB → V.heap[j]? = wz.heap[j]? := fun j hj hn => hFS.block j hj (fun hm => hn (hS j hm))
    have hlt : ∀ j, H j → j < wz.heap.size := fun j q => Nat.lt_of_lt_of_le (hH j q).2.2 hF0.size
    have hO1 : HOut B V ho hl hc hs := ⟨hO.len, owns_moveO hO.row (fun k e => kS k (hlt k (k2 k e)) (hH k (k2 k e)).2.1), fun x hx => (hO.each x hx).moveO (fun a e => kS _ (hlt _ (k3 x hx a e)) (hH _ (k3 x hx a e)).2.1), hO.apart⟩
    have hbS : b ∉ S := fun hm => (h.nk b (hS b hm)).2 (Or.inr (Or.inr (Or.inl rfl)))
    have nE : ∀ k cur tt, wz.heap[k]? = some (.cells cur tt (0, 0)) → tt ≠ 61 → (Value.slice eo el ec).ownBlock ≠ some k := fun k cur tt e ht q => by
      obtain ⟨_, c2, e2⟩ := owns_cells hE.row q
      rw [e] at e2
      simp only [Option.some.injEq, Obj.cells.injEq] at e2
      exact ht e2.2.1
    have nK : ∀ k cur tt, H k → wz.heap[k]? = some (.cells cur tt (0, 0)) → tt ≠ 61 → k ∉ KB1 := fun k cur tt q e ht hm => by
      rcases hKB k hm with r | r | r
      · exact (hH k q).2.1 r
      · exact nE k cur tt e ht r
      · have := hlt k q
        omega
    have s2 := hFS.size
    refine (ob_helds (H := H) hV hO1 (fun x hx => Nat.le_trans (okV_few (hlo.2 x hx).2.2) (by omega)) (fun j q => ⟨(nA j q).1, fun r => (nA j q).2 (r.backS hFS hbS hz.ow.sh.bl)⟩) (fun k q => ?_) (fun x hx a e => ?_) (by omega) (by omega)).mono ?_
    · obtain ⟨_, cur, e2⟩ := owns_cells hO.row q
      exact ⟨k2 k q, nK k cur _ (k2 k q) e2 (by decide)⟩
    · obtain ⟨rc', hr, ho'⟩ := (hO.each x hx).own
      obtain ⟨_, cur, e2⟩ := owns_cells ho' (k := a.block) (by rw [e]; simp [Value.ownBlock])
      exact ⟨k3 x hx a e, nK _ cur _ (k3 x hx a e) e2 (by decide)⟩
    · rintro e' V2 ⟨rfl, KB2, S2, q1, q2, q3, q4, q5⟩
      have s3 := q3.size
      have s1 := hF0.size
      refine ⟨rfl, KB2, by rw [show T + hl + 2 = T + 1 + hl + 1 by omega]; exact q1, fun j hj => ?_, fun j hj hn => ?_, by omega, fun j r => ((r.backS q3 (fun hm => (hV.nk b (q4 b hm)).2 (Or.inr (Or.inr (Or.inl rfl)))) hV.ow.sh.bl).backS hFS hbS hz.ow.sh.bl).backS hF0 (by simp) h.ow.sh.bl⟩
      · rcases q2 j hj with r | r | r
        · rcases hKB j r with r | r | r
          · exact Or.inl r
          · exact Or.inr (Or.inl (k1 j r))
          · exact Or.inr (Or.inr (by omega))
        · exact Or.inr (Or.inl r)
        · exact Or.inr (Or.inr (by omega))
      · by_cases hk : j ∈ S2
        · rcases hKB j (q4 j hk) with r | r | r
          · exact absurd r hn
          · exfalso
            obtain ⟨cur, tt, e1, e2, _⟩ := q5 j hk
            obtain ⟨_, c3, e3⟩ := owns_cells hE.row r
            rw [kS j (hlt j (k1 j r)) hn, e3] at e1
            simp only [Option.some.injEq, Obj.cells.injEq] at e1
            exact e2 e1.2.1.symm
          · omega
        · rw [q3.block j (by omega) hk, kS j (by omega) hn, hF0.block j hj (by simp)]
  have HB : Hid (∀ V S, Fr S wz V → (∀ j ∈ S, j ∈ KB) → V.heap[Z]? = wz.heap[Z]?) := fun V S hf hS => hf.block Z HZl.out.2 (fun hm => by have := hlz _ (hS _ hm); have := HZl.out.1; omega)
  have c2 : wz.cell? ⟨Z, 2, none⟩ = some (.slice eo el ec) := by rw [cell_of_row _ _ _ _ _ _ hr0]; rfl
  have HR0 := (show Hid _ from hr0)
  clear h hz hR hH hE hO hlo b1 b2 k1 k2 k3 nA hlz hr0 hF0
  go_enter Tryz.func9, Tryz.ntmps9
  go_upto_region 1 with fail
  rw [HWz.out, HZ.out]
  clear HWz HZ
  go_wp2_with fail
  refine Calls.mono H1.out ?_
  rintro e v1 ⟨rfl, KB1, S1, q1, q2, q3, q4, _⟩
  have c3 : v1.cell? ⟨Z, 3, none⟩ = some (.slice ho hl hc) := by rw [cell_of_row _ _ _ _ _ _ ((HB.out v1 S1 q3 q4).trans HR0.out)]; rfl
  have HC : Hid (Calls _ _ _ _ _) := H2.out v1 KB1 S1 q1 q2 q3 q4
  clear q1 q2 q3 q4 H1 H2 c2
  go_wp2_with fail
  refine Calls.mono HC.out ?_
  rintro e w' ⟨rfl, R⟩
  have HR : Hid _ := R
  clear R HC
  go_wp2_with fail
  go_end0
  exact ⟨rfl, HR.out⟩
end
end Go.Proofs.YtomajifklajilaaGreatDoor
