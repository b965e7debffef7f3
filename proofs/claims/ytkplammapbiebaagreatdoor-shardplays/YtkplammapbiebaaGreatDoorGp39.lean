/- Texts of this claim laid together, one behind the other: contracts and plain lemmas; conditions as each names them. -/
import Derived.Test.YtkplammapbiebaaGreatDoorGp38
/- Both shards, one that is not there, and a Book beside them: what each call leaves. Conditions as each names them. -/
namespace Go.Proofs.YtkplammapbiebaaGreatDoor
open Go.ChangeShapes Go.WideShapes Go.ChangeAt Go.RowKit Go.Lib Go.Maps
set_option linter.unusedVariables false
set_option linter.unusedSimpArgs false

/-- What the law keeps: both shards, the zero one in block z, the Book in block bk with its blocks KB. -/
structure St9 (wS w0 w1 w : World) (s r : Option Addr) (z bk T n : Nat) (Own : Nat → Prop) (KB : List Nat) : Prop where
  pr : Pr9 w0 w s r n Own
  zr : NoSh w (some ⟨z, 0, none⟩)
  dz : ¬ Own z
  zn : w0.heap.size ≤ z
  bo : ∃ rB rE rD hB hE hD, Bq.B3 w1 w bk T rB rE rD hB hE hD ∧ KB = Bq.kbs bk rB rE rD hB hE hD
  d1 : ∀ j, j = z ∨ Own j → j ∉ KB
  nk : ∀ j ∈ KB, wS.heap.size ≤ j
  fr : Fr [] wS w
  sz : wS.heap.size ≤ w0.heap.size
theorem NoSh.lt {w : World} {z : Nat} (h : NoSh w (some ⟨z, 0, none⟩)) : z < w.heap.size := by
  rcases h with e | ⟨y, e, hy⟩
  · cases e
  · cases e; exact lt_of_block hy
section
variable {wS w0 w1 w w' V : World} {s r : Option Addr} {z bk T n m : Nat} {Own : Nat → Prop} {KB : List Nat}
theorem St9.klt (h : St9 wS w0 w1 w s r z bk T n Own KB) : ∀ j ∈ KB, j < w.heap.size := by
  obtain ⟨rB, rE, rD, hB, hE, hD, hb, rfl⟩ := h.bo
  exact hb.lt
theorem St9.lt (h : St9 wS w0 w1 w s r z bk T n Own KB) : ∀ j, j = z ∨ Own j ∨ j ∈ KB → j < w.heap.size := by
  rintro j (rfl | hj | hj)
  · exact h.zr.lt
  · exact h.pr.lt j hj
  · exact h.klt j hj
theorem St9.keep {S : List Nat} (h : St9 wS w0 w1 w s r z bk T n Own KB) (hf : Fr S w w') (h1 : ∀ j ∈ S, ¬ (j = z ∨ Own j ∨ j ∈ KB)) (h2 : ∀ j ∈ S, wS.heap.size ≤ j) : St9 wS w0 w1 w' s r z bk T n Own KB := by
  obtain ⟨rB, rE, rD, hB, hE, hD, hb, e⟩ := h.bo
  refine ⟨h.pr.keep hf (fun j hj hm => h1 j hj (Or.inr (Or.inl hm))), h.zr.keep hf (fun a ha hm => by cases ha; exact h1 z hm (Or.inl rfl)), h.dz, h.zn, ⟨rB, rE, rD, hB, hE, hD, hb.keepN hf (fun j hj hm => h1 j hm (Or.inr (Or.inr (by rw [e]; exact hj)))), e⟩, h.d1, h.nk, h.fr.on hf h2, h.sz⟩
theorem St9.quiet (h : St9 wS w0 w1 w s r z bk T n Own KB) (hf : Fr [] w w') : St9 wS w0 w1 w' s r z bk T n Own KB := h.keep hf (by simp) (by simp)
/-- Behind a call of both shards. -/
theorem St9.move (h : St9 wS w0 w1 w s r z bk T n Own KB) (hx : Nx9 w0 w w' s r m Own) : ∃ Own', St9 wS w0 w1 w' s r z bk T m Own' KB := by
  obtain ⟨Own', hp, hM, hO⟩ := hx
  obtain ⟨S, hS, hS2⟩ := hM.to
  have hzl := h.zr.lt
  have hkl := h.klt
  obtain ⟨rB, rE, rD, hB, hE, hD, hb, e⟩ := h.bo
  refine ⟨Own', hp, h.zr.keep hS (fun a ha hm => by cases ha; exact h.dz (hS2 z hm)), fun hm => ?_, h.zn, ⟨rB, rE, rD, hB, hE, hD, hb.keepN hS (fun j hj hm => h.d1 j (Or.inr (hS2 j hm)) (by rw [e]; exact hj)), e⟩, fun j hj hm => ?_, h.nk, h.fr.on hS (fun j hj => Nat.le_trans h.sz (h.pr.nw j (hS2 j hj))), h.sz⟩
  · rcases hO z hm with q | q
    · exact h.dz q
    · omega
  · rcases hj with q | q
    · exact h.d1 j (Or.inl q) hm
    · rcases hO j q with q2 | q2
      · exact h.d1 j (Or.inr q2) hm
      · have := hkl j hm; omega
/-- The pair of the zero shard and the document's nil. -/
theorem St9.zp (h : St9 wS w0 w1 w s r z bk T n Own KB) (k : Nat) : Pr9 w0 w (some ⟨z, 0, none⟩) none k (fun j => j = z) :=
  Or.inr ⟨h.zr, rfl, fun j => ⟨fun e => ⟨_, rfl, e.symm⟩, fun ⟨a, ha, e⟩ => by cases ha; exact e.symm⟩, fun j e => by rw [e]; exact h.zn⟩
/-- Behind a call of that pair. -/
theorem St9.zmove {k : Nat} (h : St9 wS w0 w1 w s r z bk T n Own KB) (hx : Nx9 w0 w w' (some ⟨z, 0, none⟩) none k (fun j => j = z)) : St9 wS w0 w1 w' s r z bk T n Own KB := by
  obtain ⟨Own', hp, hM, hO⟩ := hx
  obtain ⟨S, hS, hS2⟩ := hM.to
  obtain ⟨rB, rE, rD, hB, hE, hD, hb, e⟩ := h.bo
  have hzr : NoSh w' (some ⟨z, 0, none⟩) := by
    rcases hp with ⟨_, _, _, _, _, _, _, _, e2, _⟩ | ⟨h1, _⟩
    · cases e2
    · exact h1
  exact ⟨h.pr.keep hS (fun j hj hm => h.dz (by rw [← hS2 j hj]; exact hm)), hzr, h.dz, h.zn, ⟨rB, rE, rD, hB, hE, hD, hb.keepN hS (fun j hj hm => h.d1 j (Or.inl (hS2 j hm)) (by rw [e]; exact hj)), e⟩, h.d1, h.nk, h.fr.on hS (fun j hj => by rw [hS2 j hj]; exact Nat.le_trans h.sz h.zn), h.sz⟩
/-- Keys with versions as a Book sees them. -/
def dsOf (hs : List Hd) : List Bq.Dt := hs.map fun h => (h.key, .slice h.vo h.L h.cap)
theorem dsOf_C (hs : List Hd) : Bq.dtC (dsOf hs) = hdsC hs := by unfold dsOf Bq.dtC hdsC; rw [List.flatMap_map]; rfl
theorem dsOf_get {hs : List Hd} {i : Nat} {d : Bq.Dt} (h : (dsOf hs)[i]? = some d) : ∃ x, hs[i]? = some x ∧ d = (x.key, .slice x.vo x.L x.cap) := by
  unfold dsOf at h
  rw [List.getElem?_map] at h
  cases hx : hs[i]? with
  | none => rw [hx] at h; simp at h
  | some x => rw [hx] at h; simp at h; exact ⟨x, rfl, h.symm⟩
theorem own_blk9 {ao : Option Addr} {L c k : Nat} (h : (Value.slice ao L c).ownBlock = some k) : ∃ p, ao = some p ∧ p.block = k := by
  cases ao with
  | none => simp [Value.ownBlock] at h
  | some p => simp [Value.ownBlock] at h; exact ⟨p, rfl, h⟩
theorem HOut.dts {ro : Option Addr} {N rc : Nat} {hs : List Hd} (h : HOut V w ro N rc hs) (hr : ∀ x ∈ hs, x.vs.length ≤ 131072) (hN : N < 2097152) : Bq.Dts w ro N rc (dsOf hs) := by
  refine ⟨by rw [dsOf_C]; exact Bq.own_base8 h.row, by rw [h.len]; simp [dsOf], hN, fun i d hd => ?_, fun i j a b ha hb hij k hka hkb => ?_⟩
  · obtain ⟨x, hx, rfl⟩ := dsOf_get hd
    have hm := List.mem_of_getElem? hx
    obtain ⟨n, vs, h1, h2⟩ := Bq.P0.of_out (n := 0) (h.each x hm) (by have := (h.each x hm).len; have := hr x hm; omega)
    exact ⟨n, vs, h1, h2⟩
  · obtain ⟨x, hx, rfl⟩ := dsOf_get ha
    obtain ⟨y, hy, rfl⟩ := dsOf_get hb
    obtain ⟨p, hp, e1⟩ := own_blk9 hka
    obtain ⟨q, hq, e2⟩ := own_blk9 hkb
    have hil := (List.getElem?_eq_some_iff.1 hx).1
    have hjl := (List.getElem?_eq_some_iff.1 hy).1
    have hxe := (List.getElem?_eq_some_iff.1 hx).2
    have hye := (List.getElem?_eq_some_iff.1 hy).2
    rcases Nat.lt_or_gt_of_ne hij with hlt | hlt
    · have := List.pairwise_iff_getElem.1 h.apart i j hil hjl hlt
      rw [hxe, hye] at this
      exact this p q hp hq (e1.trans e2.symm)
    · have := List.pairwise_iff_getElem.1 h.apart j i hjl hil hlt
      rw [hxe, hye] at this
      exact this q p hq hp (e2.trans e1.symm)
/-- The Book is told a list more: what it has of blocks then. -/
theorem St9.told {T' : Nat} {rB rE rD rB' rE' rD' : Value} {hB hE hD hB' hE' hD' : List Bq.HB} {S : List Nat} (h : St9 wS w0 w1 w s r z bk T n Own KB) (e : KB = Bq.kbs bk rB rE rD hB hE hD) (hb' : Bq.B3 w1 w' bk T' rB' rE' rD' hB' hE' hD') (hf : Fr S w w') (hS : ∀ j ∈ S, j ∈ KB) (hN : ∀ j ∈ Bq.kbs bk rB' rE' rD' hB' hE' hD', j ∈ KB ∨ (¬ (j = z ∨ Own j) ∧ wS.heap.size ≤ j)) : ∃ KB', St9 wS w0 w1 w' s r z bk T' n Own KB' := by
  refine ⟨_, h.pr.keep hf (fun j hj hm => h.d1 j (Or.inr hm) (hS j hj)), h.zr.keep hf (fun a ha hm => by cases ha; exact h.d1 z (Or.inl rfl) (hS z hm)), h.dz, h.zn, ⟨rB', rE', rD', hB', hE', hD', hb', rfl⟩, fun j hj hm => ?_, fun j hj => ?_, h.fr.on hf (fun j hj => h.nk j (hS j hj)), h.sz⟩
  · rcases hN j hm with q | q
    · exact h.d1 j hj q
    · exact q.1 hj
  · rcases hN j hj with q | q
    · exact h.nk j q
    · exact q.2
theorem st_helds {ro : Option Addr} {N rc : Nat} {kv : List (ByteArray × List Vn)} (h : St9 wS w0 w1 w s r z bk T n Own KB) (hS : HSame V w ro N rc m kv) (hV : ∀ j, j = z ∨ Own j ∨ j ∈ KB → j < V.heap.size) (hVs : wS.heap.size ≤ V.heap.size) (hm : m < 2097152) (hT : T + m < 67107000) :
    Calls Tryz.prog 11 #[.pointer (some ⟨bk, 0, none⟩), .slice ro N rc] w fun e w' => e = .returned (.tuple #[]) ∧ ∃ KB', St9 wS w0 w1 w' s r z bk (T + N + 1) n Own KB' := by
  obtain ⟨hs, hO, _, _, hNm, hR⟩ := hS
  obtain ⟨rB, rE, rD, hB, hE, hD, hb, e⟩ := h.bo
  have hrow : ∀ k, (Value.slice ro N rc).ownBlock = some k → V.heap.size ≤ k := fun k hk => (owns_cells hO.row hk).1
  have hver : ∀ (i : Nat) (d : Bq.Dt), (dsOf hs)[i]? = some d → ∀ k, d.2.ownBlock = some k → V.heap.size ≤ k := fun i d hd k hk => by
    obtain ⟨x, hx, rfl⟩ := dsOf_get hd
    obtain ⟨p, hp, e1⟩ := own_blk9 hk
    have := ((hO.each x (List.mem_of_getElem? hx)).block p hp).1
    omega
  have hKl : ∀ j ∈ KB, j < V.heap.size := fun j hj => hV j (Or.inr (Or.inr hj))
  refine (Bq.helds_any hb ro N rc (dsOf hs) (hO.dts hR (by omega)) (fun i d hd k hk hm2 => ?_) (fun k hk hm2 => ?_) (by omega)).mono ?_
  · have h1 := hver i d hd k hk
    have h2 := hKl k (by rw [e]; exact Bq.mem_kbs.2 (Or.inr (Or.inl (Or.inr hm2))))
    omega
  · have h1 := hrow k hk
    have h2 := hKl k (by rw [e]; exact Bq.mem_kbs.2 (Or.inr (Or.inr (Or.inr (Or.inr hm2)))))
    omega
  · rintro e' w' ⟨rfl, rB', rD', hb', hF, hM1, hM2⟩
    refine ⟨rfl, h.told e hb' hF (fun j hj => ?_) (fun j hj => ?_)⟩
    · rw [e]
      rcases List.mem_cons.1 hj with q | q
      · exact Bq.mem_kbs.2 (Or.inl q)
      · rcases List.mem_append.1 q with q | q
        · exact Bq.mem_kbs.2 (Or.inr (Or.inl (Or.inl (Option.mem_toList.1 q))))
        · exact Bq.mem_kbs.2 (Or.inr (Or.inr (Or.inr (Or.inl (Option.mem_toList.1 q)))))
    · have hnew : ∀ j, V.heap.size ≤ j → ¬ (j = z ∨ Own j) ∧ wS.heap.size ≤ j := fun j hj => ⟨fun hq => by
        have := hV j (by rcases hq with q | q; exact Or.inl q; exact Or.inr (Or.inl q)); omega, by omega⟩
      have hnw : ∀ j, w.heap.size ≤ j → ¬ (j = z ∨ Own j) ∧ wS.heap.size ≤ j := fun j hj => ⟨fun hq => by
        have := h.lt j (by rcases hq with q | q; exact Or.inl q; exact Or.inr (Or.inl q)); omega, by have := h.fr.size; omega⟩
      rw [e]
      rcases Bq.mem_kbs.1 hj with q | (q | q) | (q | q) | (q | q)
      · exact Or.inl (Bq.mem_kbs.2 (Or.inl q))
      · rcases Bq.moved_of hM1 q with q2 | q2
        · exact Or.inl (Bq.mem_kbs.2 (Or.inr (Or.inl (Or.inl q2))))
        · exact Or.inr (hnw j q2)
      · rw [Bq.lbs_append] at q
        rcases List.mem_append.1 q with q2 | q2
        · exact Or.inl (Bq.mem_kbs.2 (Or.inr (Or.inl (Or.inr q2))))
        · obtain ⟨i, d, hd, hk⟩ := Bq.mem_held q2
          exact Or.inr (hnew j (hver i d hd j hk))
      · exact Or.inl (Bq.mem_kbs.2 (Or.inr (Or.inr (Or.inl (Or.inl q)))))
      · exact Or.inl (Bq.mem_kbs.2 (Or.inr (Or.inr (Or.inl (Or.inr q)))))
      · rcases Bq.moved_of hM2 q with q2 | q2
        · exact Or.inl (Bq.mem_kbs.2 (Or.inr (Or.inr (Or.inr (Or.inl q2)))))
        · exact Or.inr (hnw j q2)
      · rcases Bq.lbs_snoc q with q2 | q2
        · exact Or.inl (Bq.mem_kbs.2 (Or.inr (Or.inr (Or.inr (Or.inr q2)))))
        · exact Or.inr (hnew j (hrow j q2))
theorem st_entries {ro : Option Addr} {N rc : Nat} {ps : List Pr} (h : St9 wS w0 w1 w s r z bk T n Own KB) (hS : EOut V w ro N rc ps) (hV : ∀ j, j = z ∨ Own j ∨ j ∈ KB → j < V.heap.size) (hVs : wS.heap.size ≤ V.heap.size) (hm : N < 17179869184) (hT : T < 67107000) :
    Calls Tryz.prog 18 #[.pointer (some ⟨bk, 0, none⟩), .slice ro N rc] w fun e w' => e = .returned (.tuple #[]) ∧ ∃ KB', St9 wS w0 w1 w' s r z bk (T + 1) n Own KB' := by
  obtain ⟨rB, rE, rD, hB, hE, hD, hb, e⟩ := h.bo
  have hrow : ∀ k, (Value.slice ro N rc).ownBlock = some k → V.heap.size ≤ k := fun k hk => (owns_cells hS.row hk).1
  have hKl : ∀ j ∈ KB, j < V.heap.size := fun j hj => hV j (Or.inr (Or.inr hj))
  refine (Bq.entries_any hb ro N rc ⟨N, celsE ps, Bq.Cut.of (Bq.own_base8 hS.row), hm⟩ (fun k hk hm2 => ?_) (by omega)).mono ?_
  · have h1 := hrow k hk
    have h2 := hKl k (by rw [e]; exact Bq.mem_kbs.2 (Or.inr (Or.inr (Or.inl (Or.inr hm2)))))
    omega
  · rintro e' w' ⟨rfl, rv', hb', hF, hM⟩
    refine ⟨rfl, h.told e hb' hF (fun j hj => ?_) (fun j hj => ?_)⟩
    · rw [e]
      rcases List.mem_cons.1 hj with q | q
      · exact Bq.mem_kbs.2 (Or.inl q)
      · exact Bq.mem_kbs.2 (Or.inr (Or.inr (Or.inl (Or.inl (Option.mem_toList.1 q)))))
    · have hnew : ∀ j, V.heap.size ≤ j → ¬ (j = z ∨ Own j) ∧ wS.heap.size ≤ j := fun j hj => ⟨fun hq => by
        have := hV j (by rcases hq with q | q; exact Or.inl q; exact Or.inr (Or.inl q)); omega, by omega⟩
      have hnw : ∀ j, w.heap.size ≤ j → ¬ (j = z ∨ Own j) ∧ wS.heap.size ≤ j := fun j hj => ⟨fun hq => by
        have := h.lt j (by rcases hq with q | q; exact Or.inl q; exact Or.inr (Or.inl q)); omega, by have := h.fr.size; omega⟩
      rw [e]
      rcases Bq.mem_kbs.1 hj with q | (q | q) | (q | q) | (q | q)
      · exact Or.inl (Bq.mem_kbs.2 (Or.inl q))
      · exact Or.inl (Bq.mem_kbs.2 (Or.inr (Or.inl (Or.inl q))))
      · exact Or.inl (Bq.mem_kbs.2 (Or.inr (Or.inl (Or.inr q))))
      · rcases Bq.moved_of hM q with q2 | q2
        · exact Or.inl (Bq.mem_kbs.2 (Or.inr (Or.inr (Or.inl (Or.inl q2)))))
        · exact Or.inr (hnw j q2)
      · rcases Bq.lbs_snoc q with q2 | q2
        · exact Or.inl (Bq.mem_kbs.2 (Or.inr (Or.inr (Or.inl (Or.inr q2)))))
        · exact Or.inr (hnew j (hrow j q2))
      · exact Or.inl (Bq.mem_kbs.2 (Or.inr (Or.inr (Or.inr (Or.inl q)))))
      · exact Or.inl (Bq.mem_kbs.2 (Or.inr (Or.inr (Or.inr (Or.inr q)))))
theorem st_apart (h : St9 wS w0 w1 w s r z bk T n Own KB) (ht : Bq.Tab wS) : Calls Tryz.prog 12 #[.pointer (some ⟨bk, 0, none⟩)] w fun e w' => e = .returned (.bool true) ∧ Pr9 w0 w' s r n Own ∧ NoSh w' (some ⟨z, 0, none⟩) ∧ Fr [] wS w' := by
  obtain ⟨rB, rE, rD, hB, hE, hD, hb, e⟩ := h.bo
  obtain ⟨cs, hX, _⟩ := hb.box
  have hin : ∀ j ∈ Bq.own3 rB rE rD hB hE hD, j ∈ KB := fun j hj => by rw [e]; exact List.mem_cons_of_mem _ hj
  refine (Bq.apart3_any bk cs rB rE rD hB hE hD w hX hb.sB hb.sE hb.sD (ht.keep h.fr (by simp)) (fun hm => by have := h.nk _ (hin _ hm); have := ht.lt; omega)).mono ?_
  rintro e' w' ⟨rfl, hF⟩
  exact ⟨rfl, h.pr.keep hF (fun j hj hm => h.d1 j (Or.inr hm) (hin j hj)), h.zr.keep hF (fun a ha hm => by cases ha; exact h.d1 z (Or.inl rfl) (hin z hm)), h.fr.on hF (fun j hj => h.nk j (hin j hj))⟩
end
end Go.Proofs.YtkplammapbiebaaGreatDoor
