/- Texts of this claim laid together, one behind the other: contracts and plain lemmas; conditions as each names them. -/
import Derived.Test.YtpdkdgmaofhlkaaGreatDoorGp45
import Derived.Test.YtpdkdgmaofhlkaaGreatDoorGp6
/- A Book beside a task is told numbers, entries, helds. Conditions as each names them. -/
namespace Go.Proofs.YtpdkdgmaofhlkaaGreatDoor
open Go.ChangeShapes Go.WideShapes Go.ChangeAt Go.RowKit Go.Lib Go.Sort
set_option linter.unusedVariables false
set_option linter.unusedSimpArgs false

section
variable {V w : World}
/-- Keys with versions as a Book sees them. -/
def dsOf (hs : List Hd) : List Bq.Dt := hs.map fun h => (h.key, .slice h.vo h.L h.cap)
theorem dsOf_C (hs : List Hd) : Bq.dtC (dsOf hs) = hdsC hs := by unfold dsOf Bq.dtC hdsC; rw [List.flatMap_map]; rfl
theorem dsOf_get {hs : List Hd} {i : Nat} {d : Bq.Dt} (h : (dsOf hs)[i]? = some d) : ∃ x, hs[i]? = some x ∧ d = (x.key, .slice x.vo x.L x.cap) := by
  unfold dsOf at h
  rw [List.getElem?_map] at h
  cases hx : hs[i]? with
  | none => rw [hx] at h; simp at h
  | some x => rw [hx] at h; simp at h; exact ⟨x, rfl, h.symm⟩
theorem own_blk9 {ao : Option Addr} {L c k : Nat} (h : (Value.slice ao L c).ownBlock = some k) : ∃ p, ao = some p ∧ p.block = k := by
  cases ao with
  | none => simp [Value.ownBlock] at h
  | some p => simp [Value.ownBlock] at h; exact ⟨p, rfl, h⟩
theorem HOut.dts {ro : Option Addr} {N rc : Nat} {hs : List Hd} (h : HOut V w ro N rc hs) (hr : ∀ x ∈ hs, x.vs.length ≤ 1048576) (hN : N < 2097152) : Bq.Dts w ro N rc (dsOf hs) := by
  refine ⟨by rw [dsOf_C]; exact Bq.own_base8 h.row, by rw [h.len]; simp [dsOf], hN, fun i d hd => ?_, fun i j a b ha hb hij k hka hkb => ?_⟩
  · obtain ⟨x, hx, rfl⟩ := dsOf_get hd
    have hm := List.mem_of_getElem? hx
    obtain ⟨n, vs, h1, h2⟩ := Bq.P0.of_out (n := 0) (h.each x hm) (by have := (h.each x hm).len; have := hr x hm; omega)
    exact ⟨n, vs, h1, h2⟩
  · obtain ⟨x, hx, rfl⟩ := dsOf_get ha
    obtain ⟨y, hy, rfl⟩ := dsOf_get hb
    obtain ⟨p, hp, e1⟩ := own_blk9 hka
    obtain ⟨q, hq, e2⟩ := own_blk9 hkb
    have hil := (List.getElem?_eq_some_iff.1 hx).1
    have hjl := (List.getElem?_eq_some_iff.1 hy).1
    have hxe := (List.getElem?_eq_some_iff.1 hx).2
    have hye := (List.getElem?_eq_some_iff.1 hy).2
    rcases Nat.lt_or_gt_of_ne hij with hlt | hlt
    · have := List.pairwise_iff_getElem.1 h.apart i j hil hjl hlt
      rw [hxe, hye] at this
      exact this p q hp hq (e1.trans e2.symm)
    · have := List.pairwise_iff_getElem.1 h.apart j i hjl hil hlt
      rw [hxe, hye] at this
      exact this q p hq hp (e2.trans e1.symm)
end
theorem pk_ints {w0 w : World} {t bk n : Nat} {B KB : List Nat} {T : Tk} {bs : List Int} {xs : List Rx} (h : Pk w0 w t bk B KB T bs xs n) {ro : Option Addr} {N rc base : Nat} {vs : List Value} (ho : w.ownsRow base 3 1 (.slice ro N rc) N vs) (hk : ∀ k, (Value.slice ro N rc).ownBlock = some k → k ∉ KB ∧ k ∉ t :: B ∧ w0.heap.size ≤ k) (hm : N < 17179869184) (hn : n < 67107000) :
    Calls Tryz.prog 29 #[.pointer (some ⟨bk, 0, none⟩), .slice ro N rc] w fun e w' => e = .returned (.tuple #[]) ∧ ∃ KB' S, Pk w0 w' t bk B KB' T bs xs (n + 1) ∧ (∀ k ∈ KB', k ∈ KB ∨ (Value.slice ro N rc).ownBlock = some k ∨ w.heap.size ≤ k) ∧ Fr S w w' ∧ ∀ z ∈ S, z ∈ KB := by
  obtain ⟨rB, rI, rW, rT, hB, hI, hW, hT, hb, e⟩ := h.bo
  refine (Bq.ints_any hb ro N rc ⟨N, vs, Bq.Cut.of (Bq.own_base8 ho), hm⟩ (fun k hk' hm2 => (hk k hk').1 (by rw [e]; exact Bq.mem_kbs.2 (Or.inr (Or.inr (Or.inl (Or.inr hm2)))))) (by omega)).mono ?_
  rintro e' w' ⟨rfl, rv', hb', hF, hM⟩
  have hSK : ∀ j ∈ bk :: rI.ownBlock.toList, j ∈ KB := fun j hj => by
    rw [e]
    rcases List.mem_cons.1 hj with q | q
    · exact Bq.mem_kbs.2 (Or.inl q)
    · exact Bq.mem_kbs.2 (Or.inr (Or.inr (Or.inl (Or.inl (Option.mem_toList.1 q)))))
  obtain ⟨KB', z1, z2⟩ := h.told hb' hF hSK (H := fun k => (Value.slice ro N rc).ownBlock = some k) (fun k q => (hk k q).2) (fun k hk2 => by
    rw [e]
    rcases Bq.mem_kbs.1 hk2 with q | (q | q) | (q | q) | (q | q) | (q | q)
    · exact Or.inl (Bq.mem_kbs.2 (Or.inl q))
    · exact Or.inl (Bq.mem_kbs.2 (Or.inr (Or.inl (Or.inl q))))
    · exact Or.inl (Bq.mem_kbs.2 (Or.inr (Or.inl (Or.inr q))))
    · rcases Bq.moved_of hM q with q2 | q2
      · exact Or.inl (Bq.mem_kbs.2 (Or.inr (Or.inr (Or.inl (Or.inl q2)))))
      · exact Or.inr (Or.inr q2)
    · rcases Bq.lbs_snoc q with q2 | q2
      · exact Or.inl (Bq.mem_kbs.2 (Or.inr (Or.inr (Or.inl (Or.inr q2)))))
      · exact Or.inr (Or.inl q2)
    · exact Or.inl (Bq.mem_kbs.2 (Or.inr (Or.inr (Or.inr (Or.inl (Or.inl q))))))
    · exact Or.inl (Bq.mem_kbs.2 (Or.inr (Or.inr (Or.inr (Or.inl (Or.inr q))))))
    · exact Or.inl (Bq.mem_kbs.2 (Or.inr (Or.inr (Or.inr (Or.inr (Or.inl q))))))
    · exact Or.inl (Bq.mem_kbs.2 (Or.inr (Or.inr (Or.inr (Or.inr (Or.inr q)))))))
  exact ⟨rfl, KB', _, z1, z2, hF, hSK⟩
theorem pk_entries {w0 w : World} {t bk n : Nat} {B KB : List Nat} {T : Tk} {bs : List Int} {xs : List Rx} (h : Pk w0 w t bk B KB T bs xs n) {ro : Option Addr} {N rc base : Nat} {vs : List Value} (ho : w.ownsRow base 102 2 (.slice ro N rc) N vs) (hk : ∀ k, (Value.slice ro N rc).ownBlock = some k → k ∉ KB ∧ k ∉ t :: B ∧ w0.heap.size ≤ k) (hm : N < 17179869184) (hn : n < 67107000) :
    Calls Tryz.prog 30 #[.pointer (some ⟨bk, 0, none⟩), .slice ro N rc] w fun e w' => e = .returned (.tuple #[]) ∧ ∃ KB' S, Pk w0 w' t bk B KB' T bs xs (n + 1) ∧ (∀ k ∈ KB', k ∈ KB ∨ (Value.slice ro N rc).ownBlock = some k ∨ w.heap.size ≤ k) ∧ Fr S w w' ∧ ∀ z ∈ S, z ∈ KB := by
  obtain ⟨rB, rI, rW, rT, hB, hI, hW, hT, hb, e⟩ := h.bo
  refine (Bq.entries_any hb ro N rc ⟨N, vs, Bq.Cut.of (Bq.own_base8 ho), hm⟩ (fun k hk' hm2 => (hk k hk').1 (by rw [e]; exact Bq.mem_kbs.2 (Or.inr (Or.inl (Or.inr hm2))))) (by omega)).mono ?_
  rintro e' w' ⟨rfl, rv', hb', hF, hM⟩
  have hSK : ∀ j ∈ bk :: rB.ownBlock.toList, j ∈ KB := fun j hj => by
    rw [e]
    rcases List.mem_cons.1 hj with q | q
    · exact Bq.mem_kbs.2 (Or.inl q)
    · exact Bq.mem_kbs.2 (Or.inr (Or.inl (Or.inl (Option.mem_toList.1 q))))
  obtain ⟨KB', z1, z2⟩ := h.told hb' hF hSK (H := fun k => (Value.slice ro N rc).ownBlock = some k) (fun k q => (hk k q).2) (fun k hk2 => by
    rw [e]
    rcases Bq.mem_kbs.1 hk2 with q | (q | q) | (q | q) | (q | q) | (q | q)
    · exact Or.inl (Bq.mem_kbs.2 (Or.inl q))
    · rcases Bq.moved_of hM q with q2 | q2
      · exact Or.inl (Bq.mem_kbs.2 (Or.inr (Or.inl (Or.inl q2))))
      · exact Or.inr (Or.inr q2)
    · rcases Bq.lbs_snoc q with q2 | q2
      · exact Or.inl (Bq.mem_kbs.2 (Or.inr (Or.inl (Or.inr q2))))
      · exact Or.inr (Or.inl q2)
    · exact Or.inl (Bq.mem_kbs.2 (Or.inr (Or.inr (Or.inl (Or.inl q)))))
    · exact Or.inl (Bq.mem_kbs.2 (Or.inr (Or.inr (Or.inl (Or.inr q)))))
    · exact Or.inl (Bq.mem_kbs.2 (Or.inr (Or.inr (Or.inr (Or.inl (Or.inl q))))))
    · exact Or.inl (Bq.mem_kbs.2 (Or.inr (Or.inr (Or.inr (Or.inl (Or.inr q))))))
    · exact Or.inl (Bq.mem_kbs.2 (Or.inr (Or.inr (Or.inr (Or.inr (Or.inl q))))))
    · exact Or.inl (Bq.mem_kbs.2 (Or.inr (Or.inr (Or.inr (Or.inr (Or.inr q)))))))
  exact ⟨rfl, KB', _, z1, z2, hF, hSK⟩
/-- The blocks of an answer's helds. -/
def HoB (ro : Option Addr) (N rc : Nat) (hs : List Hd) (k : Nat) : Prop := (Value.slice ro N rc).ownBlock = some k ∨ ∃ x ∈ hs, (Value.slice x.vo x.L x.cap).ownBlock = some k
theorem pk_helds {w0 w V : World} {t bk n : Nat} {B KB : List Nat} {T : Tk} {bs : List Int} {xs : List Rx} (h : Pk w0 w t bk B KB T bs xs n) {ro : Option Addr} {N rc : Nat} {hs : List Hd} (hO : HOut V w ro N rc hs) (hl : ∀ x ∈ hs, x.vs.length ≤ 1048576) (hk : ∀ k, HoB ro N rc hs k → k ∉ KB ∧ k ∉ t :: B ∧ w0.heap.size ≤ k) (hm : N < 2097152) (hn : n + N < 67107000) :
    Calls Tryz.prog 14 #[.pointer (some ⟨bk, 0, none⟩), .slice ro N rc] w fun e w' => e = .returned (.tuple #[]) ∧ ∃ KB' S, Pk w0 w' t bk B KB' T bs xs (n + N + 1) ∧ (∀ k ∈ KB', k ∈ KB ∨ HoB ro N rc hs k ∨ w.heap.size ≤ k) ∧ Fr S w w' ∧ ∀ z ∈ S, z ∈ KB := by
  obtain ⟨rB, rI, rW, rT, hB, hI, hW, hT, hb, e⟩ := h.bo
  have hver : ∀ (i : Nat) (d : Bq.Dt), (dsOf hs)[i]? = some d → ∀ k, d.2.ownBlock = some k → ∃ x ∈ hs, (Value.slice x.vo x.L x.cap).ownBlock = some k := fun i d hd k hk2 => by
    obtain ⟨x, hx, rfl⟩ := dsOf_get hd
    exact ⟨x, List.mem_of_getElem? hx, hk2⟩
  refine (Bq.helds_any hb ro N rc (dsOf hs) (hO.dts hl hm) (fun i d hd k hk2 hm2 => (hk k (Or.inr (hver i d hd k hk2))).1 (by rw [e]; exact Bq.mem_kbs.2 (Or.inr (Or.inr (Or.inr (Or.inr (Or.inr hm2))))))) (fun k hk2 hm2 => (hk k (Or.inl hk2)).1 (by rw [e]; exact Bq.mem_kbs.2 (Or.inr (Or.inr (Or.inr (Or.inl (Or.inr hm2))))))) (by omega)).mono ?_
  rintro e' w' ⟨rfl, rT', rW', hb', hF, hM1, hM2⟩
  have hSK : ∀ j ∈ bk :: (rT.ownBlock.toList ++ rW.ownBlock.toList), j ∈ KB := fun j hj => by
    rw [e]
    rcases List.mem_cons.1 hj with q | q
    · exact Bq.mem_kbs.2 (Or.inl q)
    · rcases List.mem_append.1 q with q | q
      · exact Bq.mem_kbs.2 (Or.inr (Or.inr (Or.inr (Or.inr (Or.inl (Option.mem_toList.1 q))))))
      · exact Bq.mem_kbs.2 (Or.inr (Or.inr (Or.inr (Or.inl (Or.inl (Option.mem_toList.1 q))))))
  obtain ⟨KB', z1, z2⟩ := h.told hb' hF hSK (H := HoB ro N rc hs) (fun k q => (hk k q).2) (fun k hk2 => by
    rw [e]
    rcases Bq.mem_kbs.1 hk2 with q | (q | q) | (q | q) | (q | q) | (q | q)
    · exact Or.inl (Bq.mem_kbs.2 (Or.inl q))
    · exact Or.inl (Bq.mem_kbs.2 (Or.inr (Or.inl (Or.inl q))))
    · exact Or.inl (Bq.mem_kbs.2 (Or.inr (Or.inl (Or.inr q))))
    · exact Or.inl (Bq.mem_kbs.2 (Or.inr (Or.inr (Or.inl (Or.inl q)))))
    · exact Or.inl (Bq.mem_kbs.2 (Or.inr (Or.inr (Or.inl (Or.inr q)))))
    · rcases Bq.moved_of hM2 q with q2 | q2
      · exact Or.inl (Bq.mem_kbs.2 (Or.inr (Or.inr (Or.inr (Or.inl (Or.inl q2))))))
      · exact Or.inr (Or.inr q2)
    · rcases Bq.lbs_snoc q with q2 | q2
      · exact Or.inl (Bq.mem_kbs.2 (Or.inr (Or.inr (Or.inr (Or.inl (Or.inr q2))))))
      · exact Or.inr (Or.inl (Or.inl q2))
    · rcases Bq.moved_of hM1 q with q2 | q2
      · exact Or.inl (Bq.mem_kbs.2 (Or.inr (Or.inr (Or.inr (Or.inr (Or.inl q2))))))
      · exact Or.inr (Or.inr q2)
    · rw [Bq.lbs_append] at q
      rcases List.mem_append.1 q with q2 | q2
      · exact Or.inl (Bq.mem_kbs.2 (Or.inr (Or.inr (Or.inr (Or.inr (Or.inr q2))))))
      · obtain ⟨i, d, hd, hkk⟩ := Bq.mem_held q2
        exact Or.inr (Or.inl (Or.inr (hver i d hd k hkk))))
  exact ⟨rfl, KB', _, z1, z2, hF, hSK⟩
set_option maxHeartbeats 1000000 in
theorem pk_req {w0 w : World} {t bk n : Nat} {B KB : List Nat} {T : Tk} {bs : List Int} {xs : List Rx} (h : Pk w0 w t bk B KB T bs xs n) (k f m : Int) (key en : ByteArray) (ro : Option Addr) (N rc : Nat) {base : Nat} {vs : List Value} (ho : w.ownsRow base 3 1 (.slice ro N rc) N vs) (hk : ∀ k, (Value.slice ro N rc).ownBlock = some k → k ∉ KB ∧ k ∉ t :: B ∧ w0.heap.size ≤ k) (hm : N < 17179869184) (hn : n < 67107000) :
    Calls Tryz.prog 12 #[.pointer (some ⟨bk, 0, none⟩), .agg #[.int .u8 k, .int .i64 f, .int .i64 m, .string ⟨#[]⟩, .string ⟨#[]⟩, .bool false, .string key, .string en, .slice ro N rc]] w fun e w' => e = .returned (.tuple #[]) ∧ ∃ KB' S, Pk w0 w' t bk B KB' T bs xs (n + 1) ∧ (∀ k ∈ KB', k ∈ KB ∨ (Value.slice ro N rc).ownBlock = some k ∨ w.heap.size ≤ k) ∧ Fr S w w' ∧ ∀ z ∈ S, z ∈ KB := by
  have hfa : Fr [] w (w.alloc (.cells #[.int .u8 k, .int .i64 f, .int .i64 m, .string ⟨#[]⟩, .string ⟨#[]⟩, .bool false, .string key, .string en, .slice ro N rc] 64)) := Fr.alloc [] w _
  have HC : Hid _ := pk_ints (h.keep hfa) (owns_keepB ho hfa (by simp)) hk hm hn
  have HF : Hid (Fr [] w (w.alloc (.cells #[.int .u8 k, .int .i64 f, .int .i64 m, .string ⟨#[]⟩, .string ⟨#[]⟩, .bool false, .string key, .string en, .slice ro N rc] 64))) := hfa
  clear h ho hk hm hn hfa
  go_enter Tryz.func12, Tryz.ntmps12
  go_wp2_with fail
  refine Calls.mono HC.out ?_
  rintro e w' ⟨rfl, R⟩
  have HR : Hid _ := R
  clear R HC
  go_wp2_with fail
  go_end0
  obtain ⟨KB', S, z1, z2, z3, z4⟩ := HR.out
  refine ⟨rfl, KB', S, z1, fun k hk => ?_, (HF.out.mono (by intro z hz; simp at hz)).then z3, z4⟩
  rcases z2 k hk with q | q | q
  · exact Or.inl q
  · exact Or.inr (Or.inl q)
  · exact Or.inr (Or.inr (by have := HF.out.size; omega))
set_option maxHeartbeats 1000000 in
theorem pk_ans {w0 w : World} {t bk n : Nat} {B KB : List Nat} {T : Tk} {bs : List Int} {xs : List Rx} (h : Pk w0 w t bk B KB T bs xs n) (co ma : Int) (ok : Bool) (ro : Option Addr) (N rc : Nat) (ct : Int) {base : Nat} {vs : List Value} (ho : w.ownsRow base 102 2 (.slice ro N rc) N vs) (hk : ∀ k, (Value.slice ro N rc).ownBlock = some k → k ∉ KB ∧ k ∉ t :: B ∧ w0.heap.size ≤ k) (hm : N < 17179869184) (hn : n < 67107000) :
    Calls Tryz.prog 13 #[.pointer (some ⟨bk, 0, none⟩), .agg #[.int .i64 co, .int .i64 ma, .bool ok, .slice ro N rc, .int .i64 ct]] w fun e w' => e = .returned (.tuple #[]) ∧ ∃ KB' S, Pk w0 w' t bk B KB' T bs xs (n + 1) ∧ (∀ k ∈ KB', k ∈ KB ∨ (Value.slice ro N rc).ownBlock = some k ∨ w.heap.size ≤ k) ∧ Fr S w w' ∧ ∀ z ∈ S, z ∈ KB := by
  have hfa : Fr [] w (w.alloc (.cells #[.int .i64 co, .int .i64 ma, .bool ok, .slice ro N rc, .int .i64 ct] 68)) := Fr.alloc [] w _
  have HC : Hid _ := pk_entries (h.keep hfa) (owns_keepB ho hfa (by simp)) hk hm hn
  have HF : Hid (Fr [] w (w.alloc (.cells #[.int .i64 co, .int .i64 ma, .bool ok, .slice ro N rc, .int .i64 ct] 68))) := hfa
  clear h ho hk hm hn hfa
  go_enter Tryz.func13, Tryz.ntmps13
  go_wp2_with fail
  refine Calls.mono HC.out ?_
  rintro e w' ⟨rfl, R⟩
  have HR : Hid _ := R
  clear R HC
  go_wp2_with fail
  go_end0
  obtain ⟨KB', S, z1, z2, z3, z4⟩ := HR.out
  refine ⟨rfl, KB', S, z1, fun k hk => ?_, (HF.out.mono (by intro z hz; simp at hz)).then z3, z4⟩
  rcases z2 k hk with q | q | q
  · exact Or.inl q
  · exact Or.inr (Or.inl q)
  · exact Or.inr (Or.inr (by have := HF.out.size; omega))
/-- The Book looks. -/
theorem pk_apart {w0 w : World} {t bk n : Nat} {B KB : List Nat} {T : Tk} {bs : List Int} {xs : List Rx} (h : Pk w0 w t bk B KB T bs xs n) (ht : Bq.Tab w0) : Calls Tryz.prog 15 #[.pointer (some ⟨bk, 0, none⟩)] w fun e w' => e = .returned (.bool true) ∧ Fr [] w0 w' := by
  obtain ⟨rB, rI, rW, rT, hB, hI, hW, hT, hb, e⟩ := h.bo
  obtain ⟨cs, hX, _⟩ := hb.box
  have hlt := ht.lt
  refine (Bq.apart4_any bk cs rB rI rW rT hB hI hW hT w hX hb.sB hb.sI hb.sW hb.sT (ht.keep h.fr (by simp)) (fun hm => by have := h.f2 _ (by rw [e]; exact List.mem_cons_of_mem _ hm); omega)).mono ?_
  rintro e' w' ⟨rfl, hf⟩
  exact ⟨rfl, h.fr.on hf (fun k hk => h.f2 k (by rw [e]; exact List.mem_cons_of_mem _ hk))⟩
end Go.Proofs.YtpdkdgmaofhlkaaGreatDoor
/- Begin once more: where the list is empty its place may be any. Conditions as named. -/
namespace Go.Proofs.YtpdkdgmaofhlkaaGreatDoor
open Go.ChangeShapes Go.WideShapes Go.ChangeAt Go.RowKit Go.Lib
set_option linter.unusedVariables false
set_option linter.unusedSimpArgs false

set_option maxHeartbeats 8000000 in
set_option maxRecDepth 100000 in
theorem qbegin_any2 {w : World} {t : Nat} {T : Tk} (h : TkM w t T) (hn : T.n < 0) (ma le : Int) (ao : Option Addr) (L cap : Nat) (ns : List Int) (hI : IRs w ao ns) (hL : L = ns.length) (hbg : T.bg = false) (hm : mayBg ma le ns) (hk : okC T.k T.key T.en) (hao : 0 < ns.length → ∀ a, ao = some a → a.block ≠ t) :
    Calls Tryz.prog 6 #[.pointer (some ⟨t, 0, none⟩), .int .i64 ma, .int .i64 le, .slice ao L cap] w fun e w' => ∃ r, e = .returned (.int .i64 0) ∧ TkM w' t { T with bg := true, ma := ma, r := r } ∧ RqOf T.k T.n ma le T.key T.en ns r ∧ w'.ownsRow w.heap.size 3 1 (.slice r.bo r.bl r.bc) r.bl (intsC (bsOf T.k ns)) ∧ Fr [t] w w' := by
  have HT : Hid (Calls _ _ _ _ _) := qthere_any h hn
  have hab := hm.2.2.2.2
  have hms := hm
  have HM : Hid (Calls _ _ _ _ _) := qmayb_any ma ao L cap ns true w ⟨hm.1, hm.2.1⟩ hI hL ⟨fun _ => hab, fun _ => rfl⟩
  have hshort : ns.length ≤ 65536 := Ab.short (by have := hm.1; omega) hab
  obtain ⟨h1, h2, h3, h4, _⟩ := hm
  have HQ : Hid (∀ W, Fr [t] w W → Calls Tryz.prog 20 #[.int .i64 T.n, .agg #[.int .u8 T.k, .string T.key, .string T.en], .int .i64 ma, .int .i64 le, .slice ao L cap] W fun e w' => ∃ r, e = .returned (.agg #[.int .u8 r.k, .int .i64 r.f, .int .i64 r.n, .string ⟨#[]⟩, .string ⟨#[]⟩, .bool false, .string r.key, .string r.en, .slice r.bo r.bl r.bc]) ∧ RqOf T.k T.n ma le T.key T.en ns r ∧ w'.ownsRow W.heap.size 3 1 (.slice r.bo r.bl r.bc) r.bl (intsC (bsOf T.k ns)) ∧ Fr [] W w') := fun W hW => qreq_any T.k T.n ma le T.key T.en ao L cap ns W hk (hI.keepS hW (fun h0 a e => by simp [hao h0 a e])) hL (by omega)
  have HTk : Hid (TkM w t T) := h
  have c0 := h.c0
  have c5 := h.c5
  have c6 := h.c6
  have c7 := h.c7
  have c8 := h.c8
  have c9 := h.c9
  have z8 := h.fz 8
  have z9 := h.fz 9
  rw [hbg] at c8
  have hlt := h.lt
  obtain ⟨n, hnn⟩ : ∃ n, n = T.n := ⟨_, rfl⟩
  obtain ⟨k, hkk⟩ : ∃ k, k = T.k := ⟨_, rfl⟩
  obtain ⟨key, hkey⟩ : ∃ k, k = T.key := ⟨_, rfl⟩
  obtain ⟨en, hen⟩ : ∃ k, k = T.en := ⟨_, rfl⟩
  rw [← hnn] at c0 hn HQ
  rw [← hkk] at c5 HQ hk
  rw [← hkey] at c6 HQ hk
  rw [← hen] at c7 HQ hk
  have HE : Hid (n = T.n ∧ k = T.k ∧ key = T.key ∧ en = T.en) := ⟨hnn, hkk, hkey, hen⟩
  clear h hnn hkk hkey hen hI hL hms hab hk hao hshort
  -- the world behind region 7
  have hT1 : TkM ((w.setCell ⟨t, 8, none⟩ (.bool true)).setCell ⟨t, 9, none⟩ (.int .i64 ma)) t { T with bg := true, ma := ma } := row_put17 _ (row_put17 _ HTk.out)
  have hF1 : Fr [t] w ((w.setCell ⟨t, 8, none⟩ (.bool true)).setCell ⟨t, 9, none⟩ (.int .i64 ma)) := (Fr.set _ _ _ (by simp)).then (Fr.set _ _ _ (by simp))
  go_enter Tryz.func6, Tryz.ntmps6
  go_wp2_with fail
  refine Calls.mono HT.out ?_
  rintro e w1 ⟨rfl, rfl⟩
  go_wp2_with fail
  refine Calls.mono HM.out ?_
  rintro e w1 ⟨rfl, rfl⟩
  clear HT HM
  go_upto_region 8 with fail
  generalize ((w.setCell ⟨t, 8, none⟩ (.bool true)).setCell ⟨t, 9, none⟩ (.int .i64 ma)) = w1 at hT1 hF1 ⊢
  clear c0 c5 c6 c7 c8 c9 z8 z9
  have HT1 : Hid (TkM w1 t { T with bg := true, ma := ma }) := hT1
  have HF1 : Hid (Fr [t] w w1) := hF1
  obtain ⟨hn_, hk_, hkey_, hen_⟩ := HE.out
  have HS : Hid (∀ W, Fr [] w1 W → W.cell? ⟨t, 0, none⟩ = some (.int .i64 n) ∧ W.cell? ⟨t, 5, none⟩ = some (.int .u8 k) ∧ W.cell? ⟨t, 6, none⟩ = some (.string key) ∧ W.cell? ⟨t, 7, none⟩ = some (.string en)) := fun W hW => by
    have hk := hT1.keep hW (by simp)
    exact ⟨by rw [hn_]; exact hk.c0, by rw [hk_]; exact hk.c5, by rw [hkey_]; exact hk.c6, by rw [hen_]; exact hk.c7⟩
  clear hn_ hk_ hkey_ hen_
  obtain ⟨c0, c5, c6, c7⟩ := HS.out w1 (Fr.refl _ _)
  clear hT1 hF1
  go_region_held3 (fun w => w.cell? ⟨t, 0, none⟩ = some (.int .i64 n) ∧ w.cell? ⟨t, 5, none⟩ = some (.int .u8 k) ∧ w.cell? ⟨t, 6, none⟩ = some (.string key) ∧ w.cell? ⟨t, 7, none⟩ = some (.string en)) (first | go_keep | exact ⟨far9 d0 (by omega), far9 d5 (by omega), far9 d6 (by omega), far9 d7 (by omega)⟩)
    (first
      | (with_reducible refine Calls.mono (HQ.out _ (HF1.out.then (Fr.drew _ _))) ?_; rintro e w3 ⟨⟨rk, rf, rn, rkey, ren, ro, rl, rc⟩, rfl, hR, hO, hf3⟩; have hf3' := (Fr.drew [] w1).then hf3; obtain ⟨d0, d5, d6, d7⟩ := HS.out _ hf3'; have hk3 := HT1.out.keep hf3' (by simp); have e10 := hk3.c10; have e11 := hk3.c11; have e12 := hk3.c12; have e13 := hk3.c13; have e14 := hk3.c14; have e15 := hk3.c15; have e16 := hk3.c16; have e17 := hk3.c17; have e18 := hk3.c18; have z10 := hk3.fz 10; have z11 := hk3.fz 11; have z12 := hk3.fz 12; have z13 := hk3.fz 13; have z14 := hk3.fz 14; have z15 := hk3.fz 15; have z16 := hk3.fz 16; have z17 := hk3.fz 17; have z18 := hk3.fz 18))
  have hT4 := set9_tk ⟨rk, rf, rn, rkey, ren, ro, rl, rc⟩ hk3
  have hF4 := set9_fr w3 t ⟨rk, rf, rn, rkey, ren, ro, rl, rc⟩
  have HO4 : Hid (Fr [t] w (set9 w3 t ⟨rk, rf, rn, rkey, ren, ro, rl, rc⟩) ∧ World.ownsRow (set9 w3 t ⟨rk, rf, rn, rkey, ren, ro, rl, rc⟩) w.heap.size 3 1 (.slice ro rl rc) rl (intsC (bsOf T.k ns)) ∧ RqOf T.k T.n ma le T.key T.en ns ⟨rk, rf, rn, rkey, ren, ro, rl, rc⟩ ∧ TkM (set9 w3 t ⟨rk, rf, rn, rkey, ren, ro, rl, rc⟩) t { T with bg := true, ma := ma, r := ⟨rk, rf, rn, rkey, ren, ro, rl, rc⟩ }) := by
    obtain ⟨a1, a2, a3, a4⟩ := HE.out
    rw [a1, a2, a3, a4] at hR
    rw [a2] at hO
    have hsz := HF1.out.size
    refine ⟨(HF1.out.trans hf3' (fun x hx _ => hx) (fun x hx _ => by simp at hx)).trans hF4 (fun x hx _ => hx) (fun x hx _ => hx), owns_less17 (owns_keep17 hO hF4 (fun b hb hm => ?_)) hsz, hR, hT4⟩
    have h1 : w1.heap.size ≤ b := (owns_cells17 hO hb).1
    simp at hm
    omega
  clear hT4 hF4 e10 e11 e12 e13 e14 e15 e16 e17 e18 z10 z11 z12 z13 z14 z15 z16 z17 z18 hk3 hf3 hf3' hO hR d0 d5 d6 d7 HS HT1 HQ
  unfold set9 at HO4
  go_wp2
  go_ret
  exact ⟨rfl, ⟨rk, rf, rn, rkey, ren, ro, rl, rc⟩, HO4.out.2.2.2, HO4.out.2.2.1, HO4.out.2.1, HO4.out.1⟩
end Go.Proofs.YtpdkdgmaofhlkaaGreatDoor
