/- The walk of the law DumpEncodes. Conditions: its argument lies as it came in; the library's table of powers lies as the program lays it. -/
import Derived.Test.YtldghdbfhikcoaaGreatDoorTe18
namespace Go.Proofs.YtldghdbfhikcoaaGreatDoor
open BigFrame Go.ChangeShapes Go.WideShapes Go.ChangeAt Go.RowKit Go.Lib Go.Maps
set_option linter.unusedVariables false
set_option linter.unusedSimpArgs false

/-- The Book of the law: it is told the twin and both rows of bytes, and looks. -/
theorem book18 {wS w w0 : World} {m : Int} {bs : List Int} {hs : List Hd} {bb bh Lb Lh N : Nat} {ks : List Nat} {a1 a2 : Option Addr} {c1 c2 : Nat} {ys : List Nat} {wx wy : World} {bo ho : Option Addr}
    (hTw : TwS wS w bs hs bb bh ks) (hS : Fr [] wS w) (hLb : Lb = bs.length) (hLh : Lh = hs.length) (hb1 : Lb < 2^21) (hh1 : Lh < 2^21) (hfew : Few hs) (hH : HRs wx ho hs)
    (h1 : w.ownsRow 0 5 1 (.slice a1 N c1) N (bts ys)) (h2 : w.ownsRow 0 5 1 (.slice a2 N c2) N (bts ys)) (hN : N < 2^30)
    (hap : ∀ k, (Value.slice a1 N c1).ownBlock = some k → (Value.slice a2 N c2).ownBlock ≠ some k) (hn1 : ∀ k, (Value.slice a1 N c1).ownBlock = some k → wS.heap.size ≤ k) (hn2 : ∀ k, (Value.slice a2 N c2).ownBlock = some k → wS.heap.size ≤ k) (ht : Bq.Tab wS) :
    Calls Tryz.prog 15 #[.pointer (some ⟨w.heap.size, 0, none⟩), .agg #[.int .i64 m, .slice (some ⟨bb, 0, none⟩) Lb (Lb + 1), .slice (some ⟨bh, 0, none⟩) Lh (Lh + 1)]] (w.alloc (.cells Bq.newBk 48)) fun e w1 => e = .returned (.tuple #[]) ∧
      Calls Tryz.prog 16 #[.pointer (some ⟨w.heap.size, 0, none⟩), .slice a1 N c1] w1 fun e w2 => e = .returned (.tuple #[]) ∧
        Calls Tryz.prog 16 #[.pointer (some ⟨w.heap.size, 0, none⟩), .slice a2 N c2] w2 fun e w3 => e = .returned (.tuple #[]) ∧
          Calls Tryz.prog 17 #[.pointer (some ⟨w.heap.size, 0, none⟩)] w3 fun e w4 => e = .returned (.bool true) ∧ Fr [] wS w4 := by
  obtain ⟨wa, hwa⟩ : ∃ wa, wa = w.alloc (.cells Bq.newBk 48) := ⟨_, rfl⟩
  have hF0 : Fr [] w wa := by rw [hwa]; exact Fr.alloc _ _ _
  have hB := Bq.B4.new (w0 := w) (w := wa) (bk := w.heap.size) (by rw [hwa]; exact heap_alloc_new w _) (Nat.le_refl _)
  have hTa := hTw.keep hF0
  have hD := twins_dts hTa.rh hTa.tw hLh (by omega) hfew (fun t htm => (hH.each t htm).len)
  rw [← hwa]
  have hlt1 : ∀ k, (Value.slice a1 N c1).ownBlock = some k → k < w.heap.size := fun k hk => (h1.lt k hk).2
  have hlt2 : ∀ k, (Value.slice a2 N c2).ownBlock = some k → k < w.heap.size := fun k hk => (h2.lt k hk).2
  refine (Bq.saved_tell hB m _ _ Lb (Lb + 1) Lh (Lh + 1) _ ⟨Lb, intsT bs, Bq.Cut.of (hTa.iown hLb hb1), by omega⟩ (by simp [Bq.lbs]) hD (by simp [Bq.lbs]) (by simp [Bq.lbs]) (by omega)).mono ?_
  rintro e w1 ⟨rfl, rI', rT', rW', hB1, hF1, hM1, hM2, hM3⟩
  refine ⟨rfl, ?_⟩
  have hF1' : Fr [w.heap.size] wa w1 := by simpa [Value.ownBlock] using hF1
  have hsa : w.heap.size < wa.heap.size := by rw [hwa]; simp
  have h1a : w1.ownsRow 0 5 1 (.slice a1 N c1) N (bts ys) := owns_keep (owns_keep h1 hF0 (by simp)) hF1' (fun k hk hm => by simp at hm; have := hlt1 k hk; omega)
  have h2a : w1.ownsRow 0 5 1 (.slice a2 N c2) N (bts ys) := owns_keep (owns_keep h2 hF0 (by simp)) hF1' (fun k hk hm => by simp at hm; have := hlt2 k hk; omega)
  refine (Bq.bytes_any hB1 a1 N c1 ⟨N, bts ys, Bq.Cut.of h1a, by omega⟩ (by simp [Bq.lbs]) (by omega)).mono ?_
  rintro e w2 ⟨rfl, rB', hB2, hF2, hM4⟩
  refine ⟨rfl, ?_⟩
  have hF2' : Fr [w.heap.size] w1 w2 := by simpa [Value.ownBlock] using hF2
  have h2b : w2.ownsRow 0 5 1 (.slice a2 N c2) N (bts ys) := owns_keep h2a hF2' (fun k hk hm => by simp at hm; have := hlt2 k hk; omega)
  have hs1 := hF1.size
  have hs2 := hF2.size
  refine (Bq.bytes_any hB2 a2 N c2 ⟨N, bts ys, Bq.Cut.of h2b, by omega⟩ (fun k hk hm => ?_) (by omega)).mono ?_
  · rcases Bq.lbs_snoc hm with q | q
    · simp [Bq.lbs] at q
    · exact hap k q hk
  rintro e w3 ⟨rfl, rB2, hB3, hF3, hM5⟩
  refine ⟨rfl, ?_⟩
  have hSz : wS.heap.size ≤ w.heap.size := hS.size
  have hMB : Moved wa.heap.size (.slice none 0 0) rB2 := (Bq.moved_weak hM4 hs1).trans (Bq.moved_weak hM5 (by omega)) (Nat.le_refl _)
  have hrB : ∀ k, rB'.ownBlock = some k → w.heap.size ≤ k := fun k hk => by
    rcases Bq.moved_of hM4 hk with q | q
    · simp [Value.ownBlock] at q
    · omega
  have hF3' : Fr [] wS w3 := ((hS.then hF0).on hF1' (fun j hj => by simp at hj; omega)).then (Fr.refl _ _) |>.on hF2' (fun j hj => by simp at hj; omega) |>.on hF3 (fun j hj => by
    rcases List.mem_cons.1 hj with rfl | hj
    · exact hSz
    · have := hrB j (by simpa using hj); omega)
  obtain ⟨cs, hX, _⟩ := hB3.box
  have hown : ∀ j ∈ Bq.kbs w.heap.size rB2 rI' rW' rT' ([] ++ [⟨.slice a1 N c1, .slice none 0 0, 0 + 1 + Lh + 1 + 1⟩] ++ [⟨.slice a2 N c2, .slice none 0 0, 0 + 1 + Lh + 1 + 1 + 1⟩]) ([] ++ [⟨.slice (some ⟨bb, 0, none⟩) Lb (Lb + 1), .slice none 0 0, 0 + 1⟩]) ([] ++ [⟨.slice (some ⟨bh, 0, none⟩) Lh (Lh + 1), .slice none 0 0, 0 + 1 + Lh + 1⟩]) ([] ++ Bq.held (0 + 1) (dsOf (twTs hs ks))), wS.heap.size ≤ j := fun j hj => by
    have hnew : ∀ {v : Value}, Moved wa.heap.size (.slice none 0 0) v → v.ownBlock = some j → wS.heap.size ≤ j := fun hM hk => by
      rcases Bq.moved_of hM hk with q | q
      · simp [Value.ownBlock] at q
      · omega
    rcases Bq.mem_kbs.1 hj with q | (q | q) | (q | q) | (q | q) | (q | q)
    · omega
    · exact hnew hMB q
    · rcases Bq.lbs_snoc q with q2 | q2
      · rcases Bq.lbs_snoc q2 with q3 | q3
        · simp [Bq.lbs] at q3
        · exact hn1 j q3
      · exact hn2 j q2
    · exact hnew hM1 q
    · rcases Bq.lbs_snoc q with q2 | q2
      · simp [Bq.lbs] at q2
      · simp [Value.ownBlock] at q2
        have := hTw.nb
        omega
    · exact hnew hM3 q
    · rcases Bq.lbs_snoc q with q2 | q2
      · simp [Bq.lbs] at q2
      · simp [Value.ownBlock] at q2
        have := hTw.nh
        omega
    · exact hnew hM2 q
    · rw [List.nil_append] at q
      obtain ⟨i, d, hd, hk⟩ := Bq.mem_held q
      obtain ⟨x, hx, rfl⟩ := dsOf_get hd
      obtain ⟨t, k, ht2, hk2, rfl⟩ := twTs_get hx
      simp [twT, Value.ownBlock] at hk
      subst hk
      exact hTw.tw.new k (List.mem_of_getElem? hk2)
  have hglt := ht.lt
  refine (Bq.apart4_any w.heap.size cs _ _ _ _ _ _ _ _ w3 hX hB3.sB hB3.sI hB3.sW hB3.sT (ht.keep hF3' (by simp)) (fun hm => ?_)).mono ?_
  · have := hown Bq.gTab (List.mem_cons_of_mem _ hm)
    omega
  · rintro e w4 ⟨rfl, hF4⟩
    exact ⟨rfl, hF3'.on hF4 (fun j hj => hown j (List.mem_cons_of_mem _ hj))⟩
end Go.Proofs.YtldghdbfhikcoaaGreatDoor
