/- The Book of a doing New. Conditions as it names them. -/
import Derived.Test.YtembflnhhfliaaaGreatDoorLt19
import Derived.Test.YtembflnhhfliaaaGreatDoorLw18
namespace Go.Proofs.YtembflnhhfliaaaGreatDoor
open BigFrame Go.ChangeShapes Go.WideShapes Go.ChangeAt Go.RowKit Go.Lib Go.Maps
set_option linter.unusedVariables false
set_option linter.unusedSimpArgs false

theorem book19n {wS wT w : World} {m : Int} {bs : List Int} {hs : List Hd} {bb bh Lb Lh : Nat} {ks : List Nat} {wx : World} {ho : Option Addr}
    (hTw : TwS wS wT bs hs bb bh ks) (hST : Fr [] wS wT) (hTW : Fr [] wT w) (hLb : Lb = bs.length) (hLh : Lh = hs.length) (hb1 : Lb < 2^21) (hh1 : Lh < 2^21) (hfew : Few hs) (hH : HRs wx ho hs) (ht : Bq.Tab wS) :
    Calls Tryz.prog 18 #[.pointer (some ⟨w.heap.size, 0, none⟩), .agg #[.int .i64 m, .slice (some ⟨bb, 0, none⟩) Lb (Lb + 1), .slice (some ⟨bh, 0, none⟩) Lh (Lh + 1)]] (w.alloc (.cells Bq.newBk 52)) fun e w1 => e = .returned (.tuple #[]) ∧ Fr [] w w1 ∧
      Hid (∀ (W : World) (S : List Nat), Fr S w1 W → (∀ q ∈ S, q < wS.heap.size ∧ q ≠ Bq.gTab) → Calls Tryz.prog 10 #[.pointer (some ⟨w.heap.size, 0, none⟩)] W fun e w4 => e = .returned (.bool true) ∧ ∃ T, Fr T W w4 ∧ ∀ q ∈ T, (wS.heap.size ≤ q ∧ q < wT.heap.size) ∨ w.heap.size ≤ q) := by
  obtain ⟨wa, hwa⟩ : ∃ wa, wa = w.alloc (.cells Bq.newBk 52) := ⟨_, rfl⟩
  have hF0 : Fr [] w wa := by rw [hwa]; exact Fr.alloc _ _ _
  have hB := Bq.B4.new (w0 := w) (w := wa) (bk := w.heap.size) (by rw [hwa]; exact heap_alloc_new w _) (Nat.le_refl _)
  have hTa := hTw.keep (hTW.then hF0)
  have hD := twins_dts hTa.rh hTa.tw hLh (by omega) hfew (fun t htm => (hH.each t htm).len)
  rw [← hwa]
  refine (Bq.saved_tell hB m _ _ Lb (Lb + 1) Lh (Lh + 1) _ ⟨Lb, intsT bs, Bq.Cut.of (hTa.iown hLb hb1), by omega⟩ (by simp [Bq.lbs]) hD (by simp [Bq.lbs]) (by simp [Bq.lbs]) (by omega)).mono ?_
  rintro e w1 ⟨rfl, rI', rT', rW', hB1, hF1, hM1, hM2, hM3⟩
  have hF1' : Fr [w.heap.size] wa w1 := by simpa [Value.ownBlock] using hF1
  have hsa : w.heap.size < wa.heap.size := by rw [hwa]; simp
  have hF01 : Fr [] w w1 := hF0.on hF1' (fun j hj => by simp at hj; omega)
  refine ⟨rfl, hF01, ?_⟩
  intro W S hFS hS
  have hsST := hST.size
  have hsTW := hTW.size
  have hown : ∀ q ∈ Bq.kbs w.heap.size (.slice none 0 0) rI' rW' rT' [] ([] ++ [⟨.slice (some ⟨bb, 0, none⟩) Lb (Lb + 1), .slice none 0 0, 0 + 1⟩]) ([] ++ [⟨.slice (some ⟨bh, 0, none⟩) Lh (Lh + 1), .slice none 0 0, 0 + 1 + Lh + 1⟩]) ([] ++ Bq.held (0 + 1) (dsOf (twTs hs ks))), (wS.heap.size ≤ q ∧ q < wT.heap.size) ∨ w.heap.size ≤ q := fun q hq => by
    have hnew : ∀ {v : Value}, Moved wa.heap.size (.slice none 0 0) v → v.ownBlock = some q → w.heap.size ≤ q := fun hM hk => by
      rcases Bq.moved_of hM hk with p | p
      · simp [Value.ownBlock] at p
      · omega
    rcases Bq.mem_kbs.1 hq with p | (p | p) | (p | p) | (p | p) | (p | p)
    · exact Or.inr (by omega)
    · simp [Value.ownBlock] at p
    · simp [Bq.lbs] at p
    · exact Or.inr (hnew hM1 p)
    · rcases Bq.lbs_snoc p with p2 | p2
      · simp [Bq.lbs] at p2
      · simp [Value.ownBlock] at p2
        subst p2
        exact Or.inl ⟨hTw.nb, lt_of_block hTw.rb⟩
    · exact Or.inr (hnew hM3 p)
    · rcases Bq.lbs_snoc p with p2 | p2
      · simp [Bq.lbs] at p2
      · simp [Value.ownBlock] at p2
        subst p2
        exact Or.inl ⟨hTw.nh, lt_of_block hTw.rh⟩
    · exact Or.inr (hnew hM2 p)
    · rw [List.nil_append] at p
      obtain ⟨i, d, hd, hk⟩ := Bq.mem_held p
      obtain ⟨x, hx, rfl⟩ := dsOf_get hd
      obtain ⟨t, k, ht2, hk2, rfl⟩ := twTs_get hx
      simp [twT, Value.ownBlock] at hk
      subst hk
      exact Or.inl ⟨hTw.tw.new k (List.mem_of_getElem? hk2), lt_of_block (hTw.tw.row i t k ht2 hk2)⟩
  have hB2 := hB1.keepN hFS (fun q hq hm => by
    have h1 := (hS q hm).1
    rcases hown q hq with p | p <;> omega)
  obtain ⟨cs, hX, _⟩ := hB2.box
  have hglt := ht.lt
  have hTb : Bq.Tab W := ((ht.keep (hST.then (hTW.then hF01)) (by simp)).keep hFS (fun hm => (hS _ hm).2 rfl))
  refine (Bq.apart4_any w.heap.size cs _ _ _ _ _ _ _ _ W hX hB2.sB hB2.sI hB2.sW hB2.sT hTb (fun hm => ?_)).mono ?_
  · rcases hown Bq.gTab (List.mem_cons_of_mem _ hm) with p | p <;> omega
  · rintro e w4 ⟨rfl, hF4⟩
    exact ⟨rfl, _, hF4, fun q hq => hown q (List.mem_cons_of_mem _ hq)⟩
end Go.Proofs.YtembflnhhfliaaaGreatDoor
