/- The Book of the law SlotsBytes; the document's New of a disk; a doing New by one word. Conditions as each names them. -/
import Derived.Test.YtembflnhhfliaaaGreatDoorWk19
import Derived.Test.YtembflnhhfliaaaGreatDoorAw19
namespace Go.Proofs.YtembflnhhfliaaaGreatDoor
open BigFrame Go.ChangeShapes Go.WideShapes Go.ChangeAt Go.RowKit Go.Lib Go.Maps
set_option linter.unusedVariables false
set_option linter.unusedSimpArgs false

set_option maxHeartbeats 1000000 in
theorem rNew_ok (C : Nat) (w : World) (h : C ≤ 16777216) : Calls Tryz.prog 7 #[.int .i64 (C : Int)] w fun e w' => e = .returned (.tuple #[ptr w.heap.size, .int .i64 0]) ∧ Rk w' w.heap.size (.slice none 0 0) (.slice none 0 0) (Sk.new C) ∧ Fr [] w w' := by
  have h0 : (0 : Int) ≤ C := by omega
  have h1 : (C : Int) ≤ 16777216 := by omega
  go_enter Tryz.func7, Tryz.ntmps7
  go_wp2
  go_ret2
  exact ⟨rfl, ⟨heap_alloc_new w _, own_row_nil _, own_row_nil _, by intro k hk; simp [Value.ownBlock] at hk⟩, Fr.alloc _ _ _⟩
theorem lr_new (C : Nat) (w0 w : World) (hf : Fr [] w0 w) (h : C ≤ 16777216) : Calls Tryz.prog 7 #[.int .i64 (C : Int)] w fun e w' => ∃ g S, e = .returned (.tuple #[ptr g, .int .i64 0]) ∧ LR w0 w' g S (Sk.new C) ∧ (∀ k ∈ S, w.heap.size ≤ k) ∧ Fr [] w w' := by
  refine (rNew_ok C w h).mono ?_
  rintro e w' ⟨rfl, hD, hF⟩
  have hS : ∀ k ∈ dOwn w.heap.size (.slice none 0 0) (.slice none 0 0), w.heap.size ≤ k := by
    intro k hk
    rcases mem_dOwn.1 hk with rfl | hk | hk
    · exact Nat.le_refl _
    · simp [Value.ownBlock] at hk
    · simp [Value.ownBlock] at hk
  exact ⟨_, _, rfl, ⟨⟨_, _, hD, rfl⟩, fun k hk => Nat.le_trans hf.size (hS k hk), Sk.new_ok C h, hf.then hF⟩, hS, hF⟩
theorem does_new_any {w0 w : World} {pb gd gr : Nat} {SD SR SS : List Nat} {t : Sk} {vs vt : Value} (h : Ts w0 w pb gd gr SD SR t vs vt SS) (m slot at_ n : Int) (bo ho yo : Option Addr) (Lb cb Lh ch M yc : Nat) (bs : List Int) (hs : List Hd) (hI : IRs w0 bo bs) (hLb : Lb = bs.length) (hH : HRs w0 ho hs) (hLh : Lh = hs.length) (hz : bs.length + szKs (hs.map Hd.kv) ≤ 1048576) (htab : Bq.Tab w0) :
    Calls Tryz.prog 8 #[.pointer (some ⟨pb, 0, none⟩), .agg #[.int .u8 1, .int .i64 m, .slice bo Lb cb, .slice ho Lh ch, .int .i64 slot, .int .i64 at_, .slice yo M yc, .int .i64 n]] w fun e w' => DoP w0 pb gd gr SD SR SS t w e w' := by
  obtain ⟨ok, g, i, mN, bN, pN, hN⟩ := Nw.ex t.s0 t.s1
  obtain ⟨c, ys, hT⟩ := ToldD.ex m bs (hs.map Hd.kv)
  by_cases hE : newE t.C g c ys.length = 0
  · exact does_new_ok h m slot at_ n bo ho yo Lb cb Lh ch M yc bs hs c ys hN hI hLb hH hLh hz hT htab hE
  · exact does_new_no h m slot at_ n bo ho yo Lb cb Lh ch M yc bs hs c ys hN hI hLb hH hLh hz hT htab hE
/-- A Book that was told of a checkpoint. -/
def K1 (w0 : World) (bk : Nat) (w : World) (B : List Nat) : Prop := ∃ T rI rW rT hI hW hT, Bq.B4 w0 w bk T (.slice none 0 0) rI rW rT [] hI hW hT ∧ T ≤ 65538 ∧ B = Bq.kbs bk (.slice none 0 0) rI rW rT [] hI hW hT
theorem K1.keep {w0 w w' : World} {bk : Nat} {B : List Nat} (h : K1 w0 bk w B) (hf : Fr [] w w') : K1 w0 bk w' B := by
  obtain ⟨T, rI, rW, rT, hI, hW, hT, h1, h2, h3⟩ := h
  exact ⟨T, rI, rW, rT, hI, hW, hT, h1.keep hf, h2, h3⟩
theorem SvO.dts {w W : World} {bo ho : Option Addr} {Lb cb Lh ch : Nat} {bs : List Int} {hs : List Hd} (h : SvO w W bo Lb cb ho Lh ch bs hs) : Bq.Dts W ho Lh ch (dsOf hs) := h.ho.dts (fun x hx => by have := (h.lim _ (List.mem_map.2 ⟨x, hx, rfl⟩)).2.1; simp only [Hd.kv] at this; omega) (by have := h.lh; omega)
theorem tell1 {w0 wL W : World} {bk : Nat} (hb : wL.heap[bk]? = some (.cells Bq.newBk 52 (0, 0))) (hw0 : w0.heap.size ≤ bk) (m : Int) (bo : Option Addr) (Lb cb : Nat) (ho : Option Addr) (Lh ch : Nat) (bs : List Int) (hs : List Hd) (hf : Fr [] wL W) (h : SvO wL W bo Lb cb ho Lh ch bs hs) :
    Calls Tryz.prog 18 #[.pointer (some ⟨bk, 0, none⟩), .agg #[.int .i64 m, .slice bo Lb cb, .slice ho Lh ch]] W fun e w' => e = .returned (.tuple #[]) ∧ ∃ B', K1 w0 bk w' B' ∧ Fr [bk] W w' ∧ ∀ q ∈ B', q ∈ [bk] ∨ wL.heap.size ≤ q := by
  have hB := Bq.B4.new (w0 := w0) (w := W) (bk := bk) (hf.keep hb (by simp)) hw0
  have hlb := h.lb
  have hlh := h.lh
  refine (Bq.saved_tell hB m _ _ Lb cb Lh ch _ ⟨Lb, ints bs, Bq.Cut.of (Bq.own_base8 h.io.row), by omega⟩ (by simp [Bq.lbs]) h.dts (by simp [Bq.lbs]) (by simp [Bq.lbs]) (by omega)).mono ?_
  rintro e w' ⟨rfl, rI', rT', rW', hB1, hF1, hM1, hM2, hM3⟩
  have hF1' : Fr [bk] W w' := by simpa [Value.ownBlock] using hF1
  refine ⟨rfl, _, ⟨_, rI', rW', rT', _, _, _, hB1, by omega, rfl⟩, hF1', fun q hq => ?_⟩
  have hsz := hf.size
  have hnew : ∀ {v : Value}, Moved W.heap.size (.slice none 0 0) v → v.ownBlock = some q → wL.heap.size ≤ q := fun hM hk => by
    rcases Bq.moved_of hM hk with p | p
    · simp [Value.ownBlock] at p
    · omega
  rcases Bq.mem_kbs.1 hq with p | (p | p) | (p | p) | (p | p) | (p | p)
  · exact Or.inl (by simp [p])
  · simp [Value.ownBlock] at p
  · simp [Bq.lbs] at p
  · exact Or.inr (hnew hM1 p)
  · rcases Bq.lbs_snoc p with p2 | p2
    · simp [Bq.lbs] at p2
    · exact Or.inr (owns_cells h.io.row p2).1
  · exact Or.inr (hnew hM3 p)
  · rcases Bq.lbs_snoc p with p2 | p2
    · simp [Bq.lbs] at p2
    · exact Or.inr (owns_cells h.ho.row p2).1
  · exact Or.inr (hnew hM2 p)
  · rw [List.nil_append] at p
    obtain ⟨i, d, hdd, hk⟩ := Bq.mem_held p
    obtain ⟨x, hx, rfl⟩ := dsOf_get hdd
    obtain ⟨a, ha, e1⟩ := own_blk9 hk
    have := ((h.ho.each x (List.mem_of_getElem? hx)).block a ha).1
    exact Or.inr (by omega)
/-- A Book behind its Apart: its rows. -/
def K2 (w0 : World) (bk : Nat) (w : World) (B : List Nat) : Prop := ∃ T rI rW rT hB hI hW hT, Bq.Wk.B4 w0 w bk T (.slice none 0 0) rI rW rT hB hI hW hT ∧ T ≤ 65538 ∧ B = Bq.kbs bk (.slice none 0 0) rI rW rT [] [] [] []
theorem K2.keep {w0 w w' : World} {bk : Nat} {B S : List Nat} (h : K2 w0 bk w B) (hf : Fr S w w') (hS : ∀ q ∈ B, q ∉ S) : K2 w0 bk w' B := by
  obtain ⟨T, rI, rW, rT, hB, hI, hW, hT, h1, h2, rfl⟩ := h
  exact ⟨T, rI, rW, rT, hB, hI, hW, hT, h1.keepN hf hS, h2, rfl⟩
theorem K2.lt {w0 w : World} {bk : Nat} {B : List Nat} (h : K2 w0 bk w B) : ∀ q ∈ B, q < w.heap.size := by
  obtain ⟨T, rI, rW, rT, hB, hI, hW, hT, h1, h2, rfl⟩ := h
  exact h1.lt
theorem K1.apart {w0 w : World} {bk : Nat} {B : List Nat} (h : K1 w0 bk w B) (ht : Bq.Tab w) (hg : Bq.gTab ∉ B) :
    Calls Tryz.prog 10 #[.pointer (some ⟨bk, 0, none⟩)] w fun e w' => e = .returned (.bool true) ∧ Fr B w w' ∧ ∃ B2, K2 w0 bk w' B2 ∧ ∀ q ∈ B2, q ∈ B := by
  obtain ⟨T, rI, rW, rT, hI, hW, hT, h1, h2, rfl⟩ := h
  obtain ⟨cs, hX, hc⟩ := h1.box
  refine (Bq.apart4w_any bk cs _ _ _ _ _ _ _ _ w hX h1.sB h1.sI h1.sW h1.sT ht (fun hm => hg (List.mem_cons_of_mem _ hm))).mono ?_
  rintro e w' ⟨rfl, hF, gB, gI, gW, gT, hX', sB, sI, sW, sT, lB, lI, lW, lT⟩
  have l1 := h1.lB
  have l2 := h1.lI
  have l3 := h1.lW
  have l4 := h1.lT
  refine ⟨rfl, hF.mono (fun x hx _ => List.mem_cons_of_mem _ hx), _, ⟨T, rI, rW, rT, gB, gI, gW, gT, ⟨⟨cs, hX', hc⟩, ⟨sB.bl⟩, ⟨sI.bl⟩, ⟨sW.bl⟩, ⟨sT.bl⟩, h1.bn, h1.rBn, h1.rIn, h1.rWn, h1.rTn, by omega, by omega, by omega, by omega⟩, h2, rfl⟩, fun q hq => ?_⟩
  rcases Bq.mem_kbs.1 hq with p | (p | p) | (p | p) | (p | p) | (p | p)
  · exact Bq.mem_kbs.2 (Or.inl p)
  · exact Bq.mem_kbs.2 (Or.inr (Or.inl (Or.inl p)))
  · simp [Bq.lbs] at p
  · exact Bq.mem_kbs.2 (Or.inr (Or.inr (Or.inl (Or.inl p))))
  · simp [Bq.lbs] at p
  · exact Bq.mem_kbs.2 (Or.inr (Or.inr (Or.inr (Or.inl (Or.inl p)))))
  · simp [Bq.lbs] at p
  · exact Bq.mem_kbs.2 (Or.inr (Or.inr (Or.inr (Or.inr (Or.inl p)))))
  · simp [Bq.lbs] at p
theorem tell2 {w0 wL W : World} {bk : Nat} {B : List Nat} (hk : K2 w0 bk wL B) (m : Int) (bo : Option Addr) (Lb cb : Nat) (ho : Option Addr) (Lh ch : Nat) (bs : List Int) (hs : List Hd) (hf : Fr [] wL W) (h : SvO wL W bo Lb cb ho Lh ch bs hs) :
    Calls Tryz.prog 18 #[.pointer (some ⟨bk, 0, none⟩), .agg #[.int .i64 m, .slice bo Lb cb, .slice ho Lh ch]] W fun e w' => e = .returned (.tuple #[]) ∧ ∃ B', (fun (_ : World) (_ : List Nat) => True) w' B' ∧ Fr B W w' ∧ ∀ q ∈ B', q ∈ B ∨ wL.heap.size ≤ q := by
  obtain ⟨T, rI, rW, rT, hB, hI, hW, hT, h1, h2, rfl⟩ := hk
  have hlb := h.lb
  have hlh := h.lh
  refine (Bq.Wk.saved_tell (h1.keep hf) m _ _ Lb cb Lh ch _ ⟨Lb, ints bs, Bq.Cut.of (Bq.own_base8 h.io.row), by omega⟩ h.dts (by omega)).mono ?_
  rintro e w' ⟨rfl, rI', rT', rW', hB1, hF1, hM1, hM2, hM3⟩
  refine ⟨rfl, [], trivial, hF1.mono (fun x hx _ => ?_), by simp⟩
  rcases List.mem_cons.1 hx with p | p
  · exact Bq.mem_kbs.2 (Or.inl p)
  · rcases List.mem_append.1 p with p | p
    · exact Bq.mem_kbs.2 (Or.inr (Or.inr (Or.inl (Or.inl (by simpa using p)))))
    · rcases List.mem_append.1 p with p | p
      · exact Bq.mem_kbs.2 (Or.inr (Or.inr (Or.inr (Or.inr (Or.inl (by simpa using p))))))
      · exact Bq.mem_kbs.2 (Or.inr (Or.inr (Or.inr (Or.inl (Or.inl (by simpa using p))))))
theorem irs_nil19 (w : World) : IRs w none [] := ⟨fun h => by simp at h, by simp⟩
theorem hrs_nil19 (w : World) : HRs w none [] := ⟨fun h => by simp at h, by simp, by simp⟩
end Go.Proofs.YtembflnhhfliaaaGreatDoor
