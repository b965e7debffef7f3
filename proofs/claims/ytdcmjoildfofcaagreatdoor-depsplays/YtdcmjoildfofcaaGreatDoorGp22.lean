/- Texts of this claim laid together, one behind the other: contracts and plain lemmas; conditions as each names them. -/
import Derived.Test.YtdcmjoildfofcaaGreatDoorGp21
/- A table's calls where they refuse; all calls of a table that New did not make. Conditions as each names them. -/
namespace Go.Proofs.YtdcmjoildfofcaaGreatDoor
open Go.ChangeShapes Go.WideShapes Go.ChangeAt Go.RowKit Go.Lib Go.Maps
set_option linter.unusedVariables false
set_option linter.unusedSimpArgs false

set_option maxHeartbeats 2000000 in
set_option maxRecDepth 100000 in
theorem tadd_arg {tb : Nat} {B : List Nat} {n : Nat} {D : Dt} (nn : Int) (wo : Option Addr) (M mc : Nat) (ws : List Wt) (w : World) (h : Tb w tb B n D) (hW : WRs w wo ws) (hM : M = ws.length) (hni : i64 nn) (hok : ¬ okT nn ws) :
    Calls Tryz.prog 11 #[.pointer (some ⟨tb, 0, none⟩), .agg #[.int .i64 nn, .slice wo M mc]] w fun e w' => e = .returned (.tuple #[.int .i64 0, .int .i64 1]) ∧ Fr [] w w' := by
  obtain ⟨w0, HW0⟩ : ∃ w0, Hid (w.alloc (.cells #[.int .i64 nn, .slice wo M mc] 50) = w0) := ⟨_, rfl⟩
  have hF0 : Fr [] w w0 := by rw [← HW0.out]; exact Fr.alloc [] w _
  have hb0 : w0.heap[w.heap.size]? = some (.cells #[.int .i64 nn, .slice wo M mc] 50 (0, 0)) := by rw [← HW0.out]; exact heap_alloc_new w _
  have HBX : Hid (∀ W, Fr [] w0 W → W.cell? ⟨w.heap.size, 0, none⟩ = some (.int .i64 nn) ∧ W.cell? ⟨w.heap.size, 1, none⟩ = some (.slice wo M mc)) := fun W hf => by
    have hb := hf.keep hb0 (by simp)
    exact ⟨by rw [cell_of_row _ _ _ _ _ _ hb]; rfl, by rw [cell_of_row _ _ _ _ _ _ hb]; rfl⟩
  have HM : Hid (M = ws.length) := hM
  have HOK : Hid (¬ okT nn ws) := hok
  have HWr : Hid (∀ W, Fr [] w W → WRs W wo ws) := fun W hf => hW.keep hf
  have HTb : Hid (∀ W, Fr [] w W → Tb W tb B n D) := fun W hf => h.quiet hf
  clear h hM hok hW hb0
  go_enter Tryz.func11, Tryz.ntmps11
  go_upto_region 1 with fail
  rw [HW0.out]
  clear HW0
  go_wp2_with fail
  refine (tthere_any _ (HTb.out _ hF0)).mono ?_
  rintro e w1 ⟨rfl, hF1⟩
  have hG1 := hF0.then hF1
  obtain ⟨d0, d1⟩ := HBX.out w1 hF1
  go_wp2_with fail
  refine (check_any nn wo M mc 1 ws _ (HWr.out _ hG1) HM.out hni.1 hni.2 (Or.inr ⟨HOK.out, rfl⟩)).mono ?_
  rintro e w2 ⟨rfl, hF2⟩
  have hG2 := hG1.then hF2
  go_wp2
  refine bodyPost_ret (results_tmp2 rfl _ _ _) rfl ?_
  exact ⟨rfl, hG2⟩
set_option maxHeartbeats 2000000 in
set_option maxRecDepth 100000 in
theorem tadd_order {tb : Nat} {B : List Nat} {n : Nat} {D : Dt} (nn : Int) (wo : Option Addr) (M mc : Nat) (ws : List Wt) (w : World) (h : Tb w tb B n D) (hW : WRs w wo ws) (hM : M = ws.length) (hok : okT nn ws) (hle : nn ≤ D.newest) :
    Calls Tryz.prog 11 #[.pointer (some ⟨tb, 0, none⟩), .agg #[.int .i64 nn, .slice wo M mc]] w fun e w' => e = .returned (.tuple #[.int .i64 0, .int .i64 6]) ∧ Fr [] w w' := by
  have hni : i64 nn := .of ⟨hok.1, hok.2.1⟩
  obtain ⟨w0, HW0⟩ : ∃ w0, Hid (w.alloc (.cells #[.int .i64 nn, .slice wo M mc] 50) = w0) := ⟨_, rfl⟩
  have hF0 : Fr [] w w0 := by rw [← HW0.out]; exact Fr.alloc [] w _
  have hb0 : w0.heap[w.heap.size]? = some (.cells #[.int .i64 nn, .slice wo M mc] 50 (0, 0)) := by rw [← HW0.out]; exact heap_alloc_new w _
  have HBX : Hid (∀ W, Fr [] w0 W → W.cell? ⟨w.heap.size, 0, none⟩ = some (.int .i64 nn) ∧ W.cell? ⟨w.heap.size, 1, none⟩ = some (.slice wo M mc)) := fun W hf => by
    have hb := hf.keep hb0 (by simp)
    exact ⟨by rw [cell_of_row _ _ _ _ _ _ hb]; rfl, by rw [cell_of_row _ _ _ _ _ _ hb]; rfl⟩
  have HM : Hid (M = ws.length) := hM
  have HOK : Hid (okT nn ws) := hok
  have HWr : Hid (∀ W, Fr [] w W → WRs W wo ws) := fun W hf => hW.keep hf
  have HTb : Hid (∀ W, Fr [] w W → Tb W tb B n D) := fun W hf => h.quiet hf
  obtain ⟨lb, ob, wb, E, hT⟩ := h
  obtain ⟨N0, hN0⟩ : ∃ N0, N0 = D.newest := ⟨_, rfl⟩
  have hb00 := hT.few
  have HT1 : Hid (∀ W, Fr [] w W → W.cell? ⟨tb, 1, none⟩ = some (.int .i64 N0)) := fun W hf => by rw [hN0]; exact (hT.keep hf (by simp)).c1
  rw [← hN0] at hb00 hle
  clear hT hM hok hW hb0 hN0
  go_enter Tryz.func11, Tryz.ntmps11
  go_upto_region 1 with fail
  rw [HW0.out]
  clear HW0
  go_wp2_with fail
  refine (tthere_any _ (HTb.out _ hF0)).mono ?_
  rintro e w1 ⟨rfl, hF1⟩
  have hG1 := hF0.then hF1
  obtain ⟨d0, d1⟩ := HBX.out w1 hF1
  go_wp2_with fail
  refine (check_any nn wo M mc 0 ws _ (HWr.out _ hG1) HM.out hni.1 hni.2 (Or.inl ⟨HOK.out, rfl⟩)).mono ?_
  rintro e w2 ⟨rfl, hF2⟩
  have hG2 := hG1.then hF2
  have hF02 := hF1.then hF2
  clear d0 d1 hG1 hF1 hF2
  obtain ⟨d0, d1⟩ := HBX.out w2 hF02
  have t1 := HT1.out _ hG2
  have hle2 : decide (nn ≤ N0) = true := by simpa using hle
  go_wp2_with fail
  go_quiet (fail)
  go_wp2
  refine bodyPost_ret (results_tmp2 rfl _ _ _) rfl ?_
  exact ⟨rfl, hG2.then (Fr.drewN _ _ _)⟩
theorem tdone_arg {tb : Nat} {B : List Nat} {n : Nat} {D : Dt} (m : Int) (w : World) (h : Tb w tb B n D) (hmi : i64 m) (hm : ¬ D.op m) :
    Calls Tryz.prog 15 #[.pointer (some ⟨tb, 0, none⟩), .int .i64 m] w fun e w' => e = .returned (.tuple #[.slice none 0 0, .int .i64 1]) ∧ Fr [] w w' := by
  have HC : Hid (Calls _ _ _ _ _) := twaits_no m w h hmi hm
  clear h hm
  go_enter Tryz.func15, Tryz.ntmps15
  go_wp2_with fail
  refine Calls.mono HC.out ?_
  rintro e w1 ⟨rfl, hF1⟩
  go_wp2
  refine bodyPost_ret (results_tmp2 rfl _ _ _) rfl ?_
  exact ⟨rfl, hF1⟩
section
variable {w : World} {tb : Nat} {B : List Nat} {n : Nat} {L : Lg} {en : Int → Prop}
theorem tl_add_arg (nn : Int) (wo : Option Addr) (M mc : Nat) (ws : List Wt) (w : World) (h : Tl w tb B n L en) (hW : WRs w wo ws) (hM : M = ws.length) (hni : i64 nn) (hok : ¬ okT nn ws) :
    Calls Tryz.prog 11 #[.pointer (some ⟨tb, 0, none⟩), .agg #[.int .i64 nn, .slice wo M mc]] w fun e w' => e = .returned (.tuple #[.int .i64 0, .int .i64 1]) ∧ Fr [] w w' := by
  obtain ⟨D, h1, h2, h3⟩ := h
  exact tadd_arg nn wo M mc ws w h1 hW hM hni hok
theorem tl_add_order (nn : Int) (wo : Option Addr) (M mc : Nat) (ws : List Wt) (w : World) (h : Tl w tb B n L en) (hW : WRs w wo ws) (hM : M = ws.length) (hok : okT nn ws) (p : Int × List ByteArray) (hp : p ∈ L) (hle : nn ≤ p.1) :
    Calls Tryz.prog 11 #[.pointer (some ⟨tb, 0, none⟩), .agg #[.int .i64 nn, .slice wo M mc]] w fun e w' => e = .returned (.tuple #[.int .i64 0, .int .i64 6]) ∧ Fr [] w w' := by
  obtain ⟨D, h1, h2, h3⟩ := h
  exact tadd_order nn wo M mc ws w h1 hW hM hok (Int.le_trans hle (h2.new.1 p hp))
theorem tl_done_arg (m : Int) (w : World) (h : Tl w tb B n L en) (hmi : i64 m) (hm : ¬ Op11 L en m) :
    Calls Tryz.prog 15 #[.pointer (some ⟨tb, 0, none⟩), .int .i64 m] w fun e w' => e = .returned (.tuple #[.slice none 0 0, .int .i64 1]) ∧ Fr [] w w' := by
  obtain ⟨D, h1, h2, h3⟩ := h
  rw [← h2.op_eq] at hm
  exact tdone_arg m w h1 hmi hm
theorem tl_waits_arg (m : Int) (w : World) (h : Tl w tb B n L en) (hmi : i64 m) (hm : ¬ Op11 L en m) :
    Calls Tryz.prog 19 #[.pointer (some ⟨tb, 0, none⟩), .int .i64 m] w fun e w' => e = .returned (.tuple #[.slice none 0 0, .int .i64 1]) ∧ Fr [] w w' := by
  obtain ⟨D, h1, h2, h3⟩ := h
  rw [← h2.op_eq] at hm
  exact twaits_no m w h1 hmi hm
end
/-- A table that New did not make: its struct of zeros lies in block z. -/
def NoT (w : World) (z : Nat) : Prop := w.heap[z]? = some (.cells #[.map none, .int .i64 0, .map none, .map none] 32 (0, 0))
theorem NoT.keep {S : List Nat} {w w' : World} {z : Nat} (h : NoT w z) (hf : Fr S w w') (hn : z ∉ S) : NoT w' z := hf.keep h hn
theorem zthere_any {z : Nat} (w : World) (h : NoT w z) : Calls Tryz.prog 60 #[.pointer (some ⟨z, 0, none⟩)] w fun e w' => e = .returned (.bool false) ∧ Fr [] w w' := by
  have qT : ∀ (w : World) (r : Option Nat), (binOp .neq 28 (.map r) (.map none)).run Tryz.prog w = .ok (.bool (!r.isNone)) w := fun w r => run_neq_map_nil w _ _ _ r Tryz.undLMap
  have c0 : w.cell? ⟨z, 0, none⟩ = some (.map none) := by rw [cell_of_row _ _ _ _ _ _ h]; rfl
  clear h
  go_enter Tryz.func60, Tryz.ntmps60
  go_wp2
  go_ret
  exact ⟨rfl, Fr.refl _ _⟩
theorem zlast_any {z : Nat} (key : ByteArray) (w : World) (h : NoT w z) : Calls Tryz.prog 21 #[.pointer (some ⟨z, 0, none⟩), .string key] w fun e w' => e = .returned (.int .i64 0) ∧ Fr [] w w' := by
  have HT : Hid (Calls _ _ _ _ _) := zthere_any w h
  clear h
  go_enter Tryz.func21, Tryz.ntmps21
  go_wp2_with fail
  refine Calls.mono HT.out ?_
  rintro e w1 ⟨rfl, hF1⟩
  go_wp2
  go_ret
  exact ⟨rfl, hF1⟩
theorem zopen_any {z : Nat} (w : World) (h : NoT w z) : Calls Tryz.prog 23 #[.pointer (some ⟨z, 0, none⟩)] w fun e w' => e = .returned (.slice none 0 0) ∧ Fr [] w w' := by
  have HT : Hid (Calls _ _ _ _ _) := zthere_any w h
  clear h
  go_enter Tryz.func23, Tryz.ntmps23
  go_wp2_with fail
  refine Calls.mono HT.out ?_
  rintro e w1 ⟨rfl, hF1⟩
  go_wp2
  go_ret
  exact ⟨rfl, hF1⟩
theorem zwaits_any {z : Nat} (m : Int) (w : World) (h : NoT w z) : Calls Tryz.prog 19 #[.pointer (some ⟨z, 0, none⟩), .int .i64 m] w fun e w' => e = .returned (.tuple #[.slice none 0 0, .int .i64 2]) ∧ Fr [] w w' := by
  have HT : Hid (Calls _ _ _ _ _) := zthere_any w h
  clear h
  go_enter Tryz.func19, Tryz.ntmps19
  go_wp2_with fail
  refine Calls.mono HT.out ?_
  rintro e w1 ⟨rfl, hF1⟩
  go_wp2
  refine bodyPost_ret (results_tmp2 rfl _ _ _) rfl ?_
  exact ⟨rfl, hF1⟩
theorem zdone_any {z : Nat} (m : Int) (w : World) (h : NoT w z) : Calls Tryz.prog 15 #[.pointer (some ⟨z, 0, none⟩), .int .i64 m] w fun e w' => e = .returned (.tuple #[.slice none 0 0, .int .i64 2]) ∧ Fr [] w w' := by
  have HC : Hid (Calls _ _ _ _ _) := zwaits_any m w h
  clear h
  go_enter Tryz.func15, Tryz.ntmps15
  go_wp2_with fail
  refine Calls.mono HC.out ?_
  rintro e w1 ⟨rfl, hF1⟩
  go_wp2
  refine bodyPost_ret (results_tmp2 rfl _ _ _) rfl ?_
  exact ⟨rfl, hF1⟩
theorem zadd_any {z : Nat} (nn : Int) (wo : Option Addr) (M mc : Nat) (w : World) (h : NoT w z) : Calls Tryz.prog 11 #[.pointer (some ⟨z, 0, none⟩), .agg #[.int .i64 nn, .slice wo M mc]] w fun e w' => e = .returned (.tuple #[.int .i64 0, .int .i64 2]) ∧ Fr [] w w' := by
  obtain ⟨w0, HW0⟩ : ∃ w0, Hid (w.alloc (.cells #[.int .i64 nn, .slice wo M mc] 50) = w0) := ⟨_, rfl⟩
  have hF0 : Fr [] w w0 := by rw [← HW0.out]; exact Fr.alloc [] w _
  have HT : Hid (Calls _ _ _ _ _) := zthere_any w0 (h.keep hF0 (by simp))
  clear h
  go_enter Tryz.func11, Tryz.ntmps11
  go_upto_region 1 with fail
  rw [HW0.out]
  go_wp2_with fail
  refine Calls.mono HT.out ?_
  rintro e w1 ⟨rfl, hF1⟩
  have hG := hF0.then hF1
  go_wp2
  refine bodyPost_ret (results_tmp2 rfl _ _ _) rfl ?_
  exact ⟨rfl, hG⟩
end Go.Proofs.YtdcmjoildfofcaaGreatDoor
/- The document's own rows of numbers: with, without. Conditions as each names them. -/
namespace Go.Proofs.YtdcmjoildfofcaaGreatDoor
open Go.ChangeShapes Go.WideShapes Go.ChangeAt Go.RowKit Go.Lib Go.Maps
set_option linter.unusedVariables false
set_option linter.unusedSimpArgs false

/-- The slice at ao reads as the numbers xs. -/
structure IRd (w : World) (ao : Option Addr) (xs : List Int) : Prop where
  lies : 0 < xs.length → ∃ b off, ao = some ⟨b, off, none⟩ ∧ b < w.heap.size ∧ ∀ j, j < xs.length → w.cell? ⟨b, off + j, none⟩ = some (.int .i64 (xs.getD j 0))
theorem IRd.keepS {S : List Nat} {w w' : World} {ao : Option Addr} {xs : List Int} (h : IRd w ao xs) (hf : Fr S w w') (hn : 0 < xs.length → ∀ a, ao = some a → a.block ∉ S) : IRd w' ao xs := by
  refine ⟨fun h0 => ?_⟩
  obtain ⟨b, off, e, hb, hc⟩ := h.lies h0
  exact ⟨b, off, e, Nat.lt_of_lt_of_le hb hf.size, fun i hi => (World.cell?_of_block (hf.block b hb (hn h0 _ e))).trans (hc i hi)⟩
theorem IRd.keep {w w' : World} {ao : Option Addr} {xs : List Int} (h : IRd w ao xs) (hf : Fr [] w w') : IRd w' ao xs := h.keepS hf (by simp)
theorem IOw.rd {base : Nat} {w : World} {o : Option Addr} {n c : Nat} {xs : List Int} (h : IOw base w o n c xs) : IRd w o xs := by
  refine ⟨fun h0 => ?_⟩
  obtain ⟨g, e, _, hg, hc⟩ := h.cells (by rw [h.len]; exact h0)
  exact ⟨g, 0, e, hg, fun j hj => by rw [Nat.zero_add]; exact hc j (by rw [h.len]; exact hj)⟩
set_option maxHeartbeats 2000000 in
set_option maxRecDepth 100000 in
theorem without_any (ao : Option Addr) (N c : Nat) (xs : List Int) (n : Int) (w : World) (hX : IRd w ao xs) (hN : N = xs.length) (hNf : N < 1099511627776) :
    Calls Tryz.prog 70 #[.slice ao N c, .int .i64 n] w fun e w' => ∃ so M sc, e = .returned (.slice so M sc) ∧ IOw w.heap.size w' so M sc (xs.filter fun x => x != n) ∧ Fr [] w w' := by
  obtain ⟨p, hp⟩ : ∃ p : Int → Bool, p = fun x => x != n := ⟨_, rfl⟩
  rw [← hp]
  have HP : Hid (∀ x, p x = (x != n)) := fun x => by rw [hp]
  have HN : Hid (N = xs.length) := hN
  have HX : Hid (∀ W, Fr [] w W → IRd W ao xs) := fun W hf => hX.keep hf
  clear hX hN hp
  go_enter Tryz.func70, Tryz.ntmps70
  go_wp2_with fail
  go_loopw [5, 6] (fun ll ii wr => ∃ (i : Nat) (so : Option Addr) (M sc : Nat), ii = .int .i64 i ∧ i ≤ N ∧ ll = .slice so M sc ∧ M ≤ i ∧ Hid (IOw w.heap.size wr so M sc ((xs.take i).filter p)) ∧ Hid (Fr [] w wr)) (fun _ ii _ => N - (RowKit.intOf ii).toNat)
  case atStart => exact ⟨0, none, 0, 0, rfl, Nat.zero_le _, rfl, Nat.le_refl _, IOw.nil _ _, Fr.refl _ _⟩
  case round =>
    obtain ⟨i, so, M, sc, rfl, hiN, rfl, hMi, HO, HF⟩ := hrel
    by_cases hi : i < N
    · have hil : i < xs.length := by rw [← HN.out]; exact hi
      obtain ⟨b, off, rfl, _, hc⟩ := (HX.out _ HF.out).lies (by omega)
      have hci := hc i hil
      obtain ⟨x, hx⟩ : ∃ x, x = xs.getD i 0 := ⟨_, rfl⟩
      rw [← hx] at hci
      have HS := ifilter_snoc xs p i hil
      rw [← hx] at HS
      have HS : Hid ((xs.take (i + 1)).filter p = _) := HS
      have HO2 : Hid (∀ W, Fr [] wr W → IOw w.heap.size W so M sc ((xs.take i).filter p)) := fun W hf => HO.out.keep hf
      have HB : Hid (∀ W W', Fr [] wr W → Fr (Value.slice so M sc).ownBlock.toList W W' → Fr [] w W') := fun W W' h1 h2 => HO.out.on (Nat.le_refl _) HF.out h1 h2
      have hsz := HF.out.size
      clear hx hc
      by_cases he : x = n
      · have heq : (x != n) = false := by rw [he]; simp
        rw [HP.out, heq, if_neg (by simp)] at HS
        clear he
        go_wp2
        go_roundw
        case rel => exact ⟨i + 1, so, M, sc, by simp, by omega, rfl, by omega, (by rw [HS.out]; exact HO.out), HF.out⟩
        case measure => simp [RowKit.intOf]; omega
      · have heq : (x != n) = true := by simpa using he
        rw [HP.out, heq, if_pos rfl] at HS
        clear he
        go_wp2_with (first
          | (at_builtin; refine wpList_appI w.heap.size _ rfl _ _ rfl so M sc _ rfl (HO2.out _ (Fr.alloc [] _ _)) _ _ x rfl ?hcell (by omega) ?hsize ?_
             case hcell => exact cell_new1 _ _ _
             case hsize => simp; omega
             intro o' c' w3 hO3 hF3 _
             have HR3 : Hid (_ ∧ _) := ⟨hO3, HB.out _ _ (Fr.alloc [] _ _) hF3⟩
             clear hO3 hF3
             go_frame)
          | fail)
        go_roundw
        case rel => exact ⟨i + 1, o', M + 1, c', by simp, by omega, rfl, by omega, (by rw [HS.out]; exact HR3.out.1), HR3.out.2⟩
        case measure => simp [RowKit.intOf]; omega
    · obtain rfl : N = i := by omega
      rw [List.take_of_length_le (by rw [← HN.out]; exact Nat.le_refl _)] at HO
      go_wp2
      go_ret
      exact ⟨so, M, sc, rfl, HO.out, HF.out⟩
/-- Rising numbers, and one more. -/
def insl (n : Int) (ys : List Int) : List Int := ys.filter (fun x => decide (x < n)) ++ n :: ys.filter (fun x => decide (n < x))
theorem insl_is {xs : List Int} {n : Int} (h : Ris xs) (hn : n ∉ xs) : Ris (insl n xs) ∧ ∀ m, m ∈ insl n xs ↔ m ∈ xs ∨ m = n := by
  constructor
  · unfold insl Ris
    refine List.pairwise_append.2 ⟨h.filter _, List.pairwise_cons.2 ⟨fun a ha => ?_, h.filter _⟩, fun a ha b hb => ?_⟩
    · have := (List.mem_filter.1 ha).2
      simpa using this
    · have h1 : a < n := by have := (List.mem_filter.1 ha).2; simpa using this
      rcases List.mem_cons.1 hb with rfl | hb
      · exact h1
      · have h2 : n < b := by have := (List.mem_filter.1 hb).2; simpa using this
        omega
  · intro m
    unfold insl
    simp only [List.mem_append, List.mem_cons, List.mem_filter, decide_eq_true_eq]
    constructor
    · rintro (⟨h1, _⟩ | rfl | ⟨h1, _⟩)
      · exact Or.inl h1
      · exact Or.inr rfl
      · exact Or.inl h1
    · rintro (h1 | rfl)
      · have hne : m ≠ n := fun e => hn (e ▸ h1)
        by_cases h2 : m < n
        · exact Or.inl ⟨h1, h2⟩
        · exact Or.inr (Or.inr ⟨h1, by omega⟩)
      · exact Or.inr (Or.inl rfl)
theorem insl_low {ys : List Int} {n : Int} (h : ∀ x ∈ ys, x < n) : insl n ys = ys ++ [n] := by
  unfold insl
  rw [List.filter_eq_self.2 (fun x hx => by simpa using h x hx), List.filter_eq_nil_iff.2 (fun x hx => by have := h x hx; simp; omega)]
theorem insl_up {ys : List Int} {n x : Int} (h : n < x) : insl n (ys ++ [x]) = insl n ys ++ [x] := by
  unfold insl
  rw [List.filter_append, List.filter_append]
  have e1 : [x].filter (fun y => decide (y < n)) = [] := by simp; omega
  have e2 : [x].filter (fun y => decide (n < y)) = [x] := by simp [h]
  rw [e1, e2]
  simp
end Go.Proofs.YtdcmjoildfofcaaGreatDoor
