/- The contract of a shard's Install. Conditions as it names them. -/
import Derived.Test.YtakbodlicfmkjaaGreatHp9
namespace Go.Proofs.YtakbodlicfmkjaaGreat.O
open Go.ChangeShapes Go.WideShapes Go.ChangeAt Go.RowKit Go.Lib Go.Maps
set_option linter.unusedVariables false
set_option linter.unusedSimpArgs false

theorem FrS.from {w0 : World} {b : Nat} {w w1 w2 : World} (h : Fr [] w w1) (k : FrS w0 b w1 w2) : FrS w0 b w w2 := (FrS.of h).then k
theorem Sh.rowFar {w0 w : World} {sb b n : Nat} {M : ByteArray → List Vn} (h : Sh w0 w sb b n M) (key : ByteArray) (hs : key.size ≤ maxLen) : ∃ ro N rc, (∀ W, Fr [] w W → (Instr.lookup 238 (.map (some b)) (.string key) false).run Tryz.prog W = .ok (.slice ro N rc) W) ∧ ∀ j ∈ (Value.slice ro N rc).ownBlock.toList ++ [b], j < w.heap.size := by
  obtain ⟨ro, N, rc, hlk, hV⟩ := h.looks key hs
  refine ⟨ro, N, rc, hlk, fun j hj => ?_⟩
  rcases List.mem_append.1 hj with h1 | h1
  · obtain ⟨_, cur, hc⟩ := hV.blk j h1
    exact lt_of_block hc
  · simp at h1
    obtain ⟨es, c, e⟩ := h.mb
    rw [h1]
    exact lt_of_block e
theorem vrs_one (w : World) (v : Vn) (t : TypeId) (hv : VEach v) : VRs (w.alloc (.cells #[.int .i64 v.num, .string v.val, .bool v.drop] t)) (some ⟨w.heap.size, 0, none⟩) [v] := by
  have hb := heap_alloc_new w (.cells #[.int .i64 v.num, .string v.val, .bool v.drop] t)
  refine VRs.of_cells (fun _ => lt_of_block hb) (fun j u hu => ?_) (by simp) (fun x hx => by simp at hx; subst hx; exact hv)
  rw [cell_of_row _ _ _ _ _ _ hb, Nat.zero_add]
  simpa [vnsC, vnC] using hu
set_option maxHeartbeats 8000000 in
set_option maxRecDepth 100000 in
theorem hinstall_any {w0 : World} {sb b n : Nat} {M : ByteArray → List Vn} (num : Int) (key val : ByteArray) (drop : Bool) (w : World) (h : Sh w0 w sb b n M) (h0 : w0.heap.size ≤ w.heap.size) (hE : PEach ⟨num, key, val, drop⟩) (hn : n < 3518437208883) :
    Calls Tryz.prog 311 #[.pointer (some ⟨sb, 0, none⟩), .int .i64 num, .agg #[.string key, .string val, .bool drop]] w fun e w' => ∃ ok c M', e = .returned (.tuple #[.bool ok, .int .i64 ((c : Nat) : Int)]) ∧ InTold M ⟨num, key, val, drop⟩ M' ok c ∧ Sh w0 w' sb b (n + 1) M' ∧ FrS w0 b w w' := by
  obtain ⟨w1, HW1⟩ : ∃ w1, Hid (w.alloc (.cells #[.string key, .string val, .bool drop] 56) = w1) := ⟨_, rfl⟩
  have hF1 : Fr [] w w1 := by rw [← HW1.out]; exact Fr.alloc [] w _
  have hb1 : w1.heap[w.heap.size]? = some (.cells #[.string key, .string val, .bool drop] 56 (0, 0)) := by rw [← HW1.out]; exact heap_alloc_new w _
  have hs1 : w.heap.size < w1.heap.size := lt_of_block hb1
  have HB : Hid (∀ W, Fr [] w1 W → W.cell? ⟨w.heap.size, 0, none⟩ = some (.string key) ∧ W.cell? ⟨w.heap.size, 1, none⟩ = some (.string val) ∧ W.cell? ⟨w.heap.size, 2, none⟩ = some (.bool drop)) := fun W hf => by
    have hr := hf.keep hb1 (by simp)
    exact ⟨by rw [cell_of_row _ _ _ _ _ _ hr]; rfl, by rw [cell_of_row _ _ _ _ _ _ hr]; rfl, by rw [cell_of_row _ _ _ _ _ _ hr]; rfl⟩
  have HT : Hid (Calls _ _ _ _ _) := hthere_any w1 (h.keep hF1)
  have HS : Hid (∀ W, Fr [] w1 W → Sh w0 W sb b n M) := fun W hf => h.keep (hF1.then hf)
  have HE : Hid (PEach ⟨num, key, val, drop⟩) := hE
  have hsbl : sb < w.heap.size := lt_of_block h.box
  obtain ⟨ro, N, rc, hlk, hfar⟩ := h.rowFar key (by have := hE.k; simp only at this; unfold maxLen; omega)
  have HLk : Hid ((∀ W, Fr [] w W → (Instr.lookup 238 (.map (some b)) (.string key) false).run Tryz.prog W = .ok (.slice ro N rc) W) ∧ ∀ j ∈ (Value.slice ro N rc).ownBlock.toList ++ [b], j < w.heap.size) := ⟨hlk, hfar⟩
  have HFw : Hid (Fr [] w w1) := hF1
  have H0 : Hid (w0.heap.size ≤ w.heap.size) := h0
  clear h hb1 hE hlk hfar hF1 h0
  go_enter Tryz.func311, Tryz.ntmps311
  go_upto_region 1 with fail
  rw [HW1.out]
  go_wp2_with fail
  refine Calls.mono HT.out ?_
  rintro e w2 ⟨rfl, hF2⟩
  obtain ⟨a0, a1, a2⟩ := HB.out _ hF2
  have HF2 : Hid (Fr [] w1 w2) := hF2
  have hs2 : w1.heap.size ≤ w2.heap.size := hF2.size
  clear HT hF2
  -- the version in its box
  go_upto_region 4 with fail
  obtain ⟨w3, HW3⟩ : ∃ w3, Hid (w2.alloc (.cells #[.int .i64 num, .string val, .bool drop] 128) = w3) := ⟨_, rfl⟩
  rw [HW3.out]
  have hF3 : Fr [] w1 w3 := by rw [← HW3.out]; exact HF2.out.then (Fr.alloc [] _ _)
  have hb3 : w3.heap[w2.heap.size]? = some (.cells #[.int .i64 num, .string val, .bool drop] 128 (0, 0)) := by rw [← HW3.out]; exact heap_alloc_new _ _
  have HC : Hid (∀ W, Fr [] w3 W → W.cell? ⟨w2.heap.size, 0, none⟩ = some (.int .i64 num) ∧ W.cell? ⟨w2.heap.size, 1, none⟩ = some (.string val) ∧ W.cell? ⟨w2.heap.size, 2, none⟩ = some (.bool drop)) := fun W hf => by
    have hr := hf.keep hb3 (by simp)
    exact ⟨by rw [cell_of_row _ _ _ _ _ _ hr]; rfl, by rw [cell_of_row _ _ _ _ _ _ hr]; rfl, by rw [cell_of_row _ _ _ _ _ _ hr]; rfl⟩
  have hs3 : w2.heap.size < w3.heap.size := lt_of_block hb3
  have HF3 : Hid (Fr [] w1 w3) := hF3
  obtain ⟨d0, d1, d2⟩ := HB.out _ hF3
  clear hb3 hF3 a0 a1 a2
  by_cases hk : okK9 key
  · have HM : Hid (Calls _ _ _ _ _) := hmay_any key true w3 ⟨fun _ => hk, fun _ => rfl⟩
    have HK : Hid (okK9 key) := hk
    clear hk
    go_wp2_with fail
    refine Calls.mono HM.out ?_
    rintro e w4 ⟨rfl, hF4⟩
    obtain ⟨c0, c1, c2⟩ := HC.out _ hF4
    obtain ⟨cc, hck⟩ := CkT.ex [(⟨num, val, drop⟩ : Vn)]
    have HV : Hid (Calls _ _ _ _ _) := vcheck_any (some ⟨w4.heap.size, 0, none⟩) 1 1 cc [(⟨num, val, drop⟩ : Vn)] (w4.alloc (.cells #[.int .i64 num, .string val, .bool drop] 128)) (vrs_one w4 ⟨num, val, drop⟩ 128 ⟨HE.out.v, HE.out.lo, HE.out.hi⟩) rfl hck
    have HF4 : Hid (Fr [] w3 w4) := hF4
    clear HM hF4
    go_wp2_with fail
    refine Calls.mono HV.out ?_
    rintro e w5 ⟨rfl, hF5⟩
    have HF5 : Hid (Fr [] w3 w5) := (HF4.out.then (Fr.alloc [] _ _)).then hF5
    clear HV hF5
    rcases hck with ⟨rfl, hok⟩ | ⟨rfl, hok⟩
    · have hX : okX ⟨num, val, drop⟩ := (okV_one _).1 hok
      obtain ⟨c0, c1, c2⟩ := HC.out _ HF5.out
      obtain ⟨e0, e1, e2⟩ := HB.out _ (HF3.out.then HF5.out)
      have HP : Hid (∀ W, Fr [] w5 W → Calls Tryz.prog 320 #[.pointer (some ⟨sb, 0, none⟩), .string key, .agg #[.int .i64 num, .string val, .bool drop]] W fun e w' => ∃ ok M', (e = .returned (.bool ok) ∧ PutM M key ⟨num, val, drop⟩ M' ok ∧ Sh w0 w' sb b (n + 1) M' ∧ FrS w0 b w w') ∧ (w'.cell? ⟨w.heap.size, 0, none⟩ = some (.string key) ∧ w'.cell? ⟨w2.heap.size, 0, none⟩ = some (.int .i64 num) ∧ w'.cell? ⟨w2.heap.size, 1, none⟩ = some (.string val) ∧ w'.cell? ⟨w2.heap.size, 2, none⟩ = some (.bool drop))) := by
        intro W hW
        have hG3 : Fr [] w1 W := (HF3.out.then HF5.out).then hW
        refine (hput_any key ⟨num, val, drop⟩ W (HS.out _ hG3) (Nat.le_trans H0.out (HFw.out.then hG3).size) HK.out hX hn).mono ?_
        rintro e w' ⟨ok, M', rfl, q1, q2, q3, q4⟩
        have hf := q4 ro N rc (HLk.out.1 W (HFw.out.then hG3))
        have n1 : w.heap.size ∉ (Value.slice ro N rc).ownBlock.toList ++ [b] := fun hm => by have := HLk.out.2 _ hm; omega
        have n2 : w2.heap.size ∉ (Value.slice ro N rc).ownBlock.toList ++ [b] := fun hm => by have := HLk.out.2 _ hm; omega
        obtain ⟨p0, _, _⟩ := HB.out _ hG3
        obtain ⟨r0, r1, r2⟩ := HC.out _ (HF5.out.then hW)
        have l1 : w.heap.size < W.heap.size := Nat.lt_of_lt_of_le hs1 hG3.size
        have l2 : w2.heap.size < W.heap.size := Nat.lt_of_lt_of_le hs3 (HF5.out.then hW).size
        exact ⟨ok, M', ⟨rfl, q1, q2, FrS.from (HFw.out.then hG3) q3⟩, far_cell hf p0 l1 n1, far_cell hf r0 l2 n2, far_cell hf r1 l2 n2, far_cell hf r2 l2 n2⟩
      have HX : Hid (okP ⟨num, key, val, drop⟩) := ⟨HK.out, hX⟩
      clear hok hX
      go_wp2_with fail
      go_region_held3 (fun W => W.cell? ⟨w.heap.size, 0, none⟩ = some (.string key) ∧ W.cell? ⟨w2.heap.size, 0, none⟩ = some (.int .i64 num) ∧ W.cell? ⟨w2.heap.size, 1, none⟩ = some (.string val) ∧ W.cell? ⟨w2.heap.size, 2, none⟩ = some (.bool drop)) (go_keep)
        (first | (go_at_call 320; with_reducible refine (HP.out _ (Fr.drew _ _)).mono ?_; rintro e w6 ⟨ok, M', ⟨rfl, hq⟩, f0, f1, f2, f3⟩))
      go_wp2
      refine bodyPost_ret (results_tmp2 rfl _ _ _) rfl ?_
      exact ⟨ok, 0, M', rfl, Or.inr ⟨rfl, HX.out, hq.1⟩, hq.2⟩
    · have HX : Hid (¬ okP ⟨num, key, val, drop⟩) := fun hp => hok ((okV_one _).2 hp.2)
      clear hok
      go_wp2
      refine bodyPost_ret (results_tmp2 rfl _ _ _) rfl ?_
      exact ⟨false, 1, M, rfl, Or.inl ⟨rfl, rfl, HX.out, rfl⟩, (HS.out _ (HF3.out.then HF5.out)).mono (by omega), FrS.of (HFw.out.then (HF3.out.then HF5.out))⟩
  · have HM : Hid (Calls _ _ _ _ _) := hmay_any key false w3 ⟨fun e => (by cases e), fun e => absurd e hk⟩
    have HX : Hid (¬ okP ⟨num, key, val, drop⟩) := fun hp => hk hp.1
    clear hk
    go_wp2_with fail
    refine Calls.mono HM.out ?_
    rintro e w4 ⟨rfl, hF4⟩
    clear HM
    go_wp2
    refine bodyPost_ret (results_tmp2 rfl _ _ _) rfl ?_
    exact ⟨false, 1, M, rfl, Or.inl ⟨rfl, rfl, HX.out, rfl⟩, (HS.out _ (HF3.out.then hF4)).mono (by omega), FrS.of (HFw.out.then (HF3.out.then hF4))⟩
end Go.Proofs.YtakbodlicfmkjaaGreat.O
