/- Texts of this claim laid together, one behind the other: contracts and plain lemmas; conditions as each names them. -/
import Derived.Test.YtaaghcimfcjehaaGreatDoorGp38
import Derived.Test.YtaaghcimfcjehaaGreatDoorGp40
import Derived.Test.YtaaghcimfcjehaaGreatDoorGp41
import Derived.Test.YtaaghcimfcjehaaGreatDoorGp42
import Derived.Test.YtaaghcimfcjehaaGreatDoorGp43
import Derived.Test.YtaaghcimfcjehaaGreatDoorGp39
/- What the Book answers when it looks at its lists (Txn): true, where each and what was put behind it read as its mark. Conditions: fewer than 2^21 lists. -/
namespace Go.Proofs.YtaaghcimfcjehaaGreatDoor.Bq
open BigFrame Go.ChangeShapes Go.WideShapes Go.ChangeAt Go.RowKit Go.Lib
set_option linter.unusedVariables false
set_option linter.unusedSimpArgs false

set_option maxHeartbeats 8000000 in
set_option maxRecDepth 100000 in
theorem lookTxn_any (bk : Nat) (rv : Value) (hs : List HB) (w : World) (h : Bl kTxn w bk rv hs) (h2 : ∀ (j : Nat) (h : HB), hs[j]? = some h → P2 kTxn w h) :
    Calls Tryz.prog 65 #[.pointer (some ⟨bk, 0, none⟩)] w fun e w' => e = .returned (.bool true) ∧ Fr [] w w' := by
  obtain ⟨N, HN⟩ : ∃ N, Hid (N = hs.length) := ⟨_, rfl⟩
  have hfew := h.few
  rw [← HN.out] at hfew
  obtain ⟨rao, rcap, hrv⟩ := own_slice h.row
  rw [← HN.out] at hrv
  have H : Hid (Bl kTxn w bk rv hs) := h
  clear h
  subst hrv
  go_enter Tryz.func65, Tryz.ntmps65
  go_wp2_with fail
  go_loopw [3] (fun ii wr => ∃ (i : Nat), ii = .int .i64 i ∧ i ≤ N ∧ Fr [] w wr) (fun ii _ => N - (RowKit.intOf ii).toNat)
  case atStart => exact ⟨0, rfl, Nat.zero_le _, Fr.refl _ _⟩
  case round =>
    obtain ⟨i, rfl, hiN, hF⟩ := hrel
    have hB := H.out.keep hF (by simp) (by simp)
    have c1 : wr.cell? ⟨bk, 7, none⟩ = some (.slice rao N rcap) := hB.c1
    by_cases hi : i < N
    · obtain ⟨e, he⟩ : ∃ e, hs[i]? = some e := ⟨_, List.getElem?_eq_getElem (by rw [← HN.out]; exact hi)⟩
      obtain ⟨rb, rc, hrv, hrc, d0, d1, d2⟩ := hB.at i e he
      rw [← HN.out] at hrv hrc
      cases hrv
      have hen : e.n < 4194304 := hB.num i e he
      have hp2 := (h2 i e he).keep hF (by simp) (by simp)
      obtain ⟨n, hR, hO, hn21⟩ := hp2
      obtain ⟨lao, lcap, hl, hlc, hlr⟩ := hR.shape
      obtain ⟨g, gcap, hx, hxc⟩ := own_form hO (by omega)
      obtain ⟨Q, hQ⟩ : ∃ Q, Q = n + 70 := ⟨_, rfl⟩
      rw [hx] at hO d1
      rw [hl] at d0
      obtain ⟨M, HM⟩ : ∃ M, Hid (M = e.n) := ⟨_, rfl⟩
      rw [← HM.out] at d2 hen
      obtain ⟨B, HB⟩ : ∃ B, Hid (mInt M = B) := ⟨_, rfl⟩
      have hmk : kTxn.mark e.n = [.int .i64 B, .slice none 0 0] := by rw [← HM.out, ← HB.out]
      rw [hmk] at hlr hO
      rw [← hQ] at hO d1 hxc
      have hQn : (Q : Int) = (n : Int) + 70 := by omega
      have hne : ((Q : Int) != (n : Int) + 70) = false := by rw [hQn]; simp
      have hQb : Q < 2^35 := by omega
      have HQn : Hid (Q = n + 70) := hQ
      have HX : Hid (∀ W, Fr [] wr W → ∀ k i, k < Q → i < 2 → W.cell? ⟨g, k * 2 + i, none⟩ = [.int .i64 B, .slice none 0 0][i]?) := by
        intro W hf k i hk hi
        exact own_marks (K := kTxn) (n := 0) rfl (owns_keep hO hf (by simp)) k i hk hi
      have HY : Hid (0 < n → ∃ t, lao = some ⟨t, 0, none⟩ ∧ ∀ W, Fr [] wr W → ∀ k i, k < n → i < 2 → W.cell? ⟨t, k * 2 + i, none⟩ = [.int .i64 B, .slice none 0 0][i]?) := by
        intro h0
        obtain ⟨t, e1, hc⟩ := hlr h0
        refine ⟨t, e1, fun W hf k i hk hi => ?_⟩
        obtain ⟨cs, hcs⟩ := hR.type t (by rw [hl, e1]; rfl)
        exact (World.cell?_of_block (hf.block t (lt_of_block hcs) (by simp))).trans (hc k i hk hi)
      clear hO hR hB he hx hl hQ hQn hlr hmk
      go_wp2_with fail
      obtain ⟨hv, hhv⟩ : ∃ hv, hv = wr.heap.size := ⟨_, rfl⟩
      obtain ⟨w1, hw1⟩ : ∃ w1, w1 = wr.alloc (Obj.cells #[.slice lao n lcap, .slice (some ⟨g, 0, none⟩) Q gcap, .int .i64 (M : Int)] 160) := ⟨_, rfl⟩
      rw [← hw1, ← hhv]
      have hF1 : Fr [] wr w1 := by rw [hw1]; exact Fr.alloc [] _ _
      have hvb : w1.heap[hv]? = some (.cells #[.slice lao n lcap, .slice (some ⟨g, 0, none⟩) Q gcap, .int .i64 (M : Int)] 160 (0, 0)) := by rw [hw1, hhv]; exact heap_alloc_new wr _
      have HA : Hid (∀ W, Fr [] w1 W → W.cell? ⟨hv, 0, none⟩ = some (.slice lao n lcap) ∧ W.cell? ⟨hv, 1, none⟩ = some (.slice (some ⟨g, 0, none⟩) Q gcap) ∧ W.cell? ⟨hv, 2, none⟩ = some (.int .i64 (M : Int)) ∧ Fr [] wr W) := by
        intro W hf
        have hb := hf.keep hvb (by simp)
        exact ⟨by rw [cell_of_row _ _ _ _ _ _ hb]; rfl, by rw [cell_of_row _ _ _ _ _ _ hb]; rfl, by rw [cell_of_row _ _ _ _ _ _ hb]; rfl, hF1.then hf⟩
      have HF1 : Hid (Fr [] w w1) := hF.then hF1
      obtain ⟨v0, v1, v2, _⟩ := HA.out _ (Fr.refl [] w1)
      clear hw1 hhv c1 d0 d1 d2 hvb hF hF1
      go_loopw [5] (fun kk wr' => ∃ (k : Nat), kk = .int .i64 k ∧ k ≤ Q ∧ Fr [] w1 wr') (fun kk _ => Q - (RowKit.intOf kk).toNat)
      case atStart => exact ⟨0, rfl, Nat.zero_le _, Fr.refl _ _⟩
      case round =>
        obtain ⟨k, rfl, hkQ, hFq⟩ := hrel
        obtain ⟨a0, a1, a2, _⟩ := HA.out _ hFq
        by_cases hk : k < Q
        · have hlt : (k : Int) < Q := by omega
          have HF : Hid (Fr [] w1 wr) := hFq
          have f0 : ∀ x : Wd w1, x.W.cell? ⟨hv, 0, none⟩ = some (.slice lao n lcap) := fun x => (HA.out _ x.h).1
          have f1 : ∀ x : Wd w1, x.W.cell? ⟨hv, 1, none⟩ = some (.slice (some ⟨g, 0, none⟩) Q gcap) := fun x => (HA.out _ x.h).2.1
          have f2 : ∀ x : Wd w1, x.W.cell? ⟨hv, 2, none⟩ = some (.int .i64 (M : Int)) := fun x => (HA.out _ x.h).2.2.1
          have g0 : ∀ x : Wd w1, x.W.cell? ⟨g, k * 2, none⟩ = some (.int .i64 B) := fun x => by exact HX.out x.W (HA.out _ x.h).2.2.2 k 0 hk (by omega)
          have g1 : ∀ x : Wd w1, x.W.cell? ⟨g, k * 2 + 1, none⟩ = some (.slice none 0 0) := fun x => by exact HX.out x.W (HA.out _ x.h).2.2.2 k 1 hk (by omega)
          by_cases hkn : k < n
          · have hkn' : (k : Int) < n := by omega
            obtain ⟨t, e9, HT⟩ := HY.out (by omega)
            subst e9
            have y0 : ∀ x : Wd w1, x.W.cell? ⟨t, k * 2, none⟩ = some (.int .i64 B) := fun x => by exact HT x.W (HA.out _ x.h).2.2.2 k 0 hkn (by omega)
            have y1 : ∀ x : Wd w1, x.W.cell? ⟨t, k * 2 + 1, none⟩ = some (.slice none 0 0) := fun x => by exact HT x.W (HA.out _ x.h).2.2.2 k 1 hkn (by omega)
            clear hFq
            go_wp2_with fail
            refine wp_region_wd (w1 := w1) (by kernel_rfl) (by kernel_rfl) HF.out ?_
            repeat (go_big_quiet_step (exact (isTxn_at M B _ hen HB.out).mono fun e w3 hh => ⟨hh.1, ⟨_, Fr.then (Wd.h _) hh.2⟩, rfl⟩))
            refine wpQuiet_nil ?_
            rintro _ ⟨x, rfl⟩
            go_wp2_with fail
            go_roundw
            case rel => exact ⟨k + 1, by simp, by omega, x.h⟩
            case measure => simp [RowKit.intOf]; omega
          · have hkn' : ¬ ((k : Int) < n) := by omega
            clear hFq
            go_wp2_with fail
            refine wp_region_wd (w1 := w1) (by kernel_rfl) (by kernel_rfl) HF.out ?_
            repeat (go_big_quiet_step (exact (isTxn_at M B _ hen HB.out).mono fun e w3 hh => ⟨hh.1, ⟨_, Fr.then (Wd.h _) hh.2⟩, rfl⟩))
            refine wpQuiet_nil ?_
            rintro _ ⟨x, rfl⟩
            go_wp2_with fail
            go_roundw
            case rel => exact ⟨k + 1, by simp, by omega, x.h⟩
            case measure => simp [RowKit.intOf]; omega
        · have hle : (Q : Int) ≤ k := by omega
          have hF2 := HF1.out.then hFq
          go_wp2_with fail
          go_roundw
          case rel => exact ⟨i + 1, by simp, by omega, hF2⟩
          case measure => simp [RowKit.intOf]; omega
    · go_wp2_with fail
      go_ret
      exact ⟨rfl, hF⟩
end Go.Proofs.YtaaghcimfcjehaaGreatDoor.Bq
/- What the Book's Apart answers over lists of bytes, numbers, writes and transactions of which no two share a block: true; it writes those lists and its own rows alone. Conditions: fewer than 2^21 lists of each kind; the table of powers of ten reads as the library lays it, and is none of those. -/
namespace Go.Proofs.YtaaghcimfcjehaaGreatDoor.Bq
open Go.ChangeShapes Go.WideShapes Go.ChangeAt Go.RowKit Go.Lib
set_option linter.unusedVariables false

/-- All that Apart may write. -/
def own4 (rB rI rW rT : Value) (hB hI hW hT : List HB) : List Nat := (rB.ownBlock.toList ++ lbs hB) ++ ((rI.ownBlock.toList ++ lbs hI) ++ ((rW.ownBlock.toList ++ lbs hW) ++ (rT.ownBlock.toList ++ lbs hT)))
set_option maxHeartbeats 8000000 in
set_option maxRecDepth 100000 in
theorem apart4_any (bk : Nat) (cs : Array Value) (rB rI rW rT : Value) (hB hI hW hT : List HB) (w : World) (hX : Bx w bk cs) (sB : S0 kByte w bk rB hB) (sI : S0 kInt w bk rI hI) (sW : S0 kWrite w bk rW hW) (sT : S0 kTxn w bk rT hT) (htab : Tab w) (hg : gTab ∉ own4 rB rI rW rT hB hI hW hT) :
    Calls Tryz.prog 20 #[.pointer (some ⟨bk, 0, none⟩)] w fun e w' => e = .returned (.bool true) ∧ Fr (own4 rB rI rW rT hB hI hW hT) w w' := by
  have HB : Hid (S0 kByte w bk rB hB) := sB
  have HI : Hid (S0 kInt w bk rI hI) := sI
  have HW : Hid (S0 kWrite w bk rW hW) := sW
  have HT : Hid (S0 kTxn w bk rT hT) := sT
  have HX : Hid (Bx w bk cs) := hX
  have HTB : Hid (Tab w) := htab
  have HG : Hid (gTab ∉ own4 rB rI rW rT hB hI hW hT) := hg
  have HF : Hid (Fr (own4 rB rI rW rT hB hI hW hT) w w) := Fr.refl _ _
  have inB : ∀ x, x ∈ rB.ownBlock.toList ++ lbs hB → x ∈ own4 rB rI rW rT hB hI hW hT := fun x hx => List.mem_append_left _ hx
  have inI : ∀ x, x ∈ rI.ownBlock.toList ++ lbs hI → x ∈ own4 rB rI rW rT hB hI hW hT := fun x hx => List.mem_append_right _ (List.mem_append_left _ hx)
  have inW : ∀ x, x ∈ rW.ownBlock.toList ++ lbs hW → x ∈ own4 rB rI rW rT hB hI hW hT := fun x hx => List.mem_append_right _ (List.mem_append_right _ (List.mem_append_left _ hx))
  have inT : ∀ x, x ∈ rT.ownBlock.toList ++ lbs hT → x ∈ own4 rB rI rW rT hB hI hW hT := fun x hx => List.mem_append_right _ (List.mem_append_right _ (List.mem_append_right _ hx))
  clear sB sI sW sT hX htab hg
  go_enter Tryz.func20, Tryz.ntmps20
  go_wp2_with fail
  refine (fillByte_any bk rB hB w HB.out.bl HB.out.each HB.out.alone HB.out.fresh).mono ?_
  rintro e w1 ⟨rfl, HZ⟩
  have HFn : Hid (Fr (own4 rB rI rW rT hB hI hW hT) w w1) := HF.out.trans HZ.out.fr (fun x hx _ => hx) (fun x hx _ => inB x (List.mem_append_right _ hx))
  have HXn : Hid (Bx w1 bk cs) := HX.out.keep HZ.out.fr ((HB.out.offs off_IB).notB HX.out.box)
  have HIn : Hid (S0 kInt w1 bk rI hI) := HI.out.stay HZ.out.fr (HB.out.offs off_IB)
  have HWn : Hid (S0 kWrite w1 bk rW hW) := HW.out.stay HZ.out.fr (HB.out.offs off_WB)
  have HTn : Hid (S0 kTxn w1 bk rT hT) := HT.out.stay HZ.out.fr (HB.out.offs off_TB)
  have HBn : Hid (S1 kByte w1 bk rB hB) := HB.out.filled HZ.out
  have HTBn : Hid (Tab w1) := HTB.out.keep HZ.out.fr (fun hm => HG.out (inB _ (List.mem_append_right _ hm)))
  clear HF HX HTB HZ HB HI HW HT
  have HF := HFn
  have HX := HXn
  have HTB := HTBn
  have HB := HBn
  have HI := HIn
  have HW := HWn
  have HT := HTn
  clear HFn HXn HTBn HBn HIn HWn HTn
  go_wp2_with fail
  refine (fillInt_any bk rI hI w1 HI.out.bl HI.out.each HI.out.alone HI.out.fresh).mono ?_
  rintro e w2 ⟨rfl, HZ⟩
  have HFn : Hid (Fr (own4 rB rI rW rT hB hI hW hT) w w2) := HF.out.trans HZ.out.fr (fun x hx _ => hx) (fun x hx _ => inI x (List.mem_append_right _ hx))
  have HXn : Hid (Bx w2 bk cs) := HX.out.keep HZ.out.fr ((HI.out.offs off_BI).notB HX.out.box)
  have HBn : Hid (S1 kByte w2 bk rB hB) := HB.out.stay HZ.out.fr (HI.out.offs off_BI)
  have HWn : Hid (S0 kWrite w2 bk rW hW) := HW.out.stay HZ.out.fr (HI.out.offs off_WI)
  have HTn : Hid (S0 kTxn w2 bk rT hT) := HT.out.stay HZ.out.fr (HI.out.offs off_TI)
  have HIn : Hid (S1 kInt w2 bk rI hI) := HI.out.filled HZ.out
  have HTBn : Hid (Tab w2) := HTB.out.keep HZ.out.fr (fun hm => HG.out (inI _ (List.mem_append_right _ hm)))
  clear HF HX HTB HZ HB HI HW HT
  have HF := HFn
  have HX := HXn
  have HTB := HTBn
  have HB := HBn
  have HI := HIn
  have HW := HWn
  have HT := HTn
  clear HFn HXn HTBn HBn HIn HWn HTn
  go_wp2_with fail
  refine (fillText_none bk w2 (HX.out.c 3 (by omega))).mono ?_
  rintro e _ ⟨rfl, rfl⟩
  go_wp2_with fail
  refine (fillWrite_any bk rW hW w2 HW.out.bl HW.out.each HW.out.alone HW.out.fresh HTB.out (fun hm => HG.out (inW _ (List.mem_append_right _ hm)))).mono ?_
  rintro e w3 ⟨rfl, HZ⟩
  have HFn : Hid (Fr (own4 rB rI rW rT hB hI hW hT) w w3) := HF.out.trans HZ.out.fr (fun x hx _ => hx) (fun x hx _ => inW x (List.mem_append_right _ hx))
  have HXn : Hid (Bx w3 bk cs) := HX.out.keep HZ.out.fr ((HW.out.offs off_BW).notB HX.out.box)
  have HBn : Hid (S1 kByte w3 bk rB hB) := HB.out.stay HZ.out.fr (HW.out.offs off_BW)
  have HIn : Hid (S1 kInt w3 bk rI hI) := HI.out.stay HZ.out.fr (HW.out.offs off_IW)
  have HTn : Hid (S0 kTxn w3 bk rT hT) := HT.out.stay HZ.out.fr (HW.out.offs off_TW)
  have HWn : Hid (S1 kWrite w3 bk rW hW) := HW.out.filled HZ.out
  have HTBn : Hid (Tab w3) := HTB.out.keep HZ.out.fr (fun hm => HG.out (inW _ (List.mem_append_right _ hm)))
  clear HF HX HTB HZ HB HI HW HT
  have HF := HFn
  have HX := HXn
  have HTB := HTBn
  have HB := HBn
  have HI := HIn
  have HW := HWn
  have HT := HTn
  clear HFn HXn HTBn HBn HIn HWn HTn
  go_wp2_with fail
  refine (fillEntry_none bk w3 (HX.out.c 5 (by omega))).mono ?_
  rintro e _ ⟨rfl, rfl⟩
  go_wp2_with fail
  refine (fillVersion_none bk w3 (HX.out.c 6 (by omega))).mono ?_
  rintro e _ ⟨rfl, rfl⟩
  go_wp2_with fail
  refine (fillTxn_any bk rT hT w3 HT.out.bl HT.out.each HT.out.alone HT.out.fresh).mono ?_
  rintro e w4 ⟨rfl, HZ⟩
  have HFn : Hid (Fr (own4 rB rI rW rT hB hI hW hT) w w4) := HF.out.trans HZ.out.fr (fun x hx _ => hx) (fun x hx _ => inT x (List.mem_append_right _ hx))
  have HXn : Hid (Bx w4 bk cs) := HX.out.keep HZ.out.fr ((HT.out.offs off_BT).notB HX.out.box)
  have HBn : Hid (S1 kByte w4 bk rB hB) := HB.out.stay HZ.out.fr (HT.out.offs off_BT)
  have HIn : Hid (S1 kInt w4 bk rI hI) := HI.out.stay HZ.out.fr (HT.out.offs off_IT)
  have HWn : Hid (S1 kWrite w4 bk rW hW) := HW.out.stay HZ.out.fr (HT.out.offs off_WT)
  have HTn : Hid (S1 kTxn w4 bk rT hT) := HT.out.filled HZ.out
  have HTBn : Hid (Tab w4) := HTB.out.keep HZ.out.fr (fun hm => HG.out (inT _ (List.mem_append_right _ hm)))
  clear HF HX HTB HZ HB HI HW HT
  have HF := HFn
  have HX := HXn
  have HTB := HTBn
  have HB := HBn
  have HI := HIn
  have HW := HWn
  have HT := HTn
  clear HFn HXn HTBn HBn HIn HWn HTn
  go_wp2_with fail
  refine (fillHeld_none bk w4 (HX.out.c 8 (by omega))).mono ?_
  rintro e _ ⟨rfl, rfl⟩
  go_wp2_with fail
  refine (fillHeldList_none bk w4 (HX.out.c 9 (by omega))).mono ?_
  rintro e _ ⟨rfl, rfl⟩
  go_wp2_with fail
  refine (fillEvent_none bk w4 (HX.out.c 10 (by omega))).mono ?_
  rintro e _ ⟨rfl, rfl⟩
  go_wp2_with fail
  refine (fillAnswer_none bk w4 (HX.out.c 11 (by omega))).mono ?_
  rintro e _ ⟨rfl, rfl⟩
  go_wp2_with fail
  refine (growByte_any bk rB hB w4 HB.out.bl HB.out.each HB.out.alone HB.out.fresh).mono ?_
  rintro e w5 ⟨rfl, gB, HZ⟩
  have HFn : Hid (Fr (own4 rB rI rW rT hB hI hW hT) w w5) := HF.out.trans HZ.out.fr (fun x hx _ => hx) (fun x hx _ => inB x hx)
  have HXn : Hid (Bx w5 bk cs) := HX.out.keep HZ.out.fr ((HB.out.offs off_IB).notB HX.out.box)
  have HIn : Hid (S1 kInt w5 bk rI hI) := HI.out.stay HZ.out.fr (HB.out.offs off_IB)
  have HWn : Hid (S1 kWrite w5 bk rW hW) := HW.out.stay HZ.out.fr (HB.out.offs off_WB)
  have HTn : Hid (S1 kTxn w5 bk rT hT) := HT.out.stay HZ.out.fr (HB.out.offs off_TB)
  have HBn : Hid (S2 kByte w5 bk rB gB) := HB.out.grown HZ.out
  have HTBn : Hid (Tab w5) := HTB.out.keep HZ.out.fr (fun hm => HG.out (inB _ hm))
  clear HF HX HTB HZ HB HI HW HT
  have HF := HFn
  have HX := HXn
  have HTB := HTBn
  have HB := HBn
  have HI := HIn
  have HW := HWn
  have HT := HTn
  clear HFn HXn HTBn HBn HIn HWn HTn
  go_wp2_with fail
  refine (growInt_any bk rI hI w5 HI.out.bl HI.out.each HI.out.alone HI.out.fresh).mono ?_
  rintro e w6 ⟨rfl, gI, HZ⟩
  have HFn : Hid (Fr (own4 rB rI rW rT hB hI hW hT) w w6) := HF.out.trans HZ.out.fr (fun x hx _ => hx) (fun x hx _ => inI x hx)
  have HXn : Hid (Bx w6 bk cs) := HX.out.keep HZ.out.fr ((HI.out.offs off_BI).notB HX.out.box)
  have HBn : Hid (S2 kByte w6 bk rB gB) := HB.out.stay HZ.out.fr (HI.out.offs off_BI)
  have HWn : Hid (S1 kWrite w6 bk rW hW) := HW.out.stay HZ.out.fr (HI.out.offs off_WI)
  have HTn : Hid (S1 kTxn w6 bk rT hT) := HT.out.stay HZ.out.fr (HI.out.offs off_TI)
  have HIn : Hid (S2 kInt w6 bk rI gI) := HI.out.grown HZ.out
  have HTBn : Hid (Tab w6) := HTB.out.keep HZ.out.fr (fun hm => HG.out (inI _ hm))
  clear HF HX HTB HZ HB HI HW HT
  have HF := HFn
  have HX := HXn
  have HTB := HTBn
  have HB := HBn
  have HI := HIn
  have HW := HWn
  have HT := HTn
  clear HFn HXn HTBn HBn HIn HWn HTn
  go_wp2_with fail
  refine (growText_none bk w6 (HX.out.c 3 (by omega))).mono ?_
  rintro e _ ⟨rfl, rfl⟩
  go_wp2_with fail
  refine (growWrite_any bk rW hW w6 HW.out.bl HW.out.each HW.out.alone HW.out.fresh HTB.out (fun hm => HG.out (inW _ hm))).mono ?_
  rintro e w7 ⟨rfl, gW, HZ⟩
  have HFn : Hid (Fr (own4 rB rI rW rT hB hI hW hT) w w7) := HF.out.trans HZ.out.fr (fun x hx _ => hx) (fun x hx _ => inW x hx)
  have HXn : Hid (Bx w7 bk cs) := HX.out.keep HZ.out.fr ((HW.out.offs off_BW).notB HX.out.box)
  have HBn : Hid (S2 kByte w7 bk rB gB) := HB.out.stay HZ.out.fr (HW.out.offs off_BW)
  have HIn : Hid (S2 kInt w7 bk rI gI) := HI.out.stay HZ.out.fr (HW.out.offs off_IW)
  have HTn : Hid (S1 kTxn w7 bk rT hT) := HT.out.stay HZ.out.fr (HW.out.offs off_TW)
  have HWn : Hid (S2 kWrite w7 bk rW gW) := HW.out.grown HZ.out
  have HTBn : Hid (Tab w7) := HTB.out.keep HZ.out.fr (fun hm => HG.out (inW _ hm))
  clear HF HX HTB HZ HB HI HW HT
  have HF := HFn
  have HX := HXn
  have HTB := HTBn
  have HB := HBn
  have HI := HIn
  have HW := HWn
  have HT := HTn
  clear HFn HXn HTBn HBn HIn HWn HTn
  go_wp2_with fail
  refine (growEntry_none bk w7 (HX.out.c 5 (by omega))).mono ?_
  rintro e _ ⟨rfl, rfl⟩
  go_wp2_with fail
  refine (growVersion_none bk w7 (HX.out.c 6 (by omega))).mono ?_
  rintro e _ ⟨rfl, rfl⟩
  go_wp2_with fail
  refine (growTxn_any bk rT hT w7 HT.out.bl HT.out.each HT.out.alone HT.out.fresh).mono ?_
  rintro e w8 ⟨rfl, gT, HZ⟩
  have HFn : Hid (Fr (own4 rB rI rW rT hB hI hW hT) w w8) := HF.out.trans HZ.out.fr (fun x hx _ => hx) (fun x hx _ => inT x hx)
  have HXn : Hid (Bx w8 bk cs) := HX.out.keep HZ.out.fr ((HT.out.offs off_BT).notB HX.out.box)
  have HBn : Hid (S2 kByte w8 bk rB gB) := HB.out.stay HZ.out.fr (HT.out.offs off_BT)
  have HIn : Hid (S2 kInt w8 bk rI gI) := HI.out.stay HZ.out.fr (HT.out.offs off_IT)
  have HWn : Hid (S2 kWrite w8 bk rW gW) := HW.out.stay HZ.out.fr (HT.out.offs off_WT)
  have HTn : Hid (S2 kTxn w8 bk rT gT) := HT.out.grown HZ.out
  have HTBn : Hid (Tab w8) := HTB.out.keep HZ.out.fr (fun hm => HG.out (inT _ hm))
  clear HF HX HTB HZ HB HI HW HT
  have HF := HFn
  have HX := HXn
  have HTB := HTBn
  have HB := HBn
  have HI := HIn
  have HW := HWn
  have HT := HTn
  clear HFn HXn HTBn HBn HIn HWn HTn
  go_wp2_with fail
  refine (growHeld_none bk w8 (HX.out.c 8 (by omega))).mono ?_
  rintro e _ ⟨rfl, rfl⟩
  go_wp2_with fail
  refine (growHeldList_none bk w8 (HX.out.c 9 (by omega))).mono ?_
  rintro e _ ⟨rfl, rfl⟩
  go_wp2_with fail
  refine (growEvent_none bk w8 (HX.out.c 10 (by omega))).mono ?_
  rintro e _ ⟨rfl, rfl⟩
  go_wp2_with fail
  refine (growAnswer_none bk w8 (HX.out.c 11 (by omega))).mono ?_
  rintro e _ ⟨rfl, rfl⟩
  go_wp2_with fail
  refine (lookByte_any bk rB gB w8 HB.out.bl HB.out.each).mono ?_
  rintro e w9 ⟨rfl, HZ⟩
  have HFn : Hid (Fr (own4 rB rI rW rT hB hI hW hT) w w9) := HF.out.trans HZ (fun x hx _ => hx) (by simp)
  have HXn : Hid (Bx w9 bk cs) := HX.out.keep HZ ((Off.nil kInt _).notB HX.out.box)
  have HIn : Hid (S2 kInt w9 bk rI gI) := HI.out.stay HZ (Off.nil kInt _)
  have HWn : Hid (S2 kWrite w9 bk rW gW) := HW.out.stay HZ (Off.nil kWrite _)
  have HTn : Hid (S2 kTxn w9 bk rT gT) := HT.out.stay HZ (Off.nil kTxn _)
  have HBn : Hid (S2 kByte w9 bk rB gB) := HB.out.stay HZ (Off.nil _ _)
  have HTBn : Hid (Tab w9) := HTB.out.keep HZ (by simp)
  clear HF HX HTB HZ HB HI HW HT
  have HF := HFn
  have HX := HXn
  have HTB := HTBn
  have HB := HBn
  have HI := HIn
  have HW := HWn
  have HT := HTn
  clear HFn HXn HTBn HBn HIn HWn HTn
  go_wp2_with fail
  refine (lookInt_any bk rI gI w9 HI.out.bl HI.out.each).mono ?_
  rintro e w10 ⟨rfl, HZ⟩
  have HFn : Hid (Fr (own4 rB rI rW rT hB hI hW hT) w w10) := HF.out.trans HZ (fun x hx _ => hx) (by simp)
  have HXn : Hid (Bx w10 bk cs) := HX.out.keep HZ ((Off.nil kByte _).notB HX.out.box)
  have HBn : Hid (S2 kByte w10 bk rB gB) := HB.out.stay HZ (Off.nil kByte _)
  have HWn : Hid (S2 kWrite w10 bk rW gW) := HW.out.stay HZ (Off.nil kWrite _)
  have HTn : Hid (S2 kTxn w10 bk rT gT) := HT.out.stay HZ (Off.nil kTxn _)
  have HIn : Hid (S2 kInt w10 bk rI gI) := HI.out.stay HZ (Off.nil _ _)
  have HTBn : Hid (Tab w10) := HTB.out.keep HZ (by simp)
  clear HF HX HTB HZ HB HI HW HT
  have HF := HFn
  have HX := HXn
  have HTB := HTBn
  have HB := HBn
  have HI := HIn
  have HW := HWn
  have HT := HTn
  clear HFn HXn HTBn HBn HIn HWn HTn
  go_wp2_with fail
  refine (lookText_none bk w10 (HX.out.c 3 (by omega))).mono ?_
  rintro e _ ⟨rfl, rfl⟩
  go_wp2_with fail
  refine (lookWrite_any bk rW gW w10 HW.out.bl HW.out.each HTB.out).mono ?_
  rintro e w11 ⟨rfl, HZ⟩
  have HFn : Hid (Fr (own4 rB rI rW rT hB hI hW hT) w w11) := HF.out.trans HZ (fun x hx _ => hx) (by simp)
  have HXn : Hid (Bx w11 bk cs) := HX.out.keep HZ ((Off.nil kByte _).notB HX.out.box)
  have HBn : Hid (S2 kByte w11 bk rB gB) := HB.out.stay HZ (Off.nil kByte _)
  have HIn : Hid (S2 kInt w11 bk rI gI) := HI.out.stay HZ (Off.nil kInt _)
  have HTn : Hid (S2 kTxn w11 bk rT gT) := HT.out.stay HZ (Off.nil kTxn _)
  have HWn : Hid (S2 kWrite w11 bk rW gW) := HW.out.stay HZ (Off.nil _ _)
  have HTBn : Hid (Tab w11) := HTB.out.keep HZ (by simp)
  clear HF HX HTB HZ HB HI HW HT
  have HF := HFn
  have HX := HXn
  have HTB := HTBn
  have HB := HBn
  have HI := HIn
  have HW := HWn
  have HT := HTn
  clear HFn HXn HTBn HBn HIn HWn HTn
  go_wp2_with fail
  refine (lookEntry_none bk w11 (HX.out.c 5 (by omega))).mono ?_
  rintro e _ ⟨rfl, rfl⟩
  go_wp2_with fail
  refine (lookVersion_none bk w11 (HX.out.c 6 (by omega))).mono ?_
  rintro e _ ⟨rfl, rfl⟩
  go_wp2_with fail
  refine (lookTxn_any bk rT gT w11 HT.out.bl HT.out.each).mono ?_
  rintro e w12 ⟨rfl, HZ⟩
  have HFn : Hid (Fr (own4 rB rI rW rT hB hI hW hT) w w12) := HF.out.trans HZ (fun x hx _ => hx) (by simp)
  have HXn : Hid (Bx w12 bk cs) := HX.out.keep HZ ((Off.nil kByte _).notB HX.out.box)
  have HBn : Hid (S2 kByte w12 bk rB gB) := HB.out.stay HZ (Off.nil kByte _)
  have HIn : Hid (S2 kInt w12 bk rI gI) := HI.out.stay HZ (Off.nil kInt _)
  have HWn : Hid (S2 kWrite w12 bk rW gW) := HW.out.stay HZ (Off.nil kWrite _)
  have HTn : Hid (S2 kTxn w12 bk rT gT) := HT.out.stay HZ (Off.nil _ _)
  have HTBn : Hid (Tab w12) := HTB.out.keep HZ (by simp)
  clear HF HX HTB HZ HB HI HW HT
  have HF := HFn
  have HX := HXn
  have HTB := HTBn
  have HB := HBn
  have HI := HIn
  have HW := HWn
  have HT := HTn
  clear HFn HXn HTBn HBn HIn HWn HTn
  go_wp2_with fail
  refine (lookHeld_none bk w12 (HX.out.c 8 (by omega))).mono ?_
  rintro e _ ⟨rfl, rfl⟩
  go_wp2_with fail
  refine (lookHeldList_none bk w12 (HX.out.c 9 (by omega))).mono ?_
  rintro e _ ⟨rfl, rfl⟩
  go_wp2_with fail
  refine (lookEvent_none bk w12 (HX.out.c 10 (by omega))).mono ?_
  rintro e _ ⟨rfl, rfl⟩
  go_wp2_with fail
  refine (lookAnswer_none bk w12 (HX.out.c 11 (by omega))).mono ?_
  rintro e _ ⟨rfl, rfl⟩
  go_wp2_with fail
  go_ret
  exact ⟨rfl, HF.out⟩
end Go.Proofs.YtaaghcimfcjehaaGreatDoor.Bq
/- A Book's birth, and who lies apart at the end. Conditions as each names them. -/
namespace Go.Proofs.YtaaghcimfcjehaaGreatDoor
open Go.ChangeShapes Go.WideShapes Go.ChangeAt Go.RowKit Go.Lib
set_option linter.unusedVariables false
set_option linter.unusedSimpArgs false
namespace Bq
/-- A Book that was told nothing. -/
def newBk : Array Value := #[.int .i64 0, .slice none 0 0, .slice none 0 0, .slice none 0 0, .slice none 0 0, .slice none 0 0, .slice none 0 0, .slice none 0 0, .slice none 0 0, .slice none 0 0, .slice none 0 0, .slice none 0 0]
theorem S0.none {K : Kd} {w : World} {bk : Nat} (h : w.heap[bk]? = some (.cells newBk 57 (0, 0))) (hc : newBk[K.col]? = some (.slice none 0 0)) : S0 K w bk (.slice none 0 0) [] :=
  ⟨⟨⟨newBk, h, hc⟩, World.ownsRow_nil _ _ _ _, by simp, by simp⟩, by simp, fun i j a b ha => by simp at ha, fun j h hh => by simp at hh⟩
theorem B4.new {w0 w : World} {bk : Nat} (h : w.heap[bk]? = some (.cells newBk 57 (0, 0))) (hb : w0.heap.size ≤ bk) : B4 w0 w bk 0 (.slice none 0 0) (.slice none 0 0) (.slice none 0 0) (.slice none 0 0) [] [] [] [] := by
  refine ⟨⟨newBk, ⟨h, rfl, ?_⟩, rfl⟩, S0.none h rfl, S0.none h rfl, S0.none h rfl, S0.none h rfl, hb, ?_, ?_, ?_, ?_, by simp, by simp, by simp, by simp⟩
  · rintro c (rfl | rfl | rfl | rfl | rfl | rfl | rfl) <;> rfl
  all_goals (intro k hk; simp [Value.ownBlock] at hk)
/-- All that a Book's Apart writes was made since w0. -/
theorem B4.own {w0 w : World} {bk T : Nat} {rB rI rW rT : Value} {hB hI hW hT : List HB} (h : B4 w0 w bk T rB rI rW rT hB hI hW hT) (lB : ∀ k ∈ lbs hB, w0.heap.size ≤ k) (lI : ∀ k ∈ lbs hI, w0.heap.size ≤ k) (lW : ∀ k ∈ lbs hW, w0.heap.size ≤ k) (lT : ∀ k ∈ lbs hT, w0.heap.size ≤ k) : ∀ k ∈ own4 rB rI rW rT hB hI hW hT, w0.heap.size ≤ k := by
  intro k hk
  simp only [own4, List.mem_append, Option.mem_toList] at hk
  rcases hk with (hk | hk) | (hk | hk) | (hk | hk) | (hk | hk)
  · exact h.rBn k hk
  · exact lB k hk
  · exact h.rIn k hk
  · exact lI k hk
  · exact h.rWn k hk
  · exact lW k hk
  · exact h.rTn k hk
  · exact lT k hk
/-- Apart says true, and writes nothing that was there at w0. -/
theorem B4.apart {w0 w : World} {bk T : Nat} {rB rI rW rT : Value} {hB hI hW hT : List HB} (h : B4 w0 w bk T rB rI rW rT hB hI hW hT) (lB : ∀ k ∈ lbs hB, w0.heap.size ≤ k) (lI : ∀ k ∈ lbs hI, w0.heap.size ≤ k) (lW : ∀ k ∈ lbs hW, w0.heap.size ≤ k) (lT : ∀ k ∈ lbs hT, w0.heap.size ≤ k) (ht0 : Tab w0) (hf : Fr [] w0 w) :
    Calls Tryz.prog 20 #[.pointer (some ⟨bk, 0, none⟩)] w fun e w' => e = .returned (.bool true) ∧ Fr [] w0 w' := by
  obtain ⟨cs, hX, _⟩ := h.box
  have ho := h.own lB lI lW lT
  refine (apart4_any bk cs rB rI rW rT hB hI hW hT w hX h.sB h.sI h.sW h.sT (ht0.keep hf (by simp)) (fun hm => by have := ho _ hm; have := ht0.lt; omega)).mono ?_
  rintro e w' ⟨rfl, hF⟩
  exact ⟨rfl, hf.on hF ho⟩
end Bq
end Go.Proofs.YtaaghcimfcjehaaGreatDoor
