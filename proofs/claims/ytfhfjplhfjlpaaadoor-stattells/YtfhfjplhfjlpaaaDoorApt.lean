/- What the Book's Apart answers over lists of bytes, numbers, writes and transactions of which no two share a block: true; it writes those lists and its own rows alone. Conditions: fewer than 2^21 lists of each kind; the table of powers of ten reads as the library lays it, and is none of those. -/
import Derived.Test.YtfhfjplhfjlpaaaDoorNn
import Derived.Test.YtfhfjplhfjlpaaaDoorFlByte
import Derived.Test.YtfhfjplhfjlpaaaDoorGrByte
import Derived.Test.YtfhfjplhfjlpaaaDoorLkByte
import Derived.Test.YtfhfjplhfjlpaaaDoorFlInt
import Derived.Test.YtfhfjplhfjlpaaaDoorGrInt
import Derived.Test.YtfhfjplhfjlpaaaDoorLkInt
import Derived.Test.YtfhfjplhfjlpaaaDoorFlWrite
import Derived.Test.YtfhfjplhfjlpaaaDoorGrWrite
import Derived.Test.YtfhfjplhfjlpaaaDoorLkWrite
import Derived.Test.YtfhfjplhfjlpaaaDoorFlTxn
import Derived.Test.YtfhfjplhfjlpaaaDoorGrTxn
import Derived.Test.YtfhfjplhfjlpaaaDoorLkTxn
namespace Go.Proofs.YtfhfjplhfjlpaaaDoor.Bq
open Go.ChangeShapes Go.WideShapes Go.ChangeAt Go.RowKit Go.Lib
set_option linter.unusedVariables false

/-- All that Apart may write. -/
def own4 (rB rI rW rT : Value) (hB hI hW hT : List HB) : List Nat := (rB.ownBlock.toList ++ lbs hB) ++ ((rI.ownBlock.toList ++ lbs hI) ++ ((rW.ownBlock.toList ++ lbs hW) ++ (rT.ownBlock.toList ++ lbs hT)))
set_option maxHeartbeats 8000000 in
set_option maxRecDepth 100000 in
theorem apart4_any (bk : Nat) (cs : Array Value) (rB rI rW rT : Value) (hB hI hW hT : List HB) (w : World) (hX : Bx w bk cs) (sB : S0 kByte w bk rB hB) (sI : S0 kInt w bk rI hI) (sW : S0 kWrite w bk rW hW) (sT : S0 kTxn w bk rT hT) (htab : Tab w) (hg : gTab ∉ own4 rB rI rW rT hB hI hW hT) :
    Calls Tryd.prog 12 #[.pointer (some ⟨bk, 0, none⟩)] w fun e w' => e = .returned (.bool true) ∧ Fr (own4 rB rI rW rT hB hI hW hT) w w' := by
  have HB : Hid (S0 kByte w bk rB hB) := sB
  have HI : Hid (S0 kInt w bk rI hI) := sI
  have HW : Hid (S0 kWrite w bk rW hW) := sW
  have HT : Hid (S0 kTxn w bk rT hT) := sT
  have HX : Hid (Bx w bk cs) := hX
  have HTB : Hid (Tab w) := htab
  have HG : Hid (gTab ∉ own4 rB rI rW rT hB hI hW hT) := hg
  have HF : Hid (Fr (own4 rB rI rW rT hB hI hW hT) w w) := Fr.refl _ _
  have inB : ∀ x, x ∈ rB.ownBlock.toList ++ lbs hB → x ∈ own4 rB rI rW rT hB hI hW hT := fun x hx => List.mem_append_left _ hx
  have inI : ∀ x, x ∈ rI.ownBlock.toList ++ lbs hI → x ∈ own4 rB rI rW rT hB hI hW hT := fun x hx => List.mem_append_right _ (List.mem_append_left _ hx)
  have inW : ∀ x, x ∈ rW.ownBlock.toList ++ lbs hW → x ∈ own4 rB rI rW rT hB hI hW hT := fun x hx => List.mem_append_right _ (List.mem_append_right _ (List.mem_append_left _ hx))
  have inT : ∀ x, x ∈ rT.ownBlock.toList ++ lbs hT → x ∈ own4 rB rI rW rT hB hI hW hT := fun x hx => List.mem_append_right _ (List.mem_append_right _ (List.mem_append_right _ hx))
  clear sB sI sW sT hX htab hg
  go_enter Tryd.func12, Tryd.ntmps12
  go_wp2_with fail
  refine (fillByte_any bk rB hB w HB.out.bl HB.out.each HB.out.alone HB.out.fresh).mono ?_
  rintro e w1 ⟨rfl, HZ⟩
  have HFn : Hid (Fr (own4 rB rI rW rT hB hI hW hT) w w1) := HF.out.trans HZ.out.fr (fun x hx _ => hx) (fun x hx _ => inB x (List.mem_append_right _ hx))
  have HXn : Hid (Bx w1 bk cs) := HX.out.keep HZ.out.fr ((HB.out.offs off_IB).notB HX.out.box)
  have HIn : Hid (S0 kInt w1 bk rI hI) := HI.out.stay HZ.out.fr (HB.out.offs off_IB)
  have HWn : Hid (S0 kWrite w1 bk rW hW) := HW.out.stay HZ.out.fr (HB.out.offs off_WB)
  have HTn : Hid (S0 kTxn w1 bk rT hT) := HT.out.stay HZ.out.fr (HB.out.offs off_TB)
  have HBn : Hid (S1 kByte w1 bk rB hB) := HB.out.filled HZ.out
  have HTBn : Hid (Tab w1) := HTB.out.keep HZ.out.fr (fun hm => HG.out (inB _ (List.mem_append_right _ hm)))
  clear HF HX HTB HZ HB HI HW HT
  have HF := HFn
  have HX := HXn
  have HTB := HTBn
  have HB := HBn
  have HI := HIn
  have HW := HWn
  have HT := HTn
  clear HFn HXn HTBn HBn HIn HWn HTn
  go_wp2_with fail
  refine (fillInt_any bk rI hI w1 HI.out.bl HI.out.each HI.out.alone HI.out.fresh).mono ?_
  rintro e w2 ⟨rfl, HZ⟩
  have HFn : Hid (Fr (own4 rB rI rW rT hB hI hW hT) w w2) := HF.out.trans HZ.out.fr (fun x hx _ => hx) (fun x hx _ => inI x (List.mem_append_right _ hx))
  have HXn : Hid (Bx w2 bk cs) := HX.out.keep HZ.out.fr ((HI.out.offs off_BI).notB HX.out.box)
  have HBn : Hid (S1 kByte w2 bk rB hB) := HB.out.stay HZ.out.fr (HI.out.offs off_BI)
  have HWn : Hid (S0 kWrite w2 bk rW hW) := HW.out.stay HZ.out.fr (HI.out.offs off_WI)
  have HTn : Hid (S0 kTxn w2 bk rT hT) := HT.out.stay HZ.out.fr (HI.out.offs off_TI)
  have HIn : Hid (S1 kInt w2 bk rI hI) := HI.out.filled HZ.out
  have HTBn : Hid (Tab w2) := HTB.out.keep HZ.out.fr (fun hm => HG.out (inI _ (List.mem_append_right _ hm)))
  clear HF HX HTB HZ HB HI HW HT
  have HF := HFn
  have HX := HXn
  have HTB := HTBn
  have HB := HBn
  have HI := HIn
  have HW := HWn
  have HT := HTn
  clear HFn HXn HTBn HBn HIn HWn HTn
  go_wp2_with fail
  refine (fillText_none bk w2 (HX.out.c 3 (by omega))).mono ?_
  rintro e _ ⟨rfl, rfl⟩
  go_wp2_with fail
  refine (fillWrite_any bk rW hW w2 HW.out.bl HW.out.each HW.out.alone HW.out.fresh HTB.out (fun hm => HG.out (inW _ (List.mem_append_right _ hm)))).mono ?_
  rintro e w3 ⟨rfl, HZ⟩
  have HFn : Hid (Fr (own4 rB rI rW rT hB hI hW hT) w w3) := HF.out.trans HZ.out.fr (fun x hx _ => hx) (fun x hx _ => inW x (List.mem_append_right _ hx))
  have HXn : Hid (Bx w3 bk cs) := HX.out.keep HZ.out.fr ((HW.out.offs off_BW).notB HX.out.box)
  have HBn : Hid (S1 kByte w3 bk rB hB) := HB.out.stay HZ.out.fr (HW.out.offs off_BW)
  have HIn : Hid (S1 kInt w3 bk rI hI) := HI.out.stay HZ.out.fr (HW.out.offs off_IW)
  have HTn : Hid (S0 kTxn w3 bk rT hT) := HT.out.stay HZ.out.fr (HW.out.offs off_TW)
  have HWn : Hid (S1 kWrite w3 bk rW hW) := HW.out.filled HZ.out
  have HTBn : Hid (Tab w3) := HTB.out.keep HZ.out.fr (fun hm => HG.out (inW _ (List.mem_append_right _ hm)))
  clear HF HX HTB HZ HB HI HW HT
  have HF := HFn
  have HX := HXn
  have HTB := HTBn
  have HB := HBn
  have HI := HIn
  have HW := HWn
  have HT := HTn
  clear HFn HXn HTBn HBn HIn HWn HTn
  go_wp2_with fail
  refine (fillEntry_none bk w3 (HX.out.c 5 (by omega))).mono ?_
  rintro e _ ⟨rfl, rfl⟩
  go_wp2_with fail
  refine (fillVersion_none bk w3 (HX.out.c 6 (by omega))).mono ?_
  rintro e _ ⟨rfl, rfl⟩
  go_wp2_with fail
  refine (fillTxn_any bk rT hT w3 HT.out.bl HT.out.each HT.out.alone HT.out.fresh).mono ?_
  rintro e w4 ⟨rfl, HZ⟩
  have HFn : Hid (Fr (own4 rB rI rW rT hB hI hW hT) w w4) := HF.out.trans HZ.out.fr (fun x hx _ => hx) (fun x hx _ => inT x (List.mem_append_right _ hx))
  have HXn : Hid (Bx w4 bk cs) := HX.out.keep HZ.out.fr ((HT.out.offs off_BT).notB HX.out.box)
  have HBn : Hid (S1 kByte w4 bk rB hB) := HB.out.stay HZ.out.fr (HT.out.offs off_BT)
  have HIn : Hid (S1 kInt w4 bk rI hI) := HI.out.stay HZ.out.fr (HT.out.offs off_IT)
  have HWn : Hid (S1 kWrite w4 bk rW hW) := HW.out.stay HZ.out.fr (HT.out.offs off_WT)
  have HTn : Hid (S1 kTxn w4 bk rT hT) := HT.out.filled HZ.out
  have HTBn : Hid (Tab w4) := HTB.out.keep HZ.out.fr (fun hm => HG.out (inT _ (List.mem_append_right _ hm)))
  clear HF HX HTB HZ HB HI HW HT
  have HF := HFn
  have HX := HXn
  have HTB := HTBn
  have HB := HBn
  have HI := HIn
  have HW := HWn
  have HT := HTn
  clear HFn HXn HTBn HBn HIn HWn HTn
  go_wp2_with fail
  refine (fillHeld_none bk w4 (HX.out.c 8 (by omega))).mono ?_
  rintro e _ ⟨rfl, rfl⟩
  go_wp2_with fail
  refine (fillHeldList_none bk w4 (HX.out.c 9 (by omega))).mono ?_
  rintro e _ ⟨rfl, rfl⟩
  go_wp2_with fail
  refine (fillEvent_none bk w4 (HX.out.c 10 (by omega))).mono ?_
  rintro e _ ⟨rfl, rfl⟩
  go_wp2_with fail
  refine (fillAnswer_none bk w4 (HX.out.c 11 (by omega))).mono ?_
  rintro e _ ⟨rfl, rfl⟩
  go_wp2_with fail
  refine (growByte_any bk rB hB w4 HB.out.bl HB.out.each HB.out.alone HB.out.fresh).mono ?_
  rintro e w5 ⟨rfl, gB, HZ⟩
  have HFn : Hid (Fr (own4 rB rI rW rT hB hI hW hT) w w5) := HF.out.trans HZ.out.fr (fun x hx _ => hx) (fun x hx _ => inB x hx)
  have HXn : Hid (Bx w5 bk cs) := HX.out.keep HZ.out.fr ((HB.out.offs off_IB).notB HX.out.box)
  have HIn : Hid (S1 kInt w5 bk rI hI) := HI.out.stay HZ.out.fr (HB.out.offs off_IB)
  have HWn : Hid (S1 kWrite w5 bk rW hW) := HW.out.stay HZ.out.fr (HB.out.offs off_WB)
  have HTn : Hid (S1 kTxn w5 bk rT hT) := HT.out.stay HZ.out.fr (HB.out.offs off_TB)
  have HBn : Hid (S2 kByte w5 bk rB gB) := HB.out.grown HZ.out
  have HTBn : Hid (Tab w5) := HTB.out.keep HZ.out.fr (fun hm => HG.out (inB _ hm))
  clear HF HX HTB HZ HB HI HW HT
  have HF := HFn
  have HX := HXn
  have HTB := HTBn
  have HB := HBn
  have HI := HIn
  have HW := HWn
  have HT := HTn
  clear HFn HXn HTBn HBn HIn HWn HTn
  go_wp2_with fail
  refine (growInt_any bk rI hI w5 HI.out.bl HI.out.each HI.out.alone HI.out.fresh).mono ?_
  rintro e w6 ⟨rfl, gI, HZ⟩
  have HFn : Hid (Fr (own4 rB rI rW rT hB hI hW hT) w w6) := HF.out.trans HZ.out.fr (fun x hx _ => hx) (fun x hx _ => inI x hx)
  have HXn : Hid (Bx w6 bk cs) := HX.out.keep HZ.out.fr ((HI.out.offs off_BI).notB HX.out.box)
  have HBn : Hid (S2 kByte w6 bk rB gB) := HB.out.stay HZ.out.fr (HI.out.offs off_BI)
  have HWn : Hid (S1 kWrite w6 bk rW hW) := HW.out.stay HZ.out.fr (HI.out.offs off_WI)
  have HTn : Hid (S1 kTxn w6 bk rT hT) := HT.out.stay HZ.out.fr (HI.out.offs off_TI)
  have HIn : Hid (S2 kInt w6 bk rI gI) := HI.out.grown HZ.out
  have HTBn : Hid (Tab w6) := HTB.out.keep HZ.out.fr (fun hm => HG.out (inI _ hm))
  clear HF HX HTB HZ HB HI HW HT
  have HF := HFn
  have HX := HXn
  have HTB := HTBn
  have HB := HBn
  have HI := HIn
  have HW := HWn
  have HT := HTn
  clear HFn HXn HTBn HBn HIn HWn HTn
  go_wp2_with fail
  refine (growText_none bk w6 (HX.out.c 3 (by omega))).mono ?_
  rintro e _ ⟨rfl, rfl⟩
  go_wp2_with fail
  refine (growWrite_any bk rW hW w6 HW.out.bl HW.out.each HW.out.alone HW.out.fresh HTB.out (fun hm => HG.out (inW _ hm))).mono ?_
  rintro e w7 ⟨rfl, gW, HZ⟩
  have HFn : Hid (Fr (own4 rB rI rW rT hB hI hW hT) w w7) := HF.out.trans HZ.out.fr (fun x hx _ => hx) (fun x hx _ => inW x hx)
  have HXn : Hid (Bx w7 bk cs) := HX.out.keep HZ.out.fr ((HW.out.offs off_BW).notB HX.out.box)
  have HBn : Hid (S2 kByte w7 bk rB gB) := HB.out.stay HZ.out.fr (HW.out.offs off_BW)
  have HIn : Hid (S2 kInt w7 bk rI gI) := HI.out.stay HZ.out.fr (HW.out.offs off_IW)
  have HTn : Hid (S1 kTxn w7 bk rT hT) := HT.out.stay HZ.out.fr (HW.out.offs off_TW)
  have HWn : Hid (S2 kWrite w7 bk rW gW) := HW.out.grown HZ.out
  have HTBn : Hid (Tab w7) := HTB.out.keep HZ.out.fr (fun hm => HG.out (inW _ hm))
  clear HF HX HTB HZ HB HI HW HT
  have HF := HFn
  have HX := HXn
  have HTB := HTBn
  have HB := HBn
  have HI := HIn
  have HW := HWn
  have HT := HTn
  clear HFn HXn HTBn HBn HIn HWn HTn
  go_wp2_with fail
  refine (growEntry_none bk w7 (HX.out.c 5 (by omega))).mono ?_
  rintro e _ ⟨rfl, rfl⟩
  go_wp2_with fail
  refine (growVersion_none bk w7 (HX.out.c 6 (by omega))).mono ?_
  rintro e _ ⟨rfl, rfl⟩
  go_wp2_with fail
  refine (growTxn_any bk rT hT w7 HT.out.bl HT.out.each HT.out.alone HT.out.fresh).mono ?_
  rintro e w8 ⟨rfl, gT, HZ⟩
  have HFn : Hid (Fr (own4 rB rI rW rT hB hI hW hT) w w8) := HF.out.trans HZ.out.fr (fun x hx _ => hx) (fun x hx _ => inT x hx)
  have HXn : Hid (Bx w8 bk cs) := HX.out.keep HZ.out.fr ((HT.out.offs off_BT).notB HX.out.box)
  have HBn : Hid (S2 kByte w8 bk rB gB) := HB.out.stay HZ.out.fr (HT.out.offs off_BT)
  have HIn : Hid (S2 kInt w8 bk rI gI) := HI.out.stay HZ.out.fr (HT.out.offs off_IT)
  have HWn : Hid (S2 kWrite w8 bk rW gW) := HW.out.stay HZ.out.fr (HT.out.offs off_WT)
  have HTn : Hid (S2 kTxn w8 bk rT gT) := HT.out.grown HZ.out
  have HTBn : Hid (Tab w8) := HTB.out.keep HZ.out.fr (fun hm => HG.out (inT _ hm))
  clear HF HX HTB HZ HB HI HW HT
  have HF := HFn
  have HX := HXn
  have HTB := HTBn
  have HB := HBn
  have HI := HIn
  have HW := HWn
  have HT := HTn
  clear HFn HXn HTBn HBn HIn HWn HTn
  go_wp2_with fail
  refine (growHeld_none bk w8 (HX.out.c 8 (by omega))).mono ?_
  rintro e _ ⟨rfl, rfl⟩
  go_wp2_with fail
  refine (growHeldList_none bk w8 (HX.out.c 9 (by omega))).mono ?_
  rintro e _ ⟨rfl, rfl⟩
  go_wp2_with fail
  refine (growEvent_none bk w8 (HX.out.c 10 (by omega))).mono ?_
  rintro e _ ⟨rfl, rfl⟩
  go_wp2_with fail
  refine (growAnswer_none bk w8 (HX.out.c 11 (by omega))).mono ?_
  rintro e _ ⟨rfl, rfl⟩
  go_wp2_with fail
  refine (lookByte_any bk rB gB w8 HB.out.bl HB.out.each).mono ?_
  rintro e w9 ⟨rfl, HZ⟩
  have HFn : Hid (Fr (own4 rB rI rW rT hB hI hW hT) w w9) := HF.out.trans HZ (fun x hx _ => hx) (by simp)
  have HXn : Hid (Bx w9 bk cs) := HX.out.keep HZ ((Off.nil kInt _).notB HX.out.box)
  have HIn : Hid (S2 kInt w9 bk rI gI) := HI.out.stay HZ (Off.nil kInt _)
  have HWn : Hid (S2 kWrite w9 bk rW gW) := HW.out.stay HZ (Off.nil kWrite _)
  have HTn : Hid (S2 kTxn w9 bk rT gT) := HT.out.stay HZ (Off.nil kTxn _)
  have HBn : Hid (S2 kByte w9 bk rB gB) := HB.out.stay HZ (Off.nil _ _)
  have HTBn : Hid (Tab w9) := HTB.out.keep HZ (by simp)
  clear HF HX HTB HZ HB HI HW HT
  have HF := HFn
  have HX := HXn
  have HTB := HTBn
  have HB := HBn
  have HI := HIn
  have HW := HWn
  have HT := HTn
  clear HFn HXn HTBn HBn HIn HWn HTn
  go_wp2_with fail
  refine (lookInt_any bk rI gI w9 HI.out.bl HI.out.each).mono ?_
  rintro e w10 ⟨rfl, HZ⟩
  have HFn : Hid (Fr (own4 rB rI rW rT hB hI hW hT) w w10) := HF.out.trans HZ (fun x hx _ => hx) (by simp)
  have HXn : Hid (Bx w10 bk cs) := HX.out.keep HZ ((Off.nil kByte _).notB HX.out.box)
  have HBn : Hid (S2 kByte w10 bk rB gB) := HB.out.stay HZ (Off.nil kByte _)
  have HWn : Hid (S2 kWrite w10 bk rW gW) := HW.out.stay HZ (Off.nil kWrite _)
  have HTn : Hid (S2 kTxn w10 bk rT gT) := HT.out.stay HZ (Off.nil kTxn _)
  have HIn : Hid (S2 kInt w10 bk rI gI) := HI.out.stay HZ (Off.nil _ _)
  have HTBn : Hid (Tab w10) := HTB.out.keep HZ (by simp)
  clear HF HX HTB HZ HB HI HW HT
  have HF := HFn
  have HX := HXn
  have HTB := HTBn
  have HB := HBn
  have HI := HIn
  have HW := HWn
  have HT := HTn
  clear HFn HXn HTBn HBn HIn HWn HTn
  go_wp2_with fail
  refine (lookText_none bk w10 (HX.out.c 3 (by omega))).mono ?_
  rintro e _ ⟨rfl, rfl⟩
  go_wp2_with fail
  refine (lookWrite_any bk rW gW w10 HW.out.bl HW.out.each HTB.out).mono ?_
  rintro e w11 ⟨rfl, HZ⟩
  have HFn : Hid (Fr (own4 rB rI rW rT hB hI hW hT) w w11) := HF.out.trans HZ (fun x hx _ => hx) (by simp)
  have HXn : Hid (Bx w11 bk cs) := HX.out.keep HZ ((Off.nil kByte _).notB HX.out.box)
  have HBn : Hid (S2 kByte w11 bk rB gB) := HB.out.stay HZ (Off.nil kByte _)
  have HIn : Hid (S2 kInt w11 bk rI gI) := HI.out.stay HZ (Off.nil kInt _)
  have HTn : Hid (S2 kTxn w11 bk rT gT) := HT.out.stay HZ (Off.nil kTxn _)
  have HWn : Hid (S2 kWrite w11 bk rW gW) := HW.out.stay HZ (Off.nil _ _)
  have HTBn : Hid (Tab w11) := HTB.out.keep HZ (by simp)
  clear HF HX HTB HZ HB HI HW HT
  have HF := HFn
  have HX := HXn
  have HTB := HTBn
  have HB := HBn
  have HI := HIn
  have HW := HWn
  have HT := HTn
  clear HFn HXn HTBn HBn HIn HWn HTn
  go_wp2_with fail
  refine (lookEntry_none bk w11 (HX.out.c 5 (by omega))).mono ?_
  rintro e _ ⟨rfl, rfl⟩
  go_wp2_with fail
  refine (lookVersion_none bk w11 (HX.out.c 6 (by omega))).mono ?_
  rintro e _ ⟨rfl, rfl⟩
  go_wp2_with fail
  refine (lookTxn_any bk rT gT w11 HT.out.bl HT.out.each).mono ?_
  rintro e w12 ⟨rfl, HZ⟩
  have HFn : Hid (Fr (own4 rB rI rW rT hB hI hW hT) w w12) := HF.out.trans HZ (fun x hx _ => hx) (by simp)
  have HXn : Hid (Bx w12 bk cs) := HX.out.keep HZ ((Off.nil kByte _).notB HX.out.box)
  have HBn : Hid (S2 kByte w12 bk rB gB) := HB.out.stay HZ (Off.nil kByte _)
  have HIn : Hid (S2 kInt w12 bk rI gI) := HI.out.stay HZ (Off.nil kInt _)
  have HWn : Hid (S2 kWrite w12 bk rW gW) := HW.out.stay HZ (Off.nil kWrite _)
  have HTn : Hid (S2 kTxn w12 bk rT gT) := HT.out.stay HZ (Off.nil _ _)
  have HTBn : Hid (Tab w12) := HTB.out.keep HZ (by simp)
  clear HF HX HTB HZ HB HI HW HT
  have HF := HFn
  have HX := HXn
  have HTB := HTBn
  have HB := HBn
  have HI := HIn
  have HW := HWn
  have HT := HTn
  clear HFn HXn HTBn HBn HIn HWn HTn
  go_wp2_with fail
  refine (lookHeld_none bk w12 (HX.out.c 8 (by omega))).mono ?_
  rintro e _ ⟨rfl, rfl⟩
  go_wp2_with fail
  refine (lookHeldList_none bk w12 (HX.out.c 9 (by omega))).mono ?_
  rintro e _ ⟨rfl, rfl⟩
  go_wp2_with fail
  refine (lookEvent_none bk w12 (HX.out.c 10 (by omega))).mono ?_
  rintro e _ ⟨rfl, rfl⟩
  go_wp2_with fail
  refine (lookAnswer_none bk w12 (HX.out.c 11 (by omega))).mono ?_
  rintro e _ ⟨rfl, rfl⟩
  go_wp2_with fail
  go_ret
  exact ⟨rfl, HF.out⟩
end Go.Proofs.YtfhfjplhfjlpaaaDoor.Bq
