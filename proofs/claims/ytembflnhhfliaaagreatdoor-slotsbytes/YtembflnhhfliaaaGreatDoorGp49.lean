/- Contracts and plain lemmas of this claim. -/
import Derived.Test.YtembflnhhfliaaaGreatDoorGp48
set_option linter.unusedSimpArgs false
set_option linter.unusedVariables false
set_option maxHeartbeats 8000000
set_option maxRecDepth 100000
namespace Go.Proofs.YtembflnhhfliaaaGreatDoor.Bq
open Go.ChangeShapes Go.WideShapes Go.ChangeAt Go.RowKit Go.Lib
theorem apart4w_any (bk : Nat) (cs : Array Value) (rB rI rW rT : Value) (hB hI hW hT : List HB) (w : World) (hX : Bx w bk cs) (sB : S0 kByte w bk rB hB) (sI : S0 kInt w bk rI hI) (sW : S0 kHeld w bk rW hW) (sT : S0 kVersion w bk rT hT) (htab : Tab w) (hg : gTab ∉ own4 rB rI rW rT hB hI hW hT) :
    Calls Tryz.prog 10 #[.pointer (some ⟨bk, 0, none⟩)] w fun e w' => e = .returned (.bool true) /\ Fr (own4 rB rI rW rT hB hI hW hT) w w' /\ ∃ gB gI gW gT, Bx w' bk cs /\ S2 kByte w' bk rB gB /\ S2 kInt w' bk rI gI /\ S2 kHeld w' bk rW gW /\ S2 kVersion w' bk rT gT /\ gB.length = hB.length /\ gI.length = hI.length /\ gW.length = hW.length /\ gT.length = hT.length := by
  have HB : Hid (S0 kByte w bk rB hB) := sB
  have HI : Hid (S0 kInt w bk rI hI) := sI
  have HW : Hid (S0 kHeld w bk rW hW) := sW
  have HT : Hid (S0 kVersion w bk rT hT) := sT
  have HX : Hid (Bx w bk cs) := hX
  have HTB : Hid (Tab w) := htab
  have HG : Hid (gTab ∉ own4 rB rI rW rT hB hI hW hT) := hg
  have HF : Hid (Fr (own4 rB rI rW rT hB hI hW hT) w w) := Fr.refl _ _
  have inB : ∀ x, x ∈ rB.ownBlock.toList ++ lbs hB -> x ∈ own4 rB rI rW rT hB hI hW hT := fun x hx => List.mem_append_left _ hx
  have inI : ∀ x, x ∈ rI.ownBlock.toList ++ lbs hI -> x ∈ own4 rB rI rW rT hB hI hW hT := fun x hx => List.mem_append_right _ (List.mem_append_left _ hx)
  have inW : ∀ x, x ∈ rW.ownBlock.toList ++ lbs hW -> x ∈ own4 rB rI rW rT hB hI hW hT := fun x hx => List.mem_append_right _ (List.mem_append_right _ (List.mem_append_left _ hx))
  have inT : ∀ x, x ∈ rT.ownBlock.toList ++ lbs hT -> x ∈ own4 rB rI rW rT hB hI hW hT := fun x hx => List.mem_append_right _ (List.mem_append_right _ (List.mem_append_right _ hx))
  clear sB sI sW sT hX htab hg
  go_enter Tryz.func10, Tryz.ntmps10
  go_wp2_with fail
  refine (zhn bk rB hB w HB.out.bl HB.out.each HB.out.alone HB.out.fresh).mono ?_
  rintro e w1 ⟨rfl, HZ⟩
  have HFn : Hid (Fr (own4 rB rI rW rT hB hI hW hT) w w1) := HF.out.trans HZ.out.fr (fun x hx _ => hx) (fun x hx _ => inB x (List.mem_append_right _ hx))
  have HXn : Hid (Bx w1 bk cs) := HX.out.keep HZ.out.fr ((HB.out.offs zdv).notB HX.out.box)
  have HIn : Hid (S0 kInt w1 bk rI hI) := HI.out.stay HZ.out.fr (HB.out.offs zdv)
  have HWn : Hid (S0 kHeld w1 bk rW hW) := HW.out.stay HZ.out.fr (HB.out.offs zka)
  have HTn : Hid (S0 kVersion w1 bk rT hT) := HT.out.stay HZ.out.fr (HB.out.offs zkb)
  have HBn : Hid (S1 kByte w1 bk rB hB) := HB.out.filled HZ.out
  have HTBn : Hid (Tab w1) := HTB.out.keep HZ.out.fr (fun hm => HG.out (inB _ (List.mem_append_right _ hm)))
  clear HF HX HTB HZ HB HI HW HT
  have HF := HFn
  have HX := HXn
  have HTB := HTBn
  have HB := HBn
  have HI := HIn
  have HW := HWn
  have HT := HTn
  clear HFn HXn HTBn HBn HIn HWn HTn
  go_wp2_with fail
  refine (zin bk rI hI w1 HI.out.bl HI.out.each HI.out.alone HI.out.fresh).mono ?_
  rintro e w2 ⟨rfl, HZ⟩
  have HFn : Hid (Fr (own4 rB rI rW rT hB hI hW hT) w w2) := HF.out.trans HZ.out.fr (fun x hx _ => hx) (fun x hx _ => inI x (List.mem_append_right _ hx))
  have HXn : Hid (Bx w2 bk cs) := HX.out.keep HZ.out.fr ((HI.out.offs zct).notB HX.out.box)
  have HBn : Hid (S1 kByte w2 bk rB hB) := HB.out.stay HZ.out.fr (HI.out.offs zct)
  have HWn : Hid (S0 kHeld w2 bk rW hW) := HW.out.stay HZ.out.fr (HI.out.offs zdw)
  have HTn : Hid (S0 kVersion w2 bk rT hT) := HT.out.stay HZ.out.fr (HI.out.offs zdx)
  have HIn : Hid (S1 kInt w2 bk rI hI) := HI.out.filled HZ.out
  have HTBn : Hid (Tab w2) := HTB.out.keep HZ.out.fr (fun hm => HG.out (inI _ (List.mem_append_right _ hm)))
  clear HF HX HTB HZ HB HI HW HT
  have HF := HFn
  have HX := HXn
  have HTB := HTBn
  have HB := HBn
  have HI := HIn
  have HW := HWn
  have HT := HTn
  clear HFn HXn HTBn HBn HIn HWn HTn
  go_wp2_with fail
  refine (zgz bk w2 (HX.out.c 3 (by omega))).mono ?_
  rintro e _ ⟨rfl, rfl⟩
  go_wp2_with fail
  refine (zfy bk w2 (HX.out.c 4 (by omega))).mono ?_
  rintro e _ ⟨rfl, rfl⟩
  go_wp2_with fail
  refine (zfz bk w2 (HX.out.c 5 (by omega))).mono ?_
  rintro e _ ⟨rfl, rfl⟩
  go_wp2_with fail
  refine (zez bk rT hT w2 HT.out.bl HT.out.each HT.out.alone HT.out.fresh).mono ?_
  rintro e w3 ⟨rfl, HZ⟩
  have HFn : Hid (Fr (own4 rB rI rW rT hB hI hW hT) w w3) := HF.out.trans HZ.out.fr (fun x hx _ => hx) (fun x hx _ => inT x (List.mem_append_right _ hx))
  have HXn : Hid (Bx w3 bk cs) := HX.out.keep HZ.out.fr ((HT.out.offs zcv).notB HX.out.box)
  have HBn : Hid (S1 kByte w3 bk rB hB) := HB.out.stay HZ.out.fr (HT.out.offs zcv)
  have HIn : Hid (S1 kInt w3 bk rI hI) := HI.out.stay HZ.out.fr (HT.out.offs zfv)
  have HWn : Hid (S0 kHeld w3 bk rW hW) := HW.out.stay HZ.out.fr (HT.out.offs zfw)
  have HTn : Hid (S1 kVersion w3 bk rT hT) := HT.out.filled HZ.out
  have HTBn : Hid (Tab w3) := HTB.out.keep HZ.out.fr (fun hm => HG.out (inT _ (List.mem_append_right _ hm)))
  clear HF HX HTB HZ HB HI HW HT
  have HF := HFn
  have HX := HXn
  have HTB := HTBn
  have HB := HBn
  have HI := HIn
  have HW := HWn
  have HT := HTn
  clear HFn HXn HTBn HBn HIn HWn HTn
  go_wp2_with fail
  refine (zhk bk w3 (HX.out.c 7 (by omega))).mono ?_
  rintro e _ ⟨rfl, rfl⟩
  go_wp2_with fail
  refine (zhq bk rW hW w3 HW.out.bl HW.out.each HW.out.alone HW.out.fresh HTB.out (fun hm => HG.out (inW _ (List.mem_append_right _ hm)))).mono ?_
  rintro e w4 ⟨rfl, HZ⟩
  have HFn : Hid (Fr (own4 rB rI rW rT hB hI hW hT) w w4) := HF.out.trans HZ.out.fr (fun x hx _ => hx) (fun x hx _ => inW x (List.mem_append_right _ hx))
  have HXn : Hid (Bx w4 bk cs) := HX.out.keep HZ.out.fr ((HW.out.offs zcu).notB HX.out.box)
  have HBn : Hid (S1 kByte w4 bk rB hB) := HB.out.stay HZ.out.fr (HW.out.offs zcu)
  have HIn : Hid (S1 kInt w4 bk rI hI) := HI.out.stay HZ.out.fr (HW.out.offs zfu)
  have HTn : Hid (S1 kVersion w4 bk rT hT) := HT.out.stay HZ.out.fr (HW.out.offs zfx)
  have HWn : Hid (S1 kHeld w4 bk rW hW) := HW.out.filled HZ.out
  have HTBn : Hid (Tab w4) := HTB.out.keep HZ.out.fr (fun hm => HG.out (inW _ (List.mem_append_right _ hm)))
  clear HF HX HTB HZ HB HI HW HT
  have HF := HFn
  have HX := HXn
  have HTB := HTBn
  have HB := HBn
  have HI := HIn
  have HW := HWn
  have HT := HTn
  clear HFn HXn HTBn HBn HIn HWn HTn
  go_wp2_with fail
  refine (zdz bk w4 (HX.out.c 9 (by omega))).mono ?_
  rintro e _ ⟨rfl, rfl⟩
  go_wp2_with fail
  refine (zga bk w4 (HX.out.c 10 (by omega))).mono ?_
  rintro e _ ⟨rfl, rfl⟩
  go_wp2_with fail
  refine (zew bk w4 (HX.out.c 11 (by omega))).mono ?_
  rintro e _ ⟨rfl, rfl⟩
  go_wp2_with fail
  refine (zho bk rB hB w4 HB.out.bl HB.out.each HB.out.alone HB.out.fresh).mono ?_
  rintro e w5 ⟨rfl, gB, HZ⟩
  have HFn : Hid (Fr (own4 rB rI rW rT hB hI hW hT) w w5) := HF.out.trans HZ.out.fr (fun x hx _ => hx) (fun x hx _ => inB x hx)
  have HXn : Hid (Bx w5 bk cs) := HX.out.keep HZ.out.fr ((HB.out.offs zdv).notB HX.out.box)
  have HIn : Hid (S1 kInt w5 bk rI hI) := HI.out.stay HZ.out.fr (HB.out.offs zdv)
  have HWn : Hid (S1 kHeld w5 bk rW hW) := HW.out.stay HZ.out.fr (HB.out.offs zka)
  have HTn : Hid (S1 kVersion w5 bk rT hT) := HT.out.stay HZ.out.fr (HB.out.offs zkb)
  have HBn : Hid (S2 kByte w5 bk rB gB) := HB.out.grown HZ.out
  have HLenB : Hid (gB.length = hB.length) := HZ.out.len
  have HTBn : Hid (Tab w5) := HTB.out.keep HZ.out.fr (fun hm => HG.out (inB _ hm))
  clear HF HX HTB HZ HB HI HW HT
  have HF := HFn
  have HX := HXn
  have HTB := HTBn
  have HB := HBn
  have HI := HIn
  have HW := HWn
  have HT := HTn
  clear HFn HXn HTBn HBn HIn HWn HTn
  go_wp2_with fail
  refine (zio bk rI hI w5 HI.out.bl HI.out.each HI.out.alone HI.out.fresh).mono ?_
  rintro e w6 ⟨rfl, gI, HZ⟩
  have HFn : Hid (Fr (own4 rB rI rW rT hB hI hW hT) w w6) := HF.out.trans HZ.out.fr (fun x hx _ => hx) (fun x hx _ => inI x hx)
  have HXn : Hid (Bx w6 bk cs) := HX.out.keep HZ.out.fr ((HI.out.offs zct).notB HX.out.box)
  have HBn : Hid (S2 kByte w6 bk rB gB) := HB.out.stay HZ.out.fr (HI.out.offs zct)
  have HWn : Hid (S1 kHeld w6 bk rW hW) := HW.out.stay HZ.out.fr (HI.out.offs zdw)
  have HTn : Hid (S1 kVersion w6 bk rT hT) := HT.out.stay HZ.out.fr (HI.out.offs zdx)
  have HIn : Hid (S2 kInt w6 bk rI gI) := HI.out.grown HZ.out
  have HLenI : Hid (gI.length = hI.length) := HZ.out.len
  have HTBn : Hid (Tab w6) := HTB.out.keep HZ.out.fr (fun hm => HG.out (inI _ hm))
  clear HF HX HTB HZ HB HI HW HT
  have HF := HFn
  have HX := HXn
  have HTB := HTBn
  have HB := HBn
  have HI := HIn
  have HW := HWn
  have HT := HTn
  clear HFn HXn HTBn HBn HIn HWn HTn
  go_wp2_with fail
  refine (zha bk w6 (HX.out.c 3 (by omega))).mono ?_
  rintro e _ ⟨rfl, rfl⟩
  go_wp2_with fail
  refine (zgb bk w6 (HX.out.c 4 (by omega))).mono ?_
  rintro e _ ⟨rfl, rfl⟩
  go_wp2_with fail
  refine (zgc bk w6 (HX.out.c 5 (by omega))).mono ?_
  rintro e _ ⟨rfl, rfl⟩
  go_wp2_with fail
  refine (zfa bk rT hT w6 HT.out.bl HT.out.each HT.out.alone HT.out.fresh).mono ?_
  rintro e w7 ⟨rfl, gT, HZ⟩
  have HFn : Hid (Fr (own4 rB rI rW rT hB hI hW hT) w w7) := HF.out.trans HZ.out.fr (fun x hx _ => hx) (fun x hx _ => inT x hx)
  have HXn : Hid (Bx w7 bk cs) := HX.out.keep HZ.out.fr ((HT.out.offs zcv).notB HX.out.box)
  have HBn : Hid (S2 kByte w7 bk rB gB) := HB.out.stay HZ.out.fr (HT.out.offs zcv)
  have HIn : Hid (S2 kInt w7 bk rI gI) := HI.out.stay HZ.out.fr (HT.out.offs zfv)
  have HWn : Hid (S1 kHeld w7 bk rW hW) := HW.out.stay HZ.out.fr (HT.out.offs zfw)
  have HTn : Hid (S2 kVersion w7 bk rT gT) := HT.out.grown HZ.out
  have HLenT : Hid (gT.length = hT.length) := HZ.out.len
  have HTBn : Hid (Tab w7) := HTB.out.keep HZ.out.fr (fun hm => HG.out (inT _ hm))
  clear HF HX HTB HZ HB HI HW HT
  have HF := HFn
  have HX := HXn
  have HTB := HTBn
  have HB := HBn
  have HI := HIn
  have HW := HWn
  have HT := HTn
  clear HFn HXn HTBn HBn HIn HWn HTn
  go_wp2_with fail
  refine (zhl bk w7 (HX.out.c 7 (by omega))).mono ?_
  rintro e _ ⟨rfl, rfl⟩
  go_wp2_with fail
  refine (zhr bk rW hW w7 HW.out.bl HW.out.each HW.out.alone HW.out.fresh HTB.out (fun hm => HG.out (inW _ hm))).mono ?_
  rintro e w8 ⟨rfl, gW, HZ⟩
  have HFn : Hid (Fr (own4 rB rI rW rT hB hI hW hT) w w8) := HF.out.trans HZ.out.fr (fun x hx _ => hx) (fun x hx _ => inW x hx)
  have HXn : Hid (Bx w8 bk cs) := HX.out.keep HZ.out.fr ((HW.out.offs zcu).notB HX.out.box)
  have HBn : Hid (S2 kByte w8 bk rB gB) := HB.out.stay HZ.out.fr (HW.out.offs zcu)
  have HIn : Hid (S2 kInt w8 bk rI gI) := HI.out.stay HZ.out.fr (HW.out.offs zfu)
  have HTn : Hid (S2 kVersion w8 bk rT gT) := HT.out.stay HZ.out.fr (HW.out.offs zfx)
  have HWn : Hid (S2 kHeld w8 bk rW gW) := HW.out.grown HZ.out
  have HLenW : Hid (gW.length = hW.length) := HZ.out.len
  have HTBn : Hid (Tab w8) := HTB.out.keep HZ.out.fr (fun hm => HG.out (inW _ hm))
  clear HF HX HTB HZ HB HI HW HT
  have HF := HFn
  have HX := HXn
  have HTB := HTBn
  have HB := HBn
  have HI := HIn
  have HW := HWn
  have HT := HTn
  clear HFn HXn HTBn HBn HIn HWn HTn
  go_wp2_with fail
  refine (zea bk w8 (HX.out.c 9 (by omega))).mono ?_
  rintro e _ ⟨rfl, rfl⟩
  go_wp2_with fail
  refine (zgd bk w8 (HX.out.c 10 (by omega))).mono ?_
  rintro e _ ⟨rfl, rfl⟩
  go_wp2_with fail
  refine (zex bk w8 (HX.out.c 11 (by omega))).mono ?_
  rintro e _ ⟨rfl, rfl⟩
  go_wp2_with fail
  refine (zhp bk rB gB w8 HB.out.bl HB.out.each).mono ?_
  rintro e w9 ⟨rfl, HZ⟩
  have HFn : Hid (Fr (own4 rB rI rW rT hB hI hW hT) w w9) := HF.out.trans HZ (fun x hx _ => hx) (by simp)
  have HXn : Hid (Bx w9 bk cs) := HX.out.keep HZ ((Off.nil kInt _).notB HX.out.box)
  have HIn : Hid (S2 kInt w9 bk rI gI) := HI.out.stay HZ (Off.nil kInt _)
  have HWn : Hid (S2 kHeld w9 bk rW gW) := HW.out.stay HZ (Off.nil kHeld _)
  have HTn : Hid (S2 kVersion w9 bk rT gT) := HT.out.stay HZ (Off.nil kVersion _)
  have HBn : Hid (S2 kByte w9 bk rB gB) := HB.out.stay HZ (Off.nil _ _)
  have HTBn : Hid (Tab w9) := HTB.out.keep HZ (by simp)
  clear HF HX HTB HZ HB HI HW HT
  have HF := HFn
  have HX := HXn
  have HTB := HTBn
  have HB := HBn
  have HI := HIn
  have HW := HWn
  have HT := HTn
  clear HFn HXn HTBn HBn HIn HWn HTn
  go_wp2_with fail
  refine (zip bk rI gI w9 HI.out.bl HI.out.each).mono ?_
  rintro e w10 ⟨rfl, HZ⟩
  have HFn : Hid (Fr (own4 rB rI rW rT hB hI hW hT) w w10) := HF.out.trans HZ (fun x hx _ => hx) (by simp)
  have HXn : Hid (Bx w10 bk cs) := HX.out.keep HZ ((Off.nil kByte _).notB HX.out.box)
  have HBn : Hid (S2 kByte w10 bk rB gB) := HB.out.stay HZ (Off.nil kByte _)
  have HWn : Hid (S2 kHeld w10 bk rW gW) := HW.out.stay HZ (Off.nil kHeld _)
  have HTn : Hid (S2 kVersion w10 bk rT gT) := HT.out.stay HZ (Off.nil kVersion _)
  have HIn : Hid (S2 kInt w10 bk rI gI) := HI.out.stay HZ (Off.nil _ _)
  have HTBn : Hid (Tab w10) := HTB.out.keep HZ (by simp)
  clear HF HX HTB HZ HB HI HW HT
  have HF := HFn
  have HX := HXn
  have HTB := HTBn
  have HB := HBn
  have HI := HIn
  have HW := HWn
  have HT := HTn
  clear HFn HXn HTBn HBn HIn HWn HTn
  go_wp2_with fail
  refine (zhb bk w10 (HX.out.c 3 (by omega))).mono ?_
  rintro e _ ⟨rfl, rfl⟩
  go_wp2_with fail
  refine (zge bk w10 (HX.out.c 4 (by omega))).mono ?_
  rintro e _ ⟨rfl, rfl⟩
  go_wp2_with fail
  refine (zgf bk w10 (HX.out.c 5 (by omega))).mono ?_
  rintro e _ ⟨rfl, rfl⟩
  go_wp2_with fail
  refine (zfb bk rT gT w10 HT.out.bl HT.out.each).mono ?_
  rintro e w11 ⟨rfl, HZ⟩
  have HFn : Hid (Fr (own4 rB rI rW rT hB hI hW hT) w w11) := HF.out.trans HZ (fun x hx _ => hx) (by simp)
  have HXn : Hid (Bx w11 bk cs) := HX.out.keep HZ ((Off.nil kByte _).notB HX.out.box)
  have HBn : Hid (S2 kByte w11 bk rB gB) := HB.out.stay HZ (Off.nil kByte _)
  have HIn : Hid (S2 kInt w11 bk rI gI) := HI.out.stay HZ (Off.nil kInt _)
  have HWn : Hid (S2 kHeld w11 bk rW gW) := HW.out.stay HZ (Off.nil kHeld _)
  have HTn : Hid (S2 kVersion w11 bk rT gT) := HT.out.stay HZ (Off.nil _ _)
  have HTBn : Hid (Tab w11) := HTB.out.keep HZ (by simp)
  clear HF HX HTB HZ HB HI HW HT
  have HF := HFn
  have HX := HXn
  have HTB := HTBn
  have HB := HBn
  have HI := HIn
  have HW := HWn
  have HT := HTn
  clear HFn HXn HTBn HBn HIn HWn HTn
  go_wp2_with fail
  refine (zhm bk w11 (HX.out.c 7 (by omega))).mono ?_
  rintro e _ ⟨rfl, rfl⟩
  go_wp2_with fail
  refine (zhs bk rW gW w11 HW.out.bl HW.out.each HTB.out).mono ?_
  rintro e w12 ⟨rfl, HZ⟩
  have HFn : Hid (Fr (own4 rB rI rW rT hB hI hW hT) w w12) := HF.out.trans HZ (fun x hx _ => hx) (by simp)
  have HXn : Hid (Bx w12 bk cs) := HX.out.keep HZ ((Off.nil kByte _).notB HX.out.box)
  have HBn : Hid (S2 kByte w12 bk rB gB) := HB.out.stay HZ (Off.nil kByte _)
  have HIn : Hid (S2 kInt w12 bk rI gI) := HI.out.stay HZ (Off.nil kInt _)
  have HTn : Hid (S2 kVersion w12 bk rT gT) := HT.out.stay HZ (Off.nil kVersion _)
  have HWn : Hid (S2 kHeld w12 bk rW gW) := HW.out.stay HZ (Off.nil _ _)
  have HTBn : Hid (Tab w12) := HTB.out.keep HZ (by simp)
  clear HF HX HTB HZ HB HI HW HT
  have HF := HFn
  have HX := HXn
  have HTB := HTBn
  have HB := HBn
  have HI := HIn
  have HW := HWn
  have HT := HTn
  clear HFn HXn HTBn HBn HIn HWn HTn
  go_wp2_with fail
  refine (zeb bk w12 (HX.out.c 9 (by omega))).mono ?_
  rintro e _ ⟨rfl, rfl⟩
  go_wp2_with fail
  refine (zgg bk w12 (HX.out.c 10 (by omega))).mono ?_
  rintro e _ ⟨rfl, rfl⟩
  go_wp2_with fail
  refine (zey bk w12 (HX.out.c 11 (by omega))).mono ?_
  rintro e _ ⟨rfl, rfl⟩
  go_wp2_with fail
  go_ret
  exact ⟨rfl, HF.out, gB, gI, gW, gT, HX.out, HB.out, HI.out, HW.out, HT.out, HLenB.out, HLenI.out, HLenW.out, HLenT.out⟩
end Go.Proofs.YtembflnhhfliaaaGreatDoor.Bq
namespace Go.Proofs.YtembflnhhfliaaaGreatDoor
open BigFrame Go.ChangeShapes Go.WideShapes Go.ChangeAt Go.RowKit Go.Lib Go.Maps
theorem zyx (C : Nat) (w : World) (h : C <= 16777216) : Calls Tryz.prog 7 #[.int .i64 (C : Int)] w fun e w' => e = .returned (.tuple #[ptr w.heap.size, .int .i64 0]) /\ Rk w' w.heap.size (.slice none 0 0) (.slice none 0 0) (Sk.new C) /\ Fr [] w w' := by
  have h0 : (0 : Int) <= C := by omega
  have h1 : (C : Int) <= 16777216 := by omega
  go_enter Tryz.func7, Tryz.ntmps7
  go_wp2
  go_ret2
  exact ⟨rfl, ⟨heap_alloc_new w _, zbk _, zbk _, by intro k hk; simp [Value.ownBlock] at hk⟩, Fr.alloc _ _ _⟩
theorem zzv (C : Nat) (w0 w : World) (hf : Fr [] w0 w) (h : C <= 16777216) : Calls Tryz.prog 7 #[.int .i64 (C : Int)] w fun e w' => ∃ g S, e = .returned (.tuple #[ptr g, .int .i64 0]) /\ LR w0 w' g S (Sk.new C) /\ (∀ k ∈ S, w.heap.size <= k) /\ Fr [] w w' := by
  refine (zyx C w h).mono ?_
  rintro e w' ⟨rfl, hD, hF⟩
  have hS : ∀ k ∈ dOwn w.heap.size (.slice none 0 0) (.slice none 0 0), w.heap.size <= k := by
    intro k hk
    rcases mem_dOwn.1 hk with rfl | hk | hk
    · exact Nat.le_refl _
    · simp [Value.ownBlock] at hk
    · simp [Value.ownBlock] at hk
  exact ⟨_, _, rfl, ⟨⟨_, _, hD, rfl⟩, fun k hk => Nat.le_trans hf.size (hS k hk), Sk.new_ok C h, hf.then hF⟩, hS, hF⟩
theorem zop {w0 w : World} {pb gd gr : Nat} {SD SR SS : List Nat} {t : Sk} {vs vt : Value} (h : Ts w0 w pb gd gr SD SR t vs vt SS) (m slot at_ n : Int) (bo ho yo : Option Addr) (Lb cb Lh ch M yc : Nat) (bs : List Int) (hs : List Hd) (hI : IRs w0 bo bs) (hLb : Lb = bs.length) (hH : HRs w0 ho hs) (hLh : Lh = hs.length) (hz : bs.length + szKs (hs.map Hd.kv) <= 1048576) (htab : Bq.Tab w0) :
    Calls Tryz.prog 8 #[.pointer (some ⟨pb, 0, none⟩), .agg #[.int .u8 1, .int .i64 m, .slice bo Lb cb, .slice ho Lh ch, .int .i64 slot, .int .i64 at_, .slice yo M yc, .int .i64 n]] w fun e w' => DoP w0 pb gd gr SD SR SS t w e w' := by
  obtain ⟨ok, g, i, mN, bN, pN, hN⟩ := Nw.ex t.s0 t.s1
  obtain ⟨c, ys, hT⟩ := ToldD.ex m bs (hs.map Hd.kv)
  by_cases hE : newE t.C g c ys.length = 0
  · exact zpn h m slot at_ n bo ho yo Lb cb Lh ch M yc bs hs c ys hN hI hLb hH hLh hz hT htab hE
  · exact zpm h m slot at_ n bo ho yo Lb cb Lh ch M yc bs hs c ys hN hI hLb hH hLh hz hT htab hE
def K1 (w0 : World) (bk : Nat) (w : World) (B : List Nat) : Prop := ∃ T rI rW rT hI hW hT, Bq.B4 w0 w bk T (.slice none 0 0) rI rW rT [] hI hW hT /\ T <= 65538 /\ B = Bq.kbs bk (.slice none 0 0) rI rW rT [] hI hW hT
theorem K1.keep {w0 w w' : World} {bk : Nat} {B : List Nat} (h : K1 w0 bk w B) (hf : Fr [] w w') : K1 w0 bk w' B := by
  obtain ⟨T, rI, rW, rT, hI, hW, hT, h1, h2, h3⟩ := h
  exact ⟨T, rI, rW, rT, hI, hW, hT, h1.keep hf, h2, h3⟩
theorem SvO.dts {w W : World} {bo ho : Option Addr} {Lb cb Lh ch : Nat} {bs : List Int} {hs : List Hd} (h : SvO w W bo Lb cb ho Lh ch bs hs) : Bq.Dts W ho Lh ch (dsOf hs) := h.ho.dts (fun x hx => by have := (h.lim _ (List.mem_map.2 ⟨x, hx, rfl⟩)).2.1; simp only [Hd.kv] at this; omega) (by have := h.lh; omega)
theorem zaal {w0 wL W : World} {bk : Nat} (hb : wL.heap[bk]? = some (.cells Bq.newBk 52 (0, 0))) (hw0 : w0.heap.size <= bk) (m : Int) (bo : Option Addr) (Lb cb : Nat) (ho : Option Addr) (Lh ch : Nat) (bs : List Int) (hs : List Hd) (hf : Fr [] wL W) (h : SvO wL W bo Lb cb ho Lh ch bs hs) :
    Calls Tryz.prog 18 #[.pointer (some ⟨bk, 0, none⟩), .agg #[.int .i64 m, .slice bo Lb cb, .slice ho Lh ch]] W fun e w' => e = .returned (.tuple #[]) /\ ∃ B', K1 w0 bk w' B' /\ Fr [bk] W w' /\ ∀ q ∈ B', q ∈ [bk] \/ wL.heap.size <= q := by
  have hB := Bq.B4.new (w0 := w0) (w := W) (bk := bk) (hf.keep hb (by simp)) hw0
  have hlb := h.lb
  have hlh := h.lh
  refine (Bq.saved_tell hB m _ _ Lb cb Lh ch _ ⟨Lb, ints bs, Bq.Cut.of (Bq.own_base8 h.io.row), by omega⟩ (by simp [Bq.lbs]) h.dts (by simp [Bq.lbs]) (by simp [Bq.lbs]) (by omega)).mono ?_
  rintro e w' ⟨rfl, rI', rT', rW', hB1, hF1, hM1, hM2, hM3⟩
  have hF1' : Fr [bk] W w' := by simpa [Value.ownBlock] using hF1
  refine ⟨rfl, _, ⟨_, rI', rW', rT', _, _, _, hB1, by omega, rfl⟩, hF1', fun q hq => ?_⟩
  have hsz := hf.size
  have hnew : ∀ {v : Value}, Moved W.heap.size (.slice none 0 0) v -> v.ownBlock = some q -> wL.heap.size <= q := fun hM hk => by
    rcases Bq.moved_of hM hk with p | p
    · simp [Value.ownBlock] at p
    · omega
  rcases Bq.mem_kbs.1 hq with p | (p | p) | (p | p) | (p | p) | (p | p)
  · exact Or.inl (by simp [p])
  · simp [Value.ownBlock] at p
  · simp [Bq.lbs] at p
  · exact Or.inr (hnew hM1 p)
  · rcases Bq.lbs_snoc p with p2 | p2
    · simp [Bq.lbs] at p2
    · exact Or.inr (zak h.io.row p2).1
  · exact Or.inr (hnew hM3 p)
  · rcases Bq.lbs_snoc p with p2 | p2
    · simp [Bq.lbs] at p2
    · exact Or.inr (zak h.ho.row p2).1
  · exact Or.inr (hnew hM2 p)
  · rw [List.nil_append] at p
    obtain ⟨i, d, hdd, hk⟩ := Bq.mem_held p
    obtain ⟨x, hx, rfl⟩ := zck hdd
    obtain ⟨a, ha, e1⟩ := zja hk
    have := ((h.ho.each x (List.mem_of_getElem? hx)).block a ha).1
    exact Or.inr (by omega)
def K2 (w0 : World) (bk : Nat) (w : World) (B : List Nat) : Prop := ∃ T rI rW rT hB hI hW hT, Bq.Wk.B4 w0 w bk T (.slice none 0 0) rI rW rT hB hI hW hT /\ T <= 65538 /\ B = Bq.kbs bk (.slice none 0 0) rI rW rT [] [] [] []
theorem K2.keep {w0 w w' : World} {bk : Nat} {B S : List Nat} (h : K2 w0 bk w B) (hf : Fr S w w') (hS : ∀ q ∈ B, q ∉ S) : K2 w0 bk w' B := by
  obtain ⟨T, rI, rW, rT, hB, hI, hW, hT, h1, h2, rfl⟩ := h
  exact ⟨T, rI, rW, rT, hB, hI, hW, hT, h1.keepN hf hS, h2, rfl⟩
theorem K2.lt {w0 w : World} {bk : Nat} {B : List Nat} (h : K2 w0 bk w B) : ∀ q ∈ B, q < w.heap.size := by
  obtain ⟨T, rI, rW, rT, hB, hI, hW, hT, h1, h2, rfl⟩ := h
  exact h1.lt
theorem K1.apart {w0 w : World} {bk : Nat} {B : List Nat} (h : K1 w0 bk w B) (ht : Bq.Tab w) (hg : Bq.gTab ∉ B) :
    Calls Tryz.prog 10 #[.pointer (some ⟨bk, 0, none⟩)] w fun e w' => e = .returned (.bool true) /\ Fr B w w' /\ ∃ B2, K2 w0 bk w' B2 /\ ∀ q ∈ B2, q ∈ B := by
  obtain ⟨T, rI, rW, rT, hI, hW, hT, h1, h2, rfl⟩ := h
  obtain ⟨cs, hX, hc⟩ := h1.box
  refine (Bq.apart4w_any bk cs _ _ _ _ _ _ _ _ w hX h1.sB h1.sI h1.sW h1.sT ht (fun hm => hg (List.mem_cons_of_mem _ hm))).mono ?_
  rintro e w' ⟨rfl, hF, gB, gI, gW, gT, hX', sB, sI, sW, sT, lB, lI, lW, lT⟩
  have l1 := h1.lB
  have l2 := h1.lI
  have l3 := h1.lW
  have l4 := h1.lT
  refine ⟨rfl, hF.mono (fun x hx _ => List.mem_cons_of_mem _ hx), _, ⟨T, rI, rW, rT, gB, gI, gW, gT, ⟨⟨cs, hX', hc⟩, ⟨sB.bl⟩, ⟨sI.bl⟩, ⟨sW.bl⟩, ⟨sT.bl⟩, h1.bn, h1.rBn, h1.rIn, h1.rWn, h1.rTn, by omega, by omega, by omega, by omega⟩, h2, rfl⟩, fun q hq => ?_⟩
  rcases Bq.mem_kbs.1 hq with p | (p | p) | (p | p) | (p | p) | (p | p)
  · exact Bq.mem_kbs.2 (Or.inl p)
  · exact Bq.mem_kbs.2 (Or.inr (Or.inl (Or.inl p)))
  · simp [Bq.lbs] at p
  · exact Bq.mem_kbs.2 (Or.inr (Or.inr (Or.inl (Or.inl p))))
  · simp [Bq.lbs] at p
  · exact Bq.mem_kbs.2 (Or.inr (Or.inr (Or.inr (Or.inl (Or.inl p)))))
  · simp [Bq.lbs] at p
  · exact Bq.mem_kbs.2 (Or.inr (Or.inr (Or.inr (Or.inr (Or.inl p)))))
  · simp [Bq.lbs] at p
theorem zaam {w0 wL W : World} {bk : Nat} {B : List Nat} (hk : K2 w0 bk wL B) (m : Int) (bo : Option Addr) (Lb cb : Nat) (ho : Option Addr) (Lh ch : Nat) (bs : List Int) (hs : List Hd) (hf : Fr [] wL W) (h : SvO wL W bo Lb cb ho Lh ch bs hs) :
    Calls Tryz.prog 18 #[.pointer (some ⟨bk, 0, none⟩), .agg #[.int .i64 m, .slice bo Lb cb, .slice ho Lh ch]] W fun e w' => e = .returned (.tuple #[]) /\ ∃ B', (fun (_ : World) (_ : List Nat) => True) w' B' /\ Fr B W w' /\ ∀ q ∈ B', q ∈ B \/ wL.heap.size <= q := by
  obtain ⟨T, rI, rW, rT, hB, hI, hW, hT, h1, h2, rfl⟩ := hk
  have hlb := h.lb
  have hlh := h.lh
  refine (Bq.Wk.saved_tell (h1.keep hf) m _ _ Lb cb Lh ch _ ⟨Lb, ints bs, Bq.Cut.of (Bq.own_base8 h.io.row), by omega⟩ h.dts (by omega)).mono ?_
  rintro e w' ⟨rfl, rI', rT', rW', hB1, hF1, hM1, hM2, hM3⟩
  refine ⟨rfl, [], trivial, hF1.mono (fun x hx _ => ?_), by simp⟩
  rcases List.mem_cons.1 hx with p | p
  · exact Bq.mem_kbs.2 (Or.inl p)
  · rcases List.mem_append.1 p with p | p
    · exact Bq.mem_kbs.2 (Or.inr (Or.inr (Or.inl (Or.inl (by simpa using p)))))
    · rcases List.mem_append.1 p with p | p
      · exact Bq.mem_kbs.2 (Or.inr (Or.inr (Or.inr (Or.inr (Or.inl (by simpa using p))))))
      · exact Bq.mem_kbs.2 (Or.inr (Or.inr (Or.inr (Or.inl (Or.inl (by simpa using p))))))
theorem zvg (w : World) : IRs w none [] := ⟨fun h => by simp at h, by simp⟩
theorem zvh (w : World) : HRs w none [] := ⟨fun h => by simp at h, by simp, by simp⟩
end Go.Proofs.YtembflnhhfliaaaGreatDoor
