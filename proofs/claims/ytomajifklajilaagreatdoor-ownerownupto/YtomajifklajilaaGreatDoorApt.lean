/- What the Book's Apart answers over lists of versions, of entries and of keys with versions of which no two share a block: true; it writes those lists and its own rows alone. Conditions: fewer than 2^26 lists of each kind; the table of powers of ten reads as the library lays it, and is none of those. -/
import Derived.Test.YtomajifklajilaaGreatDoorNn
import Derived.Test.YtomajifklajilaaGreatDoorFlVersion
import Derived.Test.YtomajifklajilaaGreatDoorGrVersion
import Derived.Test.YtomajifklajilaaGreatDoorLkVersion
import Derived.Test.YtomajifklajilaaGreatDoorFlEntry
import Derived.Test.YtomajifklajilaaGreatDoorGrEntry
import Derived.Test.YtomajifklajilaaGreatDoorLkEntry
import Derived.Test.YtomajifklajilaaGreatDoorFlHeld
import Derived.Test.YtomajifklajilaaGreatDoorGrHeld
import Derived.Test.YtomajifklajilaaGreatDoorLkHeld
namespace Go.Proofs.YtomajifklajilaaGreatDoor.Bq
open Go.ChangeShapes Go.WideShapes Go.ChangeAt Go.RowKit Go.Lib
set_option linter.unusedVariables false

/-- All that Apart may write. -/
def own3 (rB rE rD : Value) (hB hE hD : List HB) : List Nat := (rB.ownBlock.toList ++ lbs hB) ++ ((rE.ownBlock.toList ++ lbs hE) ++ (rD.ownBlock.toList ++ lbs hD))
set_option maxHeartbeats 8000000 in
set_option maxRecDepth 100000 in
theorem apart3_any (bk : Nat) (cs : Array Value) (rB rE rD : Value) (hB hE hD : List HB) (w : World) (hX : Bx w bk cs) (sB : S0 kVersion w bk rB hB) (sE : S0 kEntry w bk rE hE) (sD : S0 kHeld w bk rD hD) (htab : Tab w) (hg : gTab ∉ own3 rB rE rD hB hE hD) :
    Calls Tryz.prog 11 #[.pointer (some ⟨bk, 0, none⟩)] w fun e w' => e = .returned (.bool true) ∧ Fr (own3 rB rE rD hB hE hD) w w' := by
  have HB : Hid (S0 kVersion w bk rB hB) := sB
  have HE : Hid (S0 kEntry w bk rE hE) := sE
  have HD : Hid (S0 kHeld w bk rD hD) := sD
  have HX : Hid (Bx w bk cs) := hX
  have HTB : Hid (Tab w) := htab
  have HG : Hid (gTab ∉ own3 rB rE rD hB hE hD) := hg
  have HF : Hid (Fr (own3 rB rE rD hB hE hD) w w) := Fr.refl _ _
  have inB : ∀ x, x ∈ rB.ownBlock.toList ++ lbs hB → x ∈ own3 rB rE rD hB hE hD := fun x hx => List.mem_append_left _ hx
  have inE : ∀ x, x ∈ rE.ownBlock.toList ++ lbs hE → x ∈ own3 rB rE rD hB hE hD := fun x hx => List.mem_append_right _ (List.mem_append_left _ hx)
  have inD : ∀ x, x ∈ rD.ownBlock.toList ++ lbs hD → x ∈ own3 rB rE rD hB hE hD := fun x hx => List.mem_append_right _ (List.mem_append_right _ hx)
  clear sB sE sD hX htab hg
  go_enter Tryz.func11, Tryz.ntmps11
  go_wp2_with fail
  refine (fillByte_none bk w (HX.out.c 1 (by omega))).mono ?_
  rintro e _ ⟨rfl, rfl⟩
  go_wp2_with fail
  refine (fillInt_none bk w (HX.out.c 2 (by omega))).mono ?_
  rintro e _ ⟨rfl, rfl⟩
  go_wp2_with fail
  refine (fillText_none bk w (HX.out.c 3 (by omega))).mono ?_
  rintro e _ ⟨rfl, rfl⟩
  go_wp2_with fail
  refine (fillWrite_none bk w (HX.out.c 4 (by omega))).mono ?_
  rintro e _ ⟨rfl, rfl⟩
  go_wp2_with fail
  refine (fillEntry_any bk rE hE w HE.out.bl HE.out.each HE.out.alone HE.out.fresh HTB.out (fun hm => HG.out (inE _ (List.mem_append_right _ hm)))).mono ?_
  rintro e w1 ⟨rfl, HZ⟩
  have HFn : Hid (Fr (own3 rB rE rD hB hE hD) w w1) := HF.out.trans HZ.out.fr (fun x hx _ => hx) (fun x hx _ => inE x (List.mem_append_right _ hx))
  have HXn : Hid (Bx w1 bk cs) := HX.out.keep HZ.out.fr ((HE.out.offs off_BE).notB HX.out.box)
  have HBn : Hid (S0 kVersion w1 bk rB hB) := HB.out.stay HZ.out.fr (HE.out.offs off_BE)
  have HDn : Hid (S0 kHeld w1 bk rD hD) := HD.out.stay HZ.out.fr (HE.out.offs off_DE)
  have HEn : Hid (S1 kEntry w1 bk rE hE) := HE.out.filled HZ.out
  have HTBn : Hid (Tab w1) := HTB.out.keep HZ.out.fr (fun hm => HG.out (inE _ (List.mem_append_right _ hm)))
  clear HF HX HTB HZ HB HE HD
  have HF := HFn
  have HX := HXn
  have HTB := HTBn
  have HB := HBn
  have HE := HEn
  have HD := HDn
  clear HFn HXn HTBn HBn HEn HDn
  go_wp2_with fail
  refine (fillVersion_any bk rB hB w1 HB.out.bl HB.out.each HB.out.alone HB.out.fresh).mono ?_
  rintro e w2 ⟨rfl, HZ⟩
  have HFn : Hid (Fr (own3 rB rE rD hB hE hD) w w2) := HF.out.trans HZ.out.fr (fun x hx _ => hx) (fun x hx _ => inB x (List.mem_append_right _ hx))
  have HXn : Hid (Bx w2 bk cs) := HX.out.keep HZ.out.fr ((HB.out.offs off_EB).notB HX.out.box)
  have HEn : Hid (S1 kEntry w2 bk rE hE) := HE.out.stay HZ.out.fr (HB.out.offs off_EB)
  have HDn : Hid (S0 kHeld w2 bk rD hD) := HD.out.stay HZ.out.fr (HB.out.offs off_DB)
  have HBn : Hid (S1 kVersion w2 bk rB hB) := HB.out.filled HZ.out
  have HTBn : Hid (Tab w2) := HTB.out.keep HZ.out.fr (fun hm => HG.out (inB _ (List.mem_append_right _ hm)))
  clear HF HX HTB HZ HB HE HD
  have HF := HFn
  have HX := HXn
  have HTB := HTBn
  have HB := HBn
  have HE := HEn
  have HD := HDn
  clear HFn HXn HTBn HBn HEn HDn
  go_wp2_with fail
  refine (fillTxn_none bk w2 (HX.out.c 7 (by omega))).mono ?_
  rintro e _ ⟨rfl, rfl⟩
  go_wp2_with fail
  refine (fillHeld_any bk rD hD w2 HD.out.bl HD.out.each HD.out.alone HD.out.fresh HTB.out (fun hm => HG.out (inD _ (List.mem_append_right _ hm)))).mono ?_
  rintro e w3 ⟨rfl, HZ⟩
  have HFn : Hid (Fr (own3 rB rE rD hB hE hD) w w3) := HF.out.trans HZ.out.fr (fun x hx _ => hx) (fun x hx _ => inD x (List.mem_append_right _ hx))
  have HXn : Hid (Bx w3 bk cs) := HX.out.keep HZ.out.fr ((HD.out.offs off_BD).notB HX.out.box)
  have HBn : Hid (S1 kVersion w3 bk rB hB) := HB.out.stay HZ.out.fr (HD.out.offs off_BD)
  have HEn : Hid (S1 kEntry w3 bk rE hE) := HE.out.stay HZ.out.fr (HD.out.offs off_ED)
  have HDn : Hid (S1 kHeld w3 bk rD hD) := HD.out.filled HZ.out
  have HTBn : Hid (Tab w3) := HTB.out.keep HZ.out.fr (fun hm => HG.out (inD _ (List.mem_append_right _ hm)))
  clear HF HX HTB HZ HB HE HD
  have HF := HFn
  have HX := HXn
  have HTB := HTBn
  have HB := HBn
  have HE := HEn
  have HD := HDn
  clear HFn HXn HTBn HBn HEn HDn
  go_wp2_with fail
  refine (fillHeldList_none bk w3 (HX.out.c 9 (by omega))).mono ?_
  rintro e _ ⟨rfl, rfl⟩
  go_wp2_with fail
  refine (fillEvent_none bk w3 (HX.out.c 10 (by omega))).mono ?_
  rintro e _ ⟨rfl, rfl⟩
  go_wp2_with fail
  refine (fillAnswer_none bk w3 (HX.out.c 11 (by omega))).mono ?_
  rintro e _ ⟨rfl, rfl⟩
  go_wp2_with fail
  refine (growByte_none bk w3 (HX.out.c 1 (by omega))).mono ?_
  rintro e _ ⟨rfl, rfl⟩
  go_wp2_with fail
  refine (growInt_none bk w3 (HX.out.c 2 (by omega))).mono ?_
  rintro e _ ⟨rfl, rfl⟩
  go_wp2_with fail
  refine (growText_none bk w3 (HX.out.c 3 (by omega))).mono ?_
  rintro e _ ⟨rfl, rfl⟩
  go_wp2_with fail
  refine (growWrite_none bk w3 (HX.out.c 4 (by omega))).mono ?_
  rintro e _ ⟨rfl, rfl⟩
  go_wp2_with fail
  refine (growEntry_any bk rE hE w3 HE.out.bl HE.out.each HE.out.alone HE.out.fresh HTB.out (fun hm => HG.out (inE _ hm))).mono ?_
  rintro e w4 ⟨rfl, gE, HZ⟩
  have HFn : Hid (Fr (own3 rB rE rD hB hE hD) w w4) := HF.out.trans HZ.out.fr (fun x hx _ => hx) (fun x hx _ => inE x hx)
  have HXn : Hid (Bx w4 bk cs) := HX.out.keep HZ.out.fr ((HE.out.offs off_BE).notB HX.out.box)
  have HBn : Hid (S1 kVersion w4 bk rB hB) := HB.out.stay HZ.out.fr (HE.out.offs off_BE)
  have HDn : Hid (S1 kHeld w4 bk rD hD) := HD.out.stay HZ.out.fr (HE.out.offs off_DE)
  have HEn : Hid (S2 kEntry w4 bk rE gE) := HE.out.grown HZ.out
  have HTBn : Hid (Tab w4) := HTB.out.keep HZ.out.fr (fun hm => HG.out (inE _ hm))
  clear HF HX HTB HZ HB HE HD
  have HF := HFn
  have HX := HXn
  have HTB := HTBn
  have HB := HBn
  have HE := HEn
  have HD := HDn
  clear HFn HXn HTBn HBn HEn HDn
  go_wp2_with fail
  refine (growVersion_any bk rB hB w4 HB.out.bl HB.out.each HB.out.alone HB.out.fresh).mono ?_
  rintro e w5 ⟨rfl, gB, HZ⟩
  have HFn : Hid (Fr (own3 rB rE rD hB hE hD) w w5) := HF.out.trans HZ.out.fr (fun x hx _ => hx) (fun x hx _ => inB x hx)
  have HXn : Hid (Bx w5 bk cs) := HX.out.keep HZ.out.fr ((HB.out.offs off_EB).notB HX.out.box)
  have HEn : Hid (S2 kEntry w5 bk rE gE) := HE.out.stay HZ.out.fr (HB.out.offs off_EB)
  have HDn : Hid (S1 kHeld w5 bk rD hD) := HD.out.stay HZ.out.fr (HB.out.offs off_DB)
  have HBn : Hid (S2 kVersion w5 bk rB gB) := HB.out.grown HZ.out
  have HTBn : Hid (Tab w5) := HTB.out.keep HZ.out.fr (fun hm => HG.out (inB _ hm))
  clear HF HX HTB HZ HB HE HD
  have HF := HFn
  have HX := HXn
  have HTB := HTBn
  have HB := HBn
  have HE := HEn
  have HD := HDn
  clear HFn HXn HTBn HBn HEn HDn
  go_wp2_with fail
  refine (growTxn_none bk w5 (HX.out.c 7 (by omega))).mono ?_
  rintro e _ ⟨rfl, rfl⟩
  go_wp2_with fail
  refine (growHeld_any bk rD hD w5 HD.out.bl HD.out.each HD.out.alone HD.out.fresh HTB.out (fun hm => HG.out (inD _ hm))).mono ?_
  rintro e w6 ⟨rfl, gD, HZ⟩
  have HFn : Hid (Fr (own3 rB rE rD hB hE hD) w w6) := HF.out.trans HZ.out.fr (fun x hx _ => hx) (fun x hx _ => inD x hx)
  have HXn : Hid (Bx w6 bk cs) := HX.out.keep HZ.out.fr ((HD.out.offs off_BD).notB HX.out.box)
  have HBn : Hid (S2 kVersion w6 bk rB gB) := HB.out.stay HZ.out.fr (HD.out.offs off_BD)
  have HEn : Hid (S2 kEntry w6 bk rE gE) := HE.out.stay HZ.out.fr (HD.out.offs off_ED)
  have HDn : Hid (S2 kHeld w6 bk rD gD) := HD.out.grown HZ.out
  have HTBn : Hid (Tab w6) := HTB.out.keep HZ.out.fr (fun hm => HG.out (inD _ hm))
  clear HF HX HTB HZ HB HE HD
  have HF := HFn
  have HX := HXn
  have HTB := HTBn
  have HB := HBn
  have HE := HEn
  have HD := HDn
  clear HFn HXn HTBn HBn HEn HDn
  go_wp2_with fail
  refine (growHeldList_none bk w6 (HX.out.c 9 (by omega))).mono ?_
  rintro e _ ⟨rfl, rfl⟩
  go_wp2_with fail
  refine (growEvent_none bk w6 (HX.out.c 10 (by omega))).mono ?_
  rintro e _ ⟨rfl, rfl⟩
  go_wp2_with fail
  refine (growAnswer_none bk w6 (HX.out.c 11 (by omega))).mono ?_
  rintro e _ ⟨rfl, rfl⟩
  go_wp2_with fail
  refine (lookByte_none bk w6 (HX.out.c 1 (by omega))).mono ?_
  rintro e _ ⟨rfl, rfl⟩
  go_wp2_with fail
  refine (lookInt_none bk w6 (HX.out.c 2 (by omega))).mono ?_
  rintro e _ ⟨rfl, rfl⟩
  go_wp2_with fail
  refine (lookText_none bk w6 (HX.out.c 3 (by omega))).mono ?_
  rintro e _ ⟨rfl, rfl⟩
  go_wp2_with fail
  refine (lookWrite_none bk w6 (HX.out.c 4 (by omega))).mono ?_
  rintro e _ ⟨rfl, rfl⟩
  go_wp2_with fail
  refine (lookEntry_any bk rE gE w6 HE.out.bl HE.out.each HTB.out).mono ?_
  rintro e w7 ⟨rfl, HZ⟩
  have HFn : Hid (Fr (own3 rB rE rD hB hE hD) w w7) := HF.out.trans HZ (fun x hx _ => hx) (by simp)
  have HXn : Hid (Bx w7 bk cs) := HX.out.keep HZ ((Off.nil kVersion _).notB HX.out.box)
  have HBn : Hid (S2 kVersion w7 bk rB gB) := HB.out.stay HZ (Off.nil kVersion _)
  have HDn : Hid (S2 kHeld w7 bk rD gD) := HD.out.stay HZ (Off.nil kHeld _)
  have HEn : Hid (S2 kEntry w7 bk rE gE) := HE.out.stay HZ (Off.nil _ _)
  have HTBn : Hid (Tab w7) := HTB.out.keep HZ (by simp)
  clear HF HX HTB HZ HB HE HD
  have HF := HFn
  have HX := HXn
  have HTB := HTBn
  have HB := HBn
  have HE := HEn
  have HD := HDn
  clear HFn HXn HTBn HBn HEn HDn
  go_wp2_with fail
  refine (lookVersion_any bk rB gB w7 HB.out.bl HB.out.each).mono ?_
  rintro e w8 ⟨rfl, HZ⟩
  have HFn : Hid (Fr (own3 rB rE rD hB hE hD) w w8) := HF.out.trans HZ (fun x hx _ => hx) (by simp)
  have HXn : Hid (Bx w8 bk cs) := HX.out.keep HZ ((Off.nil kEntry _).notB HX.out.box)
  have HEn : Hid (S2 kEntry w8 bk rE gE) := HE.out.stay HZ (Off.nil kEntry _)
  have HDn : Hid (S2 kHeld w8 bk rD gD) := HD.out.stay HZ (Off.nil kHeld _)
  have HBn : Hid (S2 kVersion w8 bk rB gB) := HB.out.stay HZ (Off.nil _ _)
  have HTBn : Hid (Tab w8) := HTB.out.keep HZ (by simp)
  clear HF HX HTB HZ HB HE HD
  have HF := HFn
  have HX := HXn
  have HTB := HTBn
  have HB := HBn
  have HE := HEn
  have HD := HDn
  clear HFn HXn HTBn HBn HEn HDn
  go_wp2_with fail
  refine (lookTxn_none bk w8 (HX.out.c 7 (by omega))).mono ?_
  rintro e _ ⟨rfl, rfl⟩
  go_wp2_with fail
  refine (lookHeld_any bk rD gD w8 HD.out.bl HD.out.each HTB.out).mono ?_
  rintro e w9 ⟨rfl, HZ⟩
  have HFn : Hid (Fr (own3 rB rE rD hB hE hD) w w9) := HF.out.trans HZ (fun x hx _ => hx) (by simp)
  have HXn : Hid (Bx w9 bk cs) := HX.out.keep HZ ((Off.nil kVersion _).notB HX.out.box)
  have HBn : Hid (S2 kVersion w9 bk rB gB) := HB.out.stay HZ (Off.nil kVersion _)
  have HEn : Hid (S2 kEntry w9 bk rE gE) := HE.out.stay HZ (Off.nil kEntry _)
  have HDn : Hid (S2 kHeld w9 bk rD gD) := HD.out.stay HZ (Off.nil _ _)
  have HTBn : Hid (Tab w9) := HTB.out.keep HZ (by simp)
  clear HF HX HTB HZ HB HE HD
  have HF := HFn
  have HX := HXn
  have HTB := HTBn
  have HB := HBn
  have HE := HEn
  have HD := HDn
  clear HFn HXn HTBn HBn HEn HDn
  go_wp2_with fail
  refine (lookHeldList_none bk w9 (HX.out.c 9 (by omega))).mono ?_
  rintro e _ ⟨rfl, rfl⟩
  go_wp2_with fail
  refine (lookEvent_none bk w9 (HX.out.c 10 (by omega))).mono ?_
  rintro e _ ⟨rfl, rfl⟩
  go_wp2_with fail
  refine (lookAnswer_none bk w9 (HX.out.c 11 (by omega))).mono ?_
  rintro e _ ⟨rfl, rfl⟩
  go_wp2_with fail
  go_ret
  exact ⟨rfl, HF.out⟩
end Go.Proofs.YtomajifklajilaaGreatDoor.Bq
