/- What the Book's Apart answers over lists of versions and of numbers of which no two share a block: true; it writes those lists and its own rows alone. Conditions: fewer than 2^21 lists of each kind; the table of powers of ten reads as the library lays it, and is none of those. -/
import Derived.Test.YtleklocdejldnaaDoorNn
import Derived.Test.YtleklocdejldnaaDoorFlVersion
import Derived.Test.YtleklocdejldnaaDoorGrVersion
import Derived.Test.YtleklocdejldnaaDoorLkVersion
import Derived.Test.YtleklocdejldnaaDoorFlInt
import Derived.Test.YtleklocdejldnaaDoorGrInt
import Derived.Test.YtleklocdejldnaaDoorLkInt
namespace Go.Proofs.YtleklocdejldnaaDoor.Bq
open Go.ChangeShapes Go.WideShapes Go.ChangeAt Go.RowKit Go.Lib
set_option linter.unusedVariables false

/-- All that Apart may write. -/
def own2 (rB rI : Value) (hB hI : List HB) : List Nat := (rB.ownBlock.toList ++ lbs hB) ++ (rI.ownBlock.toList ++ lbs hI)
set_option maxHeartbeats 8000000 in
set_option maxRecDepth 100000 in
theorem apart2_any (bk : Nat) (cs : Array Value) (rB rI : Value) (hB hI : List HB) (w : World) (hX : Bx w bk cs) (sB : S0 kVersion w bk rB hB) (sI : S0 kInt w bk rI hI) :
    Calls Tryd.prog 13 #[.pointer (some ⟨bk, 0, none⟩)] w fun e w' => e = .returned (.bool true) ∧ Fr (own2 rB rI hB hI) w w' := by
  have HB : Hid (S0 kVersion w bk rB hB) := sB
  have HI : Hid (S0 kInt w bk rI hI) := sI
  have HX : Hid (Bx w bk cs) := hX
  have HF : Hid (Fr (own2 rB rI hB hI) w w) := Fr.refl _ _
  have inB : ∀ x, x ∈ rB.ownBlock.toList ++ lbs hB → x ∈ own2 rB rI hB hI := fun x hx => List.mem_append_left _ hx
  have inI : ∀ x, x ∈ rI.ownBlock.toList ++ lbs hI → x ∈ own2 rB rI hB hI := fun x hx => List.mem_append_right _ hx
  clear sB sI hX
  go_enter Tryd.func13, Tryd.ntmps13
  go_wp2_with fail
  refine (fillByte_none bk w (HX.out.c 1 (by omega))).mono ?_
  rintro e _ ⟨rfl, rfl⟩
  go_wp2_with fail
  refine (fillInt_any bk rI hI w HI.out.bl HI.out.each HI.out.alone HI.out.fresh).mono ?_
  rintro e w1 ⟨rfl, HZ⟩
  have HFn : Hid (Fr (own2 rB rI hB hI) w w1) := HF.out.trans HZ.out.fr (fun x hx _ => hx) (fun x hx _ => inI x (List.mem_append_right _ hx))
  have HXn : Hid (Bx w1 bk cs) := HX.out.keep HZ.out.fr ((HI.out.offs off_BI).notB HX.out.box)
  have HBn : Hid (S0 kVersion w1 bk rB hB) := HB.out.stay HZ.out.fr (HI.out.offs off_BI)
  have HIn : Hid (S1 kInt w1 bk rI hI) := HI.out.filled HZ.out
  clear HF HX HZ HB HI
  have HF := HFn
  have HX := HXn
  have HB := HBn
  have HI := HIn
  clear HFn HXn HBn HIn
  go_wp2_with fail
  refine (fillText_none bk w1 (HX.out.c 3 (by omega))).mono ?_
  rintro e _ ⟨rfl, rfl⟩
  go_wp2_with fail
  refine (fillWrite_none bk w1 (HX.out.c 4 (by omega))).mono ?_
  rintro e _ ⟨rfl, rfl⟩
  go_wp2_with fail
  refine (fillEntry_none bk w1 (HX.out.c 5 (by omega))).mono ?_
  rintro e _ ⟨rfl, rfl⟩
  go_wp2_with fail
  refine (fillVersion_any bk rB hB w1 HB.out.bl HB.out.each HB.out.alone HB.out.fresh).mono ?_
  rintro e w2 ⟨rfl, HZ⟩
  have HFn : Hid (Fr (own2 rB rI hB hI) w w2) := HF.out.trans HZ.out.fr (fun x hx _ => hx) (fun x hx _ => inB x (List.mem_append_right _ hx))
  have HXn : Hid (Bx w2 bk cs) := HX.out.keep HZ.out.fr ((HB.out.offs off_IB).notB HX.out.box)
  have HIn : Hid (S1 kInt w2 bk rI hI) := HI.out.stay HZ.out.fr (HB.out.offs off_IB)
  have HBn : Hid (S1 kVersion w2 bk rB hB) := HB.out.filled HZ.out
  clear HF HX HZ HB HI
  have HF := HFn
  have HX := HXn
  have HB := HBn
  have HI := HIn
  clear HFn HXn HBn HIn
  go_wp2_with fail
  refine (fillTxn_none bk w2 (HX.out.c 7 (by omega))).mono ?_
  rintro e _ ⟨rfl, rfl⟩
  go_wp2_with fail
  refine (fillHeld_none bk w2 (HX.out.c 8 (by omega))).mono ?_
  rintro e _ ⟨rfl, rfl⟩
  go_wp2_with fail
  refine (fillHeldList_none bk w2 (HX.out.c 9 (by omega))).mono ?_
  rintro e _ ⟨rfl, rfl⟩
  go_wp2_with fail
  refine (fillEvent_none bk w2 (HX.out.c 10 (by omega))).mono ?_
  rintro e _ ⟨rfl, rfl⟩
  go_wp2_with fail
  refine (fillAnswer_none bk w2 (HX.out.c 11 (by omega))).mono ?_
  rintro e _ ⟨rfl, rfl⟩
  go_wp2_with fail
  refine (growByte_none bk w2 (HX.out.c 1 (by omega))).mono ?_
  rintro e _ ⟨rfl, rfl⟩
  go_wp2_with fail
  refine (growInt_any bk rI hI w2 HI.out.bl HI.out.each HI.out.alone HI.out.fresh).mono ?_
  rintro e w3 ⟨rfl, gI, HZ⟩
  have HFn : Hid (Fr (own2 rB rI hB hI) w w3) := HF.out.trans HZ.out.fr (fun x hx _ => hx) (fun x hx _ => inI x hx)
  have HXn : Hid (Bx w3 bk cs) := HX.out.keep HZ.out.fr ((HI.out.offs off_BI).notB HX.out.box)
  have HBn : Hid (S1 kVersion w3 bk rB hB) := HB.out.stay HZ.out.fr (HI.out.offs off_BI)
  have HIn : Hid (S2 kInt w3 bk rI gI) := HI.out.grown HZ.out
  clear HF HX HZ HB HI
  have HF := HFn
  have HX := HXn
  have HB := HBn
  have HI := HIn
  clear HFn HXn HBn HIn
  go_wp2_with fail
  refine (growText_none bk w3 (HX.out.c 3 (by omega))).mono ?_
  rintro e _ ⟨rfl, rfl⟩
  go_wp2_with fail
  refine (growWrite_none bk w3 (HX.out.c 4 (by omega))).mono ?_
  rintro e _ ⟨rfl, rfl⟩
  go_wp2_with fail
  refine (growEntry_none bk w3 (HX.out.c 5 (by omega))).mono ?_
  rintro e _ ⟨rfl, rfl⟩
  go_wp2_with fail
  refine (growVersion_any bk rB hB w3 HB.out.bl HB.out.each HB.out.alone HB.out.fresh).mono ?_
  rintro e w4 ⟨rfl, gB, HZ⟩
  have HFn : Hid (Fr (own2 rB rI hB hI) w w4) := HF.out.trans HZ.out.fr (fun x hx _ => hx) (fun x hx _ => inB x hx)
  have HXn : Hid (Bx w4 bk cs) := HX.out.keep HZ.out.fr ((HB.out.offs off_IB).notB HX.out.box)
  have HIn : Hid (S2 kInt w4 bk rI gI) := HI.out.stay HZ.out.fr (HB.out.offs off_IB)
  have HBn : Hid (S2 kVersion w4 bk rB gB) := HB.out.grown HZ.out
  clear HF HX HZ HB HI
  have HF := HFn
  have HX := HXn
  have HB := HBn
  have HI := HIn
  clear HFn HXn HBn HIn
  go_wp2_with fail
  refine (growTxn_none bk w4 (HX.out.c 7 (by omega))).mono ?_
  rintro e _ ⟨rfl, rfl⟩
  go_wp2_with fail
  refine (growHeld_none bk w4 (HX.out.c 8 (by omega))).mono ?_
  rintro e _ ⟨rfl, rfl⟩
  go_wp2_with fail
  refine (growHeldList_none bk w4 (HX.out.c 9 (by omega))).mono ?_
  rintro e _ ⟨rfl, rfl⟩
  go_wp2_with fail
  refine (growEvent_none bk w4 (HX.out.c 10 (by omega))).mono ?_
  rintro e _ ⟨rfl, rfl⟩
  go_wp2_with fail
  refine (growAnswer_none bk w4 (HX.out.c 11 (by omega))).mono ?_
  rintro e _ ⟨rfl, rfl⟩
  go_wp2_with fail
  refine (lookByte_none bk w4 (HX.out.c 1 (by omega))).mono ?_
  rintro e _ ⟨rfl, rfl⟩
  go_wp2_with fail
  refine (lookInt_any bk rI gI w4 HI.out.bl HI.out.each).mono ?_
  rintro e w5 ⟨rfl, HZ⟩
  have HFn : Hid (Fr (own2 rB rI hB hI) w w5) := HF.out.trans HZ (fun x hx _ => hx) (by simp)
  have HXn : Hid (Bx w5 bk cs) := HX.out.keep HZ ((Off.nil kVersion _).notB HX.out.box)
  have HBn : Hid (S2 kVersion w5 bk rB gB) := HB.out.stay HZ (Off.nil kVersion _)
  have HIn : Hid (S2 kInt w5 bk rI gI) := HI.out.stay HZ (Off.nil _ _)
  clear HF HX HZ HB HI
  have HF := HFn
  have HX := HXn
  have HB := HBn
  have HI := HIn
  clear HFn HXn HBn HIn
  go_wp2_with fail
  refine (lookText_none bk w5 (HX.out.c 3 (by omega))).mono ?_
  rintro e _ ⟨rfl, rfl⟩
  go_wp2_with fail
  refine (lookWrite_none bk w5 (HX.out.c 4 (by omega))).mono ?_
  rintro e _ ⟨rfl, rfl⟩
  go_wp2_with fail
  refine (lookEntry_none bk w5 (HX.out.c 5 (by omega))).mono ?_
  rintro e _ ⟨rfl, rfl⟩
  go_wp2_with fail
  refine (lookVersion_any bk rB gB w5 HB.out.bl HB.out.each).mono ?_
  rintro e w6 ⟨rfl, HZ⟩
  have HFn : Hid (Fr (own2 rB rI hB hI) w w6) := HF.out.trans HZ (fun x hx _ => hx) (by simp)
  have HXn : Hid (Bx w6 bk cs) := HX.out.keep HZ ((Off.nil kInt _).notB HX.out.box)
  have HIn : Hid (S2 kInt w6 bk rI gI) := HI.out.stay HZ (Off.nil kInt _)
  have HBn : Hid (S2 kVersion w6 bk rB gB) := HB.out.stay HZ (Off.nil _ _)
  clear HF HX HZ HB HI
  have HF := HFn
  have HX := HXn
  have HB := HBn
  have HI := HIn
  clear HFn HXn HBn HIn
  go_wp2_with fail
  refine (lookTxn_none bk w6 (HX.out.c 7 (by omega))).mono ?_
  rintro e _ ⟨rfl, rfl⟩
  go_wp2_with fail
  refine (lookHeld_none bk w6 (HX.out.c 8 (by omega))).mono ?_
  rintro e _ ⟨rfl, rfl⟩
  go_wp2_with fail
  refine (lookHeldList_none bk w6 (HX.out.c 9 (by omega))).mono ?_
  rintro e _ ⟨rfl, rfl⟩
  go_wp2_with fail
  refine (lookEvent_none bk w6 (HX.out.c 10 (by omega))).mono ?_
  rintro e _ ⟨rfl, rfl⟩
  go_wp2_with fail
  refine (lookAnswer_none bk w6 (HX.out.c 11 (by omega))).mono ?_
  rintro e _ ⟨rfl, rfl⟩
  go_wp2_with fail
  go_ret
  exact ⟨rfl, HF.out⟩
end Go.Proofs.YtleklocdejldnaaDoor.Bq
