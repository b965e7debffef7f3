/- What the Book's Apart answers over lists of bytes of which no two share a block: true; it writes those lists and its own row alone. Conditions: fewer than 2^20 lists. -/
import Derived.Test.YtgoonbikhdbkiaaGreatDoorBkLook
namespace Go.Proofs.YtgoonbikhdbkiaaGreatDoor
open Go.ChangeShapes Go.WideShapes Go.ChangeAt Go.RowKit Go.Lib

set_option maxHeartbeats 4000000 in
set_option maxRecDepth 100000 in
theorem apart_any (bk : Nat) (rv : Value) (hs : List HB) (w : World) (h : Bk w bk rv hs) (h0 : ∀ (j : Nat) (h : HB), hs[j]? = some h → P0 w h) (ha : Alone hs) (hn : Num hs) (hfre : Fresh hs) :
    Calls Tryz.prog 11 #[.pointer (some ⟨bk, 0, none⟩)] w fun e w' => e = .returned (.bool true) ∧ Fr (rv.ownBlock.toList ++ lbs hs) w w' := by
  go_enter Tryz.func11, Tryz.ntmps11
  go_wp2_with fail
  refine (fillByte_any bk rv hs w h h0 ha hn hfre).mono ?_
  rintro e w1 ⟨rfl, HF⟩
  have HB1 : Hid (Bk w1 bk rv hs) := HF.out.bk
  clear h h0
  go_wp2_with fail
  refine (fillInt_none bk rv hs w1 HB1.out).mono ?_
  rintro e _ ⟨rfl, rfl⟩
  go_wp2_with fail
  refine (fillText_none bk rv hs w1 HB1.out).mono ?_
  rintro e _ ⟨rfl, rfl⟩
  go_wp2_with fail
  refine (fillWrite_none bk rv hs w1 HB1.out).mono ?_
  rintro e _ ⟨rfl, rfl⟩
  go_wp2_with fail
  refine (fillEntry_none bk rv hs w1 HB1.out).mono ?_
  rintro e _ ⟨rfl, rfl⟩
  go_wp2_with fail
  refine (fillVersion_none bk rv hs w1 HB1.out).mono ?_
  rintro e _ ⟨rfl, rfl⟩
  go_wp2_with fail
  refine (fillTxn_none bk rv hs w1 HB1.out).mono ?_
  rintro e _ ⟨rfl, rfl⟩
  go_wp2_with fail
  refine (fillHeld_none bk rv hs w1 HB1.out).mono ?_
  rintro e _ ⟨rfl, rfl⟩
  go_wp2_with fail
  refine (fillHeldList_none bk rv hs w1 HB1.out).mono ?_
  rintro e _ ⟨rfl, rfl⟩
  go_wp2_with fail
  refine (fillEvent_none bk rv hs w1 HB1.out).mono ?_
  rintro e _ ⟨rfl, rfl⟩
  go_wp2_with fail
  refine (fillAnswer_none bk rv hs w1 HB1.out).mono ?_
  rintro e _ ⟨rfl, rfl⟩
  go_wp2_with fail
  have h1 : ∀ (j : Nat) (h : HB), hs[j]? = some h → P1 w1 h := fun j b hb => HF.out.done j b hb (List.getElem?_eq_some_iff.1 hb).1
  refine (growByte_any bk rv hs w1 HB1.out h1 ha hn hfre).mono ?_
  rintro e w2 ⟨rfl, hs2, HG⟩
  have HB2 : Hid (Bk w2 bk rv hs2) := HG.out.bk
  clear h1
  go_wp2_with fail
  refine (growInt_none bk rv hs2 w2 HB2.out).mono ?_
  rintro e _ ⟨rfl, rfl⟩
  go_wp2_with fail
  refine (growText_none bk rv hs2 w2 HB2.out).mono ?_
  rintro e _ ⟨rfl, rfl⟩
  go_wp2_with fail
  refine (growWrite_none bk rv hs2 w2 HB2.out).mono ?_
  rintro e _ ⟨rfl, rfl⟩
  go_wp2_with fail
  refine (growEntry_none bk rv hs2 w2 HB2.out).mono ?_
  rintro e _ ⟨rfl, rfl⟩
  go_wp2_with fail
  refine (growVersion_none bk rv hs2 w2 HB2.out).mono ?_
  rintro e _ ⟨rfl, rfl⟩
  go_wp2_with fail
  refine (growTxn_none bk rv hs2 w2 HB2.out).mono ?_
  rintro e _ ⟨rfl, rfl⟩
  go_wp2_with fail
  refine (growHeld_none bk rv hs2 w2 HB2.out).mono ?_
  rintro e _ ⟨rfl, rfl⟩
  go_wp2_with fail
  refine (growHeldList_none bk rv hs2 w2 HB2.out).mono ?_
  rintro e _ ⟨rfl, rfl⟩
  go_wp2_with fail
  refine (growEvent_none bk rv hs2 w2 HB2.out).mono ?_
  rintro e _ ⟨rfl, rfl⟩
  go_wp2_with fail
  refine (growAnswer_none bk rv hs2 w2 HB2.out).mono ?_
  rintro e _ ⟨rfl, rfl⟩
  go_wp2_with fail
  have h2 : ∀ (j : Nat) (h : HB), hs2[j]? = some h → P2 w2 h := fun j b hb => HG.out.done j b hb (by rw [← HG.out.len]; exact (List.getElem?_eq_some_iff.1 hb).1)
  have hn2 : Num hs2 := fun j b hb => by
    obtain ⟨b0, hb0, _, hbn⟩ := HG.out.same j b hb
    rw [hbn, hn j b0 hb0]
  refine (lookByte_any bk rv hs2 w2 HB2.out h2 hn2).mono ?_
  rintro e w3 ⟨rfl, hF3⟩
  have HB3 : Hid (Bk w3 bk rv hs2) := HB2.out.keep hF3 (by simp) (by simp)
  have HFr : Hid (Fr (rv.ownBlock.toList ++ lbs hs) w w3) := by
    have f1 := HF.out.fr
    have f2 := HG.out.fr
    exact (f1.trans f2 (fun x hx _ => List.mem_append_right _ hx) (fun x hx _ => hx)).trans hF3 (fun x hx _ => hx) (by simp)
  clear h2 hn2 hF3
  go_wp2_with fail
  refine (lookInt_none bk rv hs2 w3 HB3.out).mono ?_
  rintro e _ ⟨rfl, rfl⟩
  go_wp2_with fail
  refine (lookText_none bk rv hs2 w3 HB3.out).mono ?_
  rintro e _ ⟨rfl, rfl⟩
  go_wp2_with fail
  refine (lookWrite_none bk rv hs2 w3 HB3.out).mono ?_
  rintro e _ ⟨rfl, rfl⟩
  go_wp2_with fail
  refine (lookEntry_none bk rv hs2 w3 HB3.out).mono ?_
  rintro e _ ⟨rfl, rfl⟩
  go_wp2_with fail
  refine (lookVersion_none bk rv hs2 w3 HB3.out).mono ?_
  rintro e _ ⟨rfl, rfl⟩
  go_wp2_with fail
  refine (lookTxn_none bk rv hs2 w3 HB3.out).mono ?_
  rintro e _ ⟨rfl, rfl⟩
  go_wp2_with fail
  refine (lookHeld_none bk rv hs2 w3 HB3.out).mono ?_
  rintro e _ ⟨rfl, rfl⟩
  go_wp2_with fail
  refine (lookHeldList_none bk rv hs2 w3 HB3.out).mono ?_
  rintro e _ ⟨rfl, rfl⟩
  go_wp2_with fail
  refine (lookEvent_none bk rv hs2 w3 HB3.out).mono ?_
  rintro e _ ⟨rfl, rfl⟩
  go_wp2_with fail
  refine (lookAnswer_none bk rv hs2 w3 HB3.out).mono ?_
  rintro e _ ⟨rfl, rfl⟩
  go_wp2_with fail
  go_ret
  exact ⟨rfl, HFr.out⟩
end Go.Proofs.YtgoonbikhdbkiaaGreatDoor
