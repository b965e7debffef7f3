/- Texts of this claim laid together, one behind the other: contracts and plain lemmas; conditions as each names them. -/
import Derived.Test.YtldghdbfhikcoaaGreatDoorGp26
import Derived.Test.YtldghdbfhikcoaaGreatDoorGp46
import Derived.Test.YtldghdbfhikcoaaGreatDoorGp47
/- What the Book's Apart answers over lists of bytes, numbers, keys with versions, versions, and one list of lists, of which no two share a block: true; it writes those lists and its own rows alone. Conditions: fewer than 2^26 lists of each kind; the table of powers of ten reads as the library lays it, and is none of those. -/
namespace Go.Proofs.YtldghdbfhikcoaaGreatDoor.Bq
open Go.ChangeShapes Go.WideShapes Go.ChangeAt Go.RowKit Go.Lib
set_option linter.unusedVariables false

/-- All that Apart may write. -/
def own5 (rB rI rW rT : Value) (hB hI hW hT : List HB) (rL : Value) (eL : HB) : List Nat := own4 rB rI rW rT hB hI hW hT ++ (rL.ownBlock.toList ++ lbs [eL])
/-- The Book's block, of which the cells of other kinds than these hold no list. -/
structure Bx5 (w : World) (bk : Nat) (cs : Array Value) : Prop where
  box : w.heap[bk]? = some (.cells cs 48 (0, 0))
  size : cs.size = 12
  rest : ∀ c, c = 3 ∨ c = 4 ∨ c = 5 ∨ c = 7 ∨ c = 10 ∨ c = 11 → cs[c]? = some (.slice none 0 0)
theorem Bx5.c {w : World} {bk : Nat} {cs : Array Value} (h : Bx5 w bk cs) (c : Nat) (hc : c = 3 ∨ c = 4 ∨ c = 5 ∨ c = 7 ∨ c = 10 ∨ c = 11) : w.cell? ⟨bk, c, none⟩ = some (.slice none 0 0) := by
  rw [cell_of_row _ _ _ _ _ _ h.box, h.rest c hc]
theorem Bx5.keep {S : List Nat} {w w' : World} {bk : Nat} {cs : Array Value} (h : Bx5 w bk cs) (hf : Fr S w w') (hb : bk ∉ S) : Bx5 w' bk cs := ⟨hf.keep h.box hb, h.size, h.rest⟩
theorem FL.offs {J : Kd} {base : Nat} {w : World} {bk : Nat} {rv : Value} {e : HB} (hKJ : J.off kHL) (h : FL base w bk rv e) : Off J (rv.ownBlock.toList ++ lbs [e]) w := (off_row hKJ h.bl).append (off_lbs hKJ fun j b hb => by
  cases j with
  | zero => simp at hb; subst hb; exact h.type
  | succ j => simp at hb)
theorem own4_lt {w : World} {bk : Nat} {rB rI rW rT : Value} {hB hI hW hT : List HB} (sB : S0 kByte w bk rB hB) (sI : S0 kInt w bk rI hI) (sW : S0 kHeld w bk rW hW) (sT : S0 kVersion w bk rT hT) : ∀ k ∈ own4 rB rI rW rT hB hI hW hT, k < w.heap.size := by
  have key : ∀ {K : Kd} {rv : Value} {hs : List HB}, S0 K w bk rv hs → ∀ k ∈ rv.ownBlock.toList ++ lbs hs, k < w.heap.size := fun h k hk => by
    rcases List.mem_append.1 hk with e | e
    · exact (h.bl.row.lt k (by simpa using e)).2
    · obtain ⟨b, hb, hb2⟩ := mem_lbs.1 e
      obtain ⟨j, hj⟩ := List.getElem?_of_mem hb
      obtain ⟨cs, hc⟩ := (h.each j b hj).type k hb2
      exact lt_of_block hc
  intro k hk
  rcases List.mem_append.1 hk with e | e
  · exact key sB k e
  · rcases List.mem_append.1 e with e | e
    · exact key sI k e
    · rcases List.mem_append.1 e with e | e
      · exact key sW k e
      · exact key sT k e
set_option maxHeartbeats 8000000 in
set_option maxRecDepth 100000 in
theorem apart5_any (bk : Nat) (cs : Array Value) (rB rI rW rT : Value) (hB hI hW hT : List HB) (rL : Value) (eL : HB) (w : World) (hX : Bx5 w bk cs) (sB : S0 kByte w bk rB hB) (sI : S0 kInt w bk rI hI) (sW : S0 kHeld w bk rW hW) (sT : S0 kVersion w bk rT hT) (sL : S0 kHL w bk rL [eL]) (htab : Tab w) (hg : gTab ∉ own5 rB rI rW rT hB hI hW hT rL eL) :
    Calls Tryz.prog 17 #[.pointer (some ⟨bk, 0, none⟩)] w fun e w' => e = .returned (.bool true) ∧ Fr (own5 rB rI rW rT hB hI hW hT rL eL) w w' := by
  have HL : Hid (S0 kHL w bk rL [eL]) := sL
  have HLT : Hid (∀ k ∈ own4 rB rI rW rT hB hI hW hT, k < w.heap.size) := own4_lt sB sI sW sT
  have HB : Hid (S0 kByte w bk rB hB) := sB
  have HI : Hid (S0 kInt w bk rI hI) := sI
  have HW : Hid (S0 kHeld w bk rW hW) := sW
  have HT : Hid (S0 kVersion w bk rT hT) := sT
  have HX : Hid (Bx5 w bk cs) := hX
  have HTB : Hid (Tab w) := htab
  have HG : Hid (gTab ∉ own5 rB rI rW rT hB hI hW hT rL eL) := hg
  have HF : Hid (Fr (own5 rB rI rW rT hB hI hW hT rL eL) w w) := Fr.refl _ _
  have i4B : ∀ x, x ∈ rB.ownBlock.toList ++ lbs hB → x ∈ own4 rB rI rW rT hB hI hW hT := fun x hx => List.mem_append_left _ hx
  have inB : ∀ x, x ∈ rB.ownBlock.toList ++ lbs hB → x ∈ own5 rB rI rW rT hB hI hW hT rL eL := fun x hx => List.mem_append_left _ (i4B x hx)
  have i4I : ∀ x, x ∈ rI.ownBlock.toList ++ lbs hI → x ∈ own4 rB rI rW rT hB hI hW hT := fun x hx => List.mem_append_right _ (List.mem_append_left _ hx)
  have inI : ∀ x, x ∈ rI.ownBlock.toList ++ lbs hI → x ∈ own5 rB rI rW rT hB hI hW hT rL eL := fun x hx => List.mem_append_left _ (i4I x hx)
  have i4W : ∀ x, x ∈ rW.ownBlock.toList ++ lbs hW → x ∈ own4 rB rI rW rT hB hI hW hT := fun x hx => List.mem_append_right _ (List.mem_append_right _ (List.mem_append_left _ hx))
  have inW : ∀ x, x ∈ rW.ownBlock.toList ++ lbs hW → x ∈ own5 rB rI rW rT hB hI hW hT rL eL := fun x hx => List.mem_append_left _ (i4W x hx)
  have i4T : ∀ x, x ∈ rT.ownBlock.toList ++ lbs hT → x ∈ own4 rB rI rW rT hB hI hW hT := fun x hx => List.mem_append_right _ (List.mem_append_right _ (List.mem_append_right _ hx))
  have inT : ∀ x, x ∈ rT.ownBlock.toList ++ lbs hT → x ∈ own5 rB rI rW rT hB hI hW hT rL eL := fun x hx => List.mem_append_left _ (i4T x hx)
  have inL : ∀ x, x ∈ rL.ownBlock.toList ++ lbs [eL] → x ∈ own5 rB rI rW rT hB hI hW hT rL eL := fun x hx => List.mem_append_right _ hx
  clear sB sI sW sT sL hX htab hg
  go_enter Tryz.func17, Tryz.ntmps17
  go_wp2_with fail
  refine (fillByte_any bk rB hB w HB.out.bl HB.out.each HB.out.alone HB.out.fresh).mono ?_
  rintro e w1 ⟨rfl, HZ⟩
  have HFn : Hid (Fr (own5 rB rI rW rT hB hI hW hT rL eL) w w1) := HF.out.trans HZ.out.fr (fun x hx _ => hx) (fun x hx _ => inB x (List.mem_append_right _ hx))
  have HXn : Hid (Bx5 w1 bk cs) := HX.out.keep HZ.out.fr ((HB.out.offs off_IB).notB HX.out.box)
  have HIn : Hid (S0 kInt w1 bk rI hI) := HI.out.stay HZ.out.fr (HB.out.offs off_IB)
  have HWn : Hid (S0 kHeld w1 bk rW hW) := HW.out.stay HZ.out.fr (HB.out.offs off_WB)
  have HTn : Hid (S0 kVersion w1 bk rT hT) := HT.out.stay HZ.out.fr (HB.out.offs off_TB)
  have HBn : Hid (S1 kByte w1 bk rB hB) := HB.out.filled HZ.out
  have HLn : Hid (S0 kHL w1 bk rL [eL]) := HL.out.stay HZ.out.fr (HB.out.offs off_HB)
  have HTBn : Hid (Tab w1) := HTB.out.keep HZ.out.fr (fun hm => HG.out (inB _ (List.mem_append_right _ hm)))
  clear HF HX HTB HZ HB HI HW HT HL
  have HF := HFn
  have HX := HXn
  have HTB := HTBn
  have HB := HBn
  have HI := HIn
  have HW := HWn
  have HT := HTn
  have HL := HLn
  clear HFn HXn HTBn HBn HIn HWn HTn HLn
  go_wp2_with fail
  refine (fillInt_any bk rI hI w1 HI.out.bl HI.out.each HI.out.alone HI.out.fresh).mono ?_
  rintro e w2 ⟨rfl, HZ⟩
  have HFn : Hid (Fr (own5 rB rI rW rT hB hI hW hT rL eL) w w2) := HF.out.trans HZ.out.fr (fun x hx _ => hx) (fun x hx _ => inI x (List.mem_append_right _ hx))
  have HXn : Hid (Bx5 w2 bk cs) := HX.out.keep HZ.out.fr ((HI.out.offs off_BI).notB HX.out.box)
  have HBn : Hid (S1 kByte w2 bk rB hB) := HB.out.stay HZ.out.fr (HI.out.offs off_BI)
  have HWn : Hid (S0 kHeld w2 bk rW hW) := HW.out.stay HZ.out.fr (HI.out.offs off_WI)
  have HTn : Hid (S0 kVersion w2 bk rT hT) := HT.out.stay HZ.out.fr (HI.out.offs off_TI)
  have HIn : Hid (S1 kInt w2 bk rI hI) := HI.out.filled HZ.out
  have HLn : Hid (S0 kHL w2 bk rL [eL]) := HL.out.stay HZ.out.fr (HI.out.offs off_HI)
  have HTBn : Hid (Tab w2) := HTB.out.keep HZ.out.fr (fun hm => HG.out (inI _ (List.mem_append_right _ hm)))
  clear HF HX HTB HZ HB HI HW HT HL
  have HF := HFn
  have HX := HXn
  have HTB := HTBn
  have HB := HBn
  have HI := HIn
  have HW := HWn
  have HT := HTn
  have HL := HLn
  clear HFn HXn HTBn HBn HIn HWn HTn HLn
  go_wp2_with fail
  refine (fillText_none bk w2 (HX.out.c 3 (by omega))).mono ?_
  rintro e _ ⟨rfl, rfl⟩
  go_wp2_with fail
  refine (fillWrite_none bk w2 (HX.out.c 4 (by omega))).mono ?_
  rintro e _ ⟨rfl, rfl⟩
  go_wp2_with fail
  refine (fillEntry_none bk w2 (HX.out.c 5 (by omega))).mono ?_
  rintro e _ ⟨rfl, rfl⟩
  go_wp2_with fail
  refine (fillVersion_any bk rT hT w2 HT.out.bl HT.out.each HT.out.alone HT.out.fresh).mono ?_
  rintro e w3 ⟨rfl, HZ⟩
  have HFn : Hid (Fr (own5 rB rI rW rT hB hI hW hT rL eL) w w3) := HF.out.trans HZ.out.fr (fun x hx _ => hx) (fun x hx _ => inT x (List.mem_append_right _ hx))
  have HXn : Hid (Bx5 w3 bk cs) := HX.out.keep HZ.out.fr ((HT.out.offs off_BT).notB HX.out.box)
  have HBn : Hid (S1 kByte w3 bk rB hB) := HB.out.stay HZ.out.fr (HT.out.offs off_BT)
  have HIn : Hid (S1 kInt w3 bk rI hI) := HI.out.stay HZ.out.fr (HT.out.offs off_IT)
  have HWn : Hid (S0 kHeld w3 bk rW hW) := HW.out.stay HZ.out.fr (HT.out.offs off_WT)
  have HTn : Hid (S1 kVersion w3 bk rT hT) := HT.out.filled HZ.out
  have HLn : Hid (S0 kHL w3 bk rL [eL]) := HL.out.stay HZ.out.fr (HT.out.offs off_HT)
  have HTBn : Hid (Tab w3) := HTB.out.keep HZ.out.fr (fun hm => HG.out (inT _ (List.mem_append_right _ hm)))
  clear HF HX HTB HZ HB HI HW HT HL
  have HF := HFn
  have HX := HXn
  have HTB := HTBn
  have HB := HBn
  have HI := HIn
  have HW := HWn
  have HT := HTn
  have HL := HLn
  clear HFn HXn HTBn HBn HIn HWn HTn HLn
  go_wp2_with fail
  refine (fillTxn_none bk w3 (HX.out.c 7 (by omega))).mono ?_
  rintro e _ ⟨rfl, rfl⟩
  go_wp2_with fail
  refine (fillHeld_any bk rW hW w3 HW.out.bl HW.out.each HW.out.alone HW.out.fresh HTB.out (fun hm => HG.out (inW _ (List.mem_append_right _ hm)))).mono ?_
  rintro e w4 ⟨rfl, HZ⟩
  have HFn : Hid (Fr (own5 rB rI rW rT hB hI hW hT rL eL) w w4) := HF.out.trans HZ.out.fr (fun x hx _ => hx) (fun x hx _ => inW x (List.mem_append_right _ hx))
  have HXn : Hid (Bx5 w4 bk cs) := HX.out.keep HZ.out.fr ((HW.out.offs off_BW).notB HX.out.box)
  have HBn : Hid (S1 kByte w4 bk rB hB) := HB.out.stay HZ.out.fr (HW.out.offs off_BW)
  have HIn : Hid (S1 kInt w4 bk rI hI) := HI.out.stay HZ.out.fr (HW.out.offs off_IW)
  have HTn : Hid (S1 kVersion w4 bk rT hT) := HT.out.stay HZ.out.fr (HW.out.offs off_TW)
  have HWn : Hid (S1 kHeld w4 bk rW hW) := HW.out.filled HZ.out
  have HLn : Hid (S0 kHL w4 bk rL [eL]) := HL.out.stay HZ.out.fr (HW.out.offs off_HW)
  have HTBn : Hid (Tab w4) := HTB.out.keep HZ.out.fr (fun hm => HG.out (inW _ (List.mem_append_right _ hm)))
  clear HF HX HTB HZ HB HI HW HT HL
  have HF := HFn
  have HX := HXn
  have HTB := HTBn
  have HB := HBn
  have HI := HIn
  have HW := HWn
  have HT := HTn
  have HL := HLn
  clear HFn HXn HTBn HBn HIn HWn HTn HLn
  go_wp2_with fail
  obtain ⟨base, HBs⟩ : ∃ base, Hid (base = w4.heap.size) := ⟨_, rfl⟩
  have HLT2 : Hid (∀ k ∈ own4 rB rI rW rT hB hI hW hT, k < base) := fun k hk => by rw [HBs.out]; exact Nat.lt_of_lt_of_le (HLT.out k hk) HF.out.size
  refine (fillHL_any bk rL eL w4 HL.out.bl (HL.out.each 0 eL rfl) (HL.out.fresh 0 eL rfl) HTB.out (fun hm => HG.out (inL _ (List.mem_append_right _ hm)))).mono ?_
  rintro e wf ⟨rfl, HZ⟩
  rw [← HBs.out] at HZ
  have HFn : Hid (Fr (own5 rB rI rW rT hB hI hW hT rL eL) w wf) := HF.out.trans HZ.out.2 (fun x hx _ => hx) (fun x hx _ => inL x (List.mem_append_right _ hx))
  have HXn : Hid (Bx5 wf bk cs) := HX.out.keep HZ.out.2 ((HL.out.offs off_BH).notB HX.out.box)
  have HBn : Hid (S1 kByte wf bk rB hB) := HB.out.stay HZ.out.2 (HL.out.offs off_BH)
  have HIn : Hid (S1 kInt wf bk rI hI) := HI.out.stay HZ.out.2 (HL.out.offs off_IH)
  have HWn : Hid (S1 kHeld wf bk rW hW) := HW.out.stay HZ.out.2 (HL.out.offs off_WH)
  have HTn : Hid (S1 kVersion wf bk rT hT) := HT.out.stay HZ.out.2 (HL.out.offs off_TH)
  have HLn : Hid (FL base wf bk rL eL) := HZ.out.1
  have HTBn : Hid (Tab wf) := HTB.out.keep HZ.out.2 (fun hm => HG.out (inL _ (List.mem_append_right _ hm)))
  clear HF HX HTB HZ HB HI HW HT HL
  have HF := HFn
  have HX := HXn
  have HTB := HTBn
  have HB := HBn
  have HI := HIn
  have HW := HWn
  have HT := HTn
  have HL := HLn
  clear HFn HXn HTBn HBn HIn HWn HTn HLn
  go_wp2_with fail
  refine (fillEvent_none bk wf (HX.out.c 10 (by omega))).mono ?_
  rintro e _ ⟨rfl, rfl⟩
  go_wp2_with fail
  refine (fillAnswer_none bk wf (HX.out.c 11 (by omega))).mono ?_
  rintro e _ ⟨rfl, rfl⟩
  go_wp2_with fail
  refine (growByte_any bk rB hB wf HB.out.bl HB.out.each HB.out.alone HB.out.fresh).mono ?_
  rintro e w5 ⟨rfl, gB, HZ⟩
  have HFn : Hid (Fr (own5 rB rI rW rT hB hI hW hT rL eL) w w5) := HF.out.trans HZ.out.fr (fun x hx _ => hx) (fun x hx _ => inB x hx)
  have HXn : Hid (Bx5 w5 bk cs) := HX.out.keep HZ.out.fr ((HB.out.offs off_IB).notB HX.out.box)
  have HIn : Hid (S1 kInt w5 bk rI hI) := HI.out.stay HZ.out.fr (HB.out.offs off_IB)
  have HWn : Hid (S1 kHeld w5 bk rW hW) := HW.out.stay HZ.out.fr (HB.out.offs off_WB)
  have HTn : Hid (S1 kVersion w5 bk rT hT) := HT.out.stay HZ.out.fr (HB.out.offs off_TB)
  have HBn : Hid (S2 kByte w5 bk rB gB) := HB.out.grown HZ.out
  have HLn : Hid (FL base w5 bk rL eL) := HL.out.stay HZ.out.fr (HB.out.offs off_HB) (fun k hk => HLT2.out k (i4B k hk))
  have HTBn : Hid (Tab w5) := HTB.out.keep HZ.out.fr (fun hm => HG.out (inB _ hm))
  clear HF HX HTB HZ HB HI HW HT HL
  have HF := HFn
  have HX := HXn
  have HTB := HTBn
  have HB := HBn
  have HI := HIn
  have HW := HWn
  have HT := HTn
  have HL := HLn
  clear HFn HXn HTBn HBn HIn HWn HTn HLn
  go_wp2_with fail
  refine (growInt_any bk rI hI w5 HI.out.bl HI.out.each HI.out.alone HI.out.fresh).mono ?_
  rintro e w6 ⟨rfl, gI, HZ⟩
  have HFn : Hid (Fr (own5 rB rI rW rT hB hI hW hT rL eL) w w6) := HF.out.trans HZ.out.fr (fun x hx _ => hx) (fun x hx _ => inI x hx)
  have HXn : Hid (Bx5 w6 bk cs) := HX.out.keep HZ.out.fr ((HI.out.offs off_BI).notB HX.out.box)
  have HBn : Hid (S2 kByte w6 bk rB gB) := HB.out.stay HZ.out.fr (HI.out.offs off_BI)
  have HWn : Hid (S1 kHeld w6 bk rW hW) := HW.out.stay HZ.out.fr (HI.out.offs off_WI)
  have HTn : Hid (S1 kVersion w6 bk rT hT) := HT.out.stay HZ.out.fr (HI.out.offs off_TI)
  have HIn : Hid (S2 kInt w6 bk rI gI) := HI.out.grown HZ.out
  have HLn : Hid (FL base w6 bk rL eL) := HL.out.stay HZ.out.fr (HI.out.offs off_HI) (fun k hk => HLT2.out k (i4I k hk))
  have HTBn : Hid (Tab w6) := HTB.out.keep HZ.out.fr (fun hm => HG.out (inI _ hm))
  clear HF HX HTB HZ HB HI HW HT HL
  have HF := HFn
  have HX := HXn
  have HTB := HTBn
  have HB := HBn
  have HI := HIn
  have HW := HWn
  have HT := HTn
  have HL := HLn
  clear HFn HXn HTBn HBn HIn HWn HTn HLn
  go_wp2_with fail
  refine (growText_none bk w6 (HX.out.c 3 (by omega))).mono ?_
  rintro e _ ⟨rfl, rfl⟩
  go_wp2_with fail
  refine (growWrite_none bk w6 (HX.out.c 4 (by omega))).mono ?_
  rintro e _ ⟨rfl, rfl⟩
  go_wp2_with fail
  refine (growEntry_none bk w6 (HX.out.c 5 (by omega))).mono ?_
  rintro e _ ⟨rfl, rfl⟩
  go_wp2_with fail
  refine (growVersion_any bk rT hT w6 HT.out.bl HT.out.each HT.out.alone HT.out.fresh).mono ?_
  rintro e w7 ⟨rfl, gT, HZ⟩
  have HFn : Hid (Fr (own5 rB rI rW rT hB hI hW hT rL eL) w w7) := HF.out.trans HZ.out.fr (fun x hx _ => hx) (fun x hx _ => inT x hx)
  have HXn : Hid (Bx5 w7 bk cs) := HX.out.keep HZ.out.fr ((HT.out.offs off_BT).notB HX.out.box)
  have HBn : Hid (S2 kByte w7 bk rB gB) := HB.out.stay HZ.out.fr (HT.out.offs off_BT)
  have HIn : Hid (S2 kInt w7 bk rI gI) := HI.out.stay HZ.out.fr (HT.out.offs off_IT)
  have HWn : Hid (S1 kHeld w7 bk rW hW) := HW.out.stay HZ.out.fr (HT.out.offs off_WT)
  have HTn : Hid (S2 kVersion w7 bk rT gT) := HT.out.grown HZ.out
  have HLn : Hid (FL base w7 bk rL eL) := HL.out.stay HZ.out.fr (HT.out.offs off_HT) (fun k hk => HLT2.out k (i4T k hk))
  have HTBn : Hid (Tab w7) := HTB.out.keep HZ.out.fr (fun hm => HG.out (inT _ hm))
  clear HF HX HTB HZ HB HI HW HT HL
  have HF := HFn
  have HX := HXn
  have HTB := HTBn
  have HB := HBn
  have HI := HIn
  have HW := HWn
  have HT := HTn
  have HL := HLn
  clear HFn HXn HTBn HBn HIn HWn HTn HLn
  go_wp2_with fail
  refine (growTxn_none bk w7 (HX.out.c 7 (by omega))).mono ?_
  rintro e _ ⟨rfl, rfl⟩
  go_wp2_with fail
  refine (growHeld_any bk rW hW w7 HW.out.bl HW.out.each HW.out.alone HW.out.fresh HTB.out (fun hm => HG.out (inW _ hm))).mono ?_
  rintro e w8 ⟨rfl, gW, HZ⟩
  have HFn : Hid (Fr (own5 rB rI rW rT hB hI hW hT rL eL) w w8) := HF.out.trans HZ.out.fr (fun x hx _ => hx) (fun x hx _ => inW x hx)
  have HXn : Hid (Bx5 w8 bk cs) := HX.out.keep HZ.out.fr ((HW.out.offs off_BW).notB HX.out.box)
  have HBn : Hid (S2 kByte w8 bk rB gB) := HB.out.stay HZ.out.fr (HW.out.offs off_BW)
  have HIn : Hid (S2 kInt w8 bk rI gI) := HI.out.stay HZ.out.fr (HW.out.offs off_IW)
  have HTn : Hid (S2 kVersion w8 bk rT gT) := HT.out.stay HZ.out.fr (HW.out.offs off_TW)
  have HWn : Hid (S2 kHeld w8 bk rW gW) := HW.out.grown HZ.out
  have HLn : Hid (FL base w8 bk rL eL) := HL.out.stay HZ.out.fr (HW.out.offs off_HW) (fun k hk => HLT2.out k (i4W k hk))
  have HTBn : Hid (Tab w8) := HTB.out.keep HZ.out.fr (fun hm => HG.out (inW _ hm))
  clear HF HX HTB HZ HB HI HW HT HL
  have HF := HFn
  have HX := HXn
  have HTB := HTBn
  have HB := HBn
  have HI := HIn
  have HW := HWn
  have HT := HTn
  have HL := HLn
  clear HFn HXn HTBn HBn HIn HWn HTn HLn
  go_wp2_with fail
  refine (growHL_any bk rL eL base w8 HL.out HTB.out (fun hm => HG.out (inL _ hm))).mono ?_
  rintro e wg ⟨rfl, V, HZ⟩
  have HFn : Hid (Fr (own5 rB rI rW rT hB hI hW hT rL eL) w wg) := HF.out.trans HZ.out.2 (fun x hx _ => hx) (fun x hx _ => inL x hx)
  have HXn : Hid (Bx5 wg bk cs) := HX.out.keep HZ.out.2 ((HL.out.offs off_BH).notB HX.out.box)
  have HBn : Hid (S2 kByte wg bk rB gB) := HB.out.stay HZ.out.2 (HL.out.offs off_BH)
  have HIn : Hid (S2 kInt wg bk rI gI) := HI.out.stay HZ.out.2 (HL.out.offs off_IH)
  have HWn : Hid (S2 kHeld wg bk rW gW) := HW.out.stay HZ.out.2 (HL.out.offs off_WH)
  have HTn : Hid (S2 kVersion wg bk rT gT) := HT.out.stay HZ.out.2 (HL.out.offs off_TH)
  have HLn : Hid (GL base wg bk rL { eL with long := V }) := HZ.out.1
  have HTBn : Hid (Tab wg) := HTB.out.keep HZ.out.2 (fun hm => HG.out (inL _ hm))
  clear HF HX HTB HZ HB HI HW HT HL
  have HF := HFn
  have HX := HXn
  have HTB := HTBn
  have HB := HBn
  have HI := HIn
  have HW := HWn
  have HT := HTn
  have HL := HLn
  clear HFn HXn HTBn HBn HIn HWn HTn HLn
  go_wp2_with fail
  refine (growEvent_none bk wg (HX.out.c 10 (by omega))).mono ?_
  rintro e _ ⟨rfl, rfl⟩
  go_wp2_with fail
  refine (growAnswer_none bk wg (HX.out.c 11 (by omega))).mono ?_
  rintro e _ ⟨rfl, rfl⟩
  go_wp2_with fail
  refine (lookByte_any bk rB gB wg HB.out.bl HB.out.each).mono ?_
  rintro e w9 ⟨rfl, HZ⟩
  have HFn : Hid (Fr (own5 rB rI rW rT hB hI hW hT rL eL) w w9) := HF.out.trans HZ (fun x hx _ => hx) (by simp)
  have HXn : Hid (Bx5 w9 bk cs) := HX.out.keep HZ ((Off.nil kInt _).notB HX.out.box)
  have HIn : Hid (S2 kInt w9 bk rI gI) := HI.out.stay HZ (Off.nil kInt _)
  have HWn : Hid (S2 kHeld w9 bk rW gW) := HW.out.stay HZ (Off.nil kHeld _)
  have HTn : Hid (S2 kVersion w9 bk rT gT) := HT.out.stay HZ (Off.nil kVersion _)
  have HBn : Hid (S2 kByte w9 bk rB gB) := HB.out.stay HZ (Off.nil _ _)
  have HLn : Hid (GL base w9 bk rL { eL with long := V }) := HL.out.stay HZ
  have HTBn : Hid (Tab w9) := HTB.out.keep HZ (by simp)
  clear HF HX HTB HZ HB HI HW HT HL
  have HF := HFn
  have HX := HXn
  have HTB := HTBn
  have HB := HBn
  have HI := HIn
  have HW := HWn
  have HT := HTn
  have HL := HLn
  clear HFn HXn HTBn HBn HIn HWn HTn HLn
  go_wp2_with fail
  refine (lookInt_any bk rI gI w9 HI.out.bl HI.out.each).mono ?_
  rintro e w10 ⟨rfl, HZ⟩
  have HFn : Hid (Fr (own5 rB rI rW rT hB hI hW hT rL eL) w w10) := HF.out.trans HZ (fun x hx _ => hx) (by simp)
  have HXn : Hid (Bx5 w10 bk cs) := HX.out.keep HZ ((Off.nil kByte _).notB HX.out.box)
  have HBn : Hid (S2 kByte w10 bk rB gB) := HB.out.stay HZ (Off.nil kByte _)
  have HWn : Hid (S2 kHeld w10 bk rW gW) := HW.out.stay HZ (Off.nil kHeld _)
  have HTn : Hid (S2 kVersion w10 bk rT gT) := HT.out.stay HZ (Off.nil kVersion _)
  have HIn : Hid (S2 kInt w10 bk rI gI) := HI.out.stay HZ (Off.nil _ _)
  have HLn : Hid (GL base w10 bk rL { eL with long := V }) := HL.out.stay HZ
  have HTBn : Hid (Tab w10) := HTB.out.keep HZ (by simp)
  clear HF HX HTB HZ HB HI HW HT HL
  have HF := HFn
  have HX := HXn
  have HTB := HTBn
  have HB := HBn
  have HI := HIn
  have HW := HWn
  have HT := HTn
  have HL := HLn
  clear HFn HXn HTBn HBn HIn HWn HTn HLn
  go_wp2_with fail
  refine (lookText_none bk w10 (HX.out.c 3 (by omega))).mono ?_
  rintro e _ ⟨rfl, rfl⟩
  go_wp2_with fail
  refine (lookWrite_none bk w10 (HX.out.c 4 (by omega))).mono ?_
  rintro e _ ⟨rfl, rfl⟩
  go_wp2_with fail
  refine (lookEntry_none bk w10 (HX.out.c 5 (by omega))).mono ?_
  rintro e _ ⟨rfl, rfl⟩
  go_wp2_with fail
  refine (lookVersion_any bk rT gT w10 HT.out.bl HT.out.each).mono ?_
  rintro e w11 ⟨rfl, HZ⟩
  have HFn : Hid (Fr (own5 rB rI rW rT hB hI hW hT rL eL) w w11) := HF.out.trans HZ (fun x hx _ => hx) (by simp)
  have HXn : Hid (Bx5 w11 bk cs) := HX.out.keep HZ ((Off.nil kByte _).notB HX.out.box)
  have HBn : Hid (S2 kByte w11 bk rB gB) := HB.out.stay HZ (Off.nil kByte _)
  have HIn : Hid (S2 kInt w11 bk rI gI) := HI.out.stay HZ (Off.nil kInt _)
  have HWn : Hid (S2 kHeld w11 bk rW gW) := HW.out.stay HZ (Off.nil kHeld _)
  have HTn : Hid (S2 kVersion w11 bk rT gT) := HT.out.stay HZ (Off.nil _ _)
  have HLn : Hid (GL base w11 bk rL { eL with long := V }) := HL.out.stay HZ
  have HTBn : Hid (Tab w11) := HTB.out.keep HZ (by simp)
  clear HF HX HTB HZ HB HI HW HT HL
  have HF := HFn
  have HX := HXn
  have HTB := HTBn
  have HB := HBn
  have HI := HIn
  have HW := HWn
  have HT := HTn
  have HL := HLn
  clear HFn HXn HTBn HBn HIn HWn HTn HLn
  go_wp2_with fail
  refine (lookTxn_none bk w11 (HX.out.c 7 (by omega))).mono ?_
  rintro e _ ⟨rfl, rfl⟩
  go_wp2_with fail
  refine (lookHeld_any bk rW gW w11 HW.out.bl HW.out.each HTB.out).mono ?_
  rintro e w12 ⟨rfl, HZ⟩
  have HFn : Hid (Fr (own5 rB rI rW rT hB hI hW hT rL eL) w w12) := HF.out.trans HZ (fun x hx _ => hx) (by simp)
  have HXn : Hid (Bx5 w12 bk cs) := HX.out.keep HZ ((Off.nil kByte _).notB HX.out.box)
  have HBn : Hid (S2 kByte w12 bk rB gB) := HB.out.stay HZ (Off.nil kByte _)
  have HIn : Hid (S2 kInt w12 bk rI gI) := HI.out.stay HZ (Off.nil kInt _)
  have HTn : Hid (S2 kVersion w12 bk rT gT) := HT.out.stay HZ (Off.nil kVersion _)
  have HWn : Hid (S2 kHeld w12 bk rW gW) := HW.out.stay HZ (Off.nil _ _)
  have HLn : Hid (GL base w12 bk rL { eL with long := V }) := HL.out.stay HZ
  have HTBn : Hid (Tab w12) := HTB.out.keep HZ (by simp)
  clear HF HX HTB HZ HB HI HW HT HL
  have HF := HFn
  have HX := HXn
  have HTB := HTBn
  have HB := HBn
  have HI := HIn
  have HW := HWn
  have HT := HTn
  have HL := HLn
  clear HFn HXn HTBn HBn HIn HWn HTn HLn
  go_wp2_with fail
  refine (lookHL_any bk rL { eL with long := V } base w12 HL.out HTB.out).mono ?_
  rintro e wl ⟨rfl, HZ⟩
  have HFn : Hid (Fr (own5 rB rI rW rT hB hI hW hT rL eL) w wl) := HF.out.trans HZ (fun x hx _ => hx) (by simp)
  have HXn : Hid (Bx5 wl bk cs) := HX.out.keep HZ ((Off.nil kByte _).notB HX.out.box)
  have HBn : Hid (S2 kByte wl bk rB gB) := HB.out.stay HZ (Off.nil kByte _)
  have HIn : Hid (S2 kInt wl bk rI gI) := HI.out.stay HZ (Off.nil kInt _)
  have HWn : Hid (S2 kHeld wl bk rW gW) := HW.out.stay HZ (Off.nil kHeld _)
  have HTn : Hid (S2 kVersion wl bk rT gT) := HT.out.stay HZ (Off.nil kVersion _)
  have HLn : Hid (GL base wl bk rL { eL with long := V }) := HL.out.stay HZ
  have HTBn : Hid (Tab wl) := HTB.out.keep HZ (by simp)
  clear HF HX HTB HZ HB HI HW HT HL
  have HF := HFn
  have HX := HXn
  have HTB := HTBn
  have HB := HBn
  have HI := HIn
  have HW := HWn
  have HT := HTn
  have HL := HLn
  clear HFn HXn HTBn HBn HIn HWn HTn HLn
  go_wp2_with fail
  refine (lookEvent_none bk wl (HX.out.c 10 (by omega))).mono ?_
  rintro e _ ⟨rfl, rfl⟩
  go_wp2_with fail
  refine (lookAnswer_none bk wl (HX.out.c 11 (by omega))).mono ?_
  rintro e _ ⟨rfl, rfl⟩
  go_wp2_with fail
  go_ret
  exact ⟨rfl, HF.out⟩
end Go.Proofs.YtldghdbfhikcoaaGreatDoor.Bq
