/- A Book is told bytes, numbers, a transaction, a list of transactions: contracts. Conditions: each list lies in a block of its own that no held list of its kind has; fewer than 2^20 lists. -/
import Derived.Test.YtaefninikmaiiaaGreatDoorTel
namespace Go.Proofs.YtaefninikmaiiaaGreatDoor.Bq
open Go.ChangeShapes Go.WideShapes Go.ChangeAt Go.RowKit Go.Lib
set_option linter.unusedVariables false

section
variable {w0 w w' : World} {bk T : Nat} {rB rI rW rT : Value} {hB hI hW hT : List HB}
theorem B4.keep (h : B4 w0 w bk T rB rI rW rT hB hI hW hT) (hf : Fr [] w w') : B4 w0 w' bk T rB rI rW rT hB hI hW hT := by
  obtain ⟨cs, hX, hc⟩ := h.box
  exact ⟨⟨cs, hX.keep hf (by simp), hc⟩, h.sB.stay hf (Off.nil _ _), h.sI.stay hf (Off.nil _ _), h.sW.stay hf (Off.nil _ _), h.sT.stay hf (Off.nil _ _), h.bn, h.rBn, h.rIn, h.rWn, h.rTn, h.lB, h.lI, h.lW, h.lT⟩
set_option maxHeartbeats 1000000 in
theorem bytes_any (h : B4 w0 w bk T rB rI rW rT hB hI hW hT) (ao : Option Addr) (L cap : Nat) (hp : P0 kByte w ⟨.slice ao L cap, .slice none 0 0, T + 1⟩) (hal : ∀ k, (Value.slice ao L cap).ownBlock = some k → k ∉ lbs hB) (hT2 : T < 2097150) :
    Calls Tryz.prog 16 #[.pointer (some ⟨bk, 0, none⟩), .slice ao L cap] w fun e w' => e = .returned (.tuple #[]) ∧ ∃ rv', B4 w0 w' bk (T + 1) rv' rI rW rT (hB ++ [⟨.slice ao L cap, .slice none 0 0, T + 1⟩]) hI hW hT ∧ Fr (bk :: rB.ownBlock.toList) w w' ∧ Moved w.heap.size rB rv' := by
  have HC : Hid _ := tellByte_any h ao L cap hp hal hT2
  clear h hp hal
  go_enter Tryz.func16, Tryz.ntmps16
  go_wp2_with fail
  refine Calls.mono HC.out ?_
  rintro e w' ⟨rfl, R⟩
  have HR : Hid _ := R
  clear R HC
  go_wp2_with fail
  go_end0
  exact ⟨rfl, HR.out⟩
set_option maxHeartbeats 1000000 in
theorem ints_any (h : B4 w0 w bk T rB rI rW rT hB hI hW hT) (ao : Option Addr) (L cap : Nat) (hp : P0 kInt w ⟨.slice ao L cap, .slice none 0 0, T + 1⟩) (hal : ∀ k, (Value.slice ao L cap).ownBlock = some k → k ∉ lbs hI) (hT2 : T < 2097150) :
    Calls Tryz.prog 31 #[.pointer (some ⟨bk, 0, none⟩), .slice ao L cap] w fun e w' => e = .returned (.tuple #[]) ∧ ∃ rv', B4 w0 w' bk (T + 1) rB rv' rW rT hB (hI ++ [⟨.slice ao L cap, .slice none 0 0, T + 1⟩]) hW hT ∧ Fr (bk :: rI.ownBlock.toList) w w' ∧ Moved w.heap.size rI rv' := by
  have HC : Hid _ := tellInt_any h ao L cap hp hal hT2
  clear h hp hal
  go_enter Tryz.func31, Tryz.ntmps31
  go_wp2_with fail
  refine Calls.mono HC.out ?_
  rintro e w' ⟨rfl, R⟩
  have HR : Hid _ := R
  clear R HC
  go_wp2_with fail
  go_end0
  exact ⟨rfl, HR.out⟩
set_option maxHeartbeats 1000000 in
theorem writes_any (h : B4 w0 w bk T rB rI rW rT hB hI hW hT) (ao : Option Addr) (L cap : Nat) (hp : P0 kWrite w ⟨.slice ao L cap, .slice none 0 0, T + 1⟩) (hal : ∀ k, (Value.slice ao L cap).ownBlock = some k → k ∉ lbs hW) (hT2 : T < 2097150) :
    Calls Tryz.prog 95 #[.pointer (some ⟨bk, 0, none⟩), .slice ao L cap] w fun e w' => e = .returned (.tuple #[]) ∧ ∃ rv', B4 w0 w' bk (T + 1) rB rI rv' rT hB hI (hW ++ [⟨.slice ao L cap, .slice none 0 0, T + 1⟩]) hT ∧ Fr (bk :: rW.ownBlock.toList) w w' ∧ Moved w.heap.size rW rv' := by
  have HC : Hid _ := tellWrite_any h ao L cap hp hal hT2
  clear h hp hal
  go_enter Tryz.func95, Tryz.ntmps95
  go_wp2_with fail
  refine Calls.mono HC.out ?_
  rintro e w' ⟨rfl, R⟩
  have HR : Hid _ := R
  clear R HC
  go_wp2_with fail
  go_end0
  exact ⟨rfl, HR.out⟩
set_option maxHeartbeats 1000000 in
theorem txn_any (h : B4 w0 w bk T rB rI rW rT hB hI hW hT) (n : Int) (ao : Option Addr) (L cap : Nat) (hp : P0 kWrite w ⟨.slice ao L cap, .slice none 0 0, T + 1⟩) (hal : ∀ k, (Value.slice ao L cap).ownBlock = some k → k ∉ lbs hW) (hT2 : T < 2097150) :
    Calls Tryz.prog 30 #[.pointer (some ⟨bk, 0, none⟩), .agg #[.int .i64 n, .slice ao L cap]] w fun e w' => e = .returned (.tuple #[]) ∧ ∃ rv', B4 w0 w' bk (T + 1) rB rI rv' rT hB hI (hW ++ [⟨.slice ao L cap, .slice none 0 0, T + 1⟩]) hT ∧ Fr (bk :: rW.ownBlock.toList) w w' ∧ Moved w.heap.size rW rv' := by
  have hF : Fr [] w (w.alloc (.cells #[.int .i64 n, .slice ao L cap] 63)) := Fr.alloc _ _ _
  have HC : Hid _ := writes_any (h.keep hF) ao L cap (hp.keep hF (by simp)) hal hT2
  have HF : Hid (Fr [] w (w.alloc (.cells #[.int .i64 n, .slice ao L cap] 63))) := hF
  clear h hp hal hF
  go_enter Tryz.func30, Tryz.ntmps30
  go_wp2_with fail
  refine Calls.mono HC.out ?_
  rintro e w' ⟨rfl, rv', R1, R2, R3⟩
  have HR : Hid (_ ∧ _ ∧ _) := ⟨R1, R2, R3⟩
  clear R1 R2 R3 HC
  go_wp2_with fail
  go_end0
  exact ⟨rfl, rv', HR.out.1, (HF.out.mono (by simp)).then HR.out.2.1, (Moved.refl _ _).trans HR.out.2.2 HF.out.size⟩
end
/-- A transaction as a Book sees it: its number, its writes. -/
abbrev Dt := Int × Value
def dtC (ds : List Dt) : List Value := ds.flatMap fun d => [.int .i64 d.1, d.2]
theorem dtC_length (ds : List Dt) : (dtC ds).length = ds.length * 2 := by
  induction ds with
  | nil => rfl
  | cons d r ih => simp only [dtC, List.flatMap_cons, List.length_append, List.length_cons, List.length_nil] at ih ⊢; omega
theorem dtC_get (ds : List Dt) (i : Nat) (d : Dt) (h : ds[i]? = some d) : (dtC ds)[i * 2]? = some (.int .i64 d.1) ∧ (dtC ds)[i * 2 + 1]? = some d.2 := by
  induction ds generalizing i with
  | nil => simp at h
  | cons a r ih =>
    have e : dtC (a :: r) = .int .i64 a.1 :: a.2 :: dtC r := rfl
    cases i with
    | zero => simp at h; subst h; rw [e]; exact ⟨rfl, rfl⟩
    | succ i =>
      rw [e, show (i + 1) * 2 = i * 2 + 1 + 1 by omega]
      simpa using ih i (by simpa using h)
/-- What the Book holds of them. -/
def held : Nat → List Dt → List HB
  | _, [] => []
  | T, d :: r => ⟨d.2, .slice none 0 0, T + 1⟩ :: held (T + 1) r
theorem held_length (T : Nat) (ds : List Dt) : (held T ds).length = ds.length := by
  induction ds generalizing T with
  | nil => rfl
  | cons d r ih => simp [held, ih]
theorem held_snoc (T : Nat) (ds : List Dt) (d : Dt) : held T (ds ++ [d]) = held T ds ++ [⟨d.2, .slice none 0 0, T + ds.length + 1⟩] := by
  induction ds generalizing T with
  | nil => simp [held]
  | cons a r ih =>
    simp only [List.cons_append, held, ih, List.length_cons]
    rw [show T + 1 + r.length + 1 = T + (r.length + 1) + 1 by omega]
theorem mem_held {T : Nat} {ds : List Dt} {k : Nat} (h : k ∈ lbs (held T ds)) : ∃ (i : Nat) (d : Dt), ds[i]? = some d ∧ d.2.ownBlock = some k := by
  induction ds generalizing T with
  | nil => simp [held, lbs] at h
  | cons a r ih =>
    obtain ⟨b, hb, hk⟩ := mem_lbs.1 h
    simp only [held, List.mem_cons] at hb
    rcases hb with rfl | hb
    · exact ⟨0, a, rfl, hk⟩
    · obtain ⟨i, d, hd, hk⟩ := ih (T := T + 1) (mem_lbs.2 ⟨b, hb, hk⟩)
      exact ⟨i + 1, d, by simpa using hd, hk⟩
theorem lbs_append (a b : List HB) : lbs (a ++ b) = lbs a ++ lbs b := by simp [lbs]
/-- A row of transactions whose writes lie apart, of which a Book may be told. -/
structure Dts (w : World) (ao : Option Addr) (L cap : Nat) (ds : List Dt) : Prop where
  row : w.ownsRow 0 63 2 (.slice ao L cap) L (dtC ds)
  len : L = ds.length
  few : L < 1048577
  each : ∀ (i : Nat) (d : Dt), ds[i]? = some d → ∃ n vs, w.ownsRow 0 124 3 d.2 n vs ∧ n < 17179869184
  apart : ∀ (i j : Nat) (a b : Dt), ds[i]? = some a → ds[j]? = some b → i ≠ j → ∀ k, a.2.ownBlock = some k → b.2.ownBlock ≠ some k
theorem Dts.keep {S : List Nat} {w w' : World} {ao : Option Addr} {L cap : Nat} {ds : List Dt} (h : Dts w ao L cap ds) (hf : Fr S w w') (h1 : ∀ k, (Value.slice ao L cap).ownBlock = some k → k ∉ S) (h2 : ∀ (i : Nat) (d : Dt), ds[i]? = some d → ∀ k, d.2.ownBlock = some k → k ∉ S) : Dts w' ao L cap ds :=
  ⟨owns_keep h.row hf h1, h.len, h.few, fun i d hd => by obtain ⟨n, vs, q1, q2⟩ := h.each i d hd; exact ⟨n, vs, owns_keep q1 hf (h2 i d hd), q2⟩, h.apart⟩
theorem take_snocD (ds : List Dt) (i : Nat) (d : Dt) (h : ds[i]? = some d) : ds.take (i + 1) = ds.take i ++ [d] := by rw [List.take_add_one, h]; rfl

set_option maxHeartbeats 4000000 in
set_option maxRecDepth 100000 in
theorem txns_any {w0 w : World} {bk T : Nat} {rB rI rW rT : Value} {hB hI hW hT : List HB} (h : B4 w0 w bk T rB rI rW rT hB hI hW hT) (ao : Option Addr) (L cap : Nat) (ds : List Dt) (hd : Dts w ao L cap ds) (hw : ∀ (i : Nat) (d : Dt), ds[i]? = some d → ∀ k, d.2.ownBlock = some k → k ∉ lbs hW) (ht : ∀ k, (Value.slice ao L cap).ownBlock = some k → k ∉ lbs hT) (hT2 : T < 1000000) :
    Calls Tryz.prog 15 #[.pointer (some ⟨bk, 0, none⟩), .slice ao L cap] w fun e w' => e = .returned (.tuple #[]) ∧ ∃ rW' rT', B4 w0 w' bk (T + L + 1) rB rI rW' rT' hB hI (hW ++ held T ds) (hT ++ [⟨.slice ao L cap, .slice none 0 0, T + L + 1⟩]) ∧ Fr (bk :: (rW.ownBlock.toList ++ rT.ownBlock.toList)) w w' ∧ Moved w.heap.size rW rW' ∧ Moved w.heap.size rT rT' := by
  have HD : Hid (Dts w ao L cap ds) := hd
  have hL := hd.few
  have HL : Hid (L = ds.length) := hd.len
  have HB0 : Hid (B4 w0 w bk T rB rI rW rT hB hI hW hT) := h
  have hrow := hd.row
  -- blocks of the list and of the writes are none of the Book's block and row
  have HNL : Hid (∀ W v, B4 w0 W bk T rB rI v rT hB hI hW hT → True) := fun _ _ _ => trivial
  clear h hd HNL
  go_enter Tryz.func15, Tryz.ntmps15
  go_wp2_with fail
  go_loopw [4] (fun ii wr => ∃ (i : Nat) (v : Value), ii = .int .i64 i ∧ i ≤ L ∧ Hid (B4 w0 wr bk (T + i) rB rI v rT hB hI (hW ++ held T (ds.take i)) hT) ∧ Hid (Fr (bk :: rW.ownBlock.toList) w wr ∧ Moved w.heap.size rW v) ∧ Hid (Dts wr ao L cap ds)) (fun ii _ => L - (RowKit.intOf ii).toNat)
  case atStart => exact ⟨0, rW, rfl, Nat.zero_le _, by simpa [held] using HB0, ⟨Fr.refl _ _, Moved.refl _ _⟩, HD⟩
  case round =>
    obtain ⟨i, v, rfl, hiL, HB, HF, HDr⟩ := hrel
    by_cases hi : i < L
    · obtain ⟨d, hdi⟩ : ∃ d, ds[i]? = some d := ⟨_, List.getElem?_eq_getElem (by rw [← HL.out]; exact hi)⟩
      have HDI : Hid (ds[i]? = some d) := hdi
      obtain ⟨n, vs, q1, q2⟩ := HDr.out.each i d hdi
      obtain ⟨so, sc, hsv⟩ := own_slice q1
      obtain ⟨g, gc, hg, hgc⟩ := own_form HDr.out.row (by omega)
      cases hg
      obtain ⟨e1, e2⟩ := dtC_get ds i d hdi
      have c0 : wr.cell? ⟨g, i * 2, none⟩ = some (.int .i64 d.1) := by rw [HDr.out.row.cellAt (i * 2) (by omega), e1]
      have c1 : wr.cell? ⟨g, i * 2 + 1, none⟩ = some d.2 := by rw [HDr.out.row.cellAt (i * 2 + 1) (by omega), e2]
      obtain ⟨dn, dv⟩ := d
      simp only at c0 c1 hsv q1
      subst hsv
      have hal : ∀ k, (Value.slice so n sc).ownBlock = some k → k ∉ lbs (hW ++ held T (ds.take i)) := by
        intro k hk hm
        rw [lbs_append] at hm
        rcases List.mem_append.1 hm with hm | hm
        · exact hw i _ HDI.out k hk hm
        · obtain ⟨j, b, hb, hbk⟩ := mem_held hm
          have hji : j < i := by have := (List.getElem?_eq_some_iff.1 hb).1; rw [List.length_take] at this; omega
          rw [List.getElem?_take, if_pos hji] at hb
          exact HDr.out.apart i j _ b HDI.out hb (by omega) k hk hbk
      have HC : Hid _ := txn_any HB.out dn so n sc ⟨n, vs, q1, q2⟩ hal (by omega)
      have HTK := take_snocD ds i _ hdi
      have HHS : Hid (hW ++ held T (ds.take (i + 1)) = (hW ++ held T (ds.take i)) ++ [⟨.slice so n sc, .slice none 0 0, T + i + 1⟩]) := by
        show _ = _
        rw [HTK, held_snoc, List.length_take, show min i ds.length = i by have := HL.out; omega, List.append_assoc]
      have HNB : Hid (∀ k cs t, wr.heap[k]? = some (.cells cs t (0, 0)) → t ≠ 45 → t ≠ 140 → k ∉ bk :: v.ownBlock.toList) := by
        intro k cs t hk h1 h2 hm
        rcases List.mem_cons.1 hm with rfl | hm
        · obtain ⟨cs', hX, _⟩ := HB.out.box
          rw [hX.box] at hk
          simp only [Option.some.injEq, Obj.cells.injEq] at hk
          exact h1 hk.2.1.symm
        · obtain ⟨cs', hc⟩ := own_type HB.out.sW.bl.row k (by simpa using hm)
          rw [hc] at hk
          simp only [Option.some.injEq, Obj.cells.injEq] at hk
          exact h2 hk.2.1.symm
      clear hdi hal e1 e2 HTK q1
      go_wp2_with fail
      refine Calls.mono HC.out ?_
      rintro e w2 ⟨rfl, v2, R1, R2, R3⟩
      have HB2 : Hid (B4 w0 w2 bk (T + (i + 1)) rB rI v2 rT hB hI (hW ++ held T (ds.take (i + 1))) hT) := by rw [HHS.out]; exact R1
      have HF2 : Hid (Fr (bk :: rW.ownBlock.toList) w w2 ∧ Moved w.heap.size rW v2) := by
        obtain ⟨f1, f2⟩ := HF.out
        refine ⟨f1.trans R2 (fun x hx _ => hx) ?_, f2.trans R3 f1.size⟩
        intro x hx hl
        rcases List.mem_cons.1 hx with rfl | hx
        · simp
        · rcases f2 with f2 | ⟨y, y1, y2⟩
          · rw [f2] at hx; exact List.mem_cons_of_mem _ hx
          · rw [y1] at hx; simp at hx; omega
      have HD2 : Hid (Dts w2 (some ⟨g, 0, none⟩) L cap ds) := HDr.out.keep R2 (fun k hk => by obtain ⟨cs, hc⟩ := own_type HDr.out.row k hk; exact HNB.out k cs _ hc (by decide) (by decide)) (fun j b hb k hk => by obtain ⟨m, us, u1, _⟩ := HDr.out.each j b hb; obtain ⟨cs, hc⟩ := own_type u1 k hk; exact HNB.out k cs _ hc (by decide) (by decide))
      clear R1 R2 R3 HC HB HF HDr HNB HHS
      go_wp2_with fail
      go_roundw
      case rel => exact ⟨i + 1, v2, by simp, by omega, HB2, HF2, HD2⟩
      case measure => simp [RowKit.intOf]; omega
    · have hiL' : i = L := by omega
      subst hiL'
      have HB1 : Hid (B4 w0 wr bk (T + i) rB rI v rT hB hI (hW ++ held T ds) hT) := by
        have := HB.out
        rw [List.take_of_length_le (by have := HL.out; omega)] at this
        exact this
      have HC : Hid _ := tellTxn_any HB1.out ao i cap ⟨i, dtC ds, HDr.out.row, by omega⟩ ht (by omega)
      clear HB HDr hrow
      go_wp2_with fail
      refine Calls.mono HC.out ?_
      rintro e w2 ⟨rfl, v2, R1, R2, R3⟩
      have HE : Hid (_ ∧ _ ∧ _ ∧ _) := ⟨R1, (by
        obtain ⟨f1, f2⟩ := HF.out
        refine f1.trans R2 ?_ ?_
        · intro x hx _
          rcases List.mem_cons.1 hx with rfl | hx
          · simp
          · exact List.mem_cons_of_mem _ (List.mem_append_left _ hx)
        · intro x hx _
          rcases List.mem_cons.1 hx with rfl | hx
          · simp
          · exact List.mem_cons_of_mem _ (List.mem_append_right _ hx) : Fr (bk :: (rW.ownBlock.toList ++ rT.ownBlock.toList)) w w2), HF.out.2, (Moved.refl w.heap.size rT).trans R3 HF.out.1.size⟩
      clear R1 R2 R3 HC HF
      go_wp2_with fail
      go_end0
      exact ⟨rfl, v, v2, HE.out⟩
end Go.Proofs.YtaefninikmaiiaaGreatDoor.Bq
