/- Texts of this claim laid together, one behind the other: contracts and plain lemmas; conditions as each names them. -/
import Derived.Test.YtpdkdgmaofhlkaaGreatDoorGp8
/- Next: of a task that is there, and of one that is not. Conditions as each names them. -/
namespace Go.Proofs.YtpdkdgmaofhlkaaGreatDoor
open Go.ChangeShapes Go.WideShapes Go.ChangeAt Go.RowKit Go.Lib
set_option linter.unusedVariables false
set_option linter.unusedSimpArgs false

theorem results_tct17 {fn : Func} {t p u : Tmp} {ty : TypeId} (h : fn.results = #[.tmp t, .cell p ty, .tmp u]) (tmps : Array Value) (P : Program) (w : World) (g : Nat) (v : Value) (hp : tmps.getD p undef = .pointer (some ⟨g, 0, none⟩)) (hld : (loadVar ty ⟨g, 0, none⟩).run P w = .ok v w) :
    (results fn tmps).run P w = .ok (.tuple #[tmps.getD t undef, v, tmps.getD u undef]) w := by
  simp only [results, h]
  simp [Sem.run_bind, Result.andThen, ← Array.getD_eq_getD_getElem?, hp, asAddr, hld]
theorem drew_heap17 (w : World) (b : Nat) : w.drew.heap[b]? = w.heap[b]? := rfl
theorem next_fin {w : World} {b : Nat} {v0 v1 v2 v3 v4 v5 v6 v7 v8 : Value} {o : Obj} (h : (((((((((w.setCell ⟨b, 0, none⟩ v0).setCell ⟨b, 1, none⟩ v1).setCell ⟨b, 2, none⟩ v2).setCell ⟨b, 3, none⟩ v3).setCell ⟨b, 4, none⟩ v4).setCell ⟨b, 5, none⟩ v5).setCell ⟨b, 6, none⟩ v6).setCell ⟨b, 7, none⟩ v7).setCell ⟨b, 8, none⟩ v8).heap[b]? = some o) :
    (((((((((w.setCell ⟨b, 0, none⟩ v0).setCell ⟨b, 1, none⟩ v1).setCell ⟨b, 2, none⟩ v2).setCell ⟨b, 3, none⟩ v3).setCell ⟨b, 4, none⟩ v4).setCell ⟨b, 5, none⟩ v5).setCell ⟨b, 6, none⟩ v6).setCell ⟨b, 7, none⟩ v7).setCell ⟨b, 8, none⟩ v8).drew.heap[b]? = some o ∧
    Fr [b] w (((((((((w.setCell ⟨b, 0, none⟩ v0).setCell ⟨b, 1, none⟩ v1).setCell ⟨b, 2, none⟩ v2).setCell ⟨b, 3, none⟩ v3).setCell ⟨b, 4, none⟩ v4).setCell ⟨b, 5, none⟩ v5).setCell ⟨b, 6, none⟩ v6).setCell ⟨b, 7, none⟩ v7).setCell ⟨b, 8, none⟩ v8).drew := by
  have f : Fr [b] w (((((((((w.setCell ⟨b, 0, none⟩ v0).setCell ⟨b, 1, none⟩ v1).setCell ⟨b, 2, none⟩ v2).setCell ⟨b, 3, none⟩ v3).setCell ⟨b, 4, none⟩ v4).setCell ⟨b, 5, none⟩ v5).setCell ⟨b, 6, none⟩ v6).setCell ⟨b, 7, none⟩ v7).setCell ⟨b, 8, none⟩ v8) := ((((((((Fr.set _ _ _ (by simp)).then (Fr.set _ _ _ (by simp))).then (Fr.set _ _ _ (by simp))).then (Fr.set _ _ _ (by simp))).then (Fr.set _ _ _ (by simp))).then (Fr.set _ _ _ (by simp))).then (Fr.set _ _ _ (by simp))).then (Fr.set _ _ _ (by simp))).then (Fr.set _ _ _ (by simp))
  generalize (((((((((w.setCell ⟨b, 0, none⟩ v0).setCell ⟨b, 1, none⟩ v1).setCell ⟨b, 2, none⟩ v2).setCell ⟨b, 3, none⟩ v3).setCell ⟨b, 4, none⟩ v4).setCell ⟨b, 5, none⟩ v5).setCell ⟨b, 6, none⟩ v6).setCell ⟨b, 7, none⟩ v7).setCell ⟨b, 8, none⟩ v8) = W at h f ⊢
  exact ⟨h, f.then (Fr.drew _ _)⟩
set_option maxHeartbeats 400000 in
set_option maxRecDepth 100000 in
theorem qNext_of (o : Option Addr) (S : Int) (r : Rv) (B : Bool) (bs : List Int) (w : World) (hX : ∀ W, Fr [] w W → Calls Tryz.prog 24 #[.pointer o] W fun e w' => e = .returned (.tuple #[.int .i64 S, r.v, .bool B]) ∧ Fr [] W w') (hI : IRs w r.bo bs) (hl : r.bl = bs.length) (hc : r.bl ≤ 131072) :
    Calls Tryz.prog 10 #[.pointer o] w fun e w' => ∃ ro rc, e = .returned (.tuple #[.int .i64 S, Rv.v { r with bo := ro, bc := rc }, .bool B]) ∧ w'.ownsRow w.heap.size 3 1 (.slice ro r.bl rc) r.bl (intsC bs) ∧ Fr [] w w' := by
  have mixed : Tryz.prog.follows .mixedOrders = true := by kernel_rfl
  obtain ⟨rk, rf, rn, rkey, ren, ro, rl, rc⟩ := r
  simp only at hI hl hc ⊢
  have HX : Hid (∀ W, Fr [] w W → Calls Tryz.prog 24 #[.pointer o] W fun e w' => e = .returned (.tuple #[.int .i64 S, .agg #[.int .u8 rk, .int .i64 rf, .int .i64 rn, .string ⟨#[]⟩, .string ⟨#[]⟩, .bool false, .string rkey, .string ren, .slice ro rl rc], .bool B]) ∧ Fr [] W w') := hX
  have HC : Hid (∀ W, Fr [] w W → Calls Tryz.prog 25 #[.slice ro rl rc] W fun e w' => ∃ ro' rc', e = .returned (.slice ro' rl rc') ∧ IRs w' ro' bs ∧ w'.ownsRow W.heap.size 3 1 (.slice ro' rl rc') rl (intsC bs) ∧ Fr [] W w') := fun W hW => cloneI_any ro rl rc bs W (hI.keep hW) hl hc
  clear hX hI hl hc
  have HF0 : Hid (Fr [] w (w.alloc (.cells #[.int .u8 0, .int .i64 0, .int .i64 0, .string ⟨#[]⟩, .string ⟨#[]⟩, .bool false, .string ⟨#[]⟩, .string ⟨#[]⟩, .slice none 0 0] 64))) := Fr.alloc _ _ _
  go_enter Tryz.func10, Tryz.ntmps10
  go_wp2_with fail
  refine (HX.out _ HF0.out).mono ?_
  rintro e w1 ⟨rfl, hf1⟩
  have hr3 : w1.heap[w.heap.size]? = some (.cells Rv.zero.a 64 (0, 0)) := hf1.keep (heap_alloc_new w _) (by simp)
  have HF1 : Hid (Fr [] w w1) := HF0.out.then hf1
  have HS1 : Hid (w.heap.size < w1.heap.size) := lt_of_block hr3
  have HR3 : Hid (w1.heap[w.heap.size]? = some (.cells Rv.zero.a 64 (0, 0))) := hr3
  clear hf1 hr3 HX HF0
  go_wp2_with fail
  have hr6 : (w1.alloc (.cells #[.int .u8 rk, .int .i64 rf, .int .i64 rn, .string ⟨#[]⟩, .string ⟨#[]⟩, .bool false, .string rkey, .string ren, .slice ro rl rc] 64)).heap[w1.heap.size]? = some (.cells #[.int .u8 rk, .int .i64 rf, .int .i64 rn, .string ⟨#[]⟩, .string ⟨#[]⟩, .bool false, .string rkey, .string ren, .slice ro rl rc] 64 (0, 0)) := heap_alloc_new w1 _
  have hf2 : Fr [] w1 (w1.alloc (.cells #[.int .u8 rk, .int .i64 rf, .int .i64 rn, .string ⟨#[]⟩, .string ⟨#[]⟩, .bool false, .string rkey, .string ren, .slice ro rl rc] 64)) := Fr.alloc _ _ _
  obtain ⟨w2, HW2⟩ : ∃ w2, Hid (w1.alloc (.cells #[.int .u8 rk, .int .i64 rf, .int .i64 rn, .string ⟨#[]⟩, .string ⟨#[]⟩, .bool false, .string rkey, .string ren, .slice ro rl rc] 64) = w2) := ⟨_, rfl⟩
  obtain ⟨b6, hb6⟩ : ∃ b, b = w1.heap.size := ⟨_, rfl⟩
  rw [HW2.out] at hr6 hf2 ⊢
  rw [← hb6] at hr6 ⊢
  refine (HC.out _ (HF1.out.then hf2)).mono ?_
  rintro e w3 ⟨ro', rc', rfl, _, hown, hf3⟩
  have h3 : w3.heap[w.heap.size]? = some (.cells Rv.zero.a 64 (0, 0)) := hf3.keep (hf2.keep HR3.out (by simp)) (by simp)
  have h6 := hf3.keep hr6 (by simp)
  have hne : w.heap.size ≠ b6 := by have := HS1.out; omega
  have hlt : b6 < w2.heap.size := lt_of_block hr6
  have hs3 : w2.heap.size ≤ w3.heap.size := hf3.size
  have HF3 : Hid (Fr [] w w3) := (HF1.out.then hf2).then hf3
  have HO : Hid (w3.ownsRow w2.heap.size 3 1 (.slice ro' rl rc') rl (intsC bs)) := hown
  have c8 : w3.cell? ⟨b6, 8, none⟩ = some (.slice ro rl rc) := by rw [cell_of_row _ _ _ _ _ _ h6]; rfl
  have z8 : w3.frozen? ⟨b6, 8, none⟩ = false := by simp [World.frozen?, h6]
  have h6' : (w3.setCell ⟨b6, 8, none⟩ (.slice ro' rl rc')).heap[b6]? = some (.cells #[.int .u8 rk, .int .i64 rf, .int .i64 rn, .string ⟨#[]⟩, .string ⟨#[]⟩, .bool false, .string rkey, .string ren, .slice ro' rl rc'] 64 (0, 0)) := by rw [row_put17 _ h6]; rfl
  have hf4 : Fr [b6] w3 (w3.setCell ⟨b6, 8, none⟩ (.slice ro' rl rc')) := Fr.set _ _ _ (by simp)
  have h3' := hf4.keep h3 (by simp; exact hne)
  have HB6 : Hid (b6 = w1.heap.size) := hb6
  clear hown hf3 hr6 hf2 HW2 h3 h6 HC hb6
  go_upto_region 3 with fail
  generalize (w3.setCell ⟨b6, 8, none⟩ (.slice ro' rl rc')) = w4 at h6' hf4 h3' ⊢
  have HF4 : Hid (Fr [b6] w3 w4) := hf4
  have d0 : w4.cell? ⟨b6, 0, none⟩ = some (.int .u8 rk) := by rw [cell_of_row _ _ _ _ _ _ h6']; rfl
  have d1 : w4.cell? ⟨b6, 1, none⟩ = some (.int .i64 rf) := by rw [cell_of_row _ _ _ _ _ _ h6']; rfl
  have d2 : w4.cell? ⟨b6, 2, none⟩ = some (.int .i64 rn) := by rw [cell_of_row _ _ _ _ _ _ h6']; rfl
  have d3 : w4.cell? ⟨b6, 3, none⟩ = some (.string ⟨#[]⟩) := by rw [cell_of_row _ _ _ _ _ _ h6']; rfl
  have d4 : w4.cell? ⟨b6, 4, none⟩ = some (.string ⟨#[]⟩) := by rw [cell_of_row _ _ _ _ _ _ h6']; rfl
  have d5 : w4.cell? ⟨b6, 5, none⟩ = some (.bool false) := by rw [cell_of_row _ _ _ _ _ _ h6']; rfl
  have d6 : w4.cell? ⟨b6, 6, none⟩ = some (.string rkey) := by rw [cell_of_row _ _ _ _ _ _ h6']; rfl
  have d7 : w4.cell? ⟨b6, 7, none⟩ = some (.string ren) := by rw [cell_of_row _ _ _ _ _ _ h6']; rfl
  have d8 : w4.cell? ⟨b6, 8, none⟩ = some (.slice ro' rl rc') := by rw [cell_of_row _ _ _ _ _ _ h6']; rfl
  obtain ⟨b3, hb3⟩ : ∃ b, b = w.heap.size := ⟨_, rfl⟩
  rw [← hb3] at h3' hne ⊢
  have hne2 : b6 ≠ b3 := fun e => hne e.symm
  have e0 : w4.cell? ⟨b3, 0, none⟩ = some (.int .u8 0) := by rw [cell_of_row _ _ _ _ _ _ h3']; rfl
  have e1 : w4.cell? ⟨b3, 1, none⟩ = some (.int .i64 0) := by rw [cell_of_row _ _ _ _ _ _ h3']; rfl
  have e2 : w4.cell? ⟨b3, 2, none⟩ = some (.int .i64 0) := by rw [cell_of_row _ _ _ _ _ _ h3']; rfl
  have e3 : w4.cell? ⟨b3, 3, none⟩ = some (.string ⟨#[]⟩) := by rw [cell_of_row _ _ _ _ _ _ h3']; rfl
  have e4 : w4.cell? ⟨b3, 4, none⟩ = some (.string ⟨#[]⟩) := by rw [cell_of_row _ _ _ _ _ _ h3']; rfl
  have e5 : w4.cell? ⟨b3, 5, none⟩ = some (.bool false) := by rw [cell_of_row _ _ _ _ _ _ h3']; rfl
  have e6 : w4.cell? ⟨b3, 6, none⟩ = some (.string ⟨#[]⟩) := by rw [cell_of_row _ _ _ _ _ _ h3']; rfl
  have e7 : w4.cell? ⟨b3, 7, none⟩ = some (.string ⟨#[]⟩) := by rw [cell_of_row _ _ _ _ _ _ h3']; rfl
  have e8 : w4.cell? ⟨b3, 8, none⟩ = some (.slice none 0 0) := by rw [cell_of_row _ _ _ _ _ _ h3']; rfl
  have zz : ∀ j, w4.frozen? ⟨b3, j, none⟩ = false := fun j => by simp [World.frozen?, h3']
  have hfin := row9_17 (.int .u8 rk) (.int .i64 rf) (.int .i64 rn) (.string ⟨#[]⟩) (.string ⟨#[]⟩) (.bool false) (.string rkey) (.string ren) (.slice ro' rl rc') h3'
  obtain ⟨p1, p2⟩ := next_fin hfin
  have HFI : Hid (_ ∧ _) := ⟨p1, p2⟩
  have HBB : Hid (b3 = w.heap.size) := hb3
  clear h6' h3' hf4 c8 z8 hfin hb3 p1 p2
  go_region
  go_wp2
  refine bodyPost_ret (results_tct17 rfl _ _ _ b3 _ rfl (load_req ⟨rk, rf, rn, rkey, ren, ro', rl, rc'⟩ HFI.out.1)) rfl ?_
  have hb := HBB.out
  have h6 := HB6.out
  have hs1 := HS1.out
  have f9 := HFI.out.2
  have f39 : Fr [b6, b3] w3 _ := HF4.out.trans f9 (fun x hx _ => by simp at hx; simp [hx]) (fun x hx _ => by simp at hx; simp [hx])
  have hfb : ∀ k, (Value.slice ro' rl rc').ownBlock = some k → k ∉ [b6, b3] := fun k hk hmm => by
    have := (owns_cells17 HO.out hk).1
    simp at hmm
    omega
  exact ⟨ro', rc', rfl, owns_less17 (owns_keep17 HO.out f39 hfb) (by have := HF1.out.size; omega), HF3.out.on f39 (fun x hx => by simp at hx; omega)⟩
/-- The numbers that the next request names. -/
def Tk.nxBs (T : Tk) (bs : List Int) : List Int := if T.bg = true ∧ T.ak < T.nR then bs else []
theorem qNext_any {w : World} {t : Nat} {T : Tk} {bs : List Int} (h : TkM w t T) (hn : T.n < 0) (hm : Cf.may ⟨T.l, T.s, T.x, T.q⟩) (hc : okC T.k T.key T.en) (hak : T.ak ≤ 16) (hI : IRs w T.r.bo bs) (hl : T.r.bl = bs.length) (hb : T.r.bl ≤ 131072) :
    Calls Tryz.prog 10 #[.pointer (some ⟨t, 0, none⟩)] w fun e w' => ∃ ro rc, e = .returned (.tuple #[.int .i64 T.nxS, Rv.v { T.nxR with bo := ro, bc := rc }, .bool T.nxB]) ∧ w'.ownsRow w.heap.size 3 1 (.slice ro T.nxR.bl rc) T.nxR.bl (intsC (T.nxBs bs)) ∧ Fr [] w w' := by
  refine qNext_of (some ⟨t, 0, none⟩) T.nxS T.nxR T.nxB (T.nxBs bs) w (fun W hW => qnext_any (h.keep hW (by simp)) hn hm hc hak) ?_ ?_ ?_
  · by_cases hh : T.bg = true ∧ T.ak < T.nR
    · rw [show T.nxR = T.r from if_pos hh, show T.nxBs bs = bs from if_pos hh]; exact hI
    · rw [show T.nxR = Rv.zero from if_neg hh, show T.nxBs bs = [] from if_neg hh]; exact ⟨fun h => by simp at h, by simp⟩
  · by_cases hh : T.bg = true ∧ T.ak < T.nR
    · rw [show T.nxR = T.r from if_pos hh, show T.nxBs bs = bs from if_pos hh]; exact hl
    · rw [show T.nxR = Rv.zero from if_neg hh, show T.nxBs bs = [] from if_neg hh]; rfl
  · by_cases hh : T.bg = true ∧ T.ak < T.nR
    · rw [show T.nxR = T.r from if_pos hh]; exact hb
    · rw [show T.nxR = Rv.zero from if_neg hh]; exact Nat.zero_le _
theorem NoT.ptr {p : Value} {w : World} (h : NoT p w) : ∃ o, p = .pointer o := by
  rcases h with h | ⟨t, e, _⟩
  · exact ⟨_, h⟩
  · exact ⟨_, e⟩
theorem qNext_no {p : Value} {w : World} (h : NoT p w) : Calls Tryz.prog 10 #[p] w fun e w' => ∃ ro rc, e = .returned (.tuple #[.int .i64 0, Rv.v { Rv.zero with bo := ro, bc := rc }, .bool false]) ∧ w'.ownsRow w.heap.size 3 1 (.slice ro 0 rc) 0 [] ∧ Fr [] w w' := by
  obtain ⟨o, rfl⟩ := h.ptr
  exact qNext_of o 0 Rv.zero false [] w (fun W hW => qnext_no (h.keep hW)) ⟨fun h => by simp at h, by simp⟩ rfl (Nat.zero_le _)
end Go.Proofs.YtpdkdgmaofhlkaaGreatDoor
/- Sent, All: of a task that is there, and of one that is not. Conditions as each names them. -/
namespace Go.Proofs.YtpdkdgmaofhlkaaGreatDoor
open Go.ChangeShapes Go.WideShapes Go.ChangeAt Go.RowKit Go.Lib
set_option linter.unusedVariables false
set_option linter.unusedSimpArgs false

/-- What Sent answers. -/
def Tk.seE (T : Tk) : Int := if T.bg = true ∧ T.ak < T.nR then 0 else 9
theorem qSent_no {p : Value} {w : World} (h : NoT p w) : Calls Tryz.prog 9 #[p] w fun e w' => e = .returned (.int .i64 2) ∧ w = w' := by
  have HT : Hid (Calls _ _ _ _ _) := qthere_no h
  obtain ⟨o, rfl⟩ := h.ptr
  clear h
  go_enter Tryz.func9, Tryz.ntmps9
  go_wp2_with fail
  refine Calls.mono HT.out ?_
  rintro e w1 ⟨rfl, rfl⟩
  go_wp2
  go_ret
  exact ⟨rfl, rfl⟩
theorem Tk.nR_le (T : Tk) (hm : Cf.may ⟨T.l, T.s, T.x, T.q⟩) : T.nR ≤ 16 := by
  unfold Tk.nR
  have := hm.2.1.2
  simp only at this
  split <;> omega
set_option maxHeartbeats 800000 in
set_option maxRecDepth 100000 in
theorem qSent_any {w : World} {t : Nat} {T : Tk} (h : TkM w t T) (hn : T.n < 0) (hm : Cf.may ⟨T.l, T.s, T.x, T.q⟩) (hc : okC T.k T.key T.en) (hak : T.ak ≤ 16) :
    Calls Tryz.prog 9 #[.pointer (some ⟨t, 0, none⟩)] w fun e w' => e = .returned (.int .i64 T.seE) ∧ TkM w' t { T with ak := if T.bg = true ∧ T.ak < T.nR then T.ak + 1 else T.ak } ∧ Fr [t] w w' := by
  have HT : Hid (Calls _ _ _ _ _) := qthere_any h hn
  have hX := qnext_any h hn hm hc hak
  have HK : Hid (TkM w t T) := h
  by_cases hh : T.bg = true ∧ T.ak < T.nR
  · rw [show T.seE = 0 from if_pos hh, if_pos hh]
    rw [show T.nxB = true from decide_eq_true hh] at hX
    obtain ⟨S, hS⟩ : ∃ S, S = T.nxS := ⟨_, rfl⟩
    obtain ⟨r, hr⟩ : ∃ r, r = T.nxR := ⟨_, rfl⟩
    rw [← hS, ← hr] at hX
    obtain ⟨rk, rf, rn, rkey, ren, ro, rl, rc⟩ := r
    have HX : Hid (Calls Tryz.prog 24 #[.pointer (some ⟨t, 0, none⟩)] w fun e w' => e = .returned (.tuple #[.int .i64 S, .agg #[.int .u8 rk, .int .i64 rf, .int .i64 rn, .string ⟨#[]⟩, .string ⟨#[]⟩, .bool false, .string rkey, .string ren, .slice ro rl rc], .bool true]) ∧ Fr [] w w') := hX
    clear hX hS hr h hh hm hc
    go_enter Tryz.func9, Tryz.ntmps9
    go_wp2_with fail
    refine Calls.mono HT.out ?_
    rintro e w1 ⟨rfl, rfl⟩
    go_wp2_with fail
    refine Calls.mono HX.out ?_
    rintro e w1 ⟨rfl, hf1⟩
    have hk1 := (HK.out.keep hf1 (by simp)).keep (Fr.alloc [] w1 (.cells #[.int .u8 rk, .int .i64 rf, .int .i64 rn, .string ⟨#[]⟩, .string ⟨#[]⟩, .bool false, .string rkey, .string ren, .slice ro rl rc] 64)) (by simp)
    have hf2 := hf1.then (Fr.alloc [] w1 (.cells #[.int .u8 rk, .int .i64 rf, .int .i64 rn, .string ⟨#[]⟩, .string ⟨#[]⟩, .bool false, .string rkey, .string ren, .slice ro rl rc] 64))
    have c19 := hk1.c19
    have z19 := hk1.fz 19
    have HK1 : Hid (TkM _ t T ∧ Fr [] w _) := ⟨hk1, hf2⟩
    clear hk1 hf1 hf2 HX HT
    obtain ⟨ak, hakk⟩ : ∃ a, a = T.ak := ⟨_, rfl⟩
    rw [← hakk] at c19 hak
    have HAK : Hid (ak = T.ak) := hakk
    clear hakk
    go_wp2
    go_ret
    refine ⟨rfl, ?_, (HK1.out.2.mono (by intro x hx; simp at hx)).then (Fr.set _ _ _ (by simp))⟩
    have := row_put17 (j := 19) (.int .i64 ((ak : Int) + 1)) HK1.out.1
    rw [← HAK.out]
    exact this
  · rw [show T.seE = 9 from if_neg hh, if_neg hh]
    rw [show T.nxB = false from decide_eq_false hh, show T.nxS = 0 from if_neg hh, show T.nxR = Rv.zero from if_neg hh] at hX
    have HX : Hid (Calls Tryz.prog 24 #[.pointer (some ⟨t, 0, none⟩)] w fun e w' => e = .returned (.tuple #[.int .i64 0, .agg #[.int .u8 0, .int .i64 0, .int .i64 0, .string ⟨#[]⟩, .string ⟨#[]⟩, .bool false, .string ⟨#[]⟩, .string ⟨#[]⟩, .slice none 0 0], .bool false]) ∧ Fr [] w w') := hX
    clear hX h hh hm hc hak
    go_enter Tryz.func9, Tryz.ntmps9
    go_wp2_with fail
    refine Calls.mono HT.out ?_
    rintro e w1 ⟨rfl, rfl⟩
    go_wp2_with fail
    refine Calls.mono HX.out ?_
    rintro e w1 ⟨rfl, hf1⟩
    have HF1 : Hid (Fr [] w w1) := hf1
    clear hf1 HX HT
    go_wp2
    go_ret
    exact ⟨rfl, HK.out.keep (HF1.out.then (Fr.alloc [] w1 _)) (by simp), (HF1.out.then (Fr.alloc [] w1 _)).mono (by intro x hx; simp at hx)⟩
/-- What All answers. -/
def Tk.al (T : Tk) : Bool := decide (T.bg = true ∧ ¬ T.ak < T.nR ∧ T.rp = T.ak)
theorem qAll_no {p : Value} {w : World} (h : NoT p w) : Calls Tryz.prog 26 #[p] w fun e w' => e = .returned (.bool false) ∧ w = w' := by
  have HT : Hid (Calls _ _ _ _ _) := qthere_no h
  obtain ⟨o, rfl⟩ := h.ptr
  clear h
  go_enter Tryz.func26, Tryz.ntmps26
  go_wp2_with fail
  refine Calls.mono HT.out ?_
  rintro e w1 ⟨rfl, rfl⟩
  go_wp2
  go_ret
  exact ⟨rfl, rfl⟩
set_option maxHeartbeats 800000 in
set_option maxRecDepth 100000 in
theorem qAll_any {w : World} {t : Nat} {T : Tk} (h : TkM w t T) (hn : T.n < 0) (hm : Cf.may ⟨T.l, T.s, T.x, T.q⟩) (hc : okC T.k T.key T.en) (hak : T.ak ≤ 16) (hrp : T.rp ≤ 16) :
    Calls Tryz.prog 26 #[.pointer (some ⟨t, 0, none⟩)] w fun e w' => e = .returned (.bool T.al) ∧ Fr [] w w' := by
  have HT : Hid (Calls _ _ _ _ _) := qthere_any h hn
  have hX := qnext_any h hn hm hc hak
  have HK : Hid (TkM w t T) := h
  have c8 := h.c8
  cases hb : T.bg with
  | false =>
    rw [show T.al = false from decide_eq_false (fun hh => by rw [hb] at hh; cases hh.1)]
    rw [hb] at c8
    clear hX h
    go_enter Tryz.func26, Tryz.ntmps26
    go_wp2_with fail
    refine Calls.mono HT.out ?_
    rintro e w1 ⟨rfl, rfl⟩
    go_wp2
    go_ret
    exact ⟨rfl, Fr.refl _ _⟩
  | true =>
    rw [hb] at c8
    by_cases hlt : T.ak < T.nR
    · rw [show T.al = false from decide_eq_false (fun hh => hh.2.1 hlt)]
      rw [show T.nxB = true from decide_eq_true ⟨hb, hlt⟩] at hX
      obtain ⟨S, hS⟩ : ∃ S, S = T.nxS := ⟨_, rfl⟩
      obtain ⟨r, hr⟩ : ∃ r, r = T.nxR := ⟨_, rfl⟩
      rw [← hS, ← hr] at hX
      obtain ⟨rk, rf, rn, rkey, ren, ro, rl, rc⟩ := r
      have HX : Hid (Calls Tryz.prog 24 #[.pointer (some ⟨t, 0, none⟩)] w fun e w' => e = .returned (.tuple #[.int .i64 S, .agg #[.int .u8 rk, .int .i64 rf, .int .i64 rn, .string ⟨#[]⟩, .string ⟨#[]⟩, .bool false, .string rkey, .string ren, .slice ro rl rc], .bool true]) ∧ Fr [] w w') := hX
      clear hX hS hr h hm hc hlt hak hrp
      go_enter Tryz.func26, Tryz.ntmps26
      go_wp2_with fail
      refine Calls.mono HT.out ?_
      rintro e w1 ⟨rfl, rfl⟩
      go_wp2_with fail
      refine Calls.mono HX.out ?_
      rintro e w1 ⟨rfl, hf1⟩
      have HF1 : Hid (Fr [] w w1) := hf1
      clear hf1 HX HT
      go_wp2_with fail
      go_quiet (fail)
      go_wp2
      go_ret
      exact ⟨rfl, (HF1.out.then (Fr.alloc [] w1 _)).then (Fr.drewN _ _ _)⟩
    · have hno : ¬ (T.bg = true ∧ T.ak < T.nR) := fun hh => hlt hh.2
      rw [show T.nxB = false from decide_eq_false hno, show T.nxS = 0 from if_neg hno, show T.nxR = Rv.zero from if_neg hno] at hX
      have HX : Hid (Calls Tryz.prog 24 #[.pointer (some ⟨t, 0, none⟩)] w fun e w' => e = .returned (.tuple #[.int .i64 0, .agg #[.int .u8 0, .int .i64 0, .int .i64 0, .string ⟨#[]⟩, .string ⟨#[]⟩, .bool false, .string ⟨#[]⟩, .string ⟨#[]⟩, .slice none 0 0], .bool false]) ∧ Fr [] w w') := hX
      obtain ⟨ak, hakk⟩ : ∃ a, a = T.ak := ⟨_, rfl⟩
      obtain ⟨rp, hrpp⟩ : ∃ a, a = T.rp := ⟨_, rfl⟩
      have hal : T.al = decide (rp = ak) := by
        unfold Tk.al
        rw [hrpp, hakk, Bool.eq_iff_iff, decide_eq_true_eq, decide_eq_true_eq]
        exact ⟨fun h => h.2.2, fun h => ⟨hb, hlt, h⟩⟩
      rw [hal]
      have HQ : Hid (∀ W, Fr [] w W → W.cell? ⟨t, 19, none⟩ = some (.int .i64 (ak : Int)) ∧ W.cell? ⟨t, 20, none⟩ = some (.int .i64 (rp : Int))) := fun W hW => by
        rw [hakk, hrpp]
        exact ⟨(HK.out.keep hW (by simp)).c19, (HK.out.keep hW (by simp)).c20⟩
      rw [← hakk] at hak
      rw [← hrpp] at hrp
      clear hX h hm hc hlt hno hal hakk hrpp
      go_enter Tryz.func26, Tryz.ntmps26
      go_wp2_with fail
      refine Calls.mono HT.out ?_
      rintro e w1 ⟨rfl, rfl⟩
      go_wp2_with fail
      refine Calls.mono HX.out ?_
      rintro e w1 ⟨rfl, hf1⟩
      have HF1 : Hid (Fr [] w w1) := hf1
      obtain ⟨k1, k2⟩ := HQ.out _ (hf1.then (Fr.alloc [] w1 (.cells #[.int .u8 0, .int .i64 0, .int .i64 0, .string ⟨#[]⟩, .string ⟨#[]⟩, .bool false, .string ⟨#[]⟩, .string ⟨#[]⟩, .slice none 0 0] 64)))
      clear hf1 HX HT HQ
      have hqe : (((rp : Nat) : Int) == ((ak : Nat) : Int)) = decide (rp = ak) := by
        by_cases h : rp = ak
        · simp [h]
        · rw [decide_eq_false h, beq_eq_false_iff_ne]; omega
      go_wp2_with fail
      go_quiet (fail)
      go_wp2
      go_ret
      refine ⟨?_, (HF1.out.then (Fr.alloc [] w1 _)).then (Fr.drewN _ _ _)⟩
      first | rfl | (rw [hqe]) | (congr 2; exact hqe) | (simp [hqe])
end Go.Proofs.YtpdkdgmaofhlkaaGreatDoor
