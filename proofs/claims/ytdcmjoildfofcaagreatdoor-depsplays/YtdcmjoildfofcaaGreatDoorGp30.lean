/- Texts of this claim laid together, one behind the other: contracts and plain lemmas; conditions as each names them. -/
import Derived.Test.YtdcmjoildfofcaaGreatDoorGp21
import Derived.Test.YtdcmjoildfofcaaGreatDoorGp29
import Derived.Test.YtdcmjoildfofcaaGreatDoorGp18
import Derived.Laws.StructEq
/- SameInts. Conditions as each names them. -/
namespace Go.Proofs.YtdcmjoildfofcaaGreatDoor
open Go.ChangeShapes Go.WideShapes Go.ChangeAt Go.RowKit Go.Lib Go.Maps
set_option linter.unusedVariables false
set_option linter.unusedSimpArgs false

/-- The slice at ao reads as the numbers xs. -/
structure Is11 (w : World) (ao : Option Addr) (xs : List Int) : Prop where
  lies : 0 < xs.length → ∃ b off, ao = some ⟨b, off, none⟩ ∧ ∀ j, j < xs.length → w.cell? ⟨b, off + j, none⟩ = some (.int .i64 (xs.getD j 0))
theorem Is11.drewN {w : World} {ao : Option Addr} {xs : List Int} (h : Is11 w ao xs) (q : Nat) : Is11 (w.drewN q) ao xs := ⟨h.lies⟩
theorem IOw.is {base : Nat} {w : World} {o : Option Addr} {n c : Nat} {xs : List Int} (h : IOw base w o n c xs) : Is11 w o xs := by
  refine ⟨fun h0 => ?_⟩
  obtain ⟨g, e, _, _, hc⟩ := h.cells (by rw [h.len]; exact h0)
  exact ⟨g, 0, e, fun j hj => by rw [Nat.zero_add]; exact hc j (by rw [h.len]; exact hj)⟩
set_option maxHeartbeats 2000000 in
set_option maxRecDepth 100000 in
theorem same11 (a b : Option Addr) (L ca cb : Nat) (xs : List Int) (w : World) (ha : Is11 w a xs) (hb : Is11 w b xs) (hL : L = xs.length) (hLl : L < 2 ^ 40) :
    Calls Tryz.prog 17 #[.slice a L ca, .slice b L cb] w fun e w' => e = .returned (.bool true) ∧ Fr [] w w' := by
  have HL : Hid (L = xs.length) := hL
  have hne : ((L : Int) != L) = false := by simp
  clear hL
  by_cases h0 : 0 < L
  · obtain ⟨ba, oa, rfl, hca⟩ := ha.lies (by rw [← HL.out]; exact h0)
    obtain ⟨bb, ob, rfl, hcb⟩ := hb.lies (by rw [← HL.out]; exact h0)
    rw [← HL.out] at hca hcb
    go_enter Tryz.func17, Tryz.ntmps17
    go_wp2_with fail
    go_loopw [5] (fun ii wr => ∃ (i q : Nat), ii = .int .i64 i ∧ i ≤ L ∧ wr = w.drewN q) (fun ii _ => L - (RowKit.intOf ii).toNat)
    case atStart => exact ⟨0, 0, rfl, Nat.zero_le _, rfl⟩
    case round =>
      obtain ⟨i, q, rfl, hiL, rfl⟩ := hrel
      by_cases hi : i < L
      · have hx := hca i hi
        have hy := hcb i hi
        obtain ⟨x, hxx⟩ : ∃ x, x = xs.getD i 0 := ⟨_, rfl⟩
        rw [← hxx] at hx hy
        clear hxx hca hcb
        have hb1 : (x != x) = false := by simp
        go_wp2_with fail
        go_quiet (fail)
        go_wp2
        go_roundw
        case rel => exact ⟨i + 1, q + nq, by simp, by omega, by simp⟩
        case measure => simp [RowKit.intOf]; omega
      · go_wp2
        go_ret
        exact ⟨rfl, Fr.drewN _ _ _⟩
  · obtain rfl : L = 0 := by omega
    go_enter Tryz.func17, Tryz.ntmps17
    go_wp2_with fail
    refine wp_loop_rounds 1 ?_
    rw [rounds_succ]
    go_wp2
    go_ret
    exact ⟨rfl, Fr.refl _ _⟩
end Go.Proofs.YtdcmjoildfofcaaGreatDoor
/- Both tables side by side: each call on both sides, by one word. Conditions as each names them. -/
namespace Go.Proofs.YtdcmjoildfofcaaGreatDoor
open Go.ChangeShapes Go.WideShapes Go.ChangeAt Go.RowKit Go.Lib Go.Maps
set_option linter.unusedVariables false
set_option linter.unusedSimpArgs false

/-- Both tables keep the same log of which the same have ended, in blocks apart. -/
structure Bp (w : World) (tb g : Nat) (B RA : List Nat) (n : Nat) (L : Lg) (en : Int → Prop) : Prop where
  tl : Tl w tb B n L en
  rt : ∃ lo m c OB rs, RA = rall g lo OB ∧ Rt w g OB lo m c rs ∧ Rel rs L en
  ap : ∀ j ∈ B, j ∉ RA
section
variable {w w' : World} {tb g n : Nat} {B RA : List Nat} {L : Lg} {en : Int → Prop}
theorem Bp.keep {S : List Nat} (h : Bp w tb g B RA n L en) (hf : Fr S w w') (h1 : ∀ j ∈ B, j ∉ S) (h2 : ∀ j ∈ RA, j ∉ S) : Bp w' tb g B RA n L en := by
  obtain ⟨lo, m, c, OB, rs, rfl, hr, hl⟩ := h.rt
  exact ⟨h.tl.keep hf h1, ⟨lo, m, c, OB, rs, rfl, hr.keep hf h2, hl⟩, h.ap⟩
theorem Bp.quiet (h : Bp w tb g B RA n L en) (hf : Fr [] w w') : Bp w' tb g B RA n L en := h.keep hf (by simp) (by simp)
theorem Bp.mine (h : Bp w tb g B RA n L en) : ∀ j, j ∈ B ∨ j ∈ RA → j < w.heap.size := by
  obtain ⟨lo, m, c, OB, rs, rfl, hr, hl⟩ := h.rt
  rintro j (hj | hj)
  · exact h.tl.mine j hj
  · exact hr.mineA j hj
/-- What a call leaves of both: their blocks are old or new. -/
def Aft (w w2 : World) (tb g : Nat) (B RA : List Nat) (n : Nat) : Prop := ∃ B' RA' L' en', Bp w2 tb g B' RA' n L' en' ∧ (∀ j ∈ B', j ∈ B ∨ w.heap.size ≤ j) ∧ (∀ j ∈ RA', j ∈ RA ∨ w.heap.size ≤ j)
theorem rel_at {lo : Option Addr} {m c : Nat} {OB : List Nat} {rs : List Ro} (hr : Rt w g OB lo m c rs) (hl : Rel rs L en) {x : Int} (hx : Op11 L en x) : ∃ k, k < m ∧ isAt rs x k ∧ ∀ j, j < m → isAt rs x j → j = k := by
  obtain ⟨k, hk, h1, h2⟩ := (hl.op_iff x).1 hx
  refine ⟨k, by rw [hr.len]; exact hk, ⟨h1, h2⟩, fun j hj hj2 => ?_⟩
  rw [hr.len] at hj
  apply Classical.byContradiction
  intro hne
  rcases Nat.lt_or_gt_of_ne hne with h3 | h3
  · have := hl.lt h3 hk; have := hj2.1; omega
  · have := hl.lt h3 hj; have := hj2.1; omega
theorem rel_no {lo : Option Addr} {m c : Nat} {OB : List Nat} {rs : List Ro} (hr : Rt w g OB lo m c rs) (hl : Rel rs L en) {x : Int} (hx : ¬ Op11 L en x) : ∀ k, k < m → ¬ isAt rs x k := fun k hk hat => hx ((hl.op_iff x).2 ⟨k, by rw [← hr.len]; exact hk, hat.1, hat.2⟩)
theorem bp_last (h : Bp w tb g B RA n L en) (key : ByteArray) (hk : key.size ≤ 140737488355328) : (∀ W, Fr [] w W → Calls Tryz.prog 21 #[.pointer (some ⟨tb, 0, none⟩), .string key] W fun e w' => e = .returned (.int .i64 (lst L key)) ∧ Fr [] W w') ∧ (∀ W, Fr [] w W → Calls Tryz.prog 22 #[.pointer (some ⟨g, 0, none⟩), .string key] W fun e w' => e = .returned (.int .i64 (lst L key)) ∧ Fr [] W w') := by
  obtain ⟨lo, m, c, OB, rs, rfl, hr, hl⟩ := h.rt
  exact ⟨fun W hf => tl_last key W (h.tl.quiet hf) hk, fun W hf => uLast_any key W (hr.quiet hf) hl hk⟩
theorem opens_mem {rs : List Ro} (hl : Rel rs L en) (x : Int) : x ∈ opens rs ↔ Op11 L en x := by
  rw [hl.op_iff]
  unfold opens
  rw [List.mem_map]
  constructor
  · rintro ⟨r, hr2, rfl⟩
    obtain ⟨h1, h2⟩ := List.mem_filter.1 hr2
    obtain ⟨k, hk, e⟩ := List.getElem_of_mem h1
    exact ⟨k, hk, by rw [ro_get hk, e], by rw [ro_get hk, e]; simpa using h2⟩
  · rintro ⟨k, hk, rfl, h2⟩
    exact ⟨_, List.mem_filter.2 ⟨ro_mem hk, by rw [h2]; rfl⟩, rfl⟩
open Classical in
theorem adt_ex {rs : List Ro} (hl : Rel rs L en) (ks : List ByteArray) : ∃ xs, AdT L en ks xs := by
  refine ⟨(opens rs).filter fun m => decide (∃ k ∈ ks, lst L k = m), Ris.filter (hl.nums _) _, fun m => ?_⟩
  rw [List.mem_filter, opens_mem hl]
  simp
theorem bp_open (h : Bp w tb g B RA n L en) (hn : n < 1099511627776) : ∃ zs : List Int, zs.length ≤ 65536 ∧ Calls Tryz.prog 23 #[.pointer (some ⟨tb, 0, none⟩)] w (fun e w1 => ∃ so N c, e = .returned (.slice so N c) ∧ IOw w.heap.size w1 so N c zs ∧ Fr [] w w1) ∧
    ∀ W, Fr [] w W → Calls Tryz.prog 24 #[.pointer (some ⟨g, 0, none⟩)] W fun e w2 => ∃ so N c, e = .returned (.slice so N c) ∧ IOw W.heap.size w2 so N c zs ∧ Fr [] W w2 := by
  obtain ⟨lo, m, c, OB, rs, rfl, hr, hl⟩ := h.rt
  have hmem : ∀ x, x ∈ opens rs ↔ Op11 L en x := opens_mem hl
  have hris : Ris (opens rs) := hl.nums _
  refine ⟨opens rs, ?_, (tl_open w h.tl hn).mono ?_, fun W hf => uOpen_any W (hr.quiet hf)⟩
  · exact Ris.few (a := 1) hris (fun x hx => by have := hr.small hl x ((hmem x).1 hx); omega)
  · rintro e w1 ⟨so, N, cc, ys, rfl, hO, hR, hM, hF⟩
    obtain rfl : ys = opens rs := Ris.one hR hris (fun x => by rw [hM x, hmem x])
    exact ⟨so, N, cc, rfl, hO, hF⟩
theorem bp_waits (h : Bp w tb g B RA n L en) (x : Int) (hx : i64 x) : ∃ (zs : List Int) (er : Int), zs.length ≤ 65536 ∧ Calls Tryz.prog 19 #[.pointer (some ⟨tb, 0, none⟩), .int .i64 x] w (fun e w1 => ∃ so N c, e = .returned (.tuple #[.slice so N c, .int .i64 er]) ∧ IOw w.heap.size w1 so N c zs ∧ Fr [] w w1) ∧
    ∀ W, Fr [] w W → Calls Tryz.prog 20 #[.pointer (some ⟨g, 0, none⟩), .int .i64 x] W fun e w2 => ∃ so N c, e = .returned (.tuple #[.slice so N c, .int .i64 er]) ∧ N = zs.length ∧ Is11 w2 so zs ∧ Fr [] W w2 := by
  obtain ⟨lo, m, c, OB, rs, rfl, hr, hl⟩ := h.rt
  by_cases ho : Op11 L en x
  · obtain ⟨k, hk, hat, huni⟩ := rel_at hr hl ho
    have hkl : k < rs.length := by rw [← hr.len]; exact hk
    have hE := hr.each _ (ro_mem hkl)
    have hwt := hl.wt _ (ro_mem hkl)
    rw [hat.1] at hwt
    refine ⟨(rs.getD k Ro.zero).xs, 0, by have := hE.al; have := hE.af; omega, (tl_waits x w h.tl ho).mono ?_, fun W hf => (uWaits_any x W (hr.quiet hf) hk hat huni).mono ?_⟩
    · rintro e w1 ⟨so, N, cc, ys, rfl, hO, hW, hF⟩
      obtain rfl : ys = (rs.getD k Ro.zero).xs := Ris.one hW.1 hwt.1 (fun q => by rw [hW.2 q, hwt.2 q])
      exact ⟨so, N, cc, rfl, hO, hF⟩
    · rintro e w2 ⟨rfl, hF⟩
      have hE2 := ((hr.quiet hf).quiet hF).each _ (ro_mem hkl)
      refine ⟨_, _, _, rfl, hE2.al, ⟨fun h0 => ?_⟩, hF⟩
      obtain ⟨b, off, e, _, hc⟩ := hE2.ar.lies h0
      exact ⟨b, off, e, hc⟩
  · refine ⟨[], 1, by simp, (tl_waits_arg x w h.tl hx ho).mono ?_, fun W hf => (uWaits_no x W (hr.quiet hf) (rel_no hr hl ho)).mono ?_⟩
    · rintro e w1 ⟨rfl, hF⟩
      exact ⟨none, 0, 0, rfl, IOw.nil _ _, hF⟩
    · rintro e w2 ⟨rfl, hF⟩
      exact ⟨none, 0, 0, rfl, rfl, ⟨fun h0 => by simp at h0⟩, hF⟩
/-- Done, on both sides. -/
theorem bp_done (h : Bp w tb g B RA n L en) (x : Int) (hx : i64 x) : ∃ (zs : List Int) (er : Int), zs.length ≤ 65536 ∧ Calls Tryz.prog 15 #[.pointer (some ⟨tb, 0, none⟩), .int .i64 x] w fun e w1 => ∃ so N c, e = .returned (.tuple #[.slice so N c, .int .i64 er]) ∧ IOw w.heap.size w1 so N c zs ∧ Fr B w w1 ∧
    Calls Tryz.prog 16 #[.pointer (some ⟨g, 0, none⟩), .int .i64 x] w1 fun e w2 => ∃ so2 N2 c2, e = .returned (.tuple #[.slice so2 N2 c2, .int .i64 er]) ∧ IOw w1.heap.size w2 so2 N2 c2 zs ∧ Fr RA w1 w2 ∧ (∃ RA' L' en', Bp w2 tb g B RA' n L' en' ∧ ∀ j ∈ RA', j ∈ RA ∨ w1.heap.size ≤ j) := by
  obtain ⟨lo, m, c, OB, rs, rfl, hr, hl⟩ := h.rt
  have hBm := h.tl.mine
  by_cases ho : Op11 L en x
  · obtain ⟨k, hk, hat, huni⟩ := rel_at hr hl ho
    have hkl : k < rs.length := by rw [← hr.len]; exact hk
    have hwt := hl.wt _ (ro_mem hkl)
    rw [hat.1] at hwt
    by_cases hxs : (rs.getD k Ro.zero).xs = []
    · have hfr : ∀ y, Op11 L en y → ¬ Dep L x y := fun y hy hd => by
        have := (hwt.2 y).2 ⟨hy, hd⟩
        rw [hxs] at this
        simp at this
      have hdt := hl.freed ho
      refine ⟨freed x rs, 0, ?_, (tl_done x w h.tl ho hfr).mono ?_⟩
      · exact Ris.few (a := 1) hdt.1 (fun y hy => by have := hr.small hl y ((hdt.2 y).1 hy).1; omega)
      · rintro e w1 ⟨so, N, cc, zs, rfl, hO, hD, hT, hF⟩
        obtain rfl : zs = freed x rs := Ris.one hD.1 hdt.1 (fun y => by rw [hD.2 y, hdt.2 y])
        have hr1 : Rt w1 g OB lo m c rs := hr.keep hF (fun j hj hm => h.ap j hm hj)
        refine ⟨so, N, cc, rfl, hO, hF, (uDone_any x w1 hr1 hk hat huni hxs).mono ?_⟩
        rintro e w2 ⟨so2, N2, c2, qs, OB', rfl, hO2, hR2, hH, hOB, hF2⟩
        have hl2 : Rel qs L (fun y => en y ∨ y = x) := hl.done hkl hat.1 hxs hH.1 (fun i hi => by
          obtain ⟨g1, g2, g3, g4⟩ := hH.2 i hi
          rw [if_pos (by rw [hr.len]; exact hi)] at g4
          exact ⟨g1, g2, g3, g4⟩)
        have hnew : ∀ j ∈ rall g lo OB', j ∈ rall g lo OB ∨ w1.heap.size ≤ j := fun j hj => by
          simp only [rall, List.mem_cons, List.mem_append, Option.mem_toList] at hj ⊢
          rcases hj with hj | hj | hj
          · exact Or.inl (Or.inl hj)
          · exact Or.inl (Or.inr (Or.inl hj))
          · rcases hOB j hj with e | e
            · exact Or.inl (Or.inr (Or.inr e))
            · exact Or.inr e
        refine ⟨so2, N2, c2, rfl, hO2, hF2, rall g lo OB', L, _, ⟨hT.keep hF2 (fun j hj hm => h.ap j hj hm), ⟨lo, m, c, OB', qs, rfl, hR2, hl2⟩, fun j hj hm => ?_⟩, hnew⟩
        rcases hnew j hm with e | e
        · exact h.ap j hj e
        · have := hBm j hj; have := hF.size; omega
    · obtain ⟨y, hy⟩ := List.exists_mem_of_ne_nil _ hxs
      obtain ⟨hy1, hy2⟩ := (hwt.2 y).1 hy
      refine ⟨[], 6, by simp, (tl_done_no x y w h.tl ho hy1 hy2).mono ?_⟩
      rintro e w1 ⟨rfl, hF⟩
      refine ⟨none, 0, 0, rfl, IOw.nil _ _, hF.mono (by simp), (uDone_order x w1 (hr.quiet hF) hk hat huni hxs).mono ?_⟩
      rintro e w2 ⟨rfl, hF2⟩
      exact ⟨none, 0, 0, rfl, IOw.nil _ _, hF2.mono (by simp), _, L, en, (h.quiet hF).quiet hF2, fun j hj => Or.inl hj⟩
  · refine ⟨[], 1, by simp, (tl_done_arg x w h.tl hx ho).mono ?_⟩
    rintro e w1 ⟨rfl, hF⟩
    refine ⟨none, 0, 0, rfl, IOw.nil _ _, hF.mono (by simp), (uDone_no x w1 (hr.quiet hF) (rel_no hr hl ho)).mono ?_⟩
    rintro e w2 ⟨rfl, hF2⟩
    exact ⟨none, 0, 0, rfl, IOw.nil _ _, hF2.mono (by simp), _, L, en, (h.quiet hF).quiet hF2, fun j hj => Or.inl hj⟩
/-- Add, on both sides: the program is handed a twin. -/
theorem bp_add (h : Bp w tb g B RA n L en) (nn : Int) (wo ta : Option Addr) (M mc tc : Nat) (ws : List Wt) (hW : WRs w wo ws) (hT : WRs w ta ws) (hM : M = ws.length) (hni : i64 nn) (hn : n < 1073741824) (hWB : 0 < ws.length → ∀ a, wo = some a → a.block ∉ B) (hTB : 0 < ws.length → ∀ a, ta = some a → a.block ∉ B) :
    ∃ (v er : Int), Calls Tryz.prog 11 #[.pointer (some ⟨tb, 0, none⟩), .agg #[.int .i64 nn, .slice ta M tc]] w fun e w1 => e = .returned (.tuple #[.int .i64 v, .int .i64 er]) ∧ Fr B w w1 ∧
    Calls Tryz.prog 12 #[.pointer (some ⟨g, 0, none⟩), .agg #[.int .i64 nn, .slice wo M mc]] w1 fun e w2 => e = .returned (.tuple #[.int .i64 v, .int .i64 er]) ∧ Fr RA w1 w2 ∧ (∃ B' RA' L' en', Bp w2 tb g B' RA' (n + 65) L' en' ∧ (∀ j ∈ B', j ∈ B ∨ w.heap.size ≤ j) ∧ (∀ j ∈ RA', j ∈ RA ∨ w1.heap.size ≤ j)) := by
  obtain ⟨lo, m, c, OB, rs, rfl, hr, hl⟩ := h.rt
  have hBm := h.tl.mine
  by_cases hok : okT nn ws
  · by_cases hnew : ∀ p ∈ L, p.1 < nn
    · -- both add
      obtain ⟨xs, hxs⟩ := adt_ex hl (keysW ws)
      refine ⟨((xs.length : Nat) : Int), 0, (tl_add nn ta M tc ws w h.tl hT hM hok hnew hn hTB).mono ?_⟩
      rintro e w1 ⟨ys, B', rfl, hA, hT1, hB', hF⟩
      obtain rfl : ys = xs := Ris.one hA.1 hxs.1 (fun q => by rw [hA.2 q, hxs.2 q])
      have hr1 : Rt w1 g OB lo m c rs := hr.keep hF (fun j hj hm => h.ap j hm hj)
      refine ⟨rfl, hF, (uAdd_any nn wo M mc ws w1 hr1 hl (hW.keepS hF hWB) hM hok hnew).mono ?_⟩
      rintro e w2 ⟨zs, lo', c', OB', r, rfl, hZ, hR2, e1, e2, e3, e4, hOB, hF2⟩
      obtain rfl : zs = ys := Ris.one hZ.1 hxs.1 (fun q => by rw [hZ.2 q, hxs.2 q])
      have hl2 : Rel (rs ++ [r]) (L ++ [(r.num, keysW r.ws)]) en := hl.add (by rw [e1]; exact hnew) (by rw [e1]; exact hok.1) (by rw [e2, e3]; exact hZ) e4
      rw [e1, e2] at hl2
      refine ⟨rfl, hF2, B', rall g lo' OB', _, en, ⟨hT1.keep hF2 (fun j hj hm => ?_), ⟨lo', m + 1, c', OB', rs ++ [r], rfl, hR2, hl2⟩, fun j hj hm => ?_⟩, hB', hOB⟩
      · rcases hB' j hj with e | e
        · exact h.ap j e hm
        · have := hr.mineA j hm; omega
      · rcases hOB j hm with e | e
        · rcases hB' j hj with e5 | e5
          · exact h.ap j e5 e
          · have := hr.mineA j e; omega
        · have := hT1.mine j hj; omega
    · obtain ⟨p, hp, hle⟩ : ∃ p ∈ L, nn ≤ p.1 := by
        apply Classical.byContradiction
        intro hc
        exact hnew (fun p hp => by
          apply Classical.byContradiction
          intro h2
          exact hc ⟨p, hp, by omega⟩)
      refine ⟨0, 6, (tl_add_order nn ta M tc ws w h.tl hT hM hok p hp hle).mono ?_⟩
      rintro e w1 ⟨rfl, hF⟩
      refine ⟨rfl, hF.mono (by simp), (uAdd_order nn wo M mc ws w1 (hr.quiet hF) hl (hW.keep hF) hM hok p hp hle).mono ?_⟩
      rintro e w2 ⟨rfl, hF2⟩
      have h2 := (h.quiet hF).quiet hF2
      exact ⟨rfl, hF2.mono (by simp), B, _, L, en, ⟨h2.tl.mono (by omega), h2.rt, h2.ap⟩, fun j hj => Or.inl hj, fun j hj => Or.inl hj⟩
  · refine ⟨0, 1, (tl_add_arg nn ta M tc ws w h.tl hT hM hni hok).mono ?_⟩
    rintro e w1 ⟨rfl, hF⟩
    refine ⟨rfl, hF.mono (by simp), (uAdd_arg nn wo M mc ws w1 (hW.keep hF) hM hni hok).mono ?_⟩
    rintro e w2 ⟨rfl, hF2⟩
    have h2 := (h.quiet hF).quiet hF2
    exact ⟨rfl, hF2.mono (by simp), B, _, L, en, ⟨h2.tl.mono (by omega), h2.rt, h2.ap⟩, fun j hj => Or.inl hj, fun j hj => Or.inl hj⟩
end
end Go.Proofs.YtdcmjoildfofcaaGreatDoor
/- What == and != say of two writes. No conditions. -/
namespace Go.Proofs.YtdcmjoildfofcaaGreatDoor
open Go.ChangeShapes Go.WideShapes Go.ChangeAt Go.RowKit Go.Lib
set_option linter.unusedVariables false
theorem Tryz.undWt : Tryz.prog.underlying 82 = some (.struct (Tryz.prog.fieldsOf 82)) := by kernel_rfl
theorem Tryz.heldWt : Tryz.prog.stoodInHeld 82 = false := by kernel_rfl
theorem Tryz.guardWt : Tryz.prog.eqGuardType Tryz.prog.depth 82 = false := by kernel_rfl
theorem Tryz.fieldsWt : (Tryz.prog.fieldsOf 82).toList.map (fun f => (f.name == "_", f.type, f.offset)) = [(false, 9, 0), (false, 9, 1), (false, 4, 2)] := by kernel_rfl
theorem Tryz.undBool : Tryz.prog.underlying 4 = some .bool := by kernel_rfl
theorem Tryz.infoStr1 : (Tryz.prog.info? 9).map (fun i => i.size) = some 1 := by kernel_rfl
theorem Tryz.infoBool1 : (Tryz.prog.info? 4).map (fun i => i.size) = some 1 := by kernel_rfl
theorem part_str (w : World) (cs : Array Value) (off : Nat) (v : Value) (h : cs[off]? = some v) : (part 9 cs off).run Tryz.prog w = .ok v w := by
  simp [part, isAgg, run_underlying Tryz.undStr, h, Sem.run_bind]
theorem part_bool (w : World) (cs : Array Value) (off : Nat) (v : Value) (h : cs[off]? = some v) : (part 4 cs off).run Tryz.prog w = .ok v w := by
  simp [part, isAgg, run_underlying Tryz.undBool, h, Sem.run_bind]
theorem eq_str (w : World) (a b : ByteArray) : (Op.equalIn 9999 9 (.string a) (.string b)).run Tryz.prog w = .ok (a.toList == b.toList) w := run_equalIn_string w 9998 _ a b Tryz.undStr
theorem eq_bool (w : World) (a b : Bool) : (Op.equalIn 9999 4 (.bool a) (.bool b)).run Tryz.prog w = .ok (a == b) w := run_equalIn_bool w 9998 _ a b Tryz.undBool
theorem step_field {P : Program} {w : World} {A B : Sem Value} {E : Value → Value → Sem Bool} {K : Sem Bool} {a b : Value} {r : Bool} (hA : A.run P w = .ok a w) (hB : B.run P w = .ok b w) (hE : (E a b).run P w = .ok r w) :
    (do let a ← A; let b ← B; let r ← E a b; if (!r) = true then pure false else K : Sem Bool).run P w = if r = true then K.run P w else .ok false w := by
  simp only [Sem.run_bind, hA, hB, hE, Result.andThen_ok]
  cases r <;> simp
set_option maxRecDepth 100000 in
theorem wt_fields (w : World) (k1 v1 k2 v2 : ByteArray) (p1 p2 : Bool) : (Op.equalIn 10000 82 (.agg #[.string k1, .string v1, .bool p1]) (.agg #[.string k2, .string v2, .bool p2])).run Tryz.prog w = .ok (k1.toList == k2.toList && (v1.toList == v2.toList && p1 == p2)) w := by
  rw [run_equalIn_struct w 9999 _ _ _ Tryz.undWt Tryz.heldWt]
  have hF := Tryz.fieldsWt
  obtain ⟨l, hl⟩ : ∃ l, l = (Tryz.prog.fieldsOf 82).toList := ⟨_, rfl⟩
  rw [← hl] at hF ⊢
  match l, hF with
  | [f0, f1, f2], hF =>
    simp only [List.map_cons, List.map_nil, List.cons.injEq, Prod.mk.injEq, and_true] at hF
    obtain ⟨⟨n0, t0, o0⟩, ⟨n1, t1, o1⟩, ⟨n2, t2, o2⟩⟩ := hF
    have m0 : f0.name ≠ "_" := by simpa using n0
    have m1 : f1.name ≠ "_" := by simpa using n1
    have m2 : f2.name ≠ "_" := by simpa using n2
    simp only [Op.eqFields, if_pos m0, if_pos m1, if_pos m2, t0, t1, t2, o0, o1, o2]
    rw [step_field (part_str w _ 0 _ rfl) (part_str w _ 0 _ rfl) (eq_str w k1 k2)]
    rw [step_field (part_str w _ 1 _ rfl) (part_str w _ 1 _ rfl) (eq_str w v1 v2)]
    rw [step_field (part_bool w _ 2 _ rfl) (part_bool w _ 2 _ rfl) (eq_bool w p1 p2)]
    cases (k1.toList == k2.toList) <;> cases (v1.toList == v2.toList) <;> cases (p1 == p2) <;> simp
/-- Are two writes the same? -/
def sameW (x y : Wt) : Bool := x.key.toList == y.key.toList && (x.val.toList == y.val.toList && x.drop == y.drop)
theorem sameW_iff (x y : Wt) : sameW x y = true ↔ x = y := by
  obtain ⟨k1, v1, p1⟩ := x
  obtain ⟨k2, v2, p2⟩ := y
  simp only [sameW, Bool.and_eq_true, beq_iff_eq, tl_inj, Wt.mk.injEq]
theorem wt_in (w : World) (x y : Wt) : (Op.equalIn 10000 82 (.agg #[.string x.key, .string x.val, .bool x.drop]) (.agg #[.string y.key, .string y.val, .bool y.drop])).run Tryz.prog w = .ok (sameW x y) w := wt_fields w _ _ _ _ _ _
theorem wt_neq (w : World) (x y : Wt) : (binOp .neq 82 (.agg #[.string x.key, .string x.val, .bool x.drop]) (.agg #[.string y.key, .string y.val, .bool y.drop])).run Tryz.prog w = .ok (.bool (!sameW x y)) w := by
  rw [run_neq_struct, wt_fields]
  rfl
theorem wt_eql (w : World) (x y : Wt) : (binOp .eql 82 (.agg #[.string x.key, .string x.val, .bool x.drop]) (.agg #[.string y.key, .string y.val, .bool y.drop])).run Tryz.prog w = .ok (.bool (sameW x y)) w := by
  rw [run_eql_struct, wt_fields]
  rfl
end Go.Proofs.YtdcmjoildfofcaaGreatDoor
