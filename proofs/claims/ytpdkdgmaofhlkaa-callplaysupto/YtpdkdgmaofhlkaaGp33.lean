/- Texts of this claim laid together, one behind the other: contracts and plain lemmas; conditions as each names them. -/
import Derived.Test.YtpdkdgmaofhlkaaGp32
import Derived.Test.YtpdkdgmaofhlkaaGp31
/- The document's way to lay one of keys with their versions into its place. Conditions as each names them. -/
namespace Go.Proofs.Ytpdkdgmaofhlkaa
open Go.ChangeShapes Go.WideShapes Go.ChangeAt Go.RowKit Go.Lib Go.Sort
set_option linter.unusedVariables false
set_option linter.unusedSimpArgs false
/-- One more, behind a row of one's own. -/
theorem wpList_oneH (w0 w : World) {ops : Array Oper} {rest : List Oper} {o : Oper} {a : Act} {Q : Exit → Act → World → Prop} (hgd : o.guard = none) (s x : Operand)
    (ho : o.op = .call { callee := .builtin .append, args := #[s, x], argTypes := #[44, 44] })
    (so : Option Addr) (N c : Nat) (hs : List Hd) (hsv : a.eval s = .slice so N c) (hK : w.ownsRow w0.heap.size 88 2 (.slice so N c) N (hdsC hs)) (hN : N < 1099511627776) (h0 : w0.heap.size ≤ w.heap.size) (p : Hd) (hx : a.eval x = .slice (some ⟨w.heap.size, 0, none⟩) 1 1)
    (h : ∀ so' c' w', w'.ownsRow w0.heap.size 88 2 (.slice so' (N + 1) c') (N + 1) (hdsC (hs ++ [p])) → Fr (Value.slice so N c).ownBlock.toList w w' → wpList Try.prog ops Q rest (a.put o.dst (.slice so' (N + 1) c')) w') : wpList Try.prog ops Q (o :: rest) a (w.alloc (.cells #[.string p.key, .slice p.vo p.L p.cap] 88)) := by
  obtain ⟨i0, hi, hz0, hz1, hz2⟩ := infoKH_parts
  have hmx : 1099511627777 ≤ maxLen := by unfold maxLen; omega
  refine wpList_append_own (w.alloc (.cells #[.string p.key, .slice p.vo p.L p.cap] 88)) hgd s x 44 ho w0.heap.size 88 i0 _ 2 40 Try.undKH hi hz0 hz1 hz2 rfl (by decide) (.slice so N c) N (hdsC hs) hsv (owns_keepB hK (Fr.alloc [] w _) (by simp)) ⟨w.heap.size, 0, none⟩ 1 1 (hdC p) hx rfl ?_ (oneH p) (by omega) (by omega) (by simp; omega) ?_
  · intro j u hu
    have hr := heap_alloc_new w (.cells #[.string p.key, .slice p.vo p.L p.cap] 88)
    rw [Addr.add_lit, cell_of_row _ _ _ _ _ _ hr, Nat.zero_add]
    simpa [hdC] using hu
  · intro v' w' hown' hg' _
    obtain ⟨bo, cap', rfl⟩ : ∃ bo cap', v' = .slice bo (N + 1) cap' := by
      rcases hown'.2 with ⟨_, h1⟩ | ⟨g, cap, _, rfl, _⟩
      · omega
      · exact ⟨_, cap, rfl⟩
    refine h bo cap' w' ?_ (((Fr.alloc [] w _).mono (by intro y hy _; simp at hy)).then (Fr.grown hg' (fun y hy _ => Option.mem_toList.2 hy)))
    rw [hdsC_append]
    have : hdsC [p] = hdC p := by simp [hdsC]
    rw [this]
    exact hown'
/-- What the loop keeps. -/
structure InsIH (W0 wr : World) (bo : Option Addr) (n bc : Nat) (x : Hd) (ls os : List Hd) (d : Bool) (i : Nat) : Prop where
  len : n = os.length
  own : wr.ownsRow W0.heap.size 88 2 (.slice bo n bc) n (hdsC os)
  ins : InsP (ltB Hd.key) x ls os d i
  fr : Fr [] W0 wr
theorem InsIH.keep {W0 wr w2 : World} {bo : Option Addr} {n bc : Nat} {x : Hd} {ls os : List Hd} {d : Bool} {i : Nat} (h : InsIH W0 wr bo n bc x ls os d i) (hf : Fr [] wr w2) : InsIH W0 w2 bo n bc x ls os d i := ⟨h.len, owns_keepB h.own hf (by simp), h.ins, h.fr.then hf⟩
set_option maxHeartbeats 4000000 in
set_option maxRecDepth 100000 in
theorem ycHeld_any (ao : Option Addr) (N cap : Nat) (ls : List Hd) (x : Hd) (w : World) (hR : RrH w ao ls) (hN : N = ls.length) (hm : N < 137438953472) :
    Calls Try.prog 60 #[.slice ao N cap, .agg #[.string x.key, .slice x.vo x.L x.cap]] w fun e w' => ∃ ro rc, e = .returned (.slice ro (N + 1) rc) ∧ w'.ownsRow w.heap.size 88 2 (.slice ro (N + 1) rc) (N + 1) (hdsC (insK (ltB Hd.key) x ls)) ∧ Fr [] w w' := by
  have mixed : Try.prog.follows .mixedOrders = true := by kernel_rfl
  obtain ⟨W0, HW0⟩ : ∃ W0, Hid (w.alloc (.cells #[.string x.key, .slice x.vo x.L x.cap] 88) = W0) := ⟨_, rfl⟩
  have hA : Fr [] w W0 := by rw [← HW0.out]; exact Fr.alloc [] w _
  have hb : W0.heap[w.heap.size]? = some (.cells #[.string x.key, .slice x.vo x.L x.cap] 88 (0, 0)) := by rw [← HW0.out]; exact heap_alloc_new w _
  have HX : Hid (∀ W, Fr [] W0 W → W.cell? ⟨w.heap.size, 0, none⟩ = some (.string x.key) ∧ W.cell? ⟨w.heap.size, 1, none⟩ = some (.slice x.vo x.L x.cap)) := fun W hf => by
    have := hf.keep hb (by simp)
    exact ⟨by rw [cell_of_row _ _ _ _ _ _ this]; rfl, by rw [cell_of_row _ _ _ _ _ _ this]; rfl⟩
  have HL : Hid (∀ W i, Fr [] W0 W → i < N → ∃ b off, ao = some ⟨b, off, none⟩ ∧ W.cell? ⟨b, off + i * 2, none⟩ = some (.string (ls.getD i Hd.zero).key) ∧ W.cell? ⟨b, off + i * 2 + 1, none⟩ = some (.slice (ls.getD i Hd.zero).vo (ls.getD i Hd.zero).L (ls.getD i Hd.zero).cap)) := fun W i hf hi => by
    have hi' : i < ls.length := by rw [← hN]; exact hi
    have hR' := hR.keep (hA.then hf)
    have hc : ∀ c, c < 2 → (hdsC ls)[i * 2 + c]? = (hdC (ls.getD i Hd.zero))[c]? := fun c hc => hdsC_at ls i c hi' hc
    obtain ⟨b, off, e, _, h0⟩ := hR' (i * 2) _ (hc 0 (by omega))
    obtain ⟨b', off', e', _, h1⟩ := hR' (i * 2 + 1) _ (hc 1 (by omega))
    rw [e] at e'
    cases e'
    exact ⟨b, off, e, h0, by rw [show off + i * 2 + 1 = off + (i * 2 + 1) by omega]; exact h1⟩
  have HN : Hid (N = ls.length) := hN
  have HF0 : Hid (Fr [] w W0) := hA
  clear hR hN hA hb
  go_enter Try.func60, Try.ntmps60
  go_upto_region 4 with fail
  rw [HW0.out]
  clear HW0
  go_loopw [5, 6, 7] (fun s5 s6 s7 wr => ∃ (bo : Option Addr) (n bc : Nat) (d : Bool) (i : Nat) (os : List Hd), s5 = .slice bo n bc ∧ s6 = .bool d ∧ s7 = .int .i64 i ∧ i ≤ N ∧ n ≤ i + 1 ∧ Hid (InsIH W0 wr bo n bc x ls os d i)) (fun _ _ s7 _ => N - (RowKit.intOf s7).toNat)
  case atStart => exact ⟨none, 0, 0, false, 0, [], rfl, rfl, by first | rfl | simp, Nat.zero_le _, by omega, rfl, ⟨rfl, .inl ⟨rfl, rfl⟩⟩, InsP.start, Fr.refl _ _⟩
  case round =>
    obtain ⟨bo, n, bc, d, i, os, rfl, rfl, rfl, hiN, hni, HI⟩ := hrel
    by_cases hi : i < N
    · obtain ⟨b, off, rfl, l0, l1⟩ := HL.out wr i HI.out.fr hi
      obtain ⟨x0, x1⟩ := HX.out wr HI.out.fr
      have hlt : (i : Int) < (N : Int) := by omega
      have hi' : i < ls.length := by rw [← HN.out]; exact hi
      cases d with
      | true =>
        have HE : Hid (∀ so' c' w2, w2.ownsRow W0.heap.size 88 2 (.slice so' (n + 1) c') (n + 1) (hdsC (os ++ [ls.getD i Hd.zero])) → Fr [] W0 w2 → InsIH W0 w2 so' (n + 1) c' x ls (os ++ [ls.getD i Hd.zero]) true (i + 1)) := fun so' c' w2 h1 h2 => ⟨by rw [HI.out.len]; simp, h1, HI.out.ins.late Hd.zero hi', h2⟩
        clear x0 x1
        obtain ⟨y, hy⟩ : ∃ y, y = ls.getD i Hd.zero := ⟨_, rfl⟩
        rw [← hy] at l0 l1 HE
        clear hy
        obtain ⟨k2, vo2, L2, c2, vs2⟩ := y
        simp only at l0 l1
        go_wp2_with fail
        go_quiet (fail)
        have HI2 := HI.out.keep (Fr.drewN [] wr nq)
        have HJ : Hid (InsIH W0 (wr.drewN nq) bo n bc x ls os true i) := HI2
        clear HI2 HI
        go_upto_region 5 with (at_builtin; refine wpList_oneH W0 (wr.drewN nq) rfl _ _ rfl bo n bc os rfl HJ.out.own (by omega) HJ.out.fr.size ⟨k2, vo2, L2, c2, vs2⟩ rfl ?_; intro so' c' w2 hO2 hf2; have HE2 : Hid (InsIH W0 w2 so' (n + 1) c' x ls (os ++ [⟨k2, vo2, L2, c2, vs2⟩]) true (i + 1)) := HE.out so' c' w2 hO2 (HJ.out.fr.on hf2 (own_blocksH HJ.out.own)); clear hO2 hf2 HE; go_frame)
        go_wp2
        go_roundw
        case rel => exact ⟨so', n + 1, c', true, i + 1, _, rfl, rfl, by simp, by omega, by omega, HE2⟩
        case measure => simp [RowKit.intOf]; omega
      | false =>
        cases hb : ltB Hd.key x (ls.getD i Hd.zero) with
        | false =>
          have HE : Hid (∀ so' c' w2, w2.ownsRow W0.heap.size 88 2 (.slice so' (n + 1) c') (n + 1) (hdsC (os ++ [ls.getD i Hd.zero])) → Fr [] W0 w2 → InsIH W0 w2 so' (n + 1) c' x ls (os ++ [ls.getD i Hd.zero]) false (i + 1)) := fun so' c' w2 h1 h2 => ⟨by rw [HI.out.len]; simp, h1, HI.out.ins.skip Hd.zero hi' hb, h2⟩
          unfold ltB at hb
          obtain ⟨y, hy⟩ : ∃ y, y = ls.getD i Hd.zero := ⟨_, rfl⟩
          rw [← hy] at l0 l1 HE hb
          clear hy
          obtain ⟨k2, vo2, L2, c2, vs2⟩ := y
          simp only at l0 l1 hb
          go_wp2_with fail
          go_quiet (fail)
          have HI2 := HI.out.keep (Fr.drewN [] wr nq)
          have HJ : Hid (InsIH W0 (wr.drewN nq) bo n bc x ls os false i) := HI2
          clear HI2 HI hb
          go_upto_region 5 with (at_builtin; refine wpList_oneH W0 (wr.drewN nq) rfl _ _ rfl bo n bc os rfl HJ.out.own (by omega) HJ.out.fr.size ⟨k2, vo2, L2, c2, vs2⟩ rfl ?_; intro so' c' w2 hO2 hf2; have HE2 : Hid (InsIH W0 w2 so' (n + 1) c' x ls (os ++ [⟨k2, vo2, L2, c2, vs2⟩]) false (i + 1)) := HE.out so' c' w2 hO2 (HJ.out.fr.on hf2 (own_blocksH HJ.out.own)); clear hO2 hf2 HE; go_frame)
          go_wp2
          go_roundw
          case rel => exact ⟨so', n + 1, c', false, i + 1, _, rfl, rfl, by simp, by omega, by omega, HE2⟩
          case measure => simp [RowKit.intOf]; omega
        | true =>
          have hni2 : n ≤ i := by
            have h1 := HI.out.len
            have h2 := (HI.out.ins.no rfl).1
            rw [h2, List.length_take] at h1
            omega
          have HE : Hid (∀ so' c' w2, w2.ownsRow W0.heap.size 88 2 (.slice so' (n + 1 + 1) c') (n + 1 + 1) (hdsC (os ++ [x] ++ [ls.getD i Hd.zero])) → Fr [] W0 w2 → InsIH W0 w2 so' (n + 1 + 1) c' x ls (os ++ [x] ++ [ls.getD i Hd.zero]) true (i + 1)) := fun so' c' w2 h1 h2 => ⟨by rw [HI.out.len]; simp, h1, HI.out.ins.here Hd.zero hi' hb, h2⟩
          unfold ltB at hb
          obtain ⟨y, hy⟩ : ∃ y, y = ls.getD i Hd.zero := ⟨_, rfl⟩
          rw [← hy] at l0 l1 HE hb
          have HY : Hid (y = ls.getD i Hd.zero) := hy
          clear hy
          obtain ⟨k2, vo2, L2, c2, vs2⟩ := y
          simp only at l0 l1 hb
          go_wp2_with fail
          go_quiet (fail)
          have HI2 := HI.out.keep (Fr.drewN [] wr nq)
          have HJ : Hid (InsIH W0 (wr.drewN nq) bo n bc x ls os false i) := HI2
          clear HI2 HI hb
          go_upto_region 8 with (at_builtin; refine wpList_oneH W0 (wr.drewN nq) rfl _ _ rfl bo n bc os rfl HJ.out.own (by omega) HJ.out.fr.size x rfl ?_; intro so' c' w2 hO2 hf2; have HG : Hid (w2.ownsRow W0.heap.size 88 2 (.slice so' (n + 1) c') (n + 1) (hdsC (os ++ [x])) ∧ Fr [] W0 w2) := ⟨hO2, HJ.out.fr.on hf2 (own_blocksH HJ.out.own)⟩; clear hO2 hf2; go_frame)
          clear HJ l0 l1 x0 x1
          obtain ⟨b', off', e', l0, l1⟩ := HL.out w2 i HG.out.2 hi
          cases e'
          rw [← HY.out] at l0 l1
          simp only at l0 l1
          go_upto_region 5 with (at_builtin; refine wpList_oneH W0 w2 rfl _ _ rfl so' (n + 1) c' (os ++ [x]) rfl HG.out.1 (by omega) HG.out.2.size ⟨k2, vo2, L2, c2, vs2⟩ rfl ?_; intro so2 c2' w3 hO3 hf3; have HE2 : Hid (InsIH W0 w3 so2 (n + 1 + 1) c2' x ls (os ++ [x] ++ [⟨k2, vo2, L2, c2, vs2⟩]) true (i + 1)) := HE.out so2 c2' w3 hO3 (HG.out.2.on hf3 (own_blocksH HG.out.1)); clear hO3 hf3 HE; go_frame)
          go_wp2
          go_roundw
          case rel => exact ⟨so2, n + 1 + 1, c2', true, i + 1, _, rfl, rfl, by simp, by omega, by omega, HE2⟩
          case measure => simp [RowKit.intOf]; omega
    · have hle : ls.length ≤ i := by rw [← HN.out]; omega
      have hge : ¬ ((i : Int) < (N : Int)) := by omega
      cases d with
      | true =>
        have HQ : Hid (n = N + 1 ∧ wr.ownsRow w.heap.size 88 2 (.slice bo n bc) n (hdsC (insK (ltB Hd.key) x ls)) ∧ Fr [] w wr) := by
          have e := HI.out.ins.endYes hle
          have h1 := HI.out.own
          rw [e] at h1
          refine ⟨?_, own_base h1 HF0.out.size, HF0.out.then HI.out.fr⟩
          rw [HI.out.len, e, insK_length, HN.out]
        clear HI
        obtain ⟨rfl, hq1, hq2⟩ := HQ.out
        go_wp2
        go_ret
        exact ⟨bo, bc, rfl, HQ.out.2⟩
      | false =>
        obtain ⟨x0, x1⟩ := HX.out wr HI.out.fr
        have hnN : n ≤ N := by
          have h1 := HI.out.len
          have h2 := (HI.out.ins.no rfl).1
          rw [h2, List.length_take] at h1
          omega
        have HQ : Hid (∀ so' c' w2, w2.ownsRow W0.heap.size 88 2 (.slice so' (n + 1) c') (n + 1) (hdsC (os ++ [x])) → Fr [] W0 w2 → n = N ∧ w2.ownsRow w.heap.size 88 2 (.slice so' (n + 1) c') (n + 1) (hdsC (insK (ltB Hd.key) x ls)) ∧ Fr [] w w2) := fun so' c' w2 h1 h2 => by
          have e := HI.out.ins.endNo hle
          rw [e] at h1
          refine ⟨?_, own_base h1 HF0.out.size, HF0.out.then h2⟩
          have e2 := congrArg List.length e
          rw [insK_length, List.length_append, ← HI.out.len, ← HN.out] at e2
          simp at e2
          exact e2
        go_upto_region 10 with fail
        go_wp2_with (at_builtin; refine wpList_oneH W0 wr rfl _ _ rfl bo n bc os rfl HI.out.own (by omega) HI.out.fr.size x rfl ?_; intro so' c' w2 hO2 hf2; have HE2 : Hid (n = N ∧ w2.ownsRow w.heap.size 88 2 (.slice so' (n + 1) c') (n + 1) (hdsC (insK (ltB Hd.key) x ls)) ∧ Fr [] w w2) := HQ.out so' c' w2 hO2 (HI.out.fr.on hf2 (own_blocksH HI.out.own)); clear hO2 hf2 HQ; go_frame)
        go_ret
        obtain ⟨e, h1, h2⟩ := HE2.out
        subst e
        exact ⟨so', c', rfl, h1, h2⟩
end Go.Proofs.Ytpdkdgmaofhlkaa
/- Are entries, keys with their versions, answers the same: what is the same is told as such. Conditions as each names them. -/
namespace Go.Proofs.Ytpdkdgmaofhlkaa
open Go.ChangeShapes Go.WideShapes Go.ChangeAt Go.RowKit Go.Lib
set_option linter.unusedVariables false
set_option linter.unusedSimpArgs false

theorem RrE_at {w : World} {ao : Option Addr} {xs : List Ey} (h : RrE w ao xs) (i : Nat) (hi : i < xs.length) : ∃ b off, ao = some ⟨b, off, none⟩ ∧ b < w.heap.size ∧ w.cell? ⟨b, off + i * 2, none⟩ = some (.string (xs.getD i Ey.zero).key) ∧ w.cell? ⟨b, off + i * 2 + 1, none⟩ = some (.string (xs.getD i Ey.zero).val) := by
  obtain ⟨b, off, e, hb, h0⟩ := h (i * 2) _ (eysC_get xs i 0 hi (by omega))
  obtain ⟨b', off', e', _, h1⟩ := h (i * 2 + 1) _ (eysC_get xs i 1 hi (by omega))
  rw [e] at e'
  cases e'
  exact ⟨b, off, e, hb, h0, h1⟩
theorem RrH_lies {w : World} {ao : Option Addr} {hs : List Hd} (h : RrH w ao hs) (h0 : 0 < hs.length) : ∃ b off, ao = some ⟨b, off, none⟩ ∧ b < w.heap.size ∧ ∀ i, i < hs.length → w.cell? ⟨b, off + i * 2, none⟩ = some (.string (hs.getD i Hd.zero).key) ∧ w.cell? ⟨b, off + i * 2 + 1, none⟩ = some (.slice (hs.getD i Hd.zero).vo (hs.getD i Hd.zero).L (hs.getD i Hd.zero).cap) := by
  obtain ⟨b, off, e, hb, _⟩ := h 0 _ (hdsC_at hs 0 0 h0 (by omega))
  refine ⟨b, off, e, hb, fun i hi => ?_⟩
  obtain ⟨b1, o1, e1, _, h1⟩ := h (i * 2) _ (hdsC_at hs i 0 hi (by omega))
  obtain ⟨b2, o2, e2, _, h2⟩ := h (i * 2 + 1) _ (hdsC_at hs i 1 hi (by omega))
  rw [e] at e1 e2
  cases e1
  cases e2
  exact ⟨h1, h2⟩
/-- A key's versions can be read. -/
structure HEc (w : World) (h : Hd) : Prop where
  rs : VRs w h.vo h.vs
  len : h.L = h.vs.length
theorem HEc.keep {w w' : World} {h : Hd} (x : HEc w h) (hf : Fr [] w w') : HEc w' h := ⟨x.rs.keep hf, x.len⟩
/-- Keys with their versions that can be read. -/
structure RdH (w : World) (ao : Option Addr) (hs : List Hd) : Prop where
  rr : RrH w ao hs
  each : ∀ h ∈ hs, HEc w h
theorem RdH.keep {w w' : World} {ao : Option Addr} {hs : List Hd} (h : RdH w ao hs) (hf : Fr [] w w') : RdH w' ao hs := ⟨h.rr.keep hf, fun x hx => (h.each x hx).keep hf⟩
set_option maxHeartbeats 4000000 in
set_option maxRecDepth 100000 in
theorem sameEs_any (ro ro' : Option Addr) (N rc rc' : Nat) (ps : List Ey) (w : World) (h1 : RrE w ro ps) (h2 : RrE w ro' ps) (hN : N = ps.length) (hNf : N < 3518437208883) :
    Calls Try.prog 61 #[.slice ro N rc, .slice ro' N rc'] w fun e w' => e = .returned (.bool true) ∧ Fr [] w w' := by
  have HN : Hid (N = ps.length) := hN
  have HE : Hid (∀ W, Fr [] w W → RrE W ro ps ∧ RrE W ro' ps) := fun W hf => ⟨h1.keep hf, h2.keep hf⟩
  have hq : ∀ (x : Ey) (W : World), (binOp .neq 85 (.agg #[.string x.key, .string x.val]) (.agg #[.string x.key, .string x.val])).run Try.prog W = .ok (.bool false) W := fun x W => by rw [ey_neq, (sameEy_iff x x).2 rfl]; rfl
  clear hN h1 h2
  go_enter Try.func61, Try.ntmps61
  go_wp2_with fail
  go_loopw [5] (fun ii wr => ∃ (i : Nat), ii = .int .i64 i ∧ i ≤ N ∧ Hid (Fr [] w wr)) (fun ii _ => N - (RowKit.intOf ii).toNat)
  case atStart => exact ⟨0, rfl, Nat.zero_le _, Fr.refl _ _⟩
  case round =>
    obtain ⟨i, rfl, hiN, HFr⟩ := hrel
    by_cases hi : i < N
    · have hi' : i < ps.length := by rw [← HN.out]; exact hi
      obtain ⟨g, off, rfl, _, d0, d1⟩ := RrE_at (HE.out _ HFr.out).1 i hi'
      obtain ⟨g', off', rfl, _, d2, d3⟩ := RrE_at (HE.out _ HFr.out).2 i hi'
      have hqq := hq (ps.getD i Ey.zero)
      obtain ⟨⟨k2, v2⟩, hyy⟩ : ∃ y, y = ps.getD i Ey.zero := ⟨_, rfl⟩
      rw [← hyy] at d0 d1 d2 d3 hqq
      simp only at d0 d1 d2 d3 hqq
      clear hyy hq
      go_wp2_with fail
      go_quiet (fail)
      have HF2 : Hid (Fr [] w (wr.drewN nq)) := HFr.out.then (Fr.drewN _ _ _)
      go_wp2
      go_roundw
      case rel => exact ⟨i + 1, by simp, by omega, HF2⟩
      case measure => simp [RowKit.intOf]; omega
    · go_wp2
      go_ret
      exact ⟨rfl, HFr.out⟩
theorem vsame_upto (xs ys : List Vn) (hl : xs.length = ys.length) (h : ∀ j, j < xs.length → xs.getD j Vn.zero = ys.getD j Vn.zero) : xs = ys := by
  apply List.ext_getElem hl
  intro i h1 h2
  have := h i h1
  simpa [List.getD, h1, h2] using this
set_option maxHeartbeats 4000000 in
set_option maxRecDepth 100000 in
theorem sameVs_any (ro ro' : Option Addr) (N M rc rc' : Nat) (R : Bool) (xs ys : List Vn) (w : World) (h1 : VRs w ro xs) (h2 : VRs w ro' ys) (hN : N = xs.length) (hM : M = ys.length) (hR : R = true ↔ xs = ys) :
    Calls Try.prog 74 #[.slice ro N rc, .slice ro' M rc'] w fun e w' => e = .returned (.bool R) ∧ Fr [] w w' := by
  have HR : Hid (R = true ↔ xs = ys) := hR
  have HN : Hid (N = xs.length) := hN
  have HM : Hid (M = ys.length) := hM
  have hNf : N ≤ 4398046511104 := by have := h1.few; omega
  have hMf : M ≤ 4398046511104 := by have := h2.few; omega
  have HE : Hid (∀ W, Fr [] w W → VRs W ro xs ∧ VRs W ro' ys) := fun W hf => ⟨h1.keep hf, h2.keep hf⟩
  have hg := Try.guardVn
  have hq : ∀ (x y : Vn) (W : World), (Op.equalIn 10000 90 (.agg #[.int .i64 x.num, .string x.val, .bool x.drop]) (.agg #[.int .i64 y.num, .string y.val, .bool y.drop])).run Try.prog W = .ok (sameV x y) W := fun x y W => vn_in W x y
  clear hN hM hR h1 h2
  by_cases hNM : N = M
  · subst hNM
    have hne : ((N : Int) != N) = false := by simp
    go_enter Try.func74, Try.ntmps74
    go_wp2_with fail
    go_loopw [5] (fun ii wr => ∃ (i : Nat), ii = .int .i64 i ∧ i ≤ N ∧ Fr [] w wr ∧ Hid (∀ j, j < i → xs.getD j Vn.zero = ys.getD j Vn.zero)) (fun ii _ => N - (RowKit.intOf ii).toNat)
    case atStart => exact ⟨0, rfl, Nat.zero_le _, Fr.refl _ _, fun j hj => by omega⟩
    case round =>
      obtain ⟨i, rfl, hiN, hFr, HI⟩ := hrel
      by_cases hi : i < N
      · have hi1 : i < xs.length := by rw [← HN.out]; exact hi
        have hi2 : i < ys.length := by rw [← HM.out]; exact hi
        obtain ⟨b, o, rfl, _, hat⟩ := (HE.out _ hFr).1.lies (by omega)
        obtain ⟨c0, c1, c2⟩ := hat i hi1
        obtain ⟨b', o', rfl, _, hat'⟩ := (HE.out _ hFr).2.lies (by omega)
        obtain ⟨e0, e1, e2⟩ := hat' i hi2
        obtain ⟨x, hx⟩ : ∃ x, x = xs.getD i Vn.zero := ⟨_, rfl⟩
        obtain ⟨y, hy⟩ : ∃ y, y = ys.getD i Vn.zero := ⟨_, rfl⟩
        rw [← hx] at c0 c1 c2
        rw [← hy] at e0 e1 e2
        have hqq := hq x y
        obtain ⟨S, hS⟩ : ∃ S, sameV x y = S := ⟨_, rfl⟩
        rw [hS] at hqq
        have HS : Hid (sameV x y = S) := hS
        have HX : Hid (x = xs.getD i Vn.zero ∧ y = ys.getD i Vn.zero) := ⟨hx, hy⟩
        clear hS hx hy hat hat' hq
        obtain ⟨n1, v1, p1⟩ := x
        obtain ⟨n2, v2, p2⟩ := y
        simp only at c0 c1 c2 e0 e1 e2 hqq
        cases S with
        | true =>
          have HI2 : Hid (∀ j, j < i + 1 → xs.getD j Vn.zero = ys.getD j Vn.zero) := by
            intro j hj
            by_cases hji : j = i
            · subst hji
              rw [← HX.out.1, ← HX.out.2]
              exact (sameV_iff _ _).1 HS.out
            · exact HI.out j (by omega)
          go_wp2_with fail
          go_quiet (fail)
          go_wp2
          exact ⟨⟨i + 1, by simp, by omega, hFr.then (Fr.drewN _ _ _), HI2⟩, by simp [RowKit.intOf]; omega⟩
        | false =>
          obtain rfl : R = false := by
            cases R with
            | false => rfl
            | true =>
              have e := HR.out.1 rfl
              subst e
              have h9 := (sameV_iff _ _).2 (HX.out.1.trans HX.out.2.symm)
              rw [HS.out] at h9
              cases h9
          go_wp2_with fail
          go_quiet (fail)
          go_wp2
          go_ret
          exact ⟨rfl, hFr.then (Fr.drewN _ _ _)⟩
      · obtain rfl : R = true := HR.out.2 (vsame_upto _ _ (by rw [← HN.out, HM.out]) (fun j hj => HI.out j (by rw [← HN.out] at hj; omega)))
        go_wp2
        go_ret
        exact ⟨rfl, hFr⟩
  · have hne : ((N : Int) != M) = true := by rw [bne_iff_ne]; omega
    obtain rfl : R = false := by
      cases R with
      | false => rfl
      | true =>
        have e := HR.out.1 rfl
        subst e
        exact absurd (HN.out.trans HM.out.symm) hNM
    clear hNM
    go_enter Try.func74, Try.ntmps74
    go_wp2
    go_ret
    exact ⟨rfl, Fr.refl _ _⟩
set_option maxHeartbeats 4000000 in
set_option maxRecDepth 100000 in
theorem sameHeld_any (key : ByteArray) (vo vo' : Option Addr) (L c c' : Nat) (vs : List Vn) (w : World) (h1 : VRs w vo vs) (h2 : VRs w vo' vs) (hL : L = vs.length) :
    Calls Try.prog 62 #[.agg #[.string key, .slice vo L c], .agg #[.string key, .slice vo' L c']] w fun e w' => e = .returned (.bool true) ∧ Fr [] w w' := by
  have HV : Hid (∀ W, Fr [] w W → Calls Try.prog 74 #[.slice vo L c, .slice vo' L c'] W fun e w' => e = .returned (.bool true) ∧ Fr [] W w') := fun W hf => sameVs_any vo vo' L L c c' true vs vs W (h1.keep hf) (h2.keep hf) hL hL ⟨fun _ => rfl, fun _ => rfl⟩
  have HFr : Hid (Fr [] w ((w.alloc (.cells #[.string key, .slice vo L c] 88)).alloc (.cells #[.string key, .slice vo' L c'] 88))) := (Fr.alloc [] _ _).then (Fr.alloc [] _ _)
  have HC : Hid (Calls _ _ _ _ _) := HV.out _ HFr.out
  clear h1 h2 hL HV
  go_enter Try.func62, Try.ntmps62
  go_wp2_with fail
  refine Calls.mono HC.out ?_
  rintro e w1 ⟨rfl, hF1⟩
  go_wp2
  go_ret
  exact ⟨rfl, HFr.out.then hF1⟩
set_option maxHeartbeats 4000000 in
set_option maxRecDepth 100000 in
theorem sameHelds_any (ro ro' : Option Addr) (N rc rc' : Nat) (hs hs' : List Hd) (w : World) (h1 : RdH w ro hs) (h2 : RdH w ro' hs') (hN : N = hs.length) (hNf : N ≤ 3518437208882) (he : hs.map Hd.kv = hs'.map Hd.kv) :
    Calls Try.prog 38 #[.slice ro N rc, .slice ro' N rc'] w fun e w' => e = .returned (.bool true) ∧ Fr [] w w' := by
  have hl : hs.length = hs'.length := by have := congrArg List.length he; simpa using this
  have HN : Hid (N = hs.length ∧ N = hs'.length) := ⟨hN, by omega⟩
  have HE : Hid (∀ W, Fr [] w W → RdH W ro hs ∧ RdH W ro' hs') := fun W hf => ⟨h1.keep hf, h2.keep hf⟩
  have HEq : Hid (∀ i, i < N → Hd.kv (hs.getD i Hd.zero) = Hd.kv (hs'.getD i Hd.zero)) := fun i hi => by
    have e1 : (hs.map Hd.kv)[i]? = (hs'.map Hd.kv)[i]? := by rw [he]
    simp only [List.getElem?_map, List.getElem?_eq_getElem (show i < hs.length by omega), List.getElem?_eq_getElem (show i < hs'.length by omega), Option.map_some, Option.some.injEq] at e1
    simpa [List.getD, show i < hs.length by omega, show i < hs'.length by omega] using e1
  clear hN h1 h2 he hl
  go_enter Try.func38, Try.ntmps38
  go_wp2_with fail
  go_loopw [5] (fun ii wr => ∃ (i : Nat), ii = .int .i64 i ∧ i ≤ N ∧ Hid (Fr [] w wr)) (fun ii _ => N - (RowKit.intOf ii).toNat)
  case atStart => exact ⟨0, rfl, Nat.zero_le _, Fr.refl _ _⟩
  case round =>
    obtain ⟨i, rfl, hiN, HF⟩ := hrel
    by_cases hi : i < N
    · have hi1 : i < hs.length := by rw [← HN.out.1]; exact hi
      have hi2 : i < hs'.length := by rw [← HN.out.2]; exact hi
      obtain ⟨r1, r2⟩ := HE.out _ HF.out
      obtain ⟨g, off, rfl, _, hat⟩ := RrH_lies r1.rr (by omega)
      obtain ⟨g', off', rfl, _, hat'⟩ := RrH_lies r2.rr (by omega)
      obtain ⟨d0, d1⟩ := hat i hi1
      obtain ⟨d2, d3⟩ := hat' i hi2
      have HEa : Hid (∀ W, Fr [] w W → HEc W (hs.getD i Hd.zero) ∧ HEc W (hs'.getD i Hd.zero)) := fun W hf => ⟨(HE.out W hf).1.each _ (hgetD_mem hs i hi1), (HE.out W hf).2.each _ (hgetD_mem hs' i hi2)⟩
      have heq := HEq.out i hi
      obtain ⟨x, hx⟩ : ∃ x, x = hs.getD i Hd.zero := ⟨_, rfl⟩
      obtain ⟨y, hy⟩ : ∃ y, y = hs'.getD i Hd.zero := ⟨_, rfl⟩
      rw [← hx] at d0 d1 HEa heq
      rw [← hy] at d2 d3 HEa heq
      clear hx hy hat hat' r1 r2
      obtain ⟨k1, vo1, L1, c1, vs1⟩ := x
      obtain ⟨k2, vo2, L2, c2, vs2⟩ := y
      simp only [Hd.kv, Prod.mk.injEq] at heq
      obtain ⟨rfl, rfl⟩ := heq
      have hLL : L1 = L2 := by
        have := (HEa.out wr HF.out).1.len
        have := (HEa.out wr HF.out).2.len
        simp only at *
        omega
      subst hLL
      simp only at d0 d1 d2 d3
      have HS : Hid (∀ W, Fr [] wr W → Calls Try.prog 62 #[.agg #[.string k1, .slice vo1 L1 c1], .agg #[.string k1, .slice vo2 L1 c2]] W fun e w' => e = .returned (.bool true) ∧ (w'.cell? ⟨g, off + i * 2, none⟩ = some (.string k1) ∧ w'.cell? ⟨g, off + i * 2 + 1, none⟩ = some (.slice vo1 L1 c1) ∧ w'.cell? ⟨g', off' + i * 2, none⟩ = some (.string k1) ∧ w'.cell? ⟨g', off' + i * 2 + 1, none⟩ = some (.slice vo2 L1 c2)) ∧ Fr [] w w') := by
        intro W hW
        have hFW := HF.out.then hW
        refine (sameHeld_any k1 vo1 vo2 L1 c1 c2 vs1 W (HEa.out W hFW).1.rs (HEa.out W hFW).2.rs (HEa.out W hFW).1.len).mono ?_
        rintro e w' ⟨rfl, hf⟩
        have hG := hW.then hf
        have hb : ∀ {q o : Nat} {v : Value}, wr.cell? ⟨q, o, none⟩ = some v → w'.cell? ⟨q, o, none⟩ = some v := fun {q o v} hc => (World.cell?_of_block (hG.block q (World.block_lt_of_cell? wr ⟨q, o, none⟩ (by rw [hc])) (by simp))).trans hc
        exact ⟨rfl, ⟨hb d0, hb d1, hb d2, hb d3⟩, hFW.then hf⟩
      go_wp2_with fail
      go_region_held3 (fun W => W.cell? ⟨g, off + i * 2, none⟩ = some (.string k1) ∧ W.cell? ⟨g, off + i * 2 + 1, none⟩ = some (.slice vo1 L1 c1) ∧ W.cell? ⟨g', off' + i * 2, none⟩ = some (.string k1) ∧ W.cell? ⟨g', off' + i * 2 + 1, none⟩ = some (.slice vo2 L1 c2)) (go_keep)
        (first | (go_at_call 62; with_reducible refine (HS.out _ (Fr.drew _ _)).mono ?_; rintro e w2 ⟨rfl, ⟨j0, j1, j2, j3⟩, hF2⟩))
      have HF2 : Hid (Fr [] w w2) := hF2
      clear hF2
      go_wp2_with fail
      go_roundw
      case rel => exact ⟨i + 1, by simp, by omega, HF2⟩
      case measure => simp [RowKit.intOf]; omega
    · go_wp2
      go_ret
      exact ⟨rfl, HF.out⟩
set_option maxHeartbeats 4000000 in
set_option maxRecDepth 100000 in
theorem sameAns_any (co ma : Int) (ok : Bool) (ct : Int) (ro ro' : Option Addr) (N rc rc' : Nat) (ps : List Ey) (w : World) (h1 : RrE w ro ps) (h2 : RrE w ro' ps) (hN : N = ps.length) (hNf : N < 3518437208883) :
    Calls Try.prog 37 #[.agg (ansA co ma ok ro N rc ct), .agg (ansA co ma ok ro' N rc' ct)] w fun e w' => e = .returned (.bool true) ∧ Fr [] w w' := by
  obtain ⟨W0, HW0⟩ : ∃ W0, Hid ((w.alloc (.cells (ansA co ma ok ro N rc ct) 72)).alloc (.cells (ansA co ma ok ro' N rc' ct) 72) = W0) := ⟨_, rfl⟩
  have hF0 : Fr [] w W0 := by rw [← HW0.out]; exact (Fr.alloc [] w _).then (Fr.alloc [] _ _)
  have hb0 : W0.heap[w.heap.size]? = some (.cells (ansA co ma ok ro N rc ct) 72 (0, 0)) := by rw [← HW0.out]; exact (Fr.alloc [] _ _).keep (heap_alloc_new w _) (by simp)
  have hb1 : W0.heap[w.heap.size + 1]? = some (.cells (ansA co ma ok ro' N rc' ct) 72 (0, 0)) := by
    rw [← HW0.out]
    have := heap_alloc_new (w.alloc (.cells (ansA co ma ok ro N rc ct) 72)) (.cells (ansA co ma ok ro' N rc' ct) 72)
    simpa using this
  have HS : Hid (Calls _ _ _ _ _) := sameEs_any ro ro' N rc rc' ps W0 (h1.keep hF0) (h2.keep hF0) hN hNf
  have HC : Hid (∀ W, Fr [] W0 W → W.heap[w.heap.size]? = some (.cells (ansA co ma ok ro N rc ct) 72 (0, 0)) ∧ W.heap[w.heap.size + 1]? = some (.cells (ansA co ma ok ro' N rc' ct) 72 (0, 0))) := fun W hf => ⟨hf.keep hb0 (by simp), hf.keep hb1 (by simp)⟩
  have HF0 : Hid (Fr [] w W0) := hF0
  have q1 : (co == co) = true := by simp
  have q2 : (ma == ma) = true := by simp
  have q3 : (ok == ok) = true := by simp
  have q4 : (ct == ct) = true := by simp
  clear h1 h2 hN hF0 hb0 hb1
  simp only [ansA] at HC HW0 ⊢
  go_enter Try.func37, Try.ntmps37
  go_upto_region 1 with fail
  rw [HW0.out]
  clear HW0
  obtain ⟨k1, k2⟩ := HC.out W0 (Fr.refl _ _)
  obtain ⟨a0, a1, a2, a3, a4⟩ := an_cells k1
  obtain ⟨b0, b1, b2, b3, b4⟩ := an_cells k2
  clear k1 k2
  go_wp2_with fail
  refine Calls.mono HS.out ?_
  rintro e w1 ⟨rfl, hf1⟩
  obtain ⟨k1, k2⟩ := HC.out w1 hf1
  have HF1 : Hid (Fr [] w w1) := HF0.out.then hf1
  clear a0 a1 a2 a3 a4 b0 b1 b2 b3 b4 hf1
  obtain ⟨a0, a1, a2, a3, a4⟩ := an_cells k1
  obtain ⟨b0, b1, b2, b3, b4⟩ := an_cells k2
  clear k1 k2
  go_wp2
  go_ret
  exact ⟨by simp, HF1.out⟩
end Go.Proofs.Ytpdkdgmaofhlkaa
