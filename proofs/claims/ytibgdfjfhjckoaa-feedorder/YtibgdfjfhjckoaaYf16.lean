/- The document's feed in memory, and contracts of its there, near, More, Can, Held, Fed, Close. Conditions as each names them. -/
import Derived.Test.YtibgdfjfhjckoaaFe16
import Derived.Test.YtibgdfjfhjckoaaFn16
import Derived.Test.YtibgdfjfhjckoaaYgt6
import Derived.Deep.RegionHeld3
namespace Go.Proofs.Ytibgdfjfhjckoaa
open Go.ChangeShapes Go.WideShapes Go.ChangeAt Go.RowKit Go.Lib Go.Maps
set_option linter.unusedVariables false
set_option linter.unusedSimpArgs false

/-- The document's feed: its struct lies in block f, its source in block g, the numbers beyond at bo. -/
structure YfM (w0 w : World) (f g L : Nat) (lo : Option Addr) (lc : Nat) (us : List Tm) (v : Value) (qs : List Nat) (bo : Option Addr) (M bc : Nat) (bs : List Int) (s : Fe) (hn : Int) (hw : Value) : Prop where
  src : YSrc w0 w g L lo lc us v qs
  box : w.heap[f]? = some (.cells #[.pointer (some ⟨g, 0, none⟩), .int .i64 (s.rd : Int), .slice bo M bc, .int .i64 (s.fd : Int), .int .i64 (s.wn : Int), .bool s.hv, .int .i64 hn, hw, .bool s.cl] 72 (0, 0))
  bey : IRs w bo bs
  len : M = bs.length
  rowb : ∀ a, bo = some a → 0 < M → v.ownBlock ≠ some a.block ∧ ∃ cur, w.heap[a.block]? = some (.cells cur 3 (0, 0))
  rf : s.rd ≤ s.fd
  fl : s.fd ≤ L
  wn : 1 ≤ s.wn ∧ s.wn ≤ 64
  held : s.hv = true → 1 ≤ s.rd ∧ hn = (s.rd : Int) ∧ ∃ ko cap, hw = .slice ko (us.getD (s.rd - 1) Tm.zero).L cap ∧ WOw w0 w ko (us.getD (s.rd - 1) Tm.zero).L cap (us.getD (s.rd - 1) Tm.zero).ws
  slot : ∃ o n c, hw = .slice o n c
  fn : w0.heap.size ≤ f
section
variable {w0 w w' : World} {f g L lc : Nat} {lo : Option Addr} {us : List Tm} {v : Value} {qs : List Nat} {bo : Option Addr} {M bc : Nat} {bs : List Int} {s : Fe} {hn : Int} {hw : Value}
theorem YfM.lt (h : YfM w0 w f g L lo lc us v qs bo M bc bs s hn hw) : f < w.heap.size := lt_of_block h.box
theorem YfM.few (h : YfM w0 w f g L lo lc us v qs bo M bc bs s hn hw) : L ≤ 65536 := h.src.few
theorem YfM.c0 (h : YfM w0 w f g L lo lc us v qs bo M bc bs s hn hw) : w.cell? ⟨f, 0, none⟩ = some (.pointer (some ⟨g, 0, none⟩)) := by simp [World.cell?, h.box]
theorem YfM.c1 (h : YfM w0 w f g L lo lc us v qs bo M bc bs s hn hw) : w.cell? ⟨f, 1, none⟩ = some (.int .i64 (s.rd : Int)) := by simp [World.cell?, h.box]
theorem YfM.c2 (h : YfM w0 w f g L lo lc us v qs bo M bc bs s hn hw) : w.cell? ⟨f, 2, none⟩ = some (.slice bo M bc) := by simp [World.cell?, h.box]
theorem YfM.c3 (h : YfM w0 w f g L lo lc us v qs bo M bc bs s hn hw) : w.cell? ⟨f, 3, none⟩ = some (.int .i64 (s.fd : Int)) := by simp [World.cell?, h.box]
theorem YfM.c4 (h : YfM w0 w f g L lo lc us v qs bo M bc bs s hn hw) : w.cell? ⟨f, 4, none⟩ = some (.int .i64 (s.wn : Int)) := by simp [World.cell?, h.box]
theorem YfM.c5 (h : YfM w0 w f g L lo lc us v qs bo M bc bs s hn hw) : w.cell? ⟨f, 5, none⟩ = some (.bool s.hv) := by simp [World.cell?, h.box]
theorem YfM.c6 (h : YfM w0 w f g L lo lc us v qs bo M bc bs s hn hw) : w.cell? ⟨f, 6, none⟩ = some (.int .i64 hn) := by simp [World.cell?, h.box]
theorem YfM.c7 (h : YfM w0 w f g L lo lc us v qs bo M bc bs s hn hw) : w.cell? ⟨f, 7, none⟩ = some hw := by simp [World.cell?, h.box]
theorem YfM.c8 (h : YfM w0 w f g L lo lc us v qs bo M bc bs s hn hw) : w.cell? ⟨f, 8, none⟩ = some (.bool s.cl) := by simp [World.cell?, h.box]
theorem YfM.fz (h : YfM w0 w f g L lo lc us v qs bo M bc bs s hn hw) (j : Nat) : w.frozen? ⟨f, j, none⟩ = false := by simp [World.frozen?, h.box]
theorem YfM.keepS {S : List Nat} (h : YfM w0 w f g L lo lc us v qs bo M bc bs s hn hw) (hf : Fr S w w') (hS : ∀ k ∈ S, ∀ cs t, w.heap[k]? = some (.cells cs t (0, 0)) → t ≠ 72 ∧ t ≠ 87 ∧ t ≠ 42 ∧ t ≠ 89 ∧ (t = 3 → v.ownBlock ≠ some k ∧ ∀ a, bo = some a → 0 < M → a.block ≠ k)) : YfM w0 w' f g L lo lc us v qs bo M bc bs s hn hw := by
  have hno : ∀ k cs t, w.heap[k]? = some (.cells cs t (0, 0)) → (t = 72 ∨ t = 87 ∨ t = 42 ∨ t = 89) → k ∉ S := by
    intro k cs t hk ht hm
    obtain ⟨a1, a2, a3, a4, _⟩ := hS k hm _ _ hk
    rcases ht with rfl | rfl | rfl | rfl
    · exact a1 rfl
    · exact a2 rfl
    · exact a3 rfl
    · exact a4 rfl
  have hbey : ∀ a, bo = some a → 0 < M → a.block ∉ S := fun a e h0 hm => by
    obtain ⟨_, cur, hc⟩ := h.rowb a e h0
    exact (((hS _ hm _ _ hc).2.2.2.2) rfl).2 a e h0 rfl
  refine ⟨h.src.keepS hf (fun k hk cs t e => ?_), hf.keep h.box (hno _ _ _ h.box (by simp)), h.bey.keepS hf (fun h0 a e => hbey a e (by rw [h.len]; exact h0)), h.len, fun a e h0 => ?_, h.rf, h.fl, h.wn, fun hv => ?_, h.slot, h.fn⟩
  · obtain ⟨a1, a2, a3, a4, a5⟩ := hS k hk cs t e
    exact ⟨fun ht => (a5 ht).1, a2, fun ht => ht.elim (fun x => absurd x a3) (fun x => absurd x a4)⟩
  · obtain ⟨h1, cur, hc⟩ := h.rowb a e h0
    exact ⟨h1, cur, hf.keep hc (hbey a e h0)⟩
  · obtain ⟨h1, h2, ko, cap, e, hW⟩ := h.held hv
    refine ⟨h1, h2, ko, cap, e, hW.keepS hf (fun k hk => ?_)⟩
    obtain ⟨_, cur, hc⟩ := owns_cells hW.row hk
    exact hno _ _ _ hc (by simp)
theorem YfM.keep (h : YfM w0 w f g L lo lc us v qs bo M bc bs s hn hw) (hf : Fr [] w w') : YfM w0 w' f g L lo lc us v qs bo M bc bs s hn hw := h.keepS hf (by simp)
theorem yf_set {b j : Nat} {cs : Array Value} (x : Value) (h : w.heap[b]? = some (.cells cs 72 (0, 0))) : (w.setCell ⟨b, j, none⟩ x).heap[b]? = some (.cells (cs.setIfInBounds j x) 72 (0, 0)) := row_setCell x h
/-- The struct alone has changed. -/
theorem YfM.upd (h : YfM w0 w f g L lo lc us v qs bo M bc bs s hn hw) {s' : Fe} {hn' : Int} {hw' : Value} (hf : Fr [f] w w') (hbox : w'.heap[f]? = some (.cells #[.pointer (some ⟨g, 0, none⟩), .int .i64 (s'.rd : Int), .slice bo M bc, .int .i64 (s'.fd : Int), .int .i64 (s'.wn : Int), .bool s'.hv, .int .i64 hn', hw', .bool s'.cl] 72 (0, 0)))
    (hrd : s'.rd = s.rd) (hwn : s'.wn = s.wn) (hrf : s'.rd ≤ s'.fd) (hfl : s'.fd ≤ L) (hh : s'.hv = true → s.hv = true ∧ hn' = hn ∧ hw' = hw) (hsl : ∃ o n c, hw' = .slice o n c) : YfM w0 w' f g L lo lc us v qs bo M bc bs s' hn' hw' := by
  have hno : ∀ k cs t, w.heap[k]? = some (.cells cs t (0, 0)) → t ≠ 72 → k ∉ [f] := by
    intro k cs t hk ht hm
    simp only [List.mem_singleton] at hm
    subst hm
    rw [h.box] at hk
    cases hk
    exact ht rfl
  have hbey : ∀ a, bo = some a → 0 < M → a.block ∉ [f] := fun a e h0 => by
    obtain ⟨_, cur, hc⟩ := h.rowb a e h0
    exact hno _ _ _ hc (by decide)
  refine ⟨h.src.keepS hf (fun k hk cs t e => ?_), hbox, h.bey.keepS hf (fun h0 a e => hbey a e (by rw [h.len]; exact h0)), h.len, fun a e h0 => ?_, hrf, hfl, by rw [hwn]; exact h.wn, fun hv => ?_, hsl, h.fn⟩
  · simp only [List.mem_singleton] at hk
    subst hk
    rw [h.box] at e
    cases e
    exact ⟨fun ht => absurd ht (by decide), by decide, fun ht => ht.elim (fun x => absurd x (by decide)) (fun x => absurd x (by decide))⟩
  · obtain ⟨h1, cur, hc⟩ := h.rowb a e h0
    exact ⟨h1, cur, hf.keep hc (hbey a e h0)⟩
  · obtain ⟨g1, g2, g3⟩ := hh hv
    obtain ⟨h1, h2, ko, cap, e, hW⟩ := h.held g1
    rw [hrd, g2, g3]
    refine ⟨h1, h2, ko, cap, e, hW.keepS hf (fun k hk => ?_)⟩
    obtain ⟨_, cur, hc⟩ := owns_cells hW.row hk
    exact hno _ _ _ hc (by decide)
set_option maxHeartbeats 4000000 in
set_option maxRecDepth 100000 in
theorem yfThere_any (h : YfM w0 w f g L lo lc us v qs bo M bc bs s hn hw) (b : Bool) (hb : b = true ↔ hn ∈ bs) : Calls Try.prog 53 #[.pointer (some ⟨f, 0, none⟩)] w fun e w' => e = .returned (.bool b) ∧ Fr [] w w' := by
  have HM : Hid (M = bs.length) := h.len
  have HB : Hid (b = true ↔ hn ∈ bs) := hb
  have hfew : M ≤ 17592186044416 := by rw [h.len]; exact h.bey.few
  have HK : Hid (∀ W, Fr [] w W → W.cell? ⟨f, 2, none⟩ = some (.slice bo M bc) ∧ W.cell? ⟨f, 6, none⟩ = some (.int .i64 hn) ∧ IRs W bo bs) := fun W hf => ⟨(h.keep hf).c2, (h.keep hf).c6, (h.keep hf).bey⟩
  clear h hb
  go_enter Try.func53, Try.ntmps53
  go_wp2_with fail
  go_loopw [3] (fun ii wr => ∃ i : Nat, ii = .int .i64 i ∧ i ≤ M ∧ Hid (∀ j, j < i → bs.getD j 0 ≠ hn) ∧ Hid (Fr [] w wr)) (fun ii _ => M - (RowKit.intOf ii).toNat)
  case atStart => exact ⟨0, rfl, Nat.zero_le _, fun j hj => by omega, Fr.refl _ _⟩
  case round =>
    obtain ⟨i, rfl, hiM, HU, HF⟩ := hrel
    obtain ⟨c2, c6, hR⟩ := HK.out _ HF.out
    by_cases hil : i < M
    · have hi' : i < bs.length := by rw [← HM.out]; exact hil
      obtain ⟨k, off, e, _, hc⟩ := hR.lies (by omega)
      subst e
      have d0 := hc i hi'
      obtain ⟨x, hx⟩ : ∃ x, x = bs.getD i 0 := ⟨_, rfl⟩
      rw [← hx] at d0
      have HX : Hid (x = bs.getD i 0) := hx
      clear hc hx
      by_cases hxe : x = hn
      · have heq : (x == hn) = true := by simpa using hxe
        have HT : Hid (b = true) := HB.out.2 (by rw [← hxe, HX.out]; simp [List.getD, hi'])
        clear HX
        go_wp2_with fail
        go_quiet (fail)
        go_wp2
        go_ret
        rw [HT.out]
        exact ⟨rfl, HF.out.then (Fr.drewN _ _ _)⟩
      · have heq : (x == hn) = false := by simpa using hxe
        have HU2 : Hid (∀ j, j < i + 1 → bs.getD j 0 ≠ hn) := fun j hj => by
          by_cases e : j = i
          · rw [e, ← HX.out]; exact hxe
          · exact HU.out j (by omega)
        clear HX HU
        go_wp2_with fail
        go_quiet (fail)
        go_wp2
        go_roundw
        case rel => exact ⟨i + 1, by simp, by omega, HU2, HF.out.then (Fr.drewN _ _ _)⟩
        case measure => simp [RowKit.intOf]; omega
    · obtain rfl : i = M := by omega
      have HT : Hid (b = false) := by
        show _ = _
        have hn2 : ¬ hn ∈ bs := fun hm => by
          obtain ⟨j, hj, e⟩ := List.getElem_of_mem hm
          exact HU.out j (by rw [HM.out]; exact hj) (by simp [List.getD, hj, e])
        cases b with
        | true => exact absurd (HB.out.1 rfl) hn2
        | false => rfl
      go_wp2
      go_ret
      rw [HT.out]
      exact ⟨rfl, HF.out⟩
set_option maxHeartbeats 2000000 in
theorem yfNear_any (h : YfM w0 w f g L lo lc us v qs bo M bc bs s hn hw) (hv : s.hv = true) (mark : Int) : Calls Try.prog 54 #[.pointer (some ⟨f, 0, none⟩), .int .i64 mark] w fun e w' => e = .returned (.bool (s.near mark)) ∧ Fr [] w w' := by
  obtain ⟨rd, fd, wn, hv, cl⟩ := s
  simp only at hv
  subst hv
  obtain ⟨h1, h2, _⟩ := h.held rfl
  have hfew := h.few
  have hr1 := h.rf
  have hr2 := h.fl
  have hw1 := h.wn
  have c6 := h.c6
  rw [h2] at c6
  have c4 : w.cell? ⟨f, 4, none⟩ = some (.int .i64 (wn : Int)) := h.c4
  simp only at hr1 hr2 hw1 c6
  have HE : Hid (Fe.near ⟨rd, fd, wn, true, cl⟩ mark = decide ((rd : Int) - wn ≤ mark)) := rfl
  rw [HE.out]
  clear h
  go_enter Try.func54, Try.ntmps54
  go_wp2_with fail
  go_quiet (fail)
  go_wp2
  go_ret
  exact ⟨rfl, Fr.drewN _ _ _⟩
set_option maxHeartbeats 2000000 in
theorem yfFed_any (h : YfM w0 w f g L lo lc us v qs bo M bc bs s hn hw) : Calls Try.prog 12 #[.pointer (some ⟨f, 0, none⟩)] w fun e w' => e = .returned (.int .i64 (s.fd : Int)) ∧ w = w' := by
  have c3 := h.c3
  clear h
  go_enter Try.func12, Try.ntmps12
  go_wp2
  go_ret
  exact ⟨rfl, rfl⟩
set_option maxHeartbeats 2000000 in
theorem yfHeld_any (h : YfM w0 w f g L lo lc us v qs bo M bc bs s hn hw) : Calls Try.prog 10 #[.pointer (some ⟨f, 0, none⟩)] w fun e w' => e = .returned (.int .i64 (s.num : Int)) ∧ w = w' := by
  have c5 := h.c5
  have c6 := h.c6
  by_cases hv : s.hv = true
  · obtain ⟨_, h2, _⟩ := h.held hv
    rw [h2] at c6
    rw [hv] at c5
    have e1 : s.num = s.rd := by simp [Fe.num, hv]
    rw [e1]
    clear h hv e1
    go_enter Try.func10, Try.ntmps10
    go_wp2
    go_ret
    exact ⟨rfl, rfl⟩
  · have hv2 : s.hv = false := by simpa using hv
    rw [hv2] at c5
    have e1 : s.num = 0 := by simp [Fe.num, hv2]
    rw [e1]
    clear h hv e1
    go_enter Try.func10, Try.ntmps10
    go_wp2
    go_ret
    exact ⟨rfl, rfl⟩
set_option maxHeartbeats 2000000 in
theorem yfClose_any (h : YfM w0 w f g L lo lc us v qs bo M bc bs s hn hw) : Calls Try.prog 34 #[.pointer (some ⟨f, 0, none⟩)] w fun e w' => (∃ u, e = .returned u) ∧ YfM w0 w' f g L lo lc us v qs bo M bc bs s.close hn hw ∧ Fr [f] w w' := by
  have f8 := h.fz 8
  have c8 := h.c8
  have hF : Fr [f] w (w.setCell ⟨f, 8, none⟩ (.bool true)) := Fr.set _ _ _ (by simp)
  have HE : Hid (YfM w0 (w.setCell ⟨f, 8, none⟩ (.bool true)) f g L lo lc us v qs bo M bc bs s.close hn hw ∧ Fr [f] w (w.setCell ⟨f, 8, none⟩ (.bool true))) := ⟨h.upd hF (by have := yf_set (j := 8) (.bool true) h.box; exact this) rfl rfl h.rf h.fl (fun x => ⟨x, rfl, rfl⟩) h.slot, hF⟩
  clear h hF
  go_enter Try.func34, Try.ntmps34
  go_wp2
  go_end0
  exact ⟨⟨_, rfl⟩, HE.out⟩
set_option maxHeartbeats 4000000 in
set_option maxRecDepth 100000 in
theorem yfMore_any (h : YfM w0 w f g L lo lc us v qs bo M bc bs s hn hw) (last : Int) : Calls Try.prog 29 #[.pointer (some ⟨f, 0, none⟩), .int .i64 last] w fun e w' => e = .returned (.int .i64 (s.moreC L last : Int)) ∧ YfM w0 w' f g L lo lc us v qs bo M bc bs (s.moreS L last) hn hw ∧ Fr [f] w w' := by
  have HL : Hid (Calls _ _ _ _ _) := yLast_any h.src
  have HH : Hid (YfM w0 w f g L lo lc us v qs bo M bc bs s hn hw) := h
  have c0 := h.c0
  have c3 := h.c3
  have c8 := h.c8
  have z3 := h.fz 3
  have hfew := h.few
  have hr1 := h.rf
  have hr2 := h.fl
  clear h
  by_cases hcl : s.cl = true
  · have e1 : s.moreC L last = 12 := by simp [Fe.moreC, hcl]
    have e2 : s.moreS L last = s := by simp [Fe.moreS, e1]
    rw [hcl] at c8
    rw [e1, e2]
    clear e1 e2 hcl
    go_enter Try.func29, Try.ntmps29
    go_wp2
    go_ret
    exact ⟨rfl, HH.out, Fr.refl _ _⟩
  · have hcf : s.cl = false := by simpa using hcl
    rw [hcf] at c8
    by_cases h1 : last < (s.fd : Int)
    · have e1 : s.moreC L last = 1 := by simp [Fe.moreC, hcf, h1]
      have e2 : s.moreS L last = s := by simp [Fe.moreS, e1]
      rw [e1, e2]
      have hd : decide (last < (s.fd : Int)) = true := by simpa using h1
      clear e1 e2 hcl hcf
      go_enter Try.func29, Try.ntmps29
      go_wp2
      go_ret
      exact ⟨rfl, HH.out, Fr.refl _ _⟩
    · have hd : decide (last < (s.fd : Int)) = false := by simpa using h1
      by_cases h2 : (L : Int) < last
      · have e1 : s.moreC L last = 1 := by simp [Fe.moreC, hcf, h2]
        have e2 : s.moreS L last = s := by simp [Fe.moreS, e1]
        rw [e1, e2]
        clear e1 e2 hcl hcf
        go_enter Try.func29, Try.ntmps29
        go_wp2_with fail
        refine Calls.mono HL.out ?_
        rintro e w1 ⟨rfl, rfl⟩
        go_wp2
        go_ret
        exact ⟨rfl, HH.out, Fr.refl _ _⟩
      · have e1 : s.moreC L last = 0 := by simp [Fe.moreC, hcf]; omega
        have e2 : s.moreS L last = { s with fd := last.toNat } := by simp [Fe.moreS, e1]
        rw [e1, e2]
        obtain ⟨n, rfl⟩ : ∃ n : Nat, last = n := ⟨last.toNat, by omega⟩
        have hF : Fr [f] w (w.setCell ⟨f, 3, none⟩ (.int .i64 (n : Int))) := Fr.set _ _ _ (by simp)
        have HE : Hid (YfM w0 (w.setCell ⟨f, 3, none⟩ (.int .i64 (n : Int))) f g L lo lc us v qs bo M bc bs { s with fd := (n : Int).toNat } hn hw ∧ Fr [f] w (w.setCell ⟨f, 3, none⟩ (.int .i64 (n : Int)))) := ⟨HH.out.upd hF (by have := yf_set (j := 3) (.int .i64 (n : Int)) HH.out.box; exact this) rfl rfl (by simp only [Int.toNat_natCast]; omega) (by simp only [Int.toNat_natCast]; omega) (fun x => ⟨x, rfl, rfl⟩) HH.out.slot, hF⟩
        clear e1 e2 hcl hcf hF HH
        go_enter Try.func29, Try.ntmps29
        go_wp2_with fail
        refine Calls.mono HL.out ?_
        rintro e w1 ⟨rfl, rfl⟩
        go_wp2
        go_ret
        exact ⟨rfl, HE.out⟩
set_option maxHeartbeats 4000000 in
set_option maxRecDepth 100000 in
theorem yfCan_any (h : YfM w0 w f g L lo lc us v qs bo M bc bs s hn hw) (mark : Int) : Calls Try.prog 30 #[.pointer (some ⟨f, 0, none⟩), .int .i64 mark] w fun e w' => e = .returned (.int .u8 (s.can bs mark : Int)) ∧ Fr [] w w' := by
  have hfew := h.few
  have hr1 := h.rf
  have hr2 := h.fl
  have HK : Hid (∀ W, Fr [] w W → YfM w0 W f g L lo lc us v qs bo M bc bs s hn hw) := fun W hf => h.keep hf
  have c1 := h.c1
  have c3 := h.c3
  have c5 := h.c5
  have c8 := h.c8
  by_cases hv : s.hv = true
  · obtain ⟨_, h2, _⟩ := h.held hv
    rw [hv] at c5
    by_cases hb : (s.rd : Int) ∈ bs
    · have HU : Hid (∀ W, Fr [] w W → Calls Try.prog 53 #[.pointer (some ⟨f, 0, none⟩)] W fun e w' => e = .returned (.bool true) ∧ Fr [] W w') := fun W hf => yfThere_any (h.keep hf) true (by rw [h2]; simp [hb])
      have HC5 : Hid (∀ W, Fr [] w W → W.cell? ⟨f, 5, none⟩ = some (.bool true)) := fun W hf => by have := (h.keep hf).c5; rw [hv] at this; exact this
      have e1 : s.can bs mark = 2 := by simp [Fe.can, hv, hb]
      rw [e1]
      clear e1 h hv hb h2
      go_enter Try.func30, Try.ntmps30
      go_wp2_with fail
      go_quiet (fail)
      have hF1 : Fr [] w (w.drewN nq) := Fr.drewN _ _ _
      obtain ⟨w1, HW1⟩ : ∃ w1, Hid (w.drewN nq = w1) := ⟨_, rfl⟩
      rw [HW1.out] at hF1 ⊢
      have d5 := HC5.out _ hF1
      go_wp2_with fail
      refine Calls.mono (HU.out _ hF1) ?_
      rintro e w2 ⟨rfl, hF2⟩
      go_wp2
      go_ret
      exact ⟨rfl, hF1.then hF2⟩
    · have HU : Hid (∀ W, Fr [] w W → Calls Try.prog 53 #[.pointer (some ⟨f, 0, none⟩)] W fun e w' => e = .returned (.bool false) ∧ Fr [] W w') := fun W hf => yfThere_any (h.keep hf) false (by rw [h2]; simp [hb])
      have HC5 : Hid (∀ W, Fr [] w W → W.cell? ⟨f, 5, none⟩ = some (.bool true)) := fun W hf => by have := (h.keep hf).c5; rw [hv] at this; exact this
      have HN : Hid (∀ W, Fr [] w W → Calls Try.prog 54 #[.pointer (some ⟨f, 0, none⟩), .int .i64 mark] W fun e w' => e = .returned (.bool (s.near mark)) ∧ Fr [] W w') := fun W hf => yfNear_any (h.keep hf) hv mark
      have e1 : s.can bs mark = if s.near mark = true then 3 else 0 := by simp [Fe.can, hv, hb]
      rw [e1]
      obtain ⟨r, hr⟩ : ∃ r, s.near mark = r := ⟨_, rfl⟩
      rw [hr] at HN ⊢
      clear e1 h hv hb h2 hr
      cases r with
      | true =>
        simp only [if_true]
        go_enter Try.func30, Try.ntmps30
        go_wp2_with fail
        go_quiet (fail)
        have hF1 : Fr [] w (w.drewN nq) := Fr.drewN _ _ _
        obtain ⟨w1, HW1⟩ : ∃ w1, Hid (w.drewN nq = w1) := ⟨_, rfl⟩
        rw [HW1.out] at hF1 ⊢
        have d5 := HC5.out _ hF1
        go_wp2_with fail
        refine Calls.mono (HU.out _ hF1) ?_
        rintro e w2 ⟨rfl, hF2⟩
        have hF2 := hF1.then hF2
        have e5 := HC5.out _ hF2
        go_wp2_with fail
        refine Calls.mono (HN.out _ hF2) ?_
        rintro e w3 ⟨rfl, hF3⟩
        go_wp2
        go_ret
        exact ⟨rfl, hF2.then hF3⟩
      | false =>
        simp only [Bool.false_eq_true, if_false]
        go_enter Try.func30, Try.ntmps30
        go_wp2_with fail
        go_quiet (fail)
        have hF1 : Fr [] w (w.drewN nq) := Fr.drewN _ _ _
        obtain ⟨w1, HW1⟩ : ∃ w1, Hid (w.drewN nq = w1) := ⟨_, rfl⟩
        rw [HW1.out] at hF1 ⊢
        have d5 := HC5.out _ hF1
        go_wp2_with fail
        refine Calls.mono (HU.out _ hF1) ?_
        rintro e w2 ⟨rfl, hF2⟩
        have hF2 := hF1.then hF2
        have e5 := HC5.out _ hF2
        go_wp2_with fail
        refine Calls.mono (HN.out _ hF2) ?_
        rintro e w3 ⟨rfl, hF3⟩
        go_wp2
        go_ret
        exact ⟨rfl, hF2.then hF3⟩
  · have hv2 : s.hv = false := by simpa using hv
    rw [hv2] at c5
    have HC5 : Hid (∀ W, Fr [] w W → W.cell? ⟨f, 5, none⟩ = some (.bool false)) := fun W hf => by have := (h.keep hf).c5; rw [hv2] at this; exact this
    by_cases hcl : s.cl = true
    · have e1 : s.can bs mark = 0 := by simp [Fe.can, hv2, hcl]
      rw [e1]
      rw [hcl] at c8
      clear e1 h hv hv2
      go_enter Try.func30, Try.ntmps30
      go_wp2_with fail
      go_quiet (fail)
      have hF1 : Fr [] w (w.drewN nq) := Fr.drewN _ _ _
      obtain ⟨w1, HW1⟩ : ∃ w1, Hid (w.drewN nq = w1) := ⟨_, rfl⟩
      rw [HW1.out] at hF1 ⊢
      have d5 := HC5.out _ hF1
      go_wp2
      go_ret
      exact ⟨rfl, hF1⟩
    · have hcf : s.cl = false := by simpa using hcl
      rw [hcf] at c8
      by_cases hlt : s.rd < s.fd
      · have e1 : s.can bs mark = 1 := by simp [Fe.can, hv2, hcf, hlt]
        rw [e1]
        have hd : decide ((s.rd : Int) < (s.fd : Int)) = true := by simpa using hlt
        clear e1 h hv hv2
        go_enter Try.func30, Try.ntmps30
        go_wp2_with fail
        go_quiet (fail)
        go_wp2
        go_ret
        exact ⟨rfl, Fr.drewN _ _ _⟩
      · have e1 : s.can bs mark = 0 := by simp [Fe.can, hv2, hcf, hlt]
        rw [e1]
        have hd : decide ((s.rd : Int) < (s.fd : Int)) = false := by simp; omega
        clear e1 h hv hv2
        go_enter Try.func30, Try.ntmps30
        go_wp2_with fail
        go_quiet (fail)
        have hF1 : Fr [] w (w.drewN nq) := Fr.drewN _ _ _
        obtain ⟨w1, HW1⟩ : ∃ w1, Hid (w.drewN nq = w1) := ⟨_, rfl⟩
        rw [HW1.out] at hF1 ⊢
        have d5 := HC5.out _ hF1
        go_wp2
        go_ret
        exact ⟨rfl, hF1⟩
end
end Go.Proofs.Ytibgdfjfhjckoaa
