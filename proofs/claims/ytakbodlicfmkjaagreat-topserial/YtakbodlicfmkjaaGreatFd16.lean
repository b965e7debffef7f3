/- The program's feed: contracts of there, turn, isNear, More, Can, Held, Fed, Close. Conditions as each names them. -/
import Derived.Test.YtakbodlicfmkjaaGreatFe16
import Derived.Deep.QuietTactic
namespace Go.Proofs.YtakbodlicfmkjaaGreat.F
open Go.ChangeShapes Go.WideShapes Go.ChangeAt Go.RowKit Go.Lib Go.Maps
set_option linter.unusedVariables false
set_option linter.unusedSimpArgs false

section
variable {w0 w w' : World} {f g lb L : Nat} {ts : List Tm} {v : Value} {qs : List Nat} {mb : Nat} {bs : List Int} {s : Fe} {hw : Value}
theorem fThere_any (h : FdM w0 w f g lb L ts v qs mb bs s hw) : Calls Tryz.prog 65 #[.pointer (some ⟨f, 0, none⟩)] w fun e w' => e = .returned (.bool true) ∧ w = w' := by
  have c0 := h.c0
  clear h
  go_enter Tryz.func65, Tryz.ntmps65
  go_wp2
  go_ret
  exact ⟨rfl, rfl⟩
theorem fThere_no {p : Value} (h : NoF p w) : Calls Tryz.prog 65 #[p] w fun e w' => e = .returned (.bool false) ∧ w = w' := by
  rcases h with rfl | ⟨f, rfl, hf⟩
  · go_enter Tryz.func65, Tryz.ntmps65
    go_wp2
    go_ret
    exact ⟨rfl, rfl⟩
  · have c0 : w.cell? ⟨f, 0, none⟩ = some (.pointer none) := by simp [World.cell?, hf]
    go_enter Tryz.func65, Tryz.ntmps65
    go_wp2
    go_ret
    exact ⟨rfl, rfl⟩
set_option maxHeartbeats 2000000 in
theorem fHeld_any (h : FdM w0 w f g lb L ts v qs mb bs s hw) : Calls Tryz.prog 42 #[.pointer (some ⟨f, 0, none⟩)] w fun e w' => e = .returned (.int .i64 (s.num : Int)) ∧ w = w' := by
  have HT : Hid (Calls _ _ _ _ _) := fThere_any h
  have c5 := h.c5
  clear h
  go_enter Tryz.func42, Tryz.ntmps42
  go_wp2_with fail
  refine Calls.mono HT.out ?_
  rintro e w1 ⟨rfl, rfl⟩
  go_wp2
  go_ret
  exact ⟨rfl, rfl⟩
/-- The struct alone has changed. -/
theorem FdM.upd (h : FdM w0 w f g lb L ts v qs mb bs s hw) {s' : Fe} {hw' : Value} (hf : Fr [f] w w') (hbox : w'.heap[f]? = some (.cells #[.pointer (some ⟨g, 0, none⟩), .int .i64 (s'.rd : Int), .int .i64 (s'.fd : Int), .int .i64 (s'.wn : Int), .map (some mb), .int .i64 (s'.num : Int), hw', .bool s'.cl] 163 (0, 0)))
    (hrd : s'.rd = s.rd) (hwn : s'.wn = s.wn) (hrf : s'.rd ≤ s'.fd) (hfl : s'.fd ≤ L) (hh : s'.hv = true → s.hv = true ∧ hw' = hw) (hsl : ∃ o n c, hw' = .slice o n c) : FdM w0 w' f g lb L ts v qs mb bs s' hw' := by
  have hs := h.src
  have hno : ∀ k cs t, w.heap[k]? = some (.cells cs t (0, 0)) → t ≠ 163 → k ∉ [f] := by
    intro k cs t hk ht hm
    simp only [List.mem_singleton] at hm
    subst hm
    rw [h.box] at hk
    cases hk
    exact ht rfl
  refine ⟨⟨hf.keep hs.box (hno _ _ _ hs.box (by decide)), hf.keep hs.log (hno _ _ _ hs.log (by decide)), hs.len, hs.few, fun t ht => (hs.each t ht).keepS hf (fun k hk => hno _ _ _ hk (by decide)), owns_keep hs.row hf (fun k hk => ?_), hs.gn, hs.ln, hs.rn⟩, h.ok, hbox, ?_, hrf, hfl, by rw [hwn]; exact h.wn, fun hv => ?_, hsl, h.fn, h.mn⟩
  · obtain ⟨cur, hc⟩ := hs.rowNe hk
    exact hno _ _ _ hc (by decide)
  · obtain ⟨n, F, hm, hb⟩ := h.map
    refine ⟨n, F, hm.keep hf (fun hx => ?_), ⟨fun x hx hlt => hb.ahead x hx (by rw [hrd] at hlt; exact hlt), fun hv => by rw [hrd]; exact hb.now (hh hv).1⟩⟩
    simp only [List.mem_singleton] at hx
    subst hx
    obtain ⟨es, c, he⟩ := hm.block
    rw [h.box] at he
    cases he
  · obtain ⟨h1, h2⟩ := hh hv
    obtain ⟨h3, k, e, hk, hn⟩ := h.held h1
    rw [h2, hrd]
    exact ⟨h3, k, e, hf.keep hk (hno _ _ _ hk (by decide)), hn⟩
end
set_option maxHeartbeats 2000000 in
theorem fHeld_no {w : World} {p : Value} (h : NoF p w) : Calls Tryz.prog 42 #[p] w fun e w' => e = .returned (.int .i64 0) ∧ w = w' := by
  have HT : Hid (Calls _ _ _ _ _) := fThere_no h
  go_enter Tryz.func42, Tryz.ntmps42
  go_wp2_with fail
  refine Calls.mono HT.out ?_
  rintro e w1 ⟨rfl, rfl⟩
  go_wp2
  go_ret
  exact ⟨rfl, rfl⟩
set_option maxHeartbeats 2000000 in
theorem fMore_no {w : World} {p : Value} (h : NoF p w) (n : Int) : Calls Tryz.prog 33 #[p, .int .i64 n] w fun e w' => e = .returned (.int .i64 2) ∧ w = w' := by
  have HT : Hid (Calls _ _ _ _ _) := fThere_no h
  go_enter Tryz.func33, Tryz.ntmps33
  go_wp2_with fail
  refine Calls.mono HT.out ?_
  rintro e w1 ⟨rfl, rfl⟩
  go_wp2
  go_ret
  exact ⟨rfl, rfl⟩
set_option maxHeartbeats 2000000 in
theorem fCan_no {w : World} {p : Value} (h : NoF p w) (n : Int) : Calls Tryz.prog 43 #[p, .int .i64 n] w fun e w' => e = .returned (.int .u8 0) ∧ w = w' := by
  have HT : Hid (Calls _ _ _ _ _) := fThere_no h
  go_enter Tryz.func43, Tryz.ntmps43
  go_wp2_with fail
  refine Calls.mono HT.out ?_
  rintro e w1 ⟨rfl, rfl⟩
  go_wp2
  go_ret
  exact ⟨rfl, rfl⟩
set_option maxHeartbeats 2000000 in
theorem fRead_no {w : World} {p : Value} (h : NoF p w) : Calls Tryz.prog 252 #[p] w fun e w' => e = .returned (.tuple #[.int .i64 0, .int .i64 2]) ∧ w = w' := by
  have HT : Hid (Calls _ _ _ _ _) := fThere_no h
  go_enter Tryz.func252, Tryz.ntmps252
  go_wp2_with fail
  refine Calls.mono HT.out ?_
  rintro e w1 ⟨rfl, rfl⟩
  go_wp2
  go_ret2
  exact ⟨rfl, rfl⟩
set_option maxHeartbeats 2000000 in
theorem fSkip_no {w : World} {p : Value} (h : NoF p w) : Calls Tryz.prog 253 #[p] w fun e w' => e = .returned (.tuple #[.int .i64 0, .int .i64 2]) ∧ w = w' := by
  have HT : Hid (Calls _ _ _ _ _) := fThere_no h
  go_enter Tryz.func253, Tryz.ntmps253
  go_wp2_with fail
  refine Calls.mono HT.out ?_
  rintro e w1 ⟨rfl, rfl⟩
  go_wp2
  go_ret2
  exact ⟨rfl, rfl⟩
set_option maxHeartbeats 2000000 in
set_option maxRecDepth 100000 in
theorem fDis_no {w : World} {p : Value} (h : NoF p w) (n : Int) : Calls Tryz.prog 256 #[p, .int .i64 n] w fun e w' => e = .returned (.tuple #[.agg #[.int .i64 0, .slice none 0 0], .int .i64 2]) ∧ Fr [] w w' := by
  have hF0 : Fr [] w (w.alloc (.cells #[.int .i64 0, .slice none 0 0] 59)) := Fr.alloc _ _ _
  have HT : Hid (Calls _ _ _ _ _) := fThere_no (h.keep hF0)
  have hB : B2 (w.alloc (.cells #[.int .i64 0, .slice none 0 0] 59)) w.heap.size (.int .i64 0) (.slice none 0 0) := ⟨heap_alloc_new _ _⟩
  obtain ⟨s0, s1, s2, s3⟩ : _ ∧ _ ∧ _ ∧ _ := ⟨hB.c0, hB.c1, hB.f0, hB.f1⟩
  have hF1 := hF0.on (Fr.box2 (w.alloc (.cells #[.int .i64 0, .slice none 0 0] 59)) w.heap.size (.int .i64 0) (.slice none 0 0)) (by simp)
  obtain ⟨W, HW⟩ : ∃ W, Hid (w.alloc (.cells #[.int .i64 0, .slice none 0 0] 59) = W) := ⟨_, rfl⟩
  rw [HW.out] at HT s0 s1 s2 s3 hF1
  have HF : Hid (Fr [] w ((W.setCell ⟨w.heap.size, 0, none⟩ (.int .i64 0)).setCell ⟨w.heap.size, 1, none⟩ (.slice none 0 0))) := hF1
  clear hF0 hB hF1
  go_enter Tryz.func256, Tryz.ntmps256
  go_upto_region 1 with fail
  rw [HW.out]
  clear HW
  go_wp2_with fail
  refine Calls.mono HT.out ?_
  rintro e w1 ⟨rfl, rfl⟩
  go_wp2
  refine bodyPost_ret (v := .tuple #[.agg #[.int .i64 0, .slice none 0 0], .int .i64 2]) (by rw [results_cell_tmp rfl]; go_simp) rfl ⟨rfl, HF.out⟩
end Go.Proofs.YtakbodlicfmkjaaGreat.F
