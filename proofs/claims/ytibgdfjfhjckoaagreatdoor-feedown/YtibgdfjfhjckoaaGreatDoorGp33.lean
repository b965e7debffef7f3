/- Texts of this claim laid together, one behind the other: contracts and plain lemmas; conditions as each names them. -/
import Derived.Test.YtibgdfjfhjckoaaGreatDoorGp32
import Derived.Deep.QuietTactic
import Derived.Test.YtibgdfjfhjckoaaGreatDoorGp31
/- The program's feed: contracts of there, turn, isNear, More, Can, Held, Fed, Close. Conditions as each names them. -/
namespace Go.Proofs.YtibgdfjfhjckoaaGreatDoor
open Go.ChangeShapes Go.WideShapes Go.ChangeAt Go.RowKit Go.Lib Go.Maps
set_option linter.unusedVariables false
set_option linter.unusedSimpArgs false

section
variable {w0 w w' : World} {f g lb L : Nat} {ts : List Tm} {v : Value} {qs : List Nat} {mb : Nat} {bs : List Int} {s : Fe} {hw : Value}
theorem fThere_any (h : FdM w0 w f g lb L ts v qs mb bs s hw) : Calls Tryz.prog 22 #[.pointer (some ⟨f, 0, none⟩)] w fun e w' => e = .returned (.bool true) ∧ w = w' := by
  have c0 := h.c0
  clear h
  go_enter Tryz.func22, Tryz.ntmps22
  go_wp2
  go_ret
  exact ⟨rfl, rfl⟩
theorem fThere_no {p : Value} (h : NoF p w) : Calls Tryz.prog 22 #[p] w fun e w' => e = .returned (.bool false) ∧ w = w' := by
  rcases h with rfl | ⟨f, rfl, hf⟩
  · go_enter Tryz.func22, Tryz.ntmps22
    go_wp2
    go_ret
    exact ⟨rfl, rfl⟩
  · have c0 : w.cell? ⟨f, 0, none⟩ = some (.pointer none) := by simp [World.cell?, hf]
    go_enter Tryz.func22, Tryz.ntmps22
    go_wp2
    go_ret
    exact ⟨rfl, rfl⟩
/-- The struct alone has changed. -/
theorem FdM.upd (h : FdM w0 w f g lb L ts v qs mb bs s hw) {s' : Fe} {hw' : Value} (hf : Fr [f] w w') (hbox : w'.heap[f]? = some (.cells #[.pointer (some ⟨g, 0, none⟩), .int .i64 (s'.rd : Int), .int .i64 (s'.fd : Int), .int .i64 (s'.wn : Int), .map (some mb), .int .i64 (s'.num : Int), hw', .bool s'.cl] 67 (0, 0)))
    (hrd : s'.rd = s.rd) (hwn : s'.wn = s.wn) (hrf : s'.rd ≤ s'.fd) (hfl : s'.fd ≤ L) (hh : s'.hv = true → s.hv = true ∧ hw' = hw) (hsl : ∃ o n c, hw' = .slice o n c) : FdM w0 w' f g lb L ts v qs mb bs s' hw' := by
  have hs := h.src
  have hno : ∀ k cs t, w.heap[k]? = some (.cells cs t (0, 0)) → t ≠ 67 → k ∉ [f] := by
    intro k cs t hk ht hm
    simp only [List.mem_singleton] at hm
    subst hm
    rw [h.box] at hk
    cases hk
    exact ht rfl
  refine ⟨⟨hf.keep hs.box (hno _ _ _ hs.box (by decide)), hf.keep hs.log (hno _ _ _ hs.log (by decide)), hs.len, hs.few, fun t ht => (hs.each t ht).keepS hf (fun k hk => hno _ _ _ hk (by decide)), owns_keep hs.row hf (fun k hk => ?_), hs.gn, hs.ln, hs.rn⟩, h.ok, hbox, ?_, hrf, hfl, by rw [hwn]; exact h.wn, fun hv => ?_, hsl, h.fn, h.mn⟩
  · obtain ⟨cur, hc⟩ := hs.rowNe hk
    exact hno _ _ _ hc (by decide)
  · obtain ⟨n, F, hm, hb⟩ := h.map
    refine ⟨n, F, hm.keep hf (fun hx => ?_), ⟨fun x hx hlt => hb.ahead x hx (by rw [hrd] at hlt; exact hlt), fun hv => by rw [hrd]; exact hb.now (hh hv).1⟩⟩
    simp only [List.mem_singleton] at hx
    subst hx
    obtain ⟨es, c, he⟩ := hm.block
    rw [h.box] at he
    cases he
  · obtain ⟨h1, h2⟩ := hh hv
    obtain ⟨h3, k, e, hk, hn⟩ := h.held h1
    rw [h2, hrd]
    exact ⟨h3, k, e, hf.keep hk (hno _ _ _ hk (by decide)), hn⟩
end
set_option maxHeartbeats 2000000 in
theorem fMore_no {w : World} {p : Value} (h : NoF p w) (n : Int) : Calls Tryz.prog 7 #[p, .int .i64 n] w fun e w' => e = .returned (.int .i64 2) ∧ w = w' := by
  have HT : Hid (Calls _ _ _ _ _) := fThere_no h
  go_enter Tryz.func7, Tryz.ntmps7
  go_wp2_with fail
  refine Calls.mono HT.out ?_
  rintro e w1 ⟨rfl, rfl⟩
  go_wp2
  go_ret
  exact ⟨rfl, rfl⟩
set_option maxHeartbeats 2000000 in
theorem fCan_no {w : World} {p : Value} (h : NoF p w) (n : Int) : Calls Tryz.prog 21 #[p, .int .i64 n] w fun e w' => e = .returned (.int .u8 0) ∧ w = w' := by
  have HT : Hid (Calls _ _ _ _ _) := fThere_no h
  go_enter Tryz.func21, Tryz.ntmps21
  go_wp2_with fail
  refine Calls.mono HT.out ?_
  rintro e w1 ⟨rfl, rfl⟩
  go_wp2
  go_ret
  exact ⟨rfl, rfl⟩
set_option maxHeartbeats 2000000 in
theorem fRead_no {w : World} {p : Value} (h : NoF p w) : Calls Tryz.prog 8 #[p] w fun e w' => e = .returned (.tuple #[.int .i64 0, .int .i64 2]) ∧ w = w' := by
  have HT : Hid (Calls _ _ _ _ _) := fThere_no h
  go_enter Tryz.func8, Tryz.ntmps8
  go_wp2_with fail
  refine Calls.mono HT.out ?_
  rintro e w1 ⟨rfl, rfl⟩
  go_wp2
  go_ret2
  exact ⟨rfl, rfl⟩
set_option maxHeartbeats 2000000 in
set_option maxRecDepth 100000 in
theorem fDis_no {w : World} {p : Value} (h : NoF p w) (n : Int) : Calls Tryz.prog 9 #[p, .int .i64 n] w fun e w' => e = .returned (.tuple #[.agg #[.int .i64 0, .slice none 0 0], .int .i64 2]) ∧ Fr [] w w' := by
  have hF0 : Fr [] w (w.alloc (.cells #[.int .i64 0, .slice none 0 0] 49)) := Fr.alloc _ _ _
  have HT : Hid (Calls _ _ _ _ _) := fThere_no (h.keep hF0)
  have hB : B2 (w.alloc (.cells #[.int .i64 0, .slice none 0 0] 49)) w.heap.size (.int .i64 0) (.slice none 0 0) := ⟨heap_alloc_new _ _⟩
  obtain ⟨s0, s1, s2, s3⟩ : _ ∧ _ ∧ _ ∧ _ := ⟨hB.c0, hB.c1, hB.f0, hB.f1⟩
  have hF1 := hF0.on (Fr.box2 (w.alloc (.cells #[.int .i64 0, .slice none 0 0] 49)) w.heap.size (.int .i64 0) (.slice none 0 0)) (by simp)
  obtain ⟨W, HW⟩ : ∃ W, Hid (w.alloc (.cells #[.int .i64 0, .slice none 0 0] 49) = W) := ⟨_, rfl⟩
  rw [HW.out] at HT s0 s1 s2 s3 hF1
  have HF : Hid (Fr [] w ((W.setCell ⟨w.heap.size, 0, none⟩ (.int .i64 0)).setCell ⟨w.heap.size, 1, none⟩ (.slice none 0 0))) := hF1
  clear hF0 hB hF1
  go_enter Tryz.func9, Tryz.ntmps9
  go_upto_region 1 with fail
  rw [HW.out]
  clear HW
  go_wp2_with fail
  refine Calls.mono HT.out ?_
  rintro e w1 ⟨rfl, rfl⟩
  go_wp2
  refine bodyPost_ret (v := .tuple #[.agg #[.int .i64 0, .slice none 0 0], .int .i64 2]) (by rw [results_cell_tmp rfl]; go_simp) rfl ⟨rfl, HF.out⟩
end Go.Proofs.YtibgdfjfhjckoaaGreatDoor
/- Rows of numbers that came in; what the statements' helpers TwinInts and LeftInts answer. Conditions: as many numbers as may come in. -/
namespace Go.Proofs.YtibgdfjfhjckoaaGreatDoor
open Go.ChangeShapes Go.WideShapes Go.ChangeAt Go.RowKit Go.Lib
set_option linter.unusedVariables false
set_option linter.unusedSimpArgs false

/-- The slice at ao reads as the numbers ns. -/
structure IRs (w : World) (ao : Option Addr) (ns : List Int) : Prop where
  lies : 0 < ns.length → ∃ b off, ao = some ⟨b, off, none⟩ ∧ b < w.heap.size ∧ ∀ i, i < ns.length → w.cell? ⟨b, off + i, none⟩ = some (.int .i64 (ns.getD i 0))
  few : ns.length ≤ 17592186044416
theorem IRs.keepS {S : List Nat} {w w' : World} {ao : Option Addr} {ns : List Int} (h : IRs w ao ns) (hf : Fr S w w') (hn : 0 < ns.length → ∀ a, ao = some a → a.block ∉ S) : IRs w' ao ns := by
  refine ⟨fun h0 => ?_, h.few⟩
  obtain ⟨b, off, e, hb, hc⟩ := h.lies h0
  exact ⟨b, off, e, Nat.lt_of_lt_of_le hb hf.size, fun i hi => (World.cell?_of_block (hf.block b hb (hn h0 _ e))).trans (hc i hi)⟩
theorem IRs.keep {w w' : World} {ao : Option Addr} {ns : List Int} (h : IRs w ao ns) (hf : Fr [] w w') : IRs w' ao ns := h.keepS hf (by simp)
theorem IRs.of_open {w : World} {a : Addr} {len cap : Nat} {zs : List Int} (hl : len ≤ cap) (hz : zs.length = cap) (hc : ∀ i, i < zs.length → w.cell? (a.add i) = some (.int .i64 (zs.getD i 0))) (hb : len ≤ 17592186044416) : IRs w (some a) (zs.take len) := by
  refine ⟨fun h0 => ?_, by simp; omega⟩
  rw [List.length_take] at h0
  obtain ⟨b, off, spot⟩ := a
  have hspot : spot = none := by simpa [Addr.add] using World.cell?_spot (hc 0 (by omega))
  subst hspot
  refine ⟨b, off, rfl, ?_, fun j hj => ?_⟩
  · have := World.block_lt_of_cell? w _ (hc 0 (by omega))
    simpa [Addr.add] using this
  · rw [List.length_take] at hj
    have h1 := hc j (by omega)
    rw [show (⟨b, off, none⟩ : Addr).add j = ⟨b, off + j, none⟩ from by simp [Addr.add]] at h1
    rw [h1]
    congr 2
    simp only [List.getD]
    rw [List.getElem?_take_of_lt (by omega)]
theorem itake_snoc (ns : List Int) (i : Nat) (h : i < ns.length) : ns.take (i + 1) = ns.take i ++ [ns.getD i 0] := by
  rw [List.take_add_one]
  simp [List.getD, h]
def intsT (ns : List Int) : List Value := ns.map fun n => Value.int .i64 n
theorem intsT_length (xs : List Int) : (intsT xs).length = xs.length := by simp [intsT]
theorem intsT_get (xs : List Int) (j : Nat) (h : j < xs.length) : (intsT xs)[j]? = some (.int .i64 (xs.getD j 0)) := by simp [intsT, List.getD, h]
theorem Tryz.infoIW : (Tryz.prog.info? 3).map (fun i => (i.zero, i.size, i.bytes)) = some (some (.int .i64 0), 1, 8) := by kernel_rfl
theorem Tryz.undIsW : Tryz.prog.underlying 57 = some (.slice 3) := by kernel_rfl
theorem iown_full {w : World} {g n : Nat} {xs : List Value} (h : w.ownsRow 0 3 1 (.slice (some ⟨g, 0, none⟩) n n) n xs) : w.heap[g]? = some (.cells xs.toArray 3 (0, 0)) := by
  have hl := h.1
  rcases h.2 with ⟨hh, _⟩ | ⟨g', cap', cur, hh, _, hg, _, _, hcs, ht⟩
  · cases hh
  · cases hh
    rw [hg]
    congr 2
    rw [← Array.toList_inj]
    simp only
    rw [← ht, List.take_of_length_le (by simp [hcs])]
end Go.Proofs.YtibgdfjfhjckoaaGreatDoor
