/- Texts of this claim laid together, one behind the other: contracts and plain lemmas; conditions as each names them. -/
import Derived.Test.YtdcmjoildfofcaaGreatDoorGp25
/- The document's table: contract of Done. Conditions as each names them. -/
namespace Go.Proofs.YtdcmjoildfofcaaGreatDoor
open Go.ChangeShapes Go.WideShapes Go.ChangeAt Go.RowKit Go.Lib Go.Maps
set_option linter.unusedVariables false
set_option linter.unusedSimpArgs false

theorem frz11 {w : World} {b : Nat} {cur : Array Value} {t : TypeId} (h : w.heap[b]? = some (.cells cur t (0, 0))) (i : Nat) : w.frozen? ⟨b, i, none⟩ = false := by
  unfold World.frozen?
  rw [h]
  rfl
theorem Rt.rowb {w : World} {g n c b : Nat} {OB : List Nat} {rs : List Ro} (h : Rt w g OB (some ⟨b, 0, none⟩) n c rs) (h0 : 0 < n) : ∃ cur, w.heap[b]? = some (.cells cur 84 (0, 0)) := by
  obtain ⟨b', e, _, cur, hc, _⟩ := h.lies h0
  cases e
  exact ⟨cur, hc⟩
theorem freed_snoc (m : Int) (rs : List Ro) (i : Nat) (h : i < rs.length) : freed m (rs.take (i + 1)) = if (rs.getD i Ro.zero).xs ≠ [] ∧ ((rs.getD i Ro.zero).xs.filter fun x => x != m) = [] then freed m (rs.take i) ++ [(rs.getD i Ro.zero).num] else freed m (rs.take i) := by
  have e : rs.take (i + 1) = rs.take i ++ [rs.getD i Ro.zero] := by rw [List.take_add_one]; simp [List.getD, h]
  rw [e]
  unfold freed
  rw [List.filter_append, List.map_append]
  split
  · rename_i hc
    rw [List.filter_cons_of_pos (by simpa using hc)]
    rfl
  · rename_i hc
    rw [List.filter_cons_of_neg (by simpa using hc)]
    simp
/-- How far Done has come through the row. -/
def Half (m : Int) (k i : Nat) (rs qs : List Ro) : Prop := qs.length = rs.length ∧ ∀ j, j < rs.length → (qs.getD j Ro.zero).num = (rs.getD j Ro.zero).num ∧ (qs.getD j Ro.zero).ws = (rs.getD j Ro.zero).ws ∧ ((qs.getD j Ro.zero).en = true ↔ (rs.getD j Ro.zero).en = true ∨ j = k) ∧ (qs.getD j Ro.zero).xs = if j < i then (rs.getD j Ro.zero).xs.filter (fun x => x != m) else (rs.getD j Ro.zero).xs
theorem ro_set {rs : List Ro} {i j : Nat} {r : Ro} (hi : i < rs.length) : (rs.set i r).getD j Ro.zero = if i = j then r else rs.getD j Ro.zero := by
  by_cases h : i = j
  · subst h; simp [List.getD, hi]
  · simp [List.getD, h, List.getElem?_set]
theorem Half.step {m : Int} {k i : Nat} {rs qs : List Ro} (h : Half m k i rs qs) (hi : i < rs.length) {r : Ro} (h1 : r.num = (qs.getD i Ro.zero).num) (h2 : r.ws = (qs.getD i Ro.zero).ws) (h3 : r.en = (qs.getD i Ro.zero).en) (h4 : r.xs = (qs.getD i Ro.zero).xs.filter fun x => x != m) : Half m k (i + 1) rs (qs.set i r) := by
  refine ⟨by simpa using h.1, fun j hj => ?_⟩
  rw [ro_set (by rw [h.1]; exact hi)]
  obtain ⟨g1, g2, g3, g4⟩ := h.2 j hj
  by_cases e : i = j
  · subst e
    rw [if_pos rfl, if_pos (by omega), h1, h2, h3, h4, g4, if_neg (by omega)]
    exact ⟨g1, g2, g3, rfl⟩
  · rw [if_neg e]
    refine ⟨g1, g2, g3, ?_⟩
    rw [g4]
    by_cases hlt : j < i
    · rw [if_pos hlt, if_pos (by omega)]
    · rw [if_neg hlt, if_neg (by omega)]
theorem done_step {wr W : World} {g b n c i : Nat} {OB' : List Nat} {qs : List Ro} {m : Int} {so2 : Option Addr} {M2 sc2 : Nat} (hR : Rt W g OB' (some ⟨b, 0, none⟩) n c qs) (hi : i < n) (hO : IOw wr.heap.size W so2 M2 sc2 ((qs.getD i Ro.zero).xs.filter fun x => x != m)) (hgb : g < wr.heap.size ∧ b < wr.heap.size) :
    Rt (W.setCell ⟨b, i * 4 + 2, none⟩ (.slice so2 M2 sc2)) g ((Value.slice so2 M2 sc2).ownBlock.toList ++ OB') (some ⟨b, 0, none⟩) n c (qs.set i { qs.getD i Ro.zero with ao := so2, an := M2, ac := sc2, xs := (qs.getD i Ro.zero).xs.filter fun x => x != m }) := by
  have hE := hR.each _ (ro_mem (rs := qs) (i := i) (by rw [← hR.len]; exact hi))
  refine hR.set rfl hi (by omega) rfl (fun k hk => by simp [hk]) (fun k hk => ?_) ?_
  · rcases List.mem_append.1 hk with e | e
    · obtain ⟨h1, cur, h2⟩ := hO.blk (Option.mem_toList.1 e)
      exact Or.inr ⟨by omega, by omega, lt_of_block h2⟩
    · exact Or.inl e
  · have hE2 := hE.more (OB' := (Value.slice so2 M2 sc2).ownBlock.toList ++ OB') (fun j hj => by simp [hj])
    refine ⟨hE2.wl, hE2.wr, hE2.wb, hE2.ok, hO.len, hO.rd, fun h0 a ha => ?_, ?_⟩
    · have ha : so2 = some a := ha
      subst ha
      simp [Value.ownBlock]
    · have h1 := hO.len
      have h2 := List.length_filter_le (fun x => x != m) (qs.getD i Ro.zero).xs
      have h3 := hE.al
      have h4 := hE.af
      show M2 ≤ 65536
      omega
section
variable {g n c : Nat} {OB : List Nat} {lo : Option Addr} {rs : List Ro}
theorem uDone_no (m : Int) (w : World) (h : Rt w g OB lo n c rs) (hno : ∀ k, k < n → ¬ isAt rs m k) :
    Calls Tryz.prog 16 #[.pointer (some ⟨g, 0, none⟩), .int .i64 m] w fun e w' => e = .returned (.tuple #[.slice none 0 0, .int .i64 1]) ∧ Fr [] w w' := by
  have HC : Hid (Calls _ _ _ _ _) := uplace_any m w h
  clear h
  go_enter Tryz.func16, Tryz.ntmps16
  go_wp2_with fail
  refine Calls.mono HC.out ?_
  rintro e w1 ⟨⟨j, rfl, hjn, hj⟩ | ⟨rfl, _⟩, hF⟩
  · exact absurd hj (hno j hjn)
  · clear hno
    go_wp2
    refine bodyPost_ret (results_tmp2 rfl _ _ _) rfl ?_
    exact ⟨rfl, hF⟩
set_option maxHeartbeats 2000000 in
theorem uDone_order (m : Int) (w : World) (h : Rt w g OB lo n c rs) {k : Nat} (hk : k < n) (hat : isAt rs m k) (huni : ∀ j, j < n → isAt rs m j → j = k) (hx : (rs.getD k Ro.zero).xs ≠ []) :
    Calls Tryz.prog 16 #[.pointer (some ⟨g, 0, none⟩), .int .i64 m] w fun e w' => e = .returned (.tuple #[.slice none 0 0, .int .i64 6]) ∧ Fr [] w w' := by
  have HC : Hid (Calls _ _ _ _ _) := uplace_any m w h
  have HR : Hid (∀ W, Fr [] w W → Rt W g OB lo n c rs) := fun W hf => h.quiet hf
  have hn := h.few
  have hl := h.len
  have hap : 0 < (rs.getD k Ro.zero).an := by
    rw [(h.each _ (ro_mem (by omega))).al]
    exact Nat.pos_of_ne_zero (fun e => hx (List.eq_nil_of_length_eq_zero e))
  clear h hl
  go_enter Tryz.func16, Tryz.ntmps16
  go_wp2_with fail
  refine Calls.mono HC.out ?_
  rintro e w1 ⟨⟨j, rfl, hjn, hj⟩ | ⟨rfl, hno⟩, hF⟩
  · obtain rfl : j = k := huni j hjn hj
    have hR := HR.out _ hF
    have c0 := hR.c0
    obtain ⟨b, rfl, _, _⟩ := hR.lies (by omega)
    have d2 := (hR.cells rfl j hjn).2.2.1
    obtain ⟨an, han⟩ : ∃ an, an = (rs.getD j Ro.zero).an := ⟨_, rfl⟩
    rw [← han] at d2 hap
    have hap2 : (0 : Int) < (an : Int) := by omega
    clear han hR hj hat huni hx
    go_wp2
    refine bodyPost_ret (results_tmp2 rfl _ _ _) rfl ?_
    exact ⟨rfl, hF⟩
  · exact absurd hat (hno k hk)
set_option maxHeartbeats 16000000 in
set_option maxRecDepth 100000 in
theorem uDone_any (m : Int) (w : World) (h : Rt w g OB lo n c rs) {k : Nat} (hk : k < n) (hat : isAt rs m k) (huni : ∀ j, j < n → isAt rs m j → j = k) (hx : (rs.getD k Ro.zero).xs = []) :
    Calls Tryz.prog 16 #[.pointer (some ⟨g, 0, none⟩), .int .i64 m] w fun e w' => ∃ so N sc qs OB', e = .returned (.tuple #[.slice so N sc, .int .i64 0]) ∧ IOw w.heap.size w' so N sc (freed m rs) ∧ Rt w' g OB' lo n c qs ∧ Half m k n rs qs ∧ (∀ j ∈ OB', j ∈ OB ∨ w.heap.size ≤ j) ∧ Fr (rall g lo OB) w w' := by
  have HC : Hid (Calls _ _ _ _ _) := uplace_any m w h
  have HR : Hid (∀ W, Fr [] w W → Rt W g OB lo n c rs) := fun W hf => h.quiet hf
  have hn := h.few
  have HL : Hid (n = rs.length) := h.len
  have hal : (rs.getD k Ro.zero).an = 0 := by
    rw [(h.each _ (ro_mem (by rw [← h.len]; exact hk))).al, hx]
    rfl
  have HX : Hid ((rs.getD k Ro.zero).xs = []) := hx
  clear h hx
  go_enter Tryz.func16, Tryz.ntmps16
  go_wp2_with fail
  refine Calls.mono HC.out ?_
  rintro e w1 ⟨⟨j, rfl, hjn, hj⟩ | ⟨rfl, hno⟩, hF1⟩
  · obtain rfl : j = k := huni j hjn hj
    have hR := HR.out _ hF1
    have c0 := hR.c0
    obtain ⟨b, rfl, hbg, cur, hcur, _⟩ := hR.lies (by omega)
    obtain ⟨_, _, d2, d3⟩ := hR.cells rfl j hjn
    have hfz : w1.frozen? ⟨b, j * 4 + 3, none⟩ = false := frz11 hcur _
    have hR2 : Rt (w1.setCell ⟨b, j * 4 + 3, none⟩ (.bool true)) g OB (some ⟨b, 0, none⟩) n c (rs.set j { rs.getD j Ro.zero with en := true }) :=
      hR.set rfl hjn (by omega) rfl (fun k hk => hk) (fun k hk => Or.inl hk) (by
        have := hR.each _ (ro_mem (by rw [← hR.len]; exact hjn))
        exact ⟨this.wl, this.wr, this.wb, this.ok, this.al, this.ar, this.ab, this.af⟩)
    have HH0 : Hid (Half m j 0 rs (rs.set j { rs.getD j Ro.zero with en := true })) := by
      refine ⟨by simp, fun q hq => ?_⟩
      rw [ro_set (by rw [← HL.out]; exact hjn)]
      by_cases e : j = q
      · subst e; rw [if_pos rfl, if_neg (by omega)]; exact ⟨rfl, rfl, by simp, rfl⟩
      · rw [if_neg e, if_neg (by omega)]
        exact ⟨rfl, rfl, ⟨Or.inl, fun h => h.resolve_right (fun h => e h.symm)⟩, rfl⟩
    obtain ⟨an, han⟩ : ∃ an, an = (rs.getD j Ro.zero).an := ⟨_, rfl⟩
    obtain ⟨ao, hao⟩ : ∃ ao, ao = (rs.getD j Ro.zero).ao := ⟨_, rfl⟩
    obtain ⟨ac, hac⟩ : ∃ ac, ac = (rs.getD j Ro.zero).ac := ⟨_, rfl⟩
    obtain ⟨e0, he0⟩ : ∃ e0, e0 = (rs.getD j Ro.zero).en := ⟨_, rfl⟩
    rw [← hao, ← han, ← hac] at d2
    rw [← he0] at d3
    rw [← han] at hal
    subst hal
    have HR2 : Hid _ := hR2
    have hF2 : Fr [b] w1 (w1.setCell ⟨b, j * 4 + 3, none⟩ (.bool true)) := Fr.set _ _ _ (by simp)
    have HF2 : Hid (Fr (rall g (some ⟨b, 0, none⟩) OB) w (w1.setCell ⟨b, j * 4 + 3, none⟩ (.bool true))) := hF1.trans hF2 (by simp) (fun x hx _ => by simp at hx; simp [rall, Value.ownBlock, hx])
    obtain ⟨w2, HW2⟩ : ∃ w2, Hid (w1.setCell ⟨b, j * 4 + 3, none⟩ (.bool true) = w2) := ⟨_, rfl⟩
    rw [HW2.out] at HR2 HF2
    have hb1 : b < w1.heap.size := lt_of_block hcur
    clear hao hac he0 han hR hR2 hF2 hj hat huni HC hcur
    go_wp2_with fail
    rw [HW2.out]
    clear HW2 c0 d2 d3 hfz
    go_loopw [7, 8] (fun ll ii wr => ∃ (i N : Nat) (so : Option Addr) (sc : Nat) (qs : List Ro) (OB' : List Nat), ll = .slice so N sc ∧ ii = .int .i64 i ∧ i ≤ n ∧ N ≤ i ∧ Hid (IOw w.heap.size wr so N sc (freed m (rs.take i))) ∧ Hid (Rt wr g OB' (some ⟨b, 0, none⟩) n c qs) ∧ Hid (Half m j i rs qs) ∧ Hid ((∀ j ∈ OB', j ∈ OB ∨ w.heap.size ≤ j) ∧ (∀ k, (Value.slice so N sc).ownBlock = some k → k ∉ OB')) ∧ Hid (Fr (rall g (some ⟨b, 0, none⟩) OB) w wr)) (fun _ ii _ => n - (RowKit.intOf ii).toNat)
    case atStart => exact ⟨0, 0, none, 0, _, OB, rfl, rfl, Nat.zero_le _, Nat.le_refl _, IOw.nil _ _, HR2, HH0, ⟨fun j hj => Or.inl hj, fun k hk => by simp [Value.ownBlock] at hk⟩, HF2⟩
    case round =>
      clear HR2 HH0 HF2
      obtain ⟨i, N, so, sc, qs, OB', rfl, rfl, hi1, hN, HO, HQ, HH, HB, HF⟩ := hrel
      have hR := HQ.out
      have c0 := hR.c0
      by_cases hi : i < n
      · have hil : i < rs.length := by rw [← HL.out]; exact hi
        have hiq : i < qs.length := by rw [HH.out.1]; exact hil
        obtain ⟨d0, d1, d2, d3⟩ := hR.cells rfl i hi
        obtain ⟨cur, hcur⟩ := hR.rowb (by omega)
        have hE := hR.each _ (ro_mem hiq)
        obtain ⟨g1, g2, g3, g4⟩ := HH.out.2 i hil
        rw [if_neg (by omega)] at g4
        have HS := freed_snoc m rs i hil
        rw [← g4, ← g1] at HS
        have HSt : Hid (∀ (W : World) (so2 : Option Addr) (M2 sc2 : Nat), Rt W g OB' (some ⟨b, 0, none⟩) n c qs → IOw wr.heap.size W so2 M2 sc2 ((qs.getD i Ro.zero).xs.filter fun x => x != m) → Rt (W.setCell ⟨b, i * 4 + 2, none⟩ (.slice so2 M2 sc2)) g ((Value.slice so2 M2 sc2).ownBlock.toList ++ OB') (some ⟨b, 0, none⟩) n c (qs.set i { qs.getD i Ro.zero with ao := so2, an := M2, ac := sc2, xs := (qs.getD i Ro.zero).xs.filter fun x => x != m })) := fun W so2 M2 sc2 h1 h2 => done_step h1 hi h2 ⟨hR.mineA g (by simp [rall]), hR.mineA b (by simp [rall, Value.ownBlock])⟩
        have HHs : Hid (∀ (so2 : Option Addr) (M2 sc2 : Nat), Half m j (i + 1) rs (qs.set i { qs.getD i Ro.zero with ao := so2, an := M2, ac := sc2, xs := (qs.getD i Ro.zero).xs.filter fun x => x != m })) := fun so2 M2 sc2 => HH.out.step hil rfl rfl rfl rfl
        have hEar := hE.ar
        have hEal := hE.al
        have hEaf := hE.af
        have HW : Hid (Calls _ _ _ _ _) := without_any (qs.getD i Ro.zero).ao (qs.getD i Ro.zero).an (qs.getD i Ro.zero).ac (qs.getD i Ro.zero).xs m wr hEar hEal (by omega)
        have HD : Hid (∀ W, Fr [] wr W → W.cell? ⟨g, 0, none⟩ = some (.slice (some ⟨b, 0, none⟩) n c) ∧ W.cell? ⟨b, i * 4, none⟩ = some (.int .i64 (qs.getD i Ro.zero).num) ∧ W.cell? ⟨b, i * 4 + 2, none⟩ = some (.slice (qs.getD i Ro.zero).ao (qs.getD i Ro.zero).an (qs.getD i Ro.zero).ac) ∧ W.frozen? ⟨b, i * 4 + 2, none⟩ = false) := fun W hf => by
          have h2 := HQ.out.quiet hf
          obtain ⟨k0, k1, k2, k3⟩ := h2.cells rfl i hi
          refine ⟨h2.c0, k0, k2, ?_⟩
          exact frz11 (hf.keep hcur (by simp)) _
        have HBl : Hid (∀ k, (Value.slice so N sc).ownBlock = some k → w.heap.size ≤ k ∧ k < wr.heap.size) := fun k hk => by
          obtain ⟨h1, cc, h2⟩ := HO.out.blk hk
          exact ⟨h1, lt_of_block h2⟩
        have hgw : g < w.heap.size ∧ b < w.heap.size := ⟨(HR.out _ (Fr.refl _ _)).mineA g (by simp [rall]), (HR.out _ (Fr.refl _ _)).mineA b (by simp [rall, Value.ownBlock])⟩
        obtain ⟨num, hnum⟩ : ∃ num, num = (qs.getD i Ro.zero).num := ⟨_, rfl⟩
        obtain ⟨ao, hao⟩ : ∃ ao, ao = (qs.getD i Ro.zero).ao := ⟨_, rfl⟩
        obtain ⟨an, han⟩ : ∃ an, an = (qs.getD i Ro.zero).an := ⟨_, rfl⟩
        obtain ⟨ac, hac⟩ : ∃ ac, ac = (qs.getD i Ro.zero).ac := ⟨_, rfl⟩
        obtain ⟨xs, hxs⟩ : ∃ xs, xs = (qs.getD i Ro.zero).xs := ⟨_, rfl⟩
        rw [← hao, ← han, ← hac] at d2 HD HW
        rw [← hnum] at HD HS
        rw [← hxs] at HS HW hEal HSt HHs
        rw [← han] at hEal hEaf
        clear hnum hao han hac hxs hE hEar d0 d1 d3 g1 g2 g3 g4 hcur hR HH
        have HEal : Hid (an = xs.length) := hEal
        clear hEal
        have hil2 : (i : Int) < (n : Int) := by omega
        go_wp2_with fail
        refine Calls.mono HW.out ?_
        rintro e w3 ⟨so2, M2, sc2, rfl, hO3, hF3⟩
        obtain ⟨k0, k1, k2, k3⟩ := HD.out _ hF3
        have hM2 := hO3.len
        have HR3 : Hid (Rt w3 g OB' (some ⟨b, 0, none⟩) n c qs) := HQ.out.quiet hF3
        have HO3 : Hid (IOw wr.heap.size w3 so2 M2 sc2 (xs.filter fun x => x != m)) := hO3
        have HF3 : Hid (Fr [] wr w3) := hF3
        have HOb : Hid (∀ k, (Value.slice so2 M2 sc2).ownBlock = some k → wr.heap.size ≤ k ∧ k < w3.heap.size) := fun k hk => by
          obtain ⟨h1, cc, h2⟩ := hO3.blk hk
          exact ⟨h1, lt_of_block h2⟩
        have hs3 := hF3.size
        have hsw := HF.out.size
        have hM2b : M2 ≤ 65536 := by
          have h2 := List.length_filter_le (fun x => x != m) xs
          have := HEal.out
          omega
        by_cases hcond : M2 = 0 ∧ 0 < an
        · have HS2 : Hid (freed m (rs.take (i + 1)) = freed m (rs.take i) ++ [num]) := by
            rw [if_pos ⟨fun e => by have := HEal.out; rw [e] at this; simp at this; omega, List.eq_nil_of_length_eq_zero (by omega)⟩] at HS
            exact HS
          obtain ⟨hc1, hc2⟩ := hcond
          have hc2i : (0 : Int) < (an : Int) := by omega
          subst hc1
          have HO2 : Hid (∀ W, Fr [] w3 W → IOw w.heap.size W so N sc (freed m (rs.take i))) := fun W hf => (HO.out.keep HF3.out).keep hf
          clear hM2 hO3 hF3 HS HW HD
          go_upto_region 16 with (at_builtin; refine wpList_appI w.heap.size _ rfl (.tmp 68) (.tmp 77) rfl so N sc _ rfl (HO2.out _ (Fr.alloc [] _ _)) ⟨w3.heap.size, 0, none⟩ 1 num rfl (cell_new1 _ _ _) ?c2 ?c3 ?_)
          case c2 => omega
          case c3 => first | omega | (simp; omega)
          intro o' c' w5 hO5 hF5 hm5
          rw [← HS2.out] at hO5
          have hFa : Fr [] w3 (w3.alloc (.cells #[.int .i64 num] 3)) := Fr.alloc _ _ _
          have hno : ∀ x ∈ (Value.slice so N sc).ownBlock.toList, w.heap.size ≤ x ∧ x < wr.heap.size ∧ x ∉ OB' := fun x hx => ⟨(HBl.out x (Option.mem_toList.1 hx)).1, (HBl.out x (Option.mem_toList.1 hx)).2, HB.out.2 x (Option.mem_toList.1 hx)⟩
          have hR5 : Rt w5 g OB' (some ⟨b, 0, none⟩) n c qs := (HR3.out.quiet hFa).keep hF5 (fun q hq hm => by
            obtain ⟨h1, h2, h3⟩ := hno q hm
            simp only [rall, List.mem_cons, List.mem_append, Option.mem_toList, Value.ownBlock] at hq
            rcases hq with rfl | hq | hq
            · omega
            · simp at hq; omega
            · exact h3 hq)
          have hL5 : IOw wr.heap.size w5 so2 0 sc2 (xs.filter fun x => x != m) := (HO3.out.keep hFa).keepS hF5 (fun q hq hm => by
            have := (HOb.out q hq).1
            have := (hno q hm).2.1
            omega)
          have hR6 := HSt.out w5 so2 0 sc2 hR5 hL5
          have k5 := hR5.c0
          have k6 := (hR5.cells rfl i hi).2.2.1
          obtain ⟨cur5, hcur5⟩ := hR5.rowb (by omega)
          have k7 : w5.frozen? ⟨b, i * 4 + 2, none⟩ = false := frz11 hcur5 _
          have hF6 : Fr [b] w5 (w5.setCell ⟨b, i * 4 + 2, none⟩ (.slice so2 0 sc2)) := Fr.set _ _ _ (by simp)
          have hown5 : ∀ q, (Value.slice o' (N + 1) c').ownBlock = some q → w.heap.size ≤ q ∧ q ∉ ((Value.slice so2 0 sc2).ownBlock.toList ++ OB') := fun q hq => by
            refine ⟨(hO5.blk hq).1, fun hm => ?_⟩
            have hsz3 : (w3.alloc (.cells #[.int .i64 num] 3)).heap.size = w3.heap.size + 1 := by simp
            rcases List.mem_append.1 hm with e | e
            · have h1 := HOb.out q (Option.mem_toList.1 e)
              rcases hm5 q hq with e2 | e2
              · have := (HBl.out q e2).2; omega
              · omega
            · rcases hm5 q hq with e2 | e2
              · exact HB.out.2 q e2 e
              · have := HR3.out.mine q e; omega
          have HO6 : Hid (IOw w.heap.size (w5.setCell ⟨b, i * 4 + 2, none⟩ (.slice so2 0 sc2)) o' (N + 1) c' (freed m (rs.take (i + 1)))) := hO5.keepS hF6 (fun q hq hm => by simp at hm; have := (hown5 q hq).1; omega)
          have HF6 : Hid (Fr (rall g (some ⟨b, 0, none⟩) OB) w (w5.setCell ⟨b, i * 4 + 2, none⟩ (.slice so2 0 sc2))) := by
            have h1 : Fr (rall g (some ⟨b, 0, none⟩) OB) w w5 := (HF.out.trans ((HF3.out.then hFa).trans hF5 (by simp) (fun x hx _ => hx)) (fun x hx _ => hx) (fun x hx hl => by have := (hno x hx).1; omega))
            exact h1.trans hF6 (fun x hx _ => hx) (fun x hx _ => by simp at hx; simp [rall, Value.ownBlock, hx])
          have HB6 : Hid ((∀ q ∈ (Value.slice so2 0 sc2).ownBlock.toList ++ OB', q ∈ OB ∨ w.heap.size ≤ q) ∧ (∀ q, (Value.slice o' (N + 1) c').ownBlock = some q → q ∉ (Value.slice so2 0 sc2).ownBlock.toList ++ OB')) := ⟨fun q hq => by
            rcases List.mem_append.1 hq with e | e
            · have := (HOb.out q (Option.mem_toList.1 e)).1; exact Or.inr (by omega)
            · exact HB.out.1 q e, fun q hq => (hown5 q hq).2⟩
          have HR6 : Hid _ := hR6
          have HH6 : Hid _ := HHs.out so2 0 sc2
          obtain ⟨w6, HW6⟩ : ∃ w6, Hid (w5.setCell ⟨b, i * 4 + 2, none⟩ (.slice so2 0 sc2) = w6) := ⟨_, rfl⟩
          rw [HW6.out] at HR6 HO6 HF6
          clear hR5 hL5 hR6 hcur5 hF6 hown5 hO5 hF5 hm5 hFa hno HO HO2 HF HB HR3 HO3 HF3 HQ HSt HHs HBl HOb
          go_wp2
          rw [HW6.out]
          go_roundw
          case rel => exact ⟨i + 1, N + 1, o', c', _, _, rfl, by simp, by omega, by omega, HO6, HR6, HH6, HB6, HF6⟩
          case measure => simp [RowKit.intOf]; omega
        · have HS2 : Hid (freed m (rs.take (i + 1)) = freed m (rs.take i)) := by
            rw [if_neg (fun hc => hcond ⟨by rw [hM2, hc.2]; rfl, by rw [HEal.out]; exact Nat.pos_of_ne_zero (fun e => hc.1 (List.eq_nil_of_length_eq_zero e))⟩)] at HS
            exact HS
          have hR6 := HSt.out w3 so2 M2 sc2 HR3.out HO3.out
          have hF6 : Fr [b] w3 (w3.setCell ⟨b, i * 4 + 2, none⟩ (.slice so2 M2 sc2)) := Fr.set _ _ _ (by simp)
          have HO6 : Hid (IOw w.heap.size (w3.setCell ⟨b, i * 4 + 2, none⟩ (.slice so2 M2 sc2)) so N sc (freed m (rs.take (i + 1)))) := by
            rw [Hid, HS2.out]
            exact (HO.out.keep HF3.out).keepS hF6 (fun q hq hm => by simp at hm; have := (HBl.out q hq).1; omega)
          have HF6 : Hid (Fr (rall g (some ⟨b, 0, none⟩) OB) w (w3.setCell ⟨b, i * 4 + 2, none⟩ (.slice so2 M2 sc2))) := (HF.out.trans HF3.out (fun x hx _ => hx) (by simp)).trans hF6 (fun x hx _ => hx) (fun x hx _ => by simp at hx; simp [rall, Value.ownBlock, hx])
          have HB6 : Hid ((∀ q ∈ (Value.slice so2 M2 sc2).ownBlock.toList ++ OB', q ∈ OB ∨ w.heap.size ≤ q) ∧ (∀ q, (Value.slice so N sc).ownBlock = some q → q ∉ (Value.slice so2 M2 sc2).ownBlock.toList ++ OB')) := ⟨fun q hq => by
            rcases List.mem_append.1 hq with e | e
            · have := (HOb.out q (Option.mem_toList.1 e)).1; exact Or.inr (by omega)
            · exact HB.out.1 q e, fun q hq hm => by
            rcases List.mem_append.1 hm with e | e
            · have := (HOb.out q (Option.mem_toList.1 e)).1; have := (HBl.out q hq).2; omega
            · exact HB.out.2 q hq e⟩
          have HR6 : Hid _ := hR6
          have HH6 : Hid _ := HHs.out so2 M2 sc2
          obtain ⟨w6, HW6⟩ : ∃ w6, Hid (w3.setCell ⟨b, i * 4 + 2, none⟩ (.slice so2 M2 sc2) = w6) := ⟨_, rfl⟩
          rw [HW6.out] at HR6 HO6 HF6
          clear hR6 hF6 HO HF HB HR3 HO3 HF3 HQ HSt HHs HBl HOb hO3 hF3 HS HW HD hM2
          by_cases hM0 : M2 = 0
          · have han : ¬ 0 < an := fun e => hcond ⟨hM0, e⟩
            have hani : ¬ (0 : Int) < (an : Int) := by omega
            subst hM0
            clear hcond
            go_wp2
            rw [HW6.out]
            go_roundw
            case rel => exact ⟨i + 1, N, so, sc, _, _, rfl, by simp, by omega, by omega, HO6, HR6, HH6, HB6, HF6⟩
            case measure => simp [RowKit.intOf]; omega
          · have hM1 : ((M2 : Int) == 0) = false := by rw [beq_eq_false_iff_ne]; omega
            clear hcond
            go_wp2
            rw [HW6.out]
            go_roundw
            case rel => exact ⟨i + 1, N, so, sc, _, _, rfl, by simp, by omega, by omega, HO6, HR6, HH6, HB6, HF6⟩
            case measure => simp [RowKit.intOf]; omega
      · have HE : Hid (rs.take i = rs) := List.take_of_length_le (by rw [← HL.out]; omega)
        have hin : i = n := by omega
        clear hR
        go_wp2
        refine bodyPost_ret (results_tmp2 rfl _ _ _) rfl ?_
        refine ⟨so, N, sc, qs, OB', rfl, by have := HO.out; rwa [HE.out] at this, HQ.out, by rw [← hin]; exact HH.out, HB.out.1, HF.out⟩
  · exact absurd hat (hno k hk)
end
end Go.Proofs.YtdcmjoildfofcaaGreatDoor
