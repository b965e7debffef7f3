/- Texts of this claim laid together, one behind the other: contracts and plain lemmas; conditions as each names them. -/
import Derived.Test.YtldghdbfhikcoaaGreatDoorGp43
import Derived.Deep.RegionHeld3
/- A checkpoint parted by shards: contracts of living, Split. Conditions as each names them. -/
namespace Go.Proofs.YtldghdbfhikcoaaGreatDoor
open Go.ChangeShapes Go.WideShapes Go.ChangeAt Go.RowKit Go.Lib Go.Maps
set_option linter.unusedVariables false
set_option linter.unusedSimpArgs false

/-- One key with its versions more, as one step of a region that draws its order. -/
theorem step_appH (w0 w : World) {ops : Array Oper} {op : Oper} {a : Act} {K : Act → World → Prop} {Q : Exit → Act → World → Prop} {E : Prop} (hg : op.guard = none) (s x : Operand)
    (ho : op.op = .call { callee := .builtin .append, args := #[s, x], argTypes := #[23, 23] })
    (so : Option Addr) (N c : Nat) (hs : List Hd) (hsv : a.eval s = .slice so N c) (hK : HOut w0 w so N c hs) (ad : Addr) (cc : Nat) (p : Hd) (hx : a.eval x = .slice (some ad) 1 cc) (hy : ∀ j u, (hdC p)[j]? = some u → w.cell? (ad.add j) = some u) (hV : VOut w0 w p.vo p.L p.cap p.vs) (hAp : ∀ x ∈ hs, Apa x.vo p.vo) (hN : N < 3518437208883) (h0 : w0.heap.size ≤ w.heap.size)
    (h : ∀ so' c' w', HOut w0 w' so' (N + 1) c' (hs ++ [p]) → Fr (Value.slice so N c).ownBlock.toList w w' → K (a.put op.dst (.slice so' (N + 1) c')) w') :
    if Region.wanted op (yielded ops a.tmps) = true then Oper.wp Tryz.prog op a w K Q else E := by
  have hw : Region.wanted op (yielded ops a.tmps) = true := by simp [Region.wanted, hg]
  rw [if_pos hw]
  obtain ⟨i0, hi, hz0, hz1, hz2⟩ := infoHd_parts
  have hmx : 3518437208884 ≤ maxLen := by unfold maxLen; omega
  obtain ⟨v', w', hr, h2, h3, h4, h5⟩ := run_append_own_at (P := Tryz.prog) w w0.heap.size 23 op.type 73 i0 _ 2 40 Tryz.undHds hi hz0 hz1 hz2 rfl (by decide) (.slice so N c) N (hdsC hs) hK.row ad 1 cc (hdC p) rfl hy (hdC_one p) (by omega) (by omega) h0
  obtain ⟨o', c', rfl⟩ : ∃ o' c', v' = .slice o' (N + 1) c' := by
    rcases h2.2 with ⟨_, h1⟩ | ⟨g, cap, _, rfl, _⟩
    · omega
    · exact ⟨_, cap, rfl⟩
  rw [← hdsC_snoc] at h2
  have hF : Fr (Value.slice so N c).ownBlock.toList w w' := Fr.grown h3 (fun y hy _ => Option.mem_toList.2 hy)
  have hH : HOut w0 w' o' (N + 1) c' (hs ++ [p]) := by
    refine ⟨by rw [hK.len]; simp, h2, fun y hy => ?_, by rw [List.pairwise_append]; exact ⟨hK.apart, List.pairwise_singleton _ _, fun a ha b hb => by simp at hb; subst hb; exact hAp a ha⟩⟩
    have hVy : VOut w0 w y.vo y.L y.cap y.vs := by
      rcases List.mem_append.1 hy with h1 | h1
      · exact hK.each y h1
      · simp at h1; subst h1; exact hV
    refine hVy.keepS hF fun j hj hm => ?_
    obtain ⟨_, c1, e1⟩ := hVy.blk j hj
    obtain ⟨_, c2, e2⟩ := owns_cells hK.row (Option.mem_toList.1 hm)
    rw [e1] at e2
    simp only [Option.some.injEq, Obj.cells.injEq] at e2
    exact absurd e2.2.1 (by decide)
  unfold Oper.wp execOp
  simp only [ho, resolve, invoke, builtin, Sem.run_bind, Sem.run_pure, Result.andThen_ok, List.map_toArray, List.map_cons, List.map_nil, hsv, hx, hr]
  exact h o' c' w' hH hF
/-- The keys of one home. -/
def livK (s n : Int) (hs : List Hd) : List Kv := (hs.filter (fun h => decide (homeOf s h = n))).map Hd.kv
theorem livK_in {s n : Int} {hs : List Hd} {i : Nat} (hi : i < hs.length) (h : homeOf s (hs.getD i Hd.zero) = n) : livK s n (hs.take (i + 1)) = livK s n (hs.take i) ++ [(hs.getD i Hd.zero).kv] := by
  unfold livK
  rw [htake_snoc hs i hi, List.filter_append, List.map_append]
  congr 1
  generalize hs.getD i Hd.zero = y at h ⊢
  simp [List.filter_cons, h]
theorem livK_out {s n : Int} {hs : List Hd} {i : Nat} (hi : i < hs.length) (h : homeOf s (hs.getD i Hd.zero) ≠ n) : livK s n (hs.take (i + 1)) = livK s n (hs.take i) := by
  unfold livK
  rw [htake_snoc hs i hi, List.filter_append, List.map_append]
  generalize hs.getD i Hd.zero = y at h ⊢
  simp [List.filter_cons, h]
/-- What living answers. -/
def LivP (s n : Int) (Lh : Nat) (hs : List Hd) (w : World) (e : Ending) (w' : World) : Prop := ∃ ro N rc hs', e = .returned (.slice ro N rc) ∧ N ≤ Lh ∧ HOut w w' ro N rc hs' ∧ hs'.map Hd.kv = livK s n hs ∧ Fr [] w w'
/-- Ahead of the append. -/
structure Ap18 (w w3 : World) (bx : Nat) (key : ByteArray) (vo : Option Addr) (Lv cv : Nat) (ro : Option Addr) (N rc : Nat) (hs : List Hd) (vo2 : Option Addr) (c2 : Nat) (vs : List Vn) : Prop where
  fho : HOut w (w3.alloc (.cells #[.string key, .slice vo2 Lv c2] 73)) ro N rc hs
  fvo : VOut w (w3.alloc (.cells #[.string key, .slice vo2 Lv c2] 73)) vo2 Lv c2 vs
  ap : ∀ x ∈ hs, Apa x.vo vo2
  sz : w.heap.size ≤ (w3.alloc (.cells #[.string key, .slice vo2 Lv c2] 73)).heap.size
  nw : ∀ j u, (hdC ⟨key, vo2, Lv, c2, vs⟩)[j]? = some u → (w3.alloc (.cells #[.string key, .slice vo2 Lv c2] 73)).cell? ((⟨w3.heap.size, 0, none⟩ : Addr).add j) = some u
  fin : ∀ so' c' w4, HOut w w4 so' (N + 1) c' (hs ++ [⟨key, vo2, Lv, c2, vs⟩]) → Fr (Value.slice ro N rc).ownBlock.toList (w3.alloc (.cells #[.string key, .slice vo2 Lv c2] 73)) w4 → (w4.cell? ⟨bx, 0, none⟩ = some (.string key) ∧ w4.cell? ⟨bx, 1, none⟩ = some (.slice vo Lv cv)) ∧ Hid (HOut w w4 so' (N + 1) c' (hs ++ [⟨key, vo2, Lv, c2, vs⟩]) ∧ Fr [] w w4)
set_option maxHeartbeats 8000000 in
set_option maxRecDepth 100000 in
theorem living_any (s n : Int) (ho mo : Option Addr) (Lh ch cm : Nat) (hs : List Hd) (w : World) (hH : HRs w ho hs) (hLh : Lh = hs.length) (hM : IRs w mo (hs.map (homeOf s))) :
    Calls Tryz.prog 94 #[.slice ho Lh ch, .slice mo Lh cm, .int .i64 n] w fun e w' => LivP s n Lh hs w e w' := by
  have HLh : Hid (Lh = hs.length) := hLh
  have hLL : Lh ≤ 3518437208882 := by have := hH.few; omega
  have HH : Hid (∀ W, Fr [] w W → HRs W ho hs ∧ IRs W mo (hs.map (homeOf s))) := fun W hf => ⟨hH.keep hf, hM.keep hf⟩
  have HE0 : Hid (HOut w w none 0 0 [] ∧ ([] : List Hd).map Hd.kv = livK s n (hs.take 0)) := ⟨⟨rfl, ⟨rfl, .inl ⟨rfl, rfl⟩⟩, by simp, List.Pairwise.nil⟩, rfl⟩
  clear hH hM hLh
  go_enter Tryz.func94, Tryz.ntmps94
  go_wp2_with fail
  go_loopw [7, 12] (fun ll ii wr => ∃ (ro : Option Addr) (N rc i : Nat) (hs' : List Hd), ll = .slice ro N rc ∧ ii = .int .i64 i ∧ i ≤ Lh ∧ N ≤ i ∧ Hid (HOut w wr ro N rc hs' ∧ hs'.map Hd.kv = livK s n (hs.take i)) ∧ Hid (Fr [] w wr)) (fun _ ii _ => Lh - (RowKit.intOf ii).toNat)
  case atStart => exact ⟨none, 0, 0, 0, [], rfl, rfl, Nat.zero_le _, Nat.le_refl _, HE0, Fr.refl _ _⟩
  case round =>
    obtain ⟨ro, N, rc, i, hs', rfl, rfl, hiL, hNi, HE, HF⟩ := hrel
    by_cases hi : i < Lh
    · have hi' : i < hs.length := by rw [← HLh.out]; exact hi
      have hlt : (i : Int) < Lh := by omega
      obtain ⟨hHr, hMr⟩ := HH.out _ HF.out
      obtain ⟨pb, off, rfl, hpb, hat⟩ := hHr.lies (by omega)
      obtain ⟨mb, mof, rfl, hmb, hmt⟩ := hMr.lies (by simp; omega)
      obtain ⟨c0, c1⟩ := hat i hi'
      have m0 := hmt i (by simpa using hi')
      have hhome : (hs.map (homeOf s)).getD i 0 = homeOf s (hs.getD i Hd.zero) := by simp [List.getD, hi']
      rw [hhome] at m0
      have hEc := hHr.each _ (hgetD_mem hs i hi')
      have HIn : Hid (homeOf s (hs.getD i Hd.zero) = n → livK s n (hs.take (i + 1)) = livK s n (hs.take i) ++ [(hs.getD i Hd.zero).kv]) := fun h => livK_in hi' h
      have HOo : Hid (homeOf s (hs.getD i Hd.zero) ≠ n → livK s n (hs.take (i + 1)) = livK s n (hs.take i)) := fun h => livK_out hi' h
      obtain ⟨y, hy⟩ : ∃ y, y = hs.getD i Hd.zero := ⟨_, rfl⟩
      rw [← hy] at c0 c1 m0 hEc HIn HOo
      obtain ⟨hm, hhm⟩ : ∃ hm, hm = homeOf s y := ⟨_, rfl⟩
      rw [← hhm] at m0 HIn HOo
      have HEc : Hid (HEach wr y) := hEc
      obtain ⟨key, vo, Lv, cv, vs⟩ := y
      simp only at c0 c1
      obtain ⟨w2, HW2⟩ : ∃ w2, Hid (wr.alloc (.cells #[.string key, .slice vo Lv cv] 73) = w2) := ⟨_, rfl⟩
      have hF2 : Fr [] wr w2 := by rw [← HW2.out]; exact Fr.alloc [] wr _
      have hb2 : w2.heap[wr.heap.size]? = some (.cells #[.string key, .slice vo Lv cv] 73 (0, 0)) := by rw [← HW2.out]; exact heap_alloc_new wr _
      have x0 : w2.cell? ⟨wr.heap.size, 0, none⟩ = some (.string key) := by rw [cell_of_row _ _ _ _ _ _ hb2]; rfl
      have x1 : w2.cell? ⟨wr.heap.size, 1, none⟩ = some (.slice vo Lv cv) := by rw [cell_of_row _ _ _ _ _ _ hb2]; rfl
      have m2 : w2.cell? ⟨mb, mof + i, none⟩ = some (.int .i64 hm) := far_cell hF2 m0 hmb (by simp)
      have hl2 : wr.heap.size < w2.heap.size := lt_of_block hb2
      have HF2 : Hid (Fr [] wr w2) := hF2
      clear hat hmt hHr hMr hpb hmb hhm hhome hEc hy hb2 hF2
      by_cases hn : hm = n
      · have hne : (hm == n) = true := by simp [hn]
        have HKv : Hid (livK s n (hs.take (i + 1)) = livK s n (hs.take i) ++ [(key, vs)]) := HIn.out hn
        have HCl : Hid (∀ W, Fr [] w2 W → Calls Tryz.prog 108 #[.slice vo Lv cv] W fun e w' => ∃ vo2 c2, e = .returned (.slice vo2 Lv c2) ∧ (w'.cell? ⟨wr.heap.size, 0, none⟩ = some (.string key) ∧ w'.cell? ⟨wr.heap.size, 1, none⟩ = some (.slice vo Lv cv)) ∧ Hid (Ap18 w w' wr.heap.size key vo Lv cv ro N rc hs' vo2 c2 vs)) := by
          intro W hW
          have hFW := HF2.out.then hW
          refine (clone_any vo Lv cv vs W (HEc.out.rs.keep hFW) HEc.out.len).mono ?_
          rintro e w' ⟨vo2, c2, rfl, hV, hF'⟩
          have hG : Fr [] w2 w' := hW.then hF'
          have hGr : Fr [] wr w' := HF2.out.then hG
          have g0 := far_cell hG x0 hl2 (by simp)
          have g1 := far_cell hG x1 hl2 (by simp)
          have hFa : Fr [] w' (w'.alloc (.cells #[.string key, .slice vo2 Lv c2] 73)) := Fr.alloc [] _ _
          have hHO := (HE.out.1.keep hGr).keep hFa
          have hl3 : wr.heap.size < w'.heap.size := Nat.lt_of_lt_of_le hl2 hG.size
          refine ⟨vo2, c2, rfl, ⟨g0, g1⟩, ⟨hHO, ((hV.keepS hFa (by simp)).later (HF.out.then hFW).size), HE.out.1.newApart (hV.later hFW.size), ((HF.out.then hGr).then hFa).size, ?_, ?_⟩⟩
          · intro j u hu
            have hr := heap_alloc_new w' (.cells #[.string key, .slice vo2 Lv c2] 73)
            rw [Addr.add_lit, cell_of_row _ _ _ _ _ _ hr, Nat.zero_add]
            simpa [hdC] using hu
          · intro so' c' w4 e1 e2
            have hbx : wr.heap.size ∉ (Value.slice ro N rc).ownBlock.toList := fun hh => by
              obtain ⟨_, cur, hc⟩ := owns_cells HE.out.1.row (Option.mem_toList.1 hh)
              have := lt_of_block hc
              omega
            have hl4 : wr.heap.size < (w'.alloc (.cells #[.string key, .slice vo2 Lv c2] 73)).heap.size := Nat.lt_of_lt_of_le hl3 hFa.size
            exact ⟨⟨far_cell e2 (far_cell hFa g0 hl3 (by simp)) hl4 hbx, far_cell e2 (far_cell hFa g1 hl3 (by simp)) hl4 hbx⟩, e1, ((HF.out.then hGr).then hFa).on e2 (fun k hk => (owns_cells HE.out.1.row (Option.mem_toList.1 hk)).1)⟩
        have HK0 : Hid (hs'.map Hd.kv = livK s n (hs.take i)) := HE.out.2
        have hN1 : N < 3518437208883 := by omega
        clear hn HIn HOo HE HEc HF
        go_upto_region 5 with fail
        rw [HW2.out]
        go_wp2_with fail
        go_region_held3 (fun W => W.cell? ⟨wr.heap.size, 0, none⟩ = some (.string key) ∧ W.cell? ⟨wr.heap.size, 1, none⟩ = some (.slice vo Lv cv)) (go_keep)
          (first
            | (refine step_appH w _ (by rfl) _ _ (by rfl) ro N rc hs' (by rfl) HA3.out.fho ⟨w3.heap.size, 0, none⟩ 1 ⟨key, vo2, Lv, c2, vs⟩ (by rfl) HA3.out.nw HA3.out.fvo HA3.out.ap hN1 HA3.out.sz ?_; intro so' c' w4 e1 e2; obtain ⟨⟨j0, j1⟩, HR4⟩ := HA3.out.fin so' c' w4 e1 e2)
            | (go_at_call 108; with_reducible refine (HCl.out _ (Fr.drew _ _)).mono ?_; rintro e w3 ⟨vo2, c2, rfl, ⟨g0, g1⟩, HA3⟩))
        have HR5 : Hid ((HOut w w4 so' (N + 1) c' (hs' ++ [⟨key, vo2, Lv, c2, vs⟩]) ∧ (hs' ++ [(⟨key, vo2, Lv, c2, vs⟩ : Hd)]).map Hd.kv = livK s n (hs.take (i + 1))) ∧ Fr [] w w4) := ⟨⟨HR4.out.1, by rw [HKv.out, List.map_append, HK0.out]; rfl⟩, HR4.out.2⟩
        clear HA3 HCl
        go_wp2_with fail
        go_roundw
        case rel => exact ⟨so', N + 1, c', i + 1, _, rfl, by simp, by omega, by omega, HR5.out.1, HR5.out.2⟩
        case measure => simp [RowKit.intOf]; omega
      · have hne : (hm == n) = false := by rw [beq_eq_false_iff_ne]; exact hn
        have HR5 : Hid ((HOut w w2 ro N rc hs' ∧ hs'.map Hd.kv = livK s n (hs.take (i + 1))) ∧ Fr [] w w2) := ⟨⟨HE.out.1.keep HF2.out, by rw [HOo.out hn]; exact HE.out.2⟩, HF.out.then HF2.out⟩
        clear hn HIn HOo HE HEc HF
        go_upto_region 5 with fail
        rw [HW2.out]
        go_wp2_with fail
        go_roundw
        case rel => exact ⟨ro, N, rc, i + 1, hs', rfl, by simp, by omega, by omega, HR5.out.1, HR5.out.2⟩
        case measure => simp [RowKit.intOf]; omega
    · have hi2 : hs.length ≤ i := by have := HLh.out; omega
      have HR : Hid (HOut w wr ro N rc hs' ∧ hs'.map Hd.kv = livK s n hs ∧ Fr [] w wr) := ⟨HE.out.1, by have h1 := HE.out.2; rw [List.take_of_length_le hi2] at h1; exact h1, HF.out⟩
      have hlt : ¬ (i : Int) < Lh := by omega
      have hNL : N ≤ Lh := by omega
      clear hi2 HE HF
      go_wp2
      go_ret
      exact ⟨ro, N, rc, hs', rfl, hNL, HR.out⟩
end Go.Proofs.YtldghdbfhikcoaaGreatDoor
