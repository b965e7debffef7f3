/- The document's shard: contracts of Scan, Dump, Collect. Conditions as each names them. -/
import Derived.Test.YtkplammapbiebaaGreatDoorKq9
import Derived.Test.YtkplammapbiebaaGreatDoorUd8
namespace Go.Proofs.YtkplammapbiebaaGreatDoor
open Go.ChangeShapes Go.WideShapes Go.ChangeAt Go.RowKit Go.Lib Go.Maps
set_option linter.unusedVariables false
set_option linter.unusedSimpArgs false

set_option maxHeartbeats 1000000 in
theorem zIn_any (s key en : ByteArray) (B : Bool) (w : World) (hB : B = inS key en s) : Calls Tryz.prog 118 #[.string s, .string key, .string en] w fun e w' => e = .returned (.bool B) ∧ Fr [] w w' := by
  obtain ⟨G, hG⟩ : ∃ G, Op.bytesLess s.toList key.toList = G := ⟨_, rfl⟩
  obtain ⟨K, hK⟩ : ∃ K, Op.bytesLess s.toList en.toList = K := ⟨_, rfl⟩
  by_cases hz : en.size = 0
  · have hE : (en.toList == ([] : List UInt8)) = true := by simp [(tl_nil en).2 hz]
    have hz1 : ((en.size : Int) == 0) = true := by rw [beq_iff_eq]; omega
    unfold inS at hB
    rw [hG, hE, hK] at hB
    simp only [Bool.true_or, Bool.and_true] at hB
    subst hB
    cases G <;>
    · go_enter Tryz.func118, Tryz.ntmps118
      go_wp2
      all_goals (go_ret; exact ⟨rfl, Fr.refl _ _⟩)
  · have hE : (en.toList == ([] : List UInt8)) = false := by rw [beq_eq_false_iff_ne]; exact fun h => hz ((tl_nil en).1 h)
    have hz1 : ((en.size : Int) == 0) = false := by rw [beq_eq_false_iff_ne]; omega
    unfold inS at hB
    rw [hG, hE, hK] at hB
    simp only [Bool.false_or] at hB
    subst hB
    cases G <;> cases K <;>
    · go_enter Tryz.func118, Tryz.ntmps118
      go_wp2
      all_goals (go_ret; exact ⟨rfl, Fr.refl _ _⟩)
/-- What at tells is the value at the mark. -/
theorem AtW.is {vs : List Vn} {mk : Int} {r : ByteArray} {o : Bool} (h : AtW vs mk r o) (hok : okV vs) : o = (valAt vs mk).isSome ∧ r = (valAt vs mk).getD noS := by
  obtain ⟨x, ok, c, hA, rfl, rfl⟩ := h
  obtain ⟨h1, h2, _⟩ := get_told hok hA
  refine ⟨h1, ?_⟩
  cases hv : valAt vs mk with
  | none => rw [hv] at h1; rw [if_neg (by rw [h1]; simp)]; rfl
  | some v => rw [hv] at h1 h2; rw [if_pos (by rw [h1]; rfl)]; exact h2
section
variable {w0 w : World} {g N lc : Nat} {lo : Option Addr} {hs : List Hd}
/-- One more key and its versions. -/
theorem wpList_appR (w0 w : World) {ops : Array Oper} {rest : List Oper} {o : Oper} {a : Act} {Q : Exit → Act → World → Prop} (hgd : o.guard = none) (s x : Operand)
    (ho : o.op = .call { callee := .builtin .append, args := #[s, x], argTypes := #[22, 22] })
    (so : Option Addr) (N c : Nat) (hs : List Hd) (hsv : a.eval s = .slice so N c) (hK : HRo w0 w so N c hs) (hN : N < 1099511627776) (h0 : w0.heap.size ≤ w.heap.size) (p : Hd) (hV : HEach w p) (hT : HTy w p) (hx : a.eval x = .slice (some ⟨w.heap.size, 0, none⟩) 1 1)
    (h : ∀ so' c' w', HRo w0 w' so' (N + 1) c' (hs ++ [p]) → Fr (Value.slice so N c).ownBlock.toList w w' → wpList Tryz.prog ops Q rest (a.put o.dst (.slice so' (N + 1) c')) w') : wpList Tryz.prog ops Q (o :: rest) a (w.alloc (.cells #[.string p.key, .slice p.vo p.L p.cap] 71)) := by
  obtain ⟨i0, hi, hz0, hz1, hz2⟩ := infoHd_parts
  have hmx : 2199023255552 ≤ maxLen := by unfold maxLen; omega
  refine wpList_append_own (w.alloc (.cells #[.string p.key, .slice p.vo p.L p.cap] 71)) hgd s x 22 ho w0.heap.size 71 i0 _ 2 40 Tryz.undHds hi hz0 hz1 hz2 rfl (by decide) (.slice so N c) N (hdsC hs) hsv (owns_keepB hK.row (Fr.alloc [] w _) (by simp)) ⟨w.heap.size, 0, none⟩ 1 1 (hdC p) hx rfl ?_ (hdC_one p) (by omega) (by omega) (by simp; omega) ?_
  · intro j u hu
    have hr := heap_alloc_new w (.cells #[.string p.key, .slice p.vo p.L p.cap] 71)
    rw [Addr.add_lit, cell_of_row _ _ _ _ _ _ hr, Nat.zero_add]
    simpa [hdC] using hu
  · intro v' w' hown' hg' _
    obtain ⟨bo, cap', rfl⟩ : ∃ bo cap', v' = .slice bo (N + 1) cap' := by
      rcases hown'.2 with ⟨_, h1⟩ | ⟨g, cap, _, rfl, _⟩
      · omega
      · exact ⟨_, cap, rfl⟩
    rw [← hdsC_snoc] at hown'
    have hF : Fr (Value.slice so N c).ownBlock.toList w w' := ((Fr.alloc [] w _).mono (by simp)).then (Fr.grown (S := (Value.slice so N c).ownBlock.toList) hg' (fun y hy _ => Option.mem_toList.2 hy))
    have hall : ∀ y ∈ hs ++ [p], HEach w y ∧ HTy w y := fun y hy => by
      rcases List.mem_append.1 hy with h1 | h1
      · exact ⟨hK.each y h1, hK.ty y h1⟩
      · simp at h1; subst h1; exact ⟨hV, hT⟩
    have hap : ∀ y ∈ hs ++ [p], ∀ j, VB y j → j ∉ (Value.slice so N c).ownBlock.toList := fun y hy j hj hm => by
      obtain ⟨c1, e1⟩ := (hall y hy).2 j hj
      obtain ⟨_, c2, e2⟩ := owns_cells hK.row (Option.mem_toList.1 hm)
      rw [e1] at e2
      simp only [Option.some.injEq, Obj.cells.injEq] at e2
      exact absurd e2.2.1 (by decide)
    exact h bo cap' w' ⟨by rw [hK.len]; simp, hown', fun y hy => (hall y hy).1.keepS hF (hap y hy), fun y hy => (hall y hy).2.keepS hF (hap y hy)⟩ hF
set_option maxHeartbeats 4000000 in
set_option maxRecDepth 100000 in
theorem kdump_any (h : KSh w0 w g N lc lo hs) (k : Int) (bo : Option Addr) (Mn cb : Nat) (ns : List Int) (hI : IRs w bo ns) (hM : Mn = ns.length) : Calls Tryz.prog 75 #[.pointer (some ⟨g, 0, none⟩), .int .i64 k, .slice bo Mn cb] w fun e w' => ∃ ro R rc gs, e = .returned (.slice ro R rc) ∧ HRo w w' ro R rc gs ∧ R ≤ N ∧ gs.map hkv = hs.filterMap (duOf k ns) ∧ Fr [] w w' := by
  have HK : Hid (∀ W, Fr [] w W → KSh w0 W g N lc lo hs) := fun W hf => h.keep hf
  have HI : Hid (∀ W, Fr [] w W → IRs W bo ns) := fun W hf => hI.keep hf
  have HM : Hid (Mn = ns.length) := hM
  have HN : Hid (N = hs.length) := h.log.len
  have hfew := h.few
  have HOk : Hid (LoOk hs) := h.ok
  clear h hI hM
  go_enter Tryz.func75, Tryz.ntmps75
  have c0 := (HK.out _ (Fr.refl _ _)).c0
  go_wp2_with fail
  go_loopw [7, 8] (fun vv ii wr => ∃ (i R rc : Nat) (ro : Option Addr) (gs : List Hd), vv = .slice ro R rc ∧ ii = .int .i64 i ∧ i ≤ N ∧ R ≤ i ∧ Hid (HRo w wr ro R rc gs) ∧ Hid (gs.map hkv = (hs.take i).filterMap (duOf k ns)) ∧ Fr [] w wr) (fun _ ii _ => N - (RowKit.intOf ii).toNat)
  case atStart => exact ⟨0, 0, 0, none, [], rfl, rfl, Nat.zero_le _, Nat.le_refl _, ⟨rfl, World.ownsRow_nil _ _ _ _, by simp, by simp⟩, rfl, Fr.refl _ _⟩
  case round =>
    clear c0
    obtain ⟨i, R, rc, ro, gs, rfl, rfl, hiN, hRi, HO, HG, hFr⟩ := hrel
    have c0 := (HK.out _ hFr).c0
    by_cases hi : i < N
    · have hi' : i < hs.length := by rw [← HN.out]; exact hi
      have hR := (HK.out _ hFr).rs
      obtain ⟨b, off, e9, hbl, hc⟩ := hR.lies (by omega)
      obtain ⟨d0, d1⟩ := hc i hi'
      have hE := hR.each _ (hgetD_mem hs i hi')
      have HT : Hid ((hs.take (i + 1)).filterMap (duOf k ns) = (hs.take i).filterMap (duOf k ns) ++ (duOf k ns (hs.getD i Hd.zero)).toList) := by
        show _ = _
        rw [htake_snoc hs i hi', List.filterMap_append]
        congr 1
      have HX : Hid (okV (hs.getD i Hd.zero).vs) := (HOk.out.2 _ (hgetD_mem hs i hi')).2.2
      obtain ⟨x, hx⟩ : ∃ x, x = hs.getD i Hd.zero := ⟨_, rfl⟩
      rw [← hx] at d0 d1 hE HT HX
      clear hc hx hR
      obtain ⟨key, vo, M, cm, vs⟩ := x
      simp only at d0 d1
      have HM2 : Hid (M = vs.length) := hE.len
      have HV : Hid (VRs wr vo vs) := hE.rs
      have HKz : Hid (key.size ≤ 140737488355328) := hE.k
      have HC : Hid (∀ W, Fr [] wr W → W.cell? ⟨b, off + i * 2, none⟩ = some (.string key)) := fun W hf => (World.cell?_of_block (hf.block b hbl (by simp))).trans d0
      subst e9
      clear hE
      go_wp2_with fail
      refine (udump_any vo M cm k vs bo Mn cb ns wr HV.out HM2.out (HI.out _ hFr) HM.out).mono ?_
      rintro e w4 ⟨uo, U, uc, us, cc, rfl, hD, hUl, hUr, hF4, hNr⟩
      have HUs : Hid (us = dmp vs k ns) := dmp_told HX.out hD
      have HUl : Hid (U = us.length) := hUl
      have HUr : Hid (VRs w4 uo us) := hUr
      have HNr : Hid (Nr9 wr w4 none uo U uc) := hNr
      have hG4 := hFr.then hF4
      have e0 := (HK.out _ hG4).c0
      have e1 := HC.out _ hF4
      have HO4 : Hid (HRo w w4 ro R rc gs) := HO.out.keep hF4
      clear hD hUl hUr hNr hF4 hFr HO HC d0 d1 c0 HV
      by_cases hU : U = 0
      · subst hU
        have HG2 : Hid (gs.map hkv = (hs.take (i + 1)).filterMap (duOf k ns)) := by
          show _ = _
          have hz : us = [] := List.eq_nil_of_length_eq_zero HUl.out.symm
          rw [HT.out, HG.out]
          unfold duOf
          rw [if_pos (by rw [← HUs.out]; exact hz)]
          simp
        go_wp2
        go_roundw
        case rel => exact ⟨i + 1, R, rc, ro, gs, rfl, by simp, by omega, by omega, HO4, HG2, hG4⟩
        case measure => simp [RowKit.intOf]; omega
      · have HG2 : Hid ((gs ++ [(⟨key, uo, U, uc, us⟩ : Hd)]).map hkv = (hs.take (i + 1)).filterMap (duOf k ns)) := by
          show _ = _
          have hz : dmp vs k ns ≠ [] := fun e => hU (by rw [HUl.out, HUs.out, e]; rfl)
          rw [HT.out, List.map_append, HG.out]
          unfold duOf
          rw [if_neg hz, ← HUs.out]
          rfl
        have HEn : Hid (HEach w4 ⟨key, uo, U, uc, us⟩ ∧ HTy w4 ⟨key, uo, U, uc, us⟩) := by
          refine ⟨⟨HKz.out, HUl.out, HNr.out.1, HUr.out⟩, fun j hj => ?_⟩
          obtain ⟨_, a, ea, rfl⟩ := hj
          rcases HNr.out.2 a ea with h1 | ⟨c, h1, _⟩
          · exact h1.2
          · cases h1
        have hsz : w.heap.size ≤ w4.heap.size := hG4.size
        have HOn : Hid (∀ w8, Fr (Value.slice ro R rc).ownBlock.toList w4 w8 → Fr [] w w8) := fun w8 hF8 => hG4.on hF8 (fun x hx => (owns_cells HO4.out.row (Option.mem_toList.1 hx)).1)
        clear HNr HUr HUl HUs
        go_wp2_with (at_builtin; refine wpList_appR w w4 rfl _ _ rfl ro R rc gs rfl HO4.out (by omega) hsz ⟨key, uo, U, uc, us⟩ HEn.out.1 HEn.out.2 rfl ?_)
        intro so3 c3 w8 hK8 hF8
        have HK8 : Hid (HRo w w8 so3 (R + 1) c3 (gs ++ [⟨key, uo, U, uc, us⟩])) := hK8
        have hG8 := HOn.out _ hF8
        clear hK8 hF8 HO4 HEn HOn
        go_wp2
        go_roundw
        case rel => exact ⟨i + 1, R + 1, c3, so3, _, rfl, by simp, by omega, by omega, HK8, HG2, hG8⟩
        case measure => simp [RowKit.intOf]; omega
    · obtain rfl : i = N := by omega
      have HG2 : Hid (gs.map hkv = hs.filterMap (duOf k ns)) := by show _ = _; rw [HG.out, List.take_of_length_le (by rw [← HN.out]; omega)]
      go_wp2
      go_ret
      exact ⟨ro, R, rc, gs, rfl, HO.out, hRi, HG2.out, hFr⟩
end
end Go.Proofs.YtkplammapbiebaaGreatDoor
