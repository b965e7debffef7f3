/- For every log, mark and numbers beyond it the law CountLogs returns true, and they read as they did. What comes in: of bulk at most 1048576. -/
import Derived.Test.YtdojhkgnnbdfkaaLh22
import Derived.Test.YtdojhkgnnbdfkaaLx22
import Derived.Test.YtdojhkgnnbdfkaaLfT
import Derived.Test.YtdojhkgnnbdfkaaBk22
namespace Go.Proofs.Ytdojhkgnnbdfkaa.countLogs
open Go.ChangeShapes Go.WideShapes Go.ChangeAt Go.RowKit Go.Lib Go.ChangeMaps
set_option linter.unusedVariables false

theorem stL_txs : ∀ (a b : List Tm) (q : List Int), txs a = txs b → stL a q = stL b q
  | [], [], _, _ => rfl
  | [], x :: r, _, h => by simp [txs] at h
  | x :: r, [], _, h => by simp [txs] at h
  | x :: r, y :: s, q, h => by
    simp only [txs, List.map_cons, List.cons.injEq, Tm.tx, Tx.mk.injEq] at h
    obtain ⟨⟨h1, h2⟩, h3⟩ := h
    simp only [stL, h1, h2]
    rw [stL_txs r s _ h3]
theorem LgP.twin {a b : List Tm} (h : txs a = txs b) {m : Int} {q : List Int} {r e : Int} (hp : LgP a m q r e) : LgP b m q r e := by
  have hl : a.length = b.length := by have := congrArg List.length h; simpa [txs] using this
  have hd : txs (a.drop m.toNat) = txs (b.drop m.toNat) := by
    have := congrArg (List.drop m.toNat) h
    simpa [txs, List.map_drop] using this
  have ho : LgOk a m q ↔ LgOk b m q := by unfold LgOk; rw [h, hl]
  rcases hp with ⟨h1, h2, h3⟩ | ⟨h1, h2, h3⟩
  · exact .inl ⟨ho.1 h1, by rw [h2, stL_txs _ _ q hd], h3⟩
  · exact .inr ⟨fun hh => h1 (ho.2 hh), h2, h3⟩
theorem irs_twin {W : World} {b : Nat} {ns : List Int} (h : W.heap[b]? = some (.cells (intsT (ns ++ [7777])).toArray 3 (0, 0))) (hf : ns.length ≤ 17592186044416) : IRs W (some ⟨b, 0, none⟩) ns := by
  refine ⟨fun h0 => ⟨b, 0, rfl, lt_of_block h, fun i hi => ?_⟩, hf⟩
  rw [cell_of_row _ _ _ _ _ _ h, Nat.zero_add]
  simp only [intsT, List.map_append, List.getElem?_toArray]
  rw [List.getElem?_append_left (by simpa using hi)]
  simp [List.getD, hi]

set_option maxHeartbeats 4000000 in
set_option maxRecDepth 100000 in
theorem walk (ao : Option Addr) (L cap : Nat) (ts : List Tm) (m : Int) (bo : Option Addr) (Lb cb : Nat) (bs : List Int) (w : World) (hT : TRs w ao ts) (hL : L = ts.length) (hcap : L ≤ cap) (hI : IRs w bo bs) (hLb : Lb = bs.length) (hcb : Lb ≤ cb) (hL2 : L < 2 ^ 21) (hfew : Few ts) :
    Calls Try.prog 4 #[.slice ao L cap, .int .i64 m, .slice bo Lb cb] w fun e w' => e = .returned (.bool true) ∧ Fr [] w w' := by
  have hbf : Lb ≤ 17592186044416 := by rw [hLb]; exact hI.few
  have HLv : Hid (∀ W, Calls Try.prog 9 #[] W fun e w' => e = .returned (.bool true) ∧ Fr [] W w') := fun W => lives22_any W
  have HT : Hid (∀ W, Fr [] w W → TRs W ao ts) := fun W hf => hT.keep hf
  have HI : Hid (∀ W, Fr [] w W → IRs W bo bs) := fun W hf => hI.keep hf
  have HL : Hid (L = ts.length) := hL
  have HLb : Hid (Lb = bs.length) := hLb
  have HFew : Hid (Few ts) := hfew
  have HL2 : Hid (L < 2 ^ 21) := hL2
  clear hL hLb hT hI hfew hL2
  go_enter Try.func4, Try.ntmps4
  go_wp2_with fail
  with_reducible refine Calls.mono (twinTs_any ao L cap ts w (HT.out _ (Fr.refl _ _)) HL.out HL2.out HFew.out) ?_
  rintro e w1 ⟨tb, ks, rfl, htb, hr1, hTw, hF1⟩
  have HR1 : Hid (∀ W, Fr [] w1 W → W.heap[tb]? = some (.cells (tmsC (twTs ts ks ++ [spT])).toArray 24 (0, 0)) ∧ Twd w W ts ks) := fun W hf => ⟨hf.keep hr1 (by simp), hTw.keep hf (by simp)⟩
  have HF1 : Hid (Fr [] w w1) := hF1
  clear hr1 hTw hF1 htb
  go_wp2_with fail
  with_reducible refine Calls.mono (twinIs_any bo Lb cb bs w1 (HI.out _ HF1.out) HLb.out hbf) ?_
  rintro e w2 ⟨ib, rfl, hib, hr2, hF2⟩
  have HR2 : Hid (∀ W, Fr [] w2 W → W.heap[ib]? = some (.cells (intsT (bs ++ [7777])).toArray 3 (0, 0))) := fun W hf => hf.keep hr2 (by simp)
  have HF2 : Hid (Fr [] w1 w2) := hF2
  clear hr2 hF2 hib
  have hTa := HR1.out _ HF2.out
  have hks := hTa.2.len
  have HLog := nlog_any (some ⟨tb, 0, none⟩) L (L + 1) (twTs ts ks) m (some ⟨ib, 0, none⟩) Lb (Lb + 1) bs w2 (twins_trs (HT.out _ HF1.out) hTa.2 hTa.1) (by rw [twTs_length ts ks hks]; exact HL.out) (by omega) (irs_twin (HR2.out _ (Fr.refl _ _)) (by rw [← HLb.out]; exact hbf)) HLb.out (by omega)
  have HTx : Hid (txs (twTs ts ks) = txs ts) := txs_twTs ts ks hks
  clear hTa hks
  go_wp2_with fail
  with_reducible refine Calls.mono HLog ?_
  rintro e w3 ⟨r, c, rfl, hP, hF3⟩
  have HP : Hid (LgP ts m bs r c) := LgP.twin HTx.out hP
  have HF3 : Hid (Fr [] w2 w3) := hF3
  clear HLog hP hF3 HTx
  go_wp2_with fail
  with_reducible refine Calls.mono (xnlog_any ao L cap ts m bo Lb cb bs w3 (HT.out _ ((HF1.out.then HF2.out).then HF3.out)) HL.out (HI.out _ ((HF1.out.then HF2.out).then HF3.out)) HLb.out) ?_
  rintro e w4 ⟨r', c', rfl, hP', hF4⟩
  obtain ⟨rfl, rfl⟩ := HP.out.uniq hP'
  have HF4 : Hid (Fr [] w2 w4) := HF3.out.then hF4
  clear hP' hF4 HP HF3
  have e1 : (r == r) = true := by simp
  have e2 : (c == c) = true := by simp
  go_wp2_with fail
  with_reducible refine Calls.mono (leftTs_any tb ks w ao L cap ts w4 (HT.out _ ((HF1.out.then HF2.out).then HF4.out)) HL.out HL2.out HFew.out (HR1.out _ (HF2.out.then HF4.out)).2 (HR1.out _ (HF2.out.then HF4.out)).1) ?_
  rintro e w5 ⟨rfl, hF5⟩
  have HF5 : Hid (Fr [] w2 w5) := HF4.out.then hF5
  clear hF5
  go_wp2_with fail
  with_reducible refine Calls.mono (leftIs_any ib bo Lb cb bs w5 (HI.out _ ((HF1.out.then HF2.out).then HF5.out)) HLb.out hbf (HR2.out _ HF5.out)) ?_
  rintro e w6 ⟨rfl, hF6⟩
  have HF6 : Hid (Fr [] w w6) := ((HF1.out.then HF2.out).then HF5.out).then hF6
  clear hF6
  go_wp2_with fail
  with_reducible refine Calls.mono (HLv.out _) ?_
  rintro e w7 ⟨rfl, hF7⟩
  go_wp2_with fail
  go_ret
  exact ⟨rfl, HF6.out.then hF7⟩

theorem own : ownKnob Try.prog.godebug = none := by kernel_rfl
theorem laidOut : laidOutB Try.prog = true := by kernel_rfl
set_option maxHeartbeats 4000000 in
set_option maxRecDepth 100000 in
theorem lifted (os : Os) (started : os.Started) (H : Type) (enc : TypeId × Value → H) (F : Stop.Interp) :
    ReturnsInHanded {} Try.checked os 4 .any ((Rows.OpenSpec.upto Rows.countLogsSpec).pre6 enc Try.prog Try.f4 Rows.countLogsUptoRow.domain false) (((Rows.OpenSpec.upto Rows.countLogsSpec).at F).post enc Try.prog Try.f4 false true false false) := by
  refine returnsInHanded_of_cond_sized (C := Try.checked) (s := Rows.OpenSpec.upto Rows.countLogsSpec) (k := Rows.uptoSmall) rfl own started (by kernel_rfl) Try.func4
    (OpenSpec.witness (enc := enc) (C := Try.checked) (s := Rows.OpenSpec.upto Rows.countLogsSpec) (k := Rows.uptoSmall) rfl false ⟨#[], #[.slice none 0 0, .int .i64 0, .slice none 0 0], []⟩ 8 (by kernel_rfl) (by kernel_rfl) (by kernel_rfl)
      (x := ([.nil, .lit (.int .i64 0), .nil], [], [])) (by kernel_rfl) rfl (by kernel_rfl)) ?_
  intro W base args ds gs before hval0 hW0 hcnd hk hsz0 _
  have hW : DataW.Whole enc Try.prog Try.f4.params.toList Rows.countLogsSpec.vars false W args.toList ds gs before := hW0
  show Calls Try.prog 4 args W fun e W' => ∃ v, e = .returned v ∧ Rows.countLogsSpec.post enc Try.prog Try.f4 false true false false W args v W'
  have hval : ∀ (j : Nat) t v, Try.f4.params[j]? = some t → args[j]? = some v → Value.okWide Try.prog W .any base t v := hval0
  have hsz : (DataW.weightsEach Try.prog (Try.f4.params.toList ++ Rows.countLogsSpec.plain.varTypes Try.prog) (ds ++ gs)).all (· ≤ reachBytes) = true := hsz0
  have hW' := hW
  obtain ⟨p, q, hA0, hV, rfl, hfz, hnd⟩ := hW
  have hA : DataW.TrodAll enc Try.prog W 0 (fun _ => true) true Try.f4.params.toList args.toList ds p := hA0
  rw [Try.params4] at hA hval hsz
  obtain ⟨v0, vs0, d0, ds0, p0, q0, hargs, rfl, rfl, h0, r0⟩ := trodAll_cons hA
  obtain ⟨v1, vs1, d1, ds1, p1, q1, rfl, rfl, rfl, h1, r1⟩ := trodAll_cons r0
  obtain ⟨v2, vs2, d2, ds2, p2, q2, rfl, rfl, rfl, h2, r2⟩ := trodAll_cons r1
  obtain ⟨rfl, rfl, rfl⟩ := trodAll_nil r2
  obtain rfl : args = #[v0, v1, v2] := by cases args; simp_all
  obtain ⟨rfl, rfl⟩ := trodVars_none hV
  have k0 := h0
  have lt0 : ∀ x ∈ p0, x.block < W.heap.size := by obtain ⟨m, hm⟩ := k0; exact DataW.trod_lt m _ _ _ hm
  obtain ⟨a0, len0, cap0, ts0, rfl, hB0, hL0, hC0⟩ : ∃ ao L cap ts, v0 = .slice ao L cap ∧ TRs W ao ts ∧ L = ts.length ∧ L ≤ cap := by
    obtain ⟨fuel, hf⟩ := h0
    obtain ⟨ao, L, cap, rfl⟩ := okWide_slice Try.undTs' (hval 0 30 v0 rfl rfl)
    exact ts_open hf (fun n hn => of_decide_eq_true (List.all_eq_true.1 hsz n (DataW.weights_mem_each (j := 0) (t := 30) rfl rfl n hn)))
  obtain ⟨n1, rfl, rfl, rfl, w1⟩ := open_int Try.underlying3 (hval 1 3 v1 rfl rfl) h1
  have b1 := bounds_i64 w1
  have k2 := h2
  have lt2 : ∀ x ∈ p2, x.block < W.heap.size := by obtain ⟨m, hm⟩ := k2; exact DataW.trod_lt m _ _ _ hm
  obtain ⟨a2, len2, cap2, ns2, rfl, hB2, hL2, hC2⟩ : ∃ ao L cap ns, v2 = .slice ao L cap ∧ IRs W ao ns ∧ L = ns.length ∧ L ≤ cap := by
    obtain ⟨fuel, hf⟩ := h2
    obtain ⟨ao, L, cap, rfl⟩ := okWide_slice Try.undIsW (hval 2 31 v2 rfl rfl)
    exact is21_open (x := (d2, p2)) hf (fun n hn => of_decide_eq_true (List.all_eq_true.1 hsz n (DataW.weights_mem_each (j := 2) (t := 31) rfl rfl n hn)))
  have hb : Rows.uptoBulkAll ([d0, .lit (.int .i64 n1), d2] ++ []) ≤ 1048576 := of_decide_eq_true hk
  simp only [List.append_nil, Rows.uptoBulkAll] at hb
  have hM0 : len0 < 2 ^ 21 := by
    obtain ⟨m, hm⟩ := k0
    have := bulk_slice Try.undTs' hm
    simp only at this
    omega
  have hM1 : Few ts0 := fun t ht => by
    obtain ⟨m, hm⟩ := k0
    have := bulk_txs (x := (d0, p0)) hm hB0 hL0 t ht
    simp only at this
    omega
  clear hA0 hval0 hW0
  refine (walk a0 len0 cap0 ts0 n1 a2 len2 cap2 ns2 W hB0 hL0 hC0 hB2 hL2 hC2 hM0 hM1).mono fun e W' ⟨he, hf⟩ => ?_
  subst he
  have bel : Below W.heap.size W W' := hf.below (Nat.le_refl _) (by simp)
  exact ⟨_, rfl, _, _, _, [], _, [], hW', trodAll_mk1 (shut_bool Try.underlying4 _), (trodAll_cons_mk (Below.trod laidOut (by kernel_rfl) (of_decide_eq_true (by kernel_rfl)) k0 bel lt0) (trodAll_cons_mk (shut_int Try.underlying3 w1) (trodAll_cons_mk (Below.trod laidOut (by kernel_rfl) (of_decide_eq_true (by kernel_rfl)) k2 bel lt2) trodAll_mk0))), rfl, bel.frame _, fun h => by cases h⟩

theorem over : Rows.CountLogsUptoSaid :=
  OpenClaim.holds_of_cond 4 Try.f4 rfl rfl rfl rfl rfl rfl rfl ⟨rfl, rfl, rfl, rfl, rfl⟩ rfl rfl rfl rfl rfl (by kernel_rfl) Try.func4 (by kernel_rfl)
    (of_decide_eq_true (by kernel_rfl)) (by unfold Func.isWrapper; first | (rw [if_pos (by decide +kernel)]; kernel_rfl) | (rw [if_neg (by decide +kernel)]; exact ⟨rfl, rfl⟩))
    (fun os started H enc _ F => lifted os started H enc F)
end Go.Proofs.Ytdojhkgnnbdfkaa.countLogs
namespace Go.Proofs.Ytdojhkgnnbdfkaa
theorem countlogsupto_holds : Rows.CountLogsUptoSaid := countLogs.over
#print axioms countlogsupto_holds
end Go.Proofs.Ytdojhkgnnbdfkaa
