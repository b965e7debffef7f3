/- Texts of this claim laid together, one behind the other: contracts and plain lemmas; conditions as each names them. -/
import Derived.Test.YtomajifklajilaaGreatGp48
import Derived.Test.YtomajifklajilaaGreatGp3
/- Both owners side by side through the law's helpers asks (of a request), stands. Conditions as each names them. -/
namespace Go.Proofs.YtomajifklajilaaGreat
open Go.ChangeShapes Go.WideShapes Go.ChangeAt Go.RowKit Go.Lib Go.Maps
set_option linter.unusedVariables false
set_option linter.unusedSimpArgs false
section
variable {wl w0 w1 w w' : World} {ob sb b g C yb yg n : Nat} {rs : List Rq}
theorem RqB.old {x : Rv} {ns : List Int} (h : RqB w x ns) (he : 0 < ns.length → ∀ a, x.bo = some a → w'.heap[a.block]? = w.heap[a.block]?) (hs : w.heap.size ≤ w'.heap.size) : RqB w' x ns := ⟨h.k, h.f, h.n, h.wk, h.wv, h.key, h.en, h.is.old he hs, h.len, h.cap⟩
/-- Both behind a request, ahead of what the law writes over: t is what it may write over. -/
def Bt (wl w0 w1 : World) (ob sb b g C yb yg n : Nat) (w W w2 : World) : Prop := ∃ rs pb qo qn qc xs N lc lo hs, OwS w0 (fun k => w.heap.size ≤ k ∧ k < W.heap.size) w2 ob sb b n g pb C (mOf hs) rs ∧ Dq wl w0 w1 w2 ob sb b g pb C rs yb yg qo qn qc xs N lc lo hs ∧ N ≤ n ∧ (∀ j, OwnA ob sb b g pb w2 j → j < w.heap.size ∨ W.heap.size ≤ j) ∧ (∀ j, DocB yb qo yg lo N lc hs j → j < w.heap.size ∨ W.heap.size ≤ j)
theorem Bt.to {W w2 : World} {T : List Nat} (h : Bt wl w0 w1 ob sb b g C yb yg n w W w2) (hW : Fr [] w W) (h0 : w0.heap.size ≤ w.heap.size) (hT : Fr T w2 w') (hj : ∀ j ∈ T, w.heap.size ≤ j ∧ (j < W.heap.size ∨ w2.heap.size ≤ j)) : ∃ rs', Bo wl w0 w1 w' ob sb b g C yb yg n rs' := by
  obtain ⟨rs, pb, qo, qn, qc, xs, N, lc, lo, hs, ho, hd, hN, hA, hD⟩ := h
  obtain ⟨z1, z2⟩ := hd.far ho hT (fun j hm hl => by
    obtain ⟨q1, q2⟩ := hj j hm
    have q3 : j < W.heap.size := by omega
    exact ⟨by omega, fun q => by have := hA j q; omega, fun q => by have := hD j q; omega, q1, q3⟩)
  exact ⟨rs, pb, qo, qn, qc, xs, N, lc, lo, hs, z1.at (fun k q => absurd q (by simp)), z2, hN⟩
set_option maxHeartbeats 1000000 in
theorem bo_ask (h : Bo wl w0 w1 w ob sb b g C yb yg n rs) (x : Rv) (ns : List Int) (hR : RqB w x ns) (hold : 0 < ns.length → ∀ a, x.bo = some a → a.block < wl.heap.size) : Calls Tryz.prog 6 #[.pointer (some ⟨ob, 0, none⟩), .pointer (some ⟨yb, 0, none⟩), .agg #[.bool false, .int .u8 x.k, .int .i64 x.f, .int .i64 x.n, .string x.wk, .string x.wv, .bool x.wd, .string x.key, .string x.en, .slice x.bo x.bl x.bc]] w fun e w' => e = .returned (.bool true) ∧ ∃ rs', Bo wl w0 w1 w' ob sb b g C yb yg n rs' := by
  obtain ⟨pb, qo, qn, qc, xs, N, lc, lo, hs, ho, hd, hN⟩ := h
  have s0 := ho.fr.size
  refine (asks_ask (some ⟨ob, 0, none⟩) (some ⟨yb, 0, none⟩) x ns w hR (Bt wl w0 w1 ob sb b g C yb yg n w) (fun W tb hW htb hB => ?_)).mono ?_
  · have hoW : OwS w0 (fun k => w.heap.size ≤ k ∧ k < W.heap.size) W ob sb b n g pb C (mOf hs) rs := (ho.at (fun k q => Or.inr q.1)).same hW
    have hdW := hd.same ho hW
    have sW := hW.size
    have blW := hoW.sh.bl
    have hlenq : qn = rs.length := by rw [hd.y.q.len, hd.wt.len]
    have aW : ∀ j, OwnA ob sb b g pb W j → j < w.heap.size := fun j q => ho.lt (q.back hW (by simp) ho.sh.bl)
    have dW' : ∀ j, DocB yb qo yg lo N lc hs j → j < w.heap.size := fun j q => hd.lt q
    have keepR : ∀ V, Fr [] w0 V → W.heap.size ≤ V.heap.size → RqB V x ns := fun V hV hz => (hR.keep hW).old (fun h0 a e => by
      have hj0 : a.block < w0.heap.size := Nat.lt_of_lt_of_le (hold h0 a e) hd.lw
      rw [hV.block _ hj0 (by simp), hoW.fr.block _ hj0 (by simp)]) hz
    refine (os_ask hoW (fun k q => q.2) (x.tw tb) ns hB).mono ?_
    rintro e v1 (⟨hk, rfl, hO, hF⟩ | ⟨hk, hfull, rfl, hO, hF⟩ | ⟨hk, hfew, rfl, pb', hO, hF, hp⟩)
    · refine ⟨false, 1, rfl, Nf.of hF, ?_⟩
      have hd1 := hdW.same hoW hF
      refine (yoask_no hd1.y x ns (keepR _ hO.fr hF.size) hk).mono ?_
      rintro e w2 ⟨rfl, hF2⟩
      have hO2 := hO.same hF2
      exact ⟨rfl, Nf.of hF2, keepR _ hO2.fr (Nat.le_trans hF.size hF2.size), rs, pb, qo, qn, qc, xs, N, lc, lo, hs, hO2, hd1.same hO hF2, hN, fun j q => Or.inl (aW j (q.back (hF.then hF2) (by simp) blW)), fun j q => Or.inl (dW' j q)⟩
    · refine ⟨false, 0, rfl, Nf.of hF, ?_⟩
      have hd1 := hdW.same hoW hF
      refine (yoask_full hd1.y x ns (keepR _ hO.fr hF.size) hk (by omega)).mono ?_
      rintro e w2 ⟨rfl, hF2⟩
      have hO2 := hO.same hF2
      exact ⟨rfl, Nf.of hF2, keepR _ hO2.fr (Nat.le_trans hF.size hF2.size), rs, pb, qo, qn, qc, xs, N, lc, lo, hs, hO2, hd1.same hO hF2, hN, fun j q => Or.inl (aW j (q.back (hF.then hF2) (by simp) blW)), fun j q => Or.inl (dW' j q)⟩
    · have hd1 := hdW.pro hoW hO hF hp
      have s1 := hF.size
      refine ⟨true, 0, rfl, ⟨s1, fun j h1 h2 => ?_⟩, ?_⟩
      · have e : W.heap[j]? = some W.heap[j] := Array.getElem?_eq_getElem h2
        rw [e]
        refine hF.apart blW e (fun q => ?_)
        have : j < w.heap.size := by
          rcases q with q | q | q | ⟨_, q⟩
          · exact aW j (Or.inr (Or.inr (Or.inr (Or.inl q))))
          · exact aW j (Or.inr (Or.inr (Or.inr (Or.inr (Or.inl q)))))
          · exact aW j (Or.inr (Or.inr (Or.inl q)))
          · exact aW j (Or.inr (Or.inr (Or.inr (Or.inr (Or.inr q)))))
        omega
      · refine (yoask_any hd1.y x ns (keepR _ hO.fr s1) hk (by omega)).mono ?_
        rintro e w2 ⟨rfl, qo', qc', hY, hF2, hq⟩
        have hDoc : ∀ j ∈ yb :: (qb qo).toList, DocB yb qo yg lo N lc hs j := fun j hj => by
          rcases List.mem_cons.1 hj with e | e
          · exact Or.inl e
          · exact Or.inr (Or.inl (Option.mem_toList.1 e))
        have s2 := hF2.size
        have hnb : b ∉ yb :: (qb qo).toList := fun hm => hd1.ap b (Or.inr (Or.inr (Or.inl rfl))) (hDoc b hm)
        obtain ⟨z1, z2⟩ := hd1.doc (rs2 := rs ++ [x.q ns]) hO hF2 (fun j hj _ => hDoc j hj) hY (hd1.k.keepS hF2 (fun j hj q => by
            rcases List.mem_cons.1 hj with e | e
            · rw [e] at q; exact hd1.yy q
            · exact hd1.qq j (Option.mem_toList.1 e) q)) (fun he => (hd1.wt.old he s2).snoc ⟨rfl, hR.len, ((keepR _ hO.fr s1).is).old (fun h0 a e => he _ (hold h0 a e)) s2, hold⟩) (fun j hj => by
            rcases hj with e | e | e
            · exact Or.inl (Or.inl e)
            · rcases hq with q | ⟨k, q, hk2⟩
              · rw [q] at e
                exact Or.inl (Or.inr (Or.inl e))
              · rw [q] at e
                cases e
                exact Or.inr hk2
            · exact Or.inl (Or.inr (Or.inr e))) hd1.yy (fun k e q => by
            rcases hq with r | ⟨k', r, hk2⟩
            · rw [r] at e
              exact hd1.qq k e q
            · rw [r] at e
              cases e
              have := hd1.k.blk q
              omega)
        refine ⟨rfl, ⟨s2, fun j h1 h2 => hF2.block j h2 (fun hm => by have := dW' j (hDoc j hm); omega)⟩, keepR _ z1.fr (Nat.le_trans s1 s2), rs ++ [x.q ns], pb', qo', _, qc', xs ++ [x], N, lc, lo, hs, z1, z2, hN, fun j q => ?_, fun j q => ?_⟩
        · rcases (q.back hF2 hnb (Nat.lt_of_lt_of_le blW s1)).backF hF blW hp with r | r
          · exact Or.inl (aW j r)
          · exact Or.inr r
        · rcases q with e | e | e
          · exact Or.inl (dW' j (Or.inl e))
          · rcases hq with q | ⟨k, q, hk2⟩
            · rw [q] at e
              exact Or.inl (dW' j (Or.inr (Or.inl e)))
            · rw [q] at e
              cases e
              exact Or.inr (by omega)
          · exact Or.inl (dW' j (Or.inr (Or.inr e)))
  · rintro e w' ⟨rfl, W, w2, T, hW, hP, hT, hj⟩
    exact ⟨rfl, hP.to hW s0 hT hj⟩
set_option maxHeartbeats 1000000 in
theorem bo_stands (h : Bo wl w0 w1 w ob sb b g C yb yg n rs) (hn : n < 3518437208800) : Calls Tryz.prog 7 #[.pointer (some ⟨ob, 0, none⟩), .pointer (some ⟨yb, 0, none⟩)] w fun e w' => e = .returned (.bool true) ∧ Fr [] w w' := by
  obtain ⟨pb, qo, qn, qc, xs, N, lc, lo, hs, ho, hd, hN⟩ := h
  have hlenq : qn = rs.length := by rw [hd.y.q.len, hd.wt.len]
  obtain ⟨K, hK⟩ : ∃ K, rs.length = K := ⟨_, rfl⟩
  obtain ⟨R, hRo⟩ : ∃ R, C - rs.length = R := ⟨_, rfl⟩
  have hCf := ho.few
  have H1 : Hid (Calls _ _ _ _ _) := os_len ho K hK
  have H2 : Hid (Calls Tryz.prog 21 #[.pointer (some ⟨yb, 0, none⟩)] w fun e w' => e = .returned (.int .i64 (K : Int)) ∧ w = w') := by
    have := yolen_any hd.y
    rw [hlenq, hK] at this
    exact this
  have H3 : Hid (Calls _ _ _ _ _) := os_room ho R hRo
  have H4 : Hid (∀ W, Fr [] w W → Calls Tryz.prog 23 #[.pointer (some ⟨yb, 0, none⟩)] W fun e w' => e = .returned (.int .i64 (R : Int)) ∧ Fr [] W w') := fun W hf => by
    have := yoroom_any (hd.same ho hf).y
    rw [show ((C : Int) - qn) = (R : Int) by omega] at this
    exact this
  have H5 : Hid (∀ W, Fr [] w W → Calls _ _ _ _ _) := fun W hf => os_all (ho.same hf) (by omega)
  have H6 : Hid (∀ W, Fr [] w W → Calls _ _ _ _ _) := fun W hf => yoall_any (hd.same ho hf).y (hd.same ho hf).k
  have HL : Hid (LoOk hs ∧ N ≤ n ∧ n < 3518437208800) := ⟨hd.k.ok, hN, hn⟩
  clear ho hd hlenq hK hRo hCf hN hn
  go_enter Tryz.func7, Tryz.ntmps7
  go_wp2_with fail
  refine Calls.mono H1.out ?_
  rintro e v1 ⟨rfl, rfl⟩
  go_wp2_with fail
  refine Calls.mono H2.out ?_
  rintro e v1 ⟨rfl, rfl⟩
  go_wp2_with fail
  refine Calls.mono H3.out ?_
  rintro e v1 ⟨rfl, hF1⟩
  go_wp2_with fail
  refine Calls.mono (H4.out _ hF1) ?_
  rintro e v2 ⟨rfl, hF2⟩
  have hG2 := hF1.then hF2
  clear hF1 hF2
  go_wp2_with fail
  refine Calls.mono (H5.out _ hG2) ?_
  rintro e v3 ⟨ro, N3, rc, ps, rfl, hA3, hN3, hP3, hF3⟩
  have hG3 := hG2.then hF3
  have HA3 := (show Hid _ from And.intro hA3 (And.intro hN3 hP3))
  clear hG2 hF3 hA3 hN3 hP3
  go_wp2_with fail
  refine Calls.mono (H6.out _ hG3) ?_
  rintro e v4 ⟨ro4, rc4, gs, rfl, hA4, hP4, hF4⟩
  have HG4 : Hid (Fr [] w v4) := hG3.then hF4
  have HC : Hid (Calls Tryz.prog 24 #[.slice ro N3 rc, .slice ro4 N rc4] v4 fun e w' => e = .returned (.bool true) ∧ Fr [] v4 w') := by
    obtain ⟨hl, h1, h2⟩ := HL.out
    obtain ⟨a1, a2, a3⟩ := HA3.out
    have e1 : ps.map hkv = hs.map hkv := a3.one (mOf_pk hl)
    have e2 : gs.map hkv = hs.map hkv := hP4
    have l1 : ps.length = hs.length := by have := congrArg List.length e1; simpa using this
    have l2 : gs.length = hs.length := by have := congrArg List.length e2; simpa using this
    have e3 : N = N3 := by rw [hA4.len, a1.len, l1, l2]
    subst e3
    exact sameHelds_any ro ro4 N rc rc4 ps gs v4 ((a1.rs (pk_lo hl a3 (mOf_ok hl)) (by omega)).keep hF4) (hA4.rs (hl.kv hP4).1 (by omega)) a1.len (e1.trans e2.symm)
  clear hG3 hA4 hP4 hF4
  go_wp2_with fail
  refine Calls.mono HC.out ?_
  rintro e v5 ⟨rfl, hF5⟩
  go_wp2
  go_ret
  exact ⟨rfl, HG4.out.then hF5⟩
end
end Go.Proofs.YtomajifklajilaaGreat
/- How great versions are together. Conditions as each names them. -/
namespace Go.Proofs.YtomajifklajilaaGreat
open Go.ChangeShapes Go.WideShapes Go.ChangeAt Go.RowKit Go.Lib
set_option linter.unusedVariables false
end Go.Proofs.YtomajifklajilaaGreat
