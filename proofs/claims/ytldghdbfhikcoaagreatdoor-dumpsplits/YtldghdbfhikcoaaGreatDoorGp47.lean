/- Texts of this claim laid together, one behind the other: contracts and plain lemmas; conditions as each names them. -/
import Derived.Test.YtldghdbfhikcoaaGreatDoorGp46
import Derived.Test.YtldghdbfhikcoaaGreatDoorGp19
/- A Book's grow of its list of lists. Conditions: one such list is held; the table of powers of ten reads as the library lays it. -/
namespace Go.Proofs.YtldghdbfhikcoaaGreatDoor.Bq
open BigFrame Go.ChangeShapes Go.WideShapes Go.ChangeAt Go.RowKit Go.Lib
set_option linter.unusedVariables false
set_option linter.unusedSimpArgs false
theorem Tryz.infoEHds : (Tryz.prog.info? 23).map (fun i => (i.zero, i.size, i.bytes)) = some (some (.slice none 0 0), 1, 24) := by kernel_rfl
theorem Tryz.undEHdss : Tryz.prog.underlying 59 = some (.slice 23) := by kernel_rfl

set_option maxHeartbeats 8000000 in
set_option maxRecDepth 100000 in
theorem growHL_any (bk : Nat) (rv : Value) (e : HB) (base : Nat) (w : World) (h : FL base w bk rv e) (htab : Tab w) (hgt : gTab ∉ rv.ownBlock.toList ++ lbs [e]) :
    Calls Tryz.prog 66 #[.pointer (some ⟨bk, 0, none⟩)] w fun r w' => r = .returned (.tuple #[]) ∧ ∃ V, Hid (GL base w' bk rv { e with long := V } ∧ Fr (rv.ownBlock.toList ++ lbs [e]) w w') := by
  obtain ⟨i0, hi0, hz0, hz1, hz2⟩ := info_parts Tryz.infoEHds
  have hlb : lbs [e] = e.l.ownBlock.toList := by simp [lbs]
  rw [hlb] at hgt ⊢
  clear hlb
  obtain ⟨N, HN⟩ : ∃ N, Hid (N = [e].length) := ⟨_, rfl⟩
  have hN1 : N ≤ 1 := by have := HN.out; simp at this; omega
  obtain ⟨rao, rcap, hrv⟩ := own_slice h.bl.row
  rw [← HN.out] at hrv
  subst hrv
  have HH : Hid (FL base w bk (.slice rao N rcap) e) := h
  clear h
  go_enter Tryz.func66, Tryz.ntmps66
  go_wp2_with fail
  go_loopw [2] (fun ii wr => ∃ i : Nat, ii = .int .i64 i ∧ i ≤ N ∧ Hid ((i = 0 ∧ wr = w) ∨ (i = 1 ∧ ∃ V, GL base wr bk (.slice rao N rcap) { e with long := V } ∧ Fr ((Value.slice rao N rcap).ownBlock.toList ++ e.l.ownBlock.toList) w wr))) (fun ii _ => N - (RowKit.intOf ii).toNat)
  case atStart => exact ⟨0, rfl, Nat.zero_le _, Or.inl ⟨rfl, rfl⟩⟩
  case round =>
    obtain ⟨i, rfl, hiN, HI⟩ := hrel
    have hN2 : 1 ≤ N := by have := HN.out; simp at this; omega
    by_cases hi : i < N
    · have hi0' : i = 0 := by omega
      have HI0 : Hid (i = 0) := hi0'
      obtain rfl : wr = w := by
        rcases HI.out with ⟨_, q⟩ | ⟨q, _⟩
        · exact q
        · omega
      clear HI
      obtain ⟨rb, rc, hrv, hrc, d0, d1, d2⟩ := HH.out.bl.at i e (by rw [hi0']; rfl)
      have c1 : wr.cell? ⟨bk, 9, none⟩ = some (.slice rao N rcap) := HH.out.bl.c1
      rw [← HN.out] at hrv hrc
      cases hrv
      clear hi0'
      have hen : e.n < 134217728 := HH.out.bl.num 0 e rfl
      obtain ⟨n, ms, hO, hml, hn21, hmk⟩ := HH.out.row
      obtain ⟨lao, lcap, lf, hl, hlc, hlf, hOr⟩ := id hO
      have HLe : Hid (e.l = .slice lao n lcap) := hl
      rw [HH.out.nil] at d1
      rw [hl] at d0 hO hgt
      obtain ⟨M, HM⟩ : ∃ M, Hid (M = e.n) := ⟨_, rfl⟩
      rw [← HM.out] at d2 hen hmk
      obtain ⟨B, HB⟩ : ∃ B, Hid (mWord M = B) := ⟨_, rfl⟩
      rw [HB.out] at hmk
      clear hl
      go_wp2_with fail
      obtain ⟨hv, hhv⟩ : ∃ hv, hv = wr.heap.size := ⟨_, rfl⟩
      obtain ⟨w1, hw1⟩ : ∃ w1, w1 = wr.alloc (Obj.cells #[.slice lao n lcap, .slice none 0 0, .int .i64 (M : Int)] 168) := ⟨_, rfl⟩
      rw [← hw1, ← hhv]
      have hF1 : Fr [] wr w1 := by rw [hw1]; exact Fr.alloc [] _ _
      have HF1 : Hid (Fr [] wr w1) := hF1
      have HTB : Hid (Tab w1) := htab.keep hF1 (by simp)
      have HGT : Hid (gTab ∉ (Value.slice lao n lcap).ownBlock.toList) := fun hm => hgt (List.mem_append_right _ hm)
      have hvb : w1.heap[hv]? = some (.cells #[.slice lao n lcap, .slice none 0 0, .int .i64 (M : Int)] 168 (0, 0)) := by rw [hw1, hhv]; exact heap_alloc_new wr _
      have hlt : ∀ k, (Value.slice lao n lcap).ownBlock = some k → k < w1.heap.size ∧ k ≠ hv := by
        intro k hk
        have := hO.lt k hk
        have := hF1.size
        omega
      have HBz : Hid (base ≤ w1.heap.size) := Nat.le_trans HH.out.lo hF1.size
      have hO1 := hO.keep hF1 (by simp)
      have HG0 : Hid (GHi base B w1 (.slice lao n lcap) n ms 0 (.slice lao n lcap) [] w1) := by
        refine ⟨rfl, hml, by simpa using hO1, Rd1.of_cut hO1, ?_, Fr.refl _ _, Or.inl rfl⟩
        rw [List.append_nil]
        exact hmk.keep hF1 (by simp)
      clear hO hOr hw1 hhv d0 d1 d2 c1 hO1 htab hgt hmk hF1
      obtain ⟨w0, hw0⟩ : ∃ w0, w0 = wr := ⟨_, rfl⟩
      subst hw0
      go_loopw [4, 5] (fun vv kk wr' => ∃ (k : Nat) (vao : Option Addr) (vcap : Nat) (ns : List Nat), vv = .slice vao (n + k) vcap ∧ kk = .int .i64 k ∧ k ≤ 70 ∧ Hid (GHi base B w1 (.slice lao n lcap) n ms k (.slice vao (n + k) vcap) ns wr')) (fun _ kk _ => 70 - (RowKit.intOf kk).toNat)
      case atStart => exact ⟨0, lao, lcap, [], rfl, rfl, by omega, HG0⟩
      case round =>
        clear HG0
        obtain ⟨k, vao, vcap, ns, rfl, rfl, hk70, HG⟩ := hrel
        have hvb2 := HG.out.fr.keep hvb (by intro hm; exact (hlt hv (by simpa using hm)).2 rfl)
        by_cases hk : k < 70
        · have v2 : wr.cell? ⟨hv, 2, none⟩ = some (.int .i64 (M : Int)) := by rw [cell_of_row _ _ _ _ _ _ hvb2]; rfl
          clear hvb2
          go_wp2_with fail
          refine (markHL_at M B _ hen HB.out (HTB.out.keep HG.out.fr HGT.out)).mono ?_
          rintro e w3 ⟨b, rfl, hF3, hm3, hb3⟩
          have HG3 := HG.out.keep hF3
          have hbb : base ≤ b := Nat.le_trans (Nat.le_trans HBz.out HG.out.fr.size) hb3
          have HOa : Hid (Cut (w3.alloc (Obj.cells #[.slice (some ⟨b, 0, none⟩) 1 1] 23)) 23 1 (.slice vao (n + k) vcap) (n + k) ((ms ++ ns).map mkV)) := HG3.own.keep (Fr.alloc [] _ _) (by simp)
          go_wp2_with (at_builtin; go_loud (refine wpList_appc _ rfl (.tmp 28) (.tmp 32) 59 rfl 23 i0 (.slice none 0 0) 1 24 Tryz.undEHdss hi0 hz0 hz1 hz2 rfl (by omega) _ _ _ rfl HOa.out ⟨w3.heap.size, 0, none⟩ 1 [.slice (some ⟨b, 0, none⟩) 1 1] rfl rfl ?c1 ?c2 (by omega) (by simp only [maxLen]; omega) ?_))
          case c1 =>
            intro j u hj
            have hnew : (w3.alloc (Obj.cells #[.slice (some ⟨b, 0, none⟩) 1 1] 23)).heap[w3.heap.size]? = some (Obj.cells #[.slice (some ⟨b, 0, none⟩) 1 1] 23) := heap_alloc_new w3 _
            rw [show (⟨w3.heap.size, 0, none⟩ : Addr).add j = ⟨w3.heap.size, j, none⟩ from by simp [Addr.add]; omega, cell_of_row _ _ _ _ _ _ hnew]
            simpa using hj
          case c2 =>
            intro u hu
            simp at hu
            subst hu; rfl
          intro g cap' w' hO2 hW2
          have HG2 : Hid (GHi base B w1 (.slice lao n lcap) n ms (k + 1) (.slice (some ⟨g, 0, none⟩) (n + (k + 1)) cap') (ns ++ [b]) w') := GHi.next HG3 _ hm3 hbb (by
            have e9 := hO2
            rw [show List.map mkV ms ++ (List.map mkV ns ++ [Value.slice (some ⟨b, 0, none⟩) 1 1]) = List.map mkV (ms ++ ns) ++ [mkV b] from by simp [mkV]] at e9
            exact e9) hW2 (fun k hk => (hlt k hk).1)
          clear HG3 hF3 hm3 hbb hb3
          clear hO2 hW2 hlt hvb
          go_wp2_with fail
          go_roundw
          case rel => exact ⟨k + 1, some ⟨g, 0, none⟩, cap', ns ++ [b], by simp only [Nat.add_assoc], by simp, by omega, HG2⟩
          case measure => simp [RowKit.intOf]; omega
        · obtain rfl : k = 70 := by omega
          have hf : Fr e.l.ownBlock.toList w0 wr := HF1.out.trans (by rw [HLe.out]; exact HG.out.fr) (by simp) (fun x hx _ => hx)
          have hte := HH.out.type
          have hbk2 : Bl kHL wr bk (.slice (some ⟨rb, 0, none⟩) N rcap) [e] := by
            refine Bl.keep HH.out.bl hf ?_ ?_
            · intro hm
              obtain ⟨cs, hc⟩ := hte bk (by simpa using hm)
              exact (HH.out.bl.apart hc).1 rfl
            · intro k hk hm
              obtain ⟨cs, hc⟩ := hte k (by simpa using hm)
              exact (HH.out.bl.apart hc).2 hk
          have c1' : wr.cell? ⟨bk, 9, none⟩ = some (.slice (some ⟨rb, 0, none⟩) N rcap) := hbk2.c1
          obtain ⟨rb', rc', hrv', _, _, d1', _⟩ := hbk2.at i e (by rw [HI0.out]; rfl)
          rw [← HN.out] at hrv'
          cases hrv'
          have hf1 : wr.frozen? ⟨rb, i * 3 + 1, none⟩ = false := by
            have hr := hbk2.row
            rw [← HN.out] at hr
            exact own_free hr _
          have HFin : Hid (GL base (wr.setCell ⟨rb, i * 3 + 1, none⟩ (.slice vao (n + 70) vcap)) bk (.slice (some ⟨rb, 0, none⟩) N rcap) { e with long := .slice vao (n + 70) vcap } ∧ Fr ((Value.slice (some ⟨rb, 0, none⟩) N rcap).ownBlock.toList ++ e.l.ownBlock.toList) w0 (wr.setCell ⟨rb, i * 3 + 1, none⟩ (.slice vao (n + 70) vcap))) := by
            have hi00 := HI0.out
            subst hi00
            have hfs : Fr [rb] wr (wr.setCell ⟨rb, 0 * 3 + 1, none⟩ (.slice vao (n + 70) vcap)) := Fr.set _ _ _ (by simp)
            have hrow2 := hbk2.row
            rw [← HN.out] at hrow2
            have hput := own_put hrow2 (0 * 3 + 1) (.slice vao (n + 70) vcap)
            rw [← rowOf_set [e] 0 e rfl (.slice vao (n + 70) vcap), HN.out] at hput
            have hrb : ∀ k cs, wr.heap[k]? = some (.cells cs 23 (0, 0)) → k ∉ [rb] := by
              intro k cs hk hm
              exact (hbk2.apart hk).2 (by simp at hm; rw [hm]; rfl)
            have hrt : ∃ cs, wr.heap[rb]? = some (.cells cs 168 (0, 0)) := own_type hbk2.row rb rfl
            refine ⟨⟨⟨?_, ?_, by simp, ?_⟩, ⟨n, ms, ns, hml, HG.out.len, hn21, ?_, ?_, ?_⟩⟩, ?_⟩
            · obtain ⟨cs, b1, b2⟩ := hbk2.box
              exact ⟨cs, hfs.keep b1 (by intro hm; simp at hm; exact hbk2.other (by rw [hm]; rfl)), b2⟩
            · rw [HN.out]
              exact hput
            · intro j a haj
              cases j with
              | zero => simp at haj; subst haj; exact hbk2.num 0 e rfl
              | succ j => simp at haj
            · rw [HLe.out]
              exact HG.out.rds.keep hfs (fun k hk => by obtain ⟨cs, hc⟩ := HG.out.rds.type k hk; exact hrb k cs hc)
            · exact HG.out.own.keep hfs (fun k hk => by obtain ⟨cs, hc⟩ := HG.out.own.type k hk; exact hrb k cs hc)
            · have hm := HG.out.mks
              rw [← HB.out, HM.out] at hm
              intro x hx
              refine ⟨(hm x hx).1.keep hfs (fun hxm => ?_), (hm x hx).2⟩
              simp at hxm
              subst hxm
              obtain ⟨cs, hc⟩ := hrt
              have h9 : wr.heap[x]? = _ := (hm x hx).1
              rw [h9] at hc
              simp at hc
            · exact hf.trans hfs (fun x hx _ => List.mem_append_right _ hx) (fun x hx _ => List.mem_append_left _ (by simp at hx; subst hx; simp [Value.ownBlock]))
          have HI1 : Hid (i + 1 = 1) := by have := HI0.out; show _ = _; omega
          clear hbk2 hvb2 hvb hlt hf hte HG
          go_wp2_with fail
          go_roundw
          case rel => exact ⟨i + 1, by simp, by omega, Or.inr ⟨HI1.out, _, HFin.out⟩⟩
          case measure => simp [RowKit.intOf]; omega
    · have hi1 : i = N := by omega
      have HFin : Hid (∃ V, GL base wr bk (.slice rao N rcap) { e with long := V } ∧ Fr ((Value.slice rao N rcap).ownBlock.toList ++ e.l.ownBlock.toList) w wr) := by
        rcases HI.out with ⟨q, _⟩ | ⟨_, q⟩
        · omega
        · exact q
      have c1 : wr.cell? ⟨bk, 9, none⟩ = some (.slice rao N rcap) := by
        obtain ⟨V, hV, _⟩ := HFin.out
        exact hV.bl.c1
      subst hi1
      go_wp2_with fail
      go_end0
      obtain ⟨V, hV⟩ := HFin.out
      exact ⟨rfl, V, hV⟩
end Go.Proofs.YtldghdbfhikcoaaGreatDoor.Bq
/- A Book's look at its list of lists. Conditions: one such list is held; the table of powers of ten reads as the library lays it. -/
namespace Go.Proofs.YtldghdbfhikcoaaGreatDoor.Bq
open BigFrame Go.ChangeShapes Go.WideShapes Go.ChangeAt Go.RowKit Go.Lib
set_option linter.unusedVariables false
set_option linter.unusedSimpArgs false

set_option maxHeartbeats 2000000 in
theorem isHL_at (n b : Nat) (B : ByteArray) (w : World) (hn : n < 134217728) (hB : mWord n = B) (ht : Tab w) (hb : Mk9 w B b) : Calls Tryz.prog 135 #[.slice (some ⟨b, 0, none⟩) 1 1, .int .i64 (n : Int)] w fun e w' => e = .returned (.bool true) ∧ Fr [] w w' := by
  have HB : Hid (mWord n = B) := hB
  clear hB
  have HT0 : Hid (Tab w) := ht
  have f0 : ∀ x : Wd w, x.W.cell? ⟨b, 0, none⟩ = some (.string B) := fun x => (hb.keep x.h (by simp)).c0
  have f1 : ∀ x : Wd w, x.W.cell? ⟨b, 1, none⟩ = some (.slice none 0 0) := fun x => (hb.keep x.h (by simp)).c1
  clear hb ht
  go_enter Tryz.func135, Tryz.ntmps135
  go_upto_region 1 with fail
  refine wp_region_wd (w1 := w) (by kernel_rfl) (by kernel_rfl) (Fr.refl _ _) ?_
  repeat (go_big_quiet_step (exact (word_any n B hn HB.out _ (HT0.out.keep (Wd.h _) (by simp))).mono fun e w3 hh => ⟨hh.1, ⟨_, Fr.then (Wd.h _) hh.2⟩, rfl⟩))
  refine wpQuiet_nil ?_
  rintro _ ⟨x, rfl⟩
  go_wp2
  go_ret
  exact ⟨by simp, x.h⟩
set_option maxHeartbeats 8000000 in
set_option maxRecDepth 100000 in
theorem lookHL_any (bk : Nat) (rv : Value) (e : HB) (base : Nat) (w : World) (h : GL base w bk rv e) (htab : Tab w) :
    Calls Tryz.prog 77 #[.pointer (some ⟨bk, 0, none⟩)] w fun e w' => e = .returned (.bool true) ∧ Fr [] w w' := by
  obtain ⟨N, HN⟩ : ∃ N, Hid (N = [e].length) := ⟨_, rfl⟩
  have hN1 : N ≤ 1 := by have := HN.out; simp at this; omega
  obtain ⟨rao, rcap, hrv⟩ := own_slice h.bl.row
  rw [← HN.out] at hrv
  subst hrv
  have H : Hid (GL base w bk (.slice rao N rcap) e) := h
  clear h
  go_enter Tryz.func77, Tryz.ntmps77
  go_wp2_with fail
  go_loopw [3] (fun ii wr => ∃ (i : Nat), ii = .int .i64 i ∧ i ≤ N ∧ Fr [] w wr) (fun ii _ => N - (RowKit.intOf ii).toNat)
  case atStart => exact ⟨0, rfl, Nat.zero_le _, Fr.refl _ _⟩
  case round =>
    obtain ⟨i, rfl, hiN, hF⟩ := hrel
    have hN2 : 1 ≤ N := by have := HN.out; simp at this; omega
    have hG := H.out.stay hF
    have c1 : wr.cell? ⟨bk, 9, none⟩ = some (.slice rao N rcap) := hG.bl.c1
    by_cases hi : i < N
    · have hi0 : i = 0 := by omega
      obtain ⟨rb, rc, hrv, hrc, d0, d1, d2⟩ := hG.bl.at i e (by rw [hi0]; rfl)
      rw [← HN.out] at hrv hrc
      cases hrv
      clear hi0
      have hen : e.n < 134217728 := hG.bl.num 0 e rfl
      obtain ⟨n, ms, ns, hml, hnl, hn21, hR, hO, hmk⟩ := hG.row
      obtain ⟨lao, lcap, hl, hlc, hlr⟩ := hR.shape
      obtain ⟨xo, gcap, gf, hx, hxc, hgf, hO⟩ := hO
      obtain ⟨g, gc2, hgx, _⟩ := own_form hO (by omega)
      cases hgx
      obtain ⟨Q, hQ⟩ : ∃ Q, Q = n + 70 := ⟨_, rfl⟩
      rw [hx] at d1
      rw [hl] at d0
      obtain ⟨M, HM⟩ : ∃ M, Hid (M = e.n) := ⟨_, rfl⟩
      rw [← HM.out] at d2 hen hmk
      obtain ⟨B, HB⟩ : ∃ B, Hid (mWord M = B) := ⟨_, rfl⟩
      rw [HB.out] at hmk
      rw [← hQ] at hO d1 hxc
      have hQn : (Q : Int) = (n : Int) + 70 := by omega
      have hne : ((Q : Int) != (n : Int) + 70) = false := by rw [hQn]; simp
      have hQb : Q < 2^35 := by omega
      have HQn : Hid (Q = n + 70) := hQ
      have HX : Hid (∀ k, k < Q → ∃ b, ∀ W, Fr [] wr W → W.cell? ⟨g, k, none⟩ = some (.slice (some ⟨b, 0, none⟩) 1 1) ∧ Mk9 W B b) := by
        intro k hk
        refine ⟨(ms ++ ns).getD k 0, fun W hf => ⟨own_mkV (owns_keep hO hf (by simp)) k hk, ((hmk _ ?_).1).keep hf (by simp)⟩⟩
        have hkl : k < (ms ++ ns).length := by rw [List.length_append]; have := HQn.out; omega
        rw [show (ms ++ ns).getD k 0 = (ms ++ ns)[k] from by unfold List.getD; rw [List.getElem?_eq_getElem hkl]; rfl]
        exact List.getElem_mem _
      have HY : Hid (0 < n → ∃ t, lao = some ⟨t, 0, none⟩ ∧ ∀ k, k < n → ∃ b, ∀ W, Fr [] wr W → W.cell? ⟨t, k, none⟩ = some (.slice (some ⟨b, 0, none⟩) 1 1) ∧ Mk9 W B b) := by
        intro h0
        obtain ⟨t, e1, hc⟩ := hlr h0
        refine ⟨t, e1, fun k hk => ⟨ms.getD k 0, fun W hf => ⟨?_, ((hmk _ ?_).1).keep hf (by simp)⟩⟩⟩
        · obtain ⟨cs, hcs⟩ := hR.type t (by rw [hl, e1]; rfl)
          exact (World.cell?_of_block (hf.block t (lt_of_block hcs) (by simp))).trans (hc k hk)
        · rw [show ms.getD k 0 = ms[k]'(by omega) from by unfold List.getD; rw [List.getElem?_eq_getElem (by omega)]; rfl]
          exact List.mem_append_left _ (List.getElem_mem _)
      clear hO hR hx hl hQ hQn hlr hmk hml hnl hG
      go_wp2_with fail
      obtain ⟨hv, hhv⟩ : ∃ hv, hv = wr.heap.size := ⟨_, rfl⟩
      obtain ⟨w1, hw1⟩ : ∃ w1, w1 = wr.alloc (Obj.cells #[.slice lao n lcap, .slice (some ⟨g, 0, none⟩) Q gcap, .int .i64 (M : Int)] 168) := ⟨_, rfl⟩
      rw [← hw1, ← hhv]
      have hF1 : Fr [] wr w1 := by rw [hw1]; exact Fr.alloc [] _ _
      have hvb : w1.heap[hv]? = some (.cells #[.slice lao n lcap, .slice (some ⟨g, 0, none⟩) Q gcap, .int .i64 (M : Int)] 168 (0, 0)) := by rw [hw1, hhv]; exact heap_alloc_new wr _
      have HA : Hid (∀ W, Fr [] w1 W → W.cell? ⟨hv, 0, none⟩ = some (.slice lao n lcap) ∧ W.cell? ⟨hv, 1, none⟩ = some (.slice (some ⟨g, 0, none⟩) Q gcap) ∧ W.cell? ⟨hv, 2, none⟩ = some (.int .i64 (M : Int)) ∧ Fr [] wr W) := by
        intro W hf
        have hb := hf.keep hvb (by simp)
        exact ⟨by rw [cell_of_row _ _ _ _ _ _ hb]; rfl, by rw [cell_of_row _ _ _ _ _ _ hb]; rfl, by rw [cell_of_row _ _ _ _ _ _ hb]; rfl, hF1.then hf⟩
      have HF1 : Hid (Fr [] w w1) := hF.then hF1
      have HTW : Hid (Tab w1) := htab.keep HF1.out (by simp)
      obtain ⟨v0, v1, v2, _⟩ := HA.out _ (Fr.refl [] w1)
      clear hw1 hhv c1 d0 d1 d2 hvb hF hF1
      obtain ⟨wo, hwo⟩ : ∃ wo, wo = wr := ⟨_, rfl⟩
      subst hwo
      go_loopw [5] (fun kk wr' => ∃ (k : Nat), kk = .int .i64 k ∧ k ≤ Q ∧ Fr [] w1 wr') (fun kk _ => Q - (RowKit.intOf kk).toNat)
      case atStart => exact ⟨0, rfl, Nat.zero_le _, Fr.refl _ _⟩
      case round =>
        obtain ⟨k, rfl, hkQ, hFq⟩ := hrel
        obtain ⟨a0, a1, a2, _⟩ := HA.out _ hFq
        by_cases hk : k < Q
        · have hlt : (k : Int) < Q := by omega
          have HF : Hid (Fr [] w1 wr) := hFq
          have f0 : ∀ x : Wd w1, x.W.cell? ⟨hv, 0, none⟩ = some (.slice lao n lcap) := fun x => (HA.out _ x.h).1
          have f1 : ∀ x : Wd w1, x.W.cell? ⟨hv, 1, none⟩ = some (.slice (some ⟨g, 0, none⟩) Q gcap) := fun x => (HA.out _ x.h).2.1
          have f2 : ∀ x : Wd w1, x.W.cell? ⟨hv, 2, none⟩ = some (.int .i64 (M : Int)) := fun x => (HA.out _ x.h).2.2.1
          obtain ⟨b, hb⟩ := HX.out k hk
          have g0 : ∀ x : Wd w1, x.W.cell? ⟨g, k, none⟩ = some (.slice (some ⟨b, 0, none⟩) 1 1) := fun x => (hb x.W (HA.out _ x.h).2.2.2).1
          have HI1 : ∀ x : Wd w1, Calls Tryz.prog 135 #[.slice (some ⟨b, 0, none⟩) 1 1, .int .i64 (M : Int)] x.W fun e w' => e = .returned (.bool true) ∧ Fr [] x.W w' := fun x => isHL_at M b B x.W hen HB.out (HTW.out.keep x.h (by simp)) (hb x.W (HA.out _ x.h).2.2.2).2
          clear hb
          by_cases hkn : k < n
          · have hkn' : (k : Int) < n := by omega
            obtain ⟨t, e9, HT⟩ := HY.out (by omega)
            subst e9
            obtain ⟨b2, hb2⟩ := HT k hkn
            have y0 : ∀ x : Wd w1, x.W.cell? ⟨t, k, none⟩ = some (.slice (some ⟨b2, 0, none⟩) 1 1) := fun x => (hb2 x.W (HA.out _ x.h).2.2.2).1
            have HI2 : ∀ x : Wd w1, Calls Tryz.prog 135 #[.slice (some ⟨b2, 0, none⟩) 1 1, .int .i64 (M : Int)] x.W fun e w' => e = .returned (.bool true) ∧ Fr [] x.W w' := fun x => isHL_at M b2 B x.W hen HB.out (HTW.out.keep x.h (by simp)) (hb2 x.W (HA.out _ x.h).2.2.2).2
            clear hFq hb2 HT
            go_wp2_with fail
            refine wp_region_wd (w1 := w1) (by kernel_rfl) (by kernel_rfl) HF.out ?_
            repeat (go_big_quiet_step (first
              | (go_at_call 135; with_reducible refine (HI1 _).mono ?_; exact fun e w3 hh => ⟨hh.1, ⟨_, Fr.then (Wd.h _) hh.2⟩, rfl⟩)
              | (go_at_call 135; with_reducible refine (HI2 _).mono ?_; exact fun e w3 hh => ⟨hh.1, ⟨_, Fr.then (Wd.h _) hh.2⟩, rfl⟩)))
            refine wpQuiet_nil ?_
            rintro _ ⟨x, rfl⟩
            clear HI1 HI2
            go_wp2_with fail
            go_roundw
            case rel => exact ⟨k + 1, by simp, by omega, x.h⟩
            case measure => simp [RowKit.intOf]; omega
          · have hkn' : ¬ ((k : Int) < n) := by omega
            clear hFq
            go_wp2_with fail
            refine wp_region_wd (w1 := w1) (by kernel_rfl) (by kernel_rfl) HF.out ?_
            repeat (go_big_quiet_step (first
              | (go_at_call 135; with_reducible refine (HI1 _).mono ?_; exact fun e w3 hh => ⟨hh.1, ⟨_, Fr.then (Wd.h _) hh.2⟩, rfl⟩)))
            refine wpQuiet_nil ?_
            rintro _ ⟨x, rfl⟩
            clear HI1
            go_wp2_with fail
            go_roundw
            case rel => exact ⟨k + 1, by simp, by omega, x.h⟩
            case measure => simp [RowKit.intOf]; omega
        · have hle : (Q : Int) ≤ k := by omega
          have hF2 := HF1.out.then hFq
          go_wp2_with fail
          go_roundw
          case rel => exact ⟨i + 1, by simp, by omega, hF2⟩
          case measure => simp [RowKit.intOf]; omega
    · go_wp2_with fail
      go_ret
      exact ⟨rfl, hF⟩
end Go.Proofs.YtldghdbfhikcoaaGreatDoor.Bq
