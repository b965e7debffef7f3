/- For every log and every list of numbers asked for the law LogfileAsked returns true, and what came in reads as it did. No conditions. -/
import Derived.Test.YtjhnppgkmmhjbaaAsk6
import Derived.Test.YtjhnppgkmmhjbaaSame6
import Derived.Test.YtjhnppgkmmhjbaaTxs
namespace Go.Proofs.Ytjhnppgkmmhjbaa.logfileAsked
open Go.ChangeShapes Go.WideShapes Go.ChangeAt Go.RowKit Go.Lib
set_option linter.unusedVariables false

structure Wd (w1 : World) where
  W : World
  h : Fr [] w1 W
instance (w1 : World) : Nonempty (Wd w1) := ⟨⟨w1, Fr.refl _ _⟩⟩
theorem wp_region_wd {P : Program} {w1 wr : World} {id : Nat} {Q : Exit → Act → World → Prop} {a : Act} {l : List Oper} (hm : P.follows .mixedOrders = true) (hB : Region.lexB .any l.toArray = true) (hf : Fr [] w1 wr)
    (h : wpQuiet P l.toArray (fun w' => ∃ x : Wd w1, w' = x.W) (fun a' => ∀ w', (∃ x : Wd w1, w' = x.W) → Q .normal a' w') l a) : (Code.region id l.toArray true).wp P Q a wr :=
  wp_region_quiet (C := fun w' => ∃ x : Wd w1, w' = x.W) hm hB ⟨⟨_, hf.then (Fr.drew [] wr)⟩, rfl⟩ (by simpa using h)

theorem own_apart {w : World} {v : Value} {n : Nat} {xs : List Value} (h : w.ownsRow 0 3 1 v n xs) {k : Nat} {cs : Array Value} {t : TypeId} {f : Nat × Nat} (hk : w.heap[k]? = some (.cells cs t f)) (ht : t ≠ 3) : v.ownBlock ≠ some k := by
  intro hv
  rcases h.2 with ⟨rfl, _⟩ | ⟨g', cap, cur, rfl, _, hgg, _⟩
  · simp [Value.ownBlock] at hv
  · simp [Value.ownBlock] at hv
    subst hv
    rw [hgg] at hk
    simp only [Option.some.injEq, Obj.cells.injEq] at hk
    exact ht hk.2.1.symm
/-- A source that was made since w0 and the law's own row of the numbers asked, apart from each other. -/
structure Pr (w0 w : World) (g lb L : Nat) (ds : List Tm) (v : Value) (qs : List Nat) (u : Value) (rs : List Nat) : Prop where
  src : Src w0 w g lb L ds v qs
  row : w.ownsRow 0 3 1 u rs.length (ints rs)
  new : ∀ k, u.ownBlock = some k → w0.heap.size ≤ k
  off : ∀ k, u.ownBlock = some k → v.ownBlock ≠ some k
  fr : Fr [] w0 w
section
variable {w0 w w' : World} {g lb L : Nat} {ds : List Tm} {v u : Value} {qs rs : List Nat}
theorem Pr.keep (h : Pr w0 w g lb L ds v qs u rs) (hf : Fr [] w w') : Pr w0 w' g lb L ds v qs u rs :=
  ⟨h.src.keep hf, owns_keep h.row hf (by simp), h.new, h.off, h.fr.then hf⟩
theorem Pr.got (h : Pr w0 w g lb L ds v qs u rs) {v' : Value} {qs' : List Nat} (hs : Src w0 w' g lb L ds v' qs') (hf : Fr (Src.own g v) w w') (hm : Moved w.heap.size v v') : Pr w0 w' g lb L ds v' qs' u rs := by
  refine ⟨hs, owns_keep h.row hf ?_, h.new, ?_, h.fr.on hf ?_⟩
  · intro k hk hh
    simp only [Src.own, List.mem_cons, Option.mem_toList] at hh
    rcases hh with rfl | hh
    · exact own_apart h.row h.src.box (by decide) hk
    · exact h.off k hk hh
  · intro k hk hv
    rcases hm with hm | ⟨j, hj, hl⟩
    · exact h.off k hk (hm ▸ hv)
    · rw [hj] at hv
      cases hv
      have := (h.row.lt k hk).2
      omega
  · intro x hx
    simp only [Src.own, List.mem_cons, Option.mem_toList] at hx
    rcases hx with rfl | hx
    · exact h.src.gn
    · exact h.src.rn x hx
theorem Pr.push (h : Pr w0 w g lb L ds v qs u rs) {w1 : World} {u' : Value} {n N : Nat} {cs : List Value} (hown : w1.ownsRow 0 3 1 u' N cs) (hN : N = (rs ++ [n]).length) (hcs : cs = ints (rs ++ [n])) (hg : w.grownBy w1 u.ownBlock) {k : Nat} (hk : w.heap.size = k) (hm : Moved k u u') : Pr w0 w1 g lb L ds v qs u' (rs ++ [n]) := by
  subst hN
  subst hcs
  subst hk
  have hf : Fr u.ownBlock.toList w w1 := Fr.grown hg (by intro k hk _; simp [hk])
  have hs := h.src
  have hin : ∀ k, k ∈ u.ownBlock.toList → u.ownBlock = some k := by intro k hk; simpa using hk
  refine ⟨⟨hf.keep hs.box fun hh => own_apart h.row hs.box (by decide) (hin _ hh), hf.keep hs.log fun hh => own_apart h.row hs.log (by decide) (hin _ hh), hs.len, hs.few, fun t ht => (hs.each t ht).keepS hf fun j hj hh => own_apart h.row hj (by decide) (hin _ hh), owns_keep hs.row hf fun j hj hh => h.off j (hin _ hh) hj, hs.gn, hs.ln, hs.rn⟩, hown, ?_, ?_, h.fr.on hf fun x hx => h.new x (hin x hx)⟩
  · exact hm.lt h.fr.size h.new
  · intro k hk hv
    rcases hm with hm | ⟨j, hj, hl⟩
    · exact h.off k (hm ▸ hk) hv
    · rw [hj] at hk
      cases hk
      have := (hs.row.lt k hv).2
      omega
end

set_option maxHeartbeats 16000000 in
set_option maxRecDepth 100000 in
theorem walk (ao : Option Addr) (L cap : Nat) (ts : List Tm) (ko : Option Addr) (M kc : Nat) (xs : List Nat) (w : World) (hT : TRs w ao ts) (hL : L = ts.length) (hC : L ≤ cap) (hB : BArg w ko M kc xs) (hMl : M ≤ 140737488351232) :
    Calls Try.prog 5 #[.slice ao L cap, .slice ko M kc] w fun e w' => e = .returned (.bool true) ∧ Fr [] w w' := by
  have HL : Hid (L = ts.length) := hL
  obtain ⟨iI, hiI, hzI, hsI, hbI⟩ := info_parts Try.infoI
  clear hL
  go_enter Try.func5, Try.ntmps5
  go_wp2_with fail
  refine (alive6_any _).mono ?_
  rintro e w1 ⟨rfl, hF1⟩
  go_wp2_with fail
  refine (txnsSize_any ao L cap ts _ (hT.keep hF1) HL.out).mono ?_
  rintro e w2 ⟨K, rfl, hK, hF2⟩
  have hG2 := hF1.then hF2
  have hF3 : Fr [] w2 (w2.alloc (.cells #[.int .i64 (K : Int)] 3)) := Fr.alloc _ _ _
  clear hF1 hF2
  go_wp2_with fail
  refine (beyond_any w2.heap.size K _ (by omega) (by simp)).mono ?_
  rintro e w3 ⟨rfl, rfl⟩
  have hG3 := hG2.then hF3
  obtain ⟨w3, HW3⟩ : ∃ w3, Hid (w2.alloc (.cells #[.int .i64 (K : Int)] 3) = w3) := ⟨_, rfl⟩
  rw [HW3.out] at hG3 ⊢
  clear hF3 hG2 HW3
  by_cases hbig : 1048576 < K
  · have hbd : decide (1048576 < K) = true := by simpa using hbig
    rw [hbd]
    go_wp2_with fail
    refine (alive6_any _).mono ?_
    rintro e w4 ⟨rfl, hF4⟩
    go_wp2
    go_ret
    exact ⟨rfl, hG3.then hF4⟩
  · have hbd : decide (1048576 < K) = false := by simpa using hbig
    rw [hbd]
    have hT3 := hT.keep hG3
    have hB3 := hB.keep hG3
    clear hbig hbd hK
    by_cases hM : 1000 < M
    · go_wp2_with fail
      refine (alive6_any _).mono ?_
      rintro e w4 ⟨rfl, hF4⟩
      go_wp2
      go_ret
      exact ⟨rfl, hG3.then hF4⟩
    · obtain ⟨c, hbad⟩ := Bad.ex (txs ts) 1
      have HBD : Hid (Bad 1 (txs ts) c) := hbad
      by_cases hc0 : c = 0
      · subst hc0
        have hok := (Bad.ok hbad).1 rfl
        clear hbad
        have HK : Hid (okL 1 (txs ts)) := hok
        have hL16 : L ≤ 65536 := by have := okL_few hok; rw [txs_length] at this; have := HL.out; omega
        clear hok
        go_wp2_with fail
        refine (new_ok ao L cap ts _ hT3 HL.out HK.out).mono ?_
        rintro e w4 ⟨g, lb, ds, rfl, hS4, hds, hF4⟩
        have HDS : Hid (txs ds = txs ts) := hds
        have hP4 : Pr w3 w4 g lb L ds (.slice none 0 0) [] (.slice none 0 0) [] := ⟨hS4, ⟨rfl, .inl ⟨rfl, rfl⟩⟩, by simp [Value.ownBlock], by simp [Value.ownBlock], hF4⟩
        have hXM : Hid (M = xs.length) := hB.len
        clear hS4 hF4 hds
        go_wp2_with fail
        go_loopw [7, 8] (fun uu ii wr => ∃ (i : Nat) (v : Value) (qs : List Nat), ii = .int .i64 i ∧ i ≤ M ∧ Hid (qs.length ≤ i) ∧ Pr w3 wr g lb L ds v qs uu qs) (fun _ ii _ => M - (intOf ii).toNat)
        case atStart => exact ⟨0, _, [], rfl, Nat.zero_le _, by simp [Hid], hP4⟩
        case round =>
          clear hP4
          obtain ⟨i, v, qs, rfl, hiM, HQ, hPr⟩ := hrel
          obtain ⟨uo, uc, hu⟩ := own_shape wr hPr.row
          obtain ⟨N, hN⟩ : ∃ N, N = qs.length := ⟨_, rfl⟩
          have HN : Hid (N = qs.length) := hN
          have hN3 : N ≤ 1000 := by have := HQ.out; omega
          rw [← hN] at hu
          clear hN
          subst hu
          by_cases hi : i < M
          · obtain ⟨kb, koff, hke, _, hkc⟩ := (hB3.keep hPr.fr).lies (by omega)
            subst hke
            have hcell := hkc i (by have := hXM.out; omega)
            have hn256 : xs.getD i 0 < 256 := hB.low _ (by have := hXM.out; simp [List.getD, show i < xs.length by omega])
            obtain ⟨n, hn⟩ : ∃ n, n = xs.getD i 0 := ⟨_, rfl⟩
            rw [← hn] at hcell hn256
            clear hn hkc
            by_cases hr : n < 1 ∨ L < n
            · have HR : Hid (n < 1 ∨ L < n) := hr
              clear hr
              go_wp2_with fail
              refine (get_no hPr.src n HR.out (by omega)).mono ?_
              rintro e w5 ⟨rfl, hF5⟩
              have hP5 := hPr.keep hF5
              clear hPr hF5 hcell
              have HQ2 : Hid (qs.length ≤ i + 1) := by show _ ≤ _; have := HQ.out; omega
              have HP6 : Hid (Pr w3 (w5.alloc (.cells #[.int .i64 0, .slice none 0 0] 40)) g lb L ds v qs (.slice uo N uc) qs) := hP5.keep (Fr.alloc _ _ _)
              clear hP5
              rcases HR.out with hr | hr
              · obtain rfl : n = 0 := by omega
                go_wp2
                go_roundw
                case rel => exact ⟨i + 1, v, qs, by simp, by omega, HQ2, HP6.out⟩
                case measure => simp [intOf]; omega
              · have hr1 : ¬ n < 1 := by omega
                go_wp2
                go_roundw
                case rel => exact ⟨i + 1, v, qs, by simp, by omega, HQ2, HP6.out⟩
                case measure => simp [intOf]; omega
            · have hn1 : 1 ≤ n := by omega
              have hnL : n ≤ L := by omega
              have hr1 : ¬ n < 1 := by omega
              have hr2 : ¬ L < n := by omega
              obtain ⟨m, hm⟩ : ∃ m, n = m + 1 := ⟨n - 1, by omega⟩
              have hmt : m < ts.length := by have := HL.out; omega
              have htx : (ds.getD m Tm.zero).tx = (ts.getD m Tm.zero).tx := by rw [← txs_getD, ← txs_getD, HDS.out]
              obtain ⟨d, hd⟩ : ∃ d, d = ds.getD m Tm.zero := ⟨_, rfl⟩
              obtain ⟨t, ht⟩ : ∃ t, t = ts.getD m Tm.zero := ⟨_, rfl⟩
              have HD : Hid (d = ds.getD (n - 1) Tm.zero) := by show _ = _; rw [hd]; congr 1; omega
              rw [← hd, ← ht] at htx
              have HMT : Hid (m < ts.length) := hmt
              have HT : Hid (t = ts.getD m Tm.zero) := ht
              have HM : Hid (n = m + 1) := hm
              obtain ⟨dn, dxo, dM, dcm, dws⟩ := d
              obtain ⟨tn, txo, tM, tcm, tws⟩ := t
              simp only [Tm.tx, Tx.mk.injEq] at htx
              obtain ⟨rfl, rfl⟩ := htx
              have hw3 := hPr.fr.size
              have hdin := hPr.src.each _ (tgetD_mem ds m (by have := hPr.src.len; omega))
              rw [← hd] at hdin
              have HDN : Hid (dM = dws.length ∧ okT dn dws) := by obtain ⟨_, _, _, e5, _, _, e6⟩ := hdin; exact ⟨e5, e6⟩
              clear hr hd ht hm hmt hdin
              go_wp2_with fail
              refine (get_ok hPr.src n hn1 hnL (by have := HN.out; omega) hPr.fr.size ⟨dn, dxo, dM, dcm, dws⟩ HD.out).mono ?_
              rintro e w5 ⟨k, v', rfl, hk, hrow5, hS5, hF5, hM5⟩
              have hP5 := hPr.got hS5 hF5 hM5
              simp only at hrow5
              clear hS5 hF5 hM5 hPr hcell HD
              have hF6 : Fr [] w5 (w5.alloc (.cells #[.int .i64 dn, .slice (some ⟨k, 0, none⟩) dM dM] 40)) := Fr.alloc _ _ _
              have hX6 : B2 (w5.alloc (.cells #[.int .i64 dn, .slice (some ⟨k, 0, none⟩) dM dM] 40)) w5.heap.size (.int .i64 dn) (.slice (some ⟨k, 0, none⟩) dM dM) := ⟨heap_alloc_new _ _⟩
              have hrow6 := hF6.keep hrow5 (by simp)
              have hP6 := hP5.keep hF6
              go_upto_region 15 with fail
              obtain ⟨w6, HW6⟩ : ∃ w6, Hid (w5.alloc (.cells #[.int .i64 dn, .slice (some ⟨k, 0, none⟩) dM dM] 40) = w6) := ⟨_, rfl⟩
              rw [HW6.out] at hX6 hrow6 hP6 ⊢
              have hm := HM.out
              subst hm
              have hT6 := hT3.keep hP6.fr
              obtain ⟨tb, tof, hte, htlt, htc⟩ := hT6.lies (by have := HMT.out; omega)
              subst hte
              have hl := htc m HMT.out
              have hal := hT6.each _ (tgetD_mem ts m HMT.out)
              rw [← HT.out] at hl hal
              obtain ⟨d0, d1⟩ := hl
              simp only at d0 d1
              have hal' : TArg w6 dn txo tM tcm dws := hal
              have hkn : w3.heap.size ≤ k := by have := hP5.fr.size; have := lt_of_block hrow5; omega
              have hax : Tnew w3 w6 ⟨dn, some ⟨k, 0, none⟩, dM, dM, dws⟩ := ⟨k, rfl, rfl, HDN.out.1, hkn, hrow6, HDN.out.2⟩
              have hax' : TArg w6 dn (some ⟨k, 0, none⟩) dM dM dws := hax.at
              have HS2 : Hid (∀ W, Fr [] w6 W → Calls Try.prog 18 #[.agg #[.int .i64 dn, .slice (some ⟨k, 0, none⟩) dM dM], .agg #[.int .i64 dn, .slice txo tM tcm]] W fun e w' => e = .returned (.bool true) ∧ Fr [] W w') := fun W hf =>
                sameTxn_any dn dn (some ⟨k, 0, none⟩) txo dM tM dM tcm true dws dws W (hax'.rs.keep hf) (hal'.rs.keep hf) hax'.len hal'.len ⟨fun _ => ⟨rfl, rfl⟩, fun _ => rfl⟩
              have hxlt := hX6.lt
              have j0 : ∀ x : Wd w6, x.W.cell? ⟨w5.heap.size, 0, none⟩ = some (.int .i64 dn) := fun x => (World.cell?_of_block (x.h.block w5.heap.size hxlt (by simp))).trans hX6.c0
              have j1 : ∀ x : Wd w6, x.W.cell? ⟨w5.heap.size, 1, none⟩ = some (.slice (some ⟨k, 0, none⟩) dM dM) := fun x => (World.cell?_of_block (x.h.block w5.heap.size hxlt (by simp))).trans hX6.c1
              have j2 : ∀ x : Wd w6, x.W.cell? ⟨tb, tof + m * 2, none⟩ = some (.int .i64 dn) := fun x => (World.cell?_of_block (x.h.block tb htlt (by simp))).trans d0
              have j3 : ∀ x : Wd w6, x.W.cell? ⟨tb, tof + m * 2 + 1, none⟩ = some (.slice txo tM tcm) := fun x => (World.cell?_of_block (x.h.block tb htlt (by simp))).trans d1
              clear hax hal hax' hal' d0 d1 htlt hxlt hT6 htc hP5 hF6 hX6 hrow6 hrow5 HW6
              refine wp_region_wd (w1 := w6) (by kernel_rfl) (by kernel_rfl) (Fr.refl _ _) ?_
              repeat (go_big_quiet_step (first | (go_at_call 18; with_reducible refine (HS2.out _ (Wd.h _)).mono ?_; exact fun e w3 hh => ⟨hh.1, ⟨_, Fr.then (Wd.h _) hh.2⟩, rfl⟩)))
              refine wpQuiet_nil ?_
              rintro _ ⟨x9, rfl⟩
              have hP7 := hP6.keep x9.h
              obtain ⟨w7, hw7⟩ : ∃ w7, w7 = x9.W := ⟨_, rfl⟩
              rw [← hw7] at hP7 ⊢
              clear hw7 j0 j1 j2 j3 HS2 hP6
              have HR7 : Hid (w7.ownsRow 0 3 1 (.slice uo N uc) N (ints qs)) := by show World.ownsRow _ _ _ _ _ _ _; have := hP7.row; rw [← HN.out] at this; exact this
              go_wp2_with (at_builtin; go_loud (refine wpList_app1 _ rfl (.tmp 85) (.tmp 87) 46 rfl 3 iI (.int .i64 0) 1 8 Try.undIs hiI hzI hsI hbI rfl (by decide) _ N _ rfl (HR7.out.alloc _) ⟨w7.heap.size, 0, none⟩ 1 [.int .i64 ((m + 1 : Nat) : Int)] rfl rfl ?c1 ?c2 ?c3 ?c4 ?_))
              case c2 => first | rfl | (simp; done) | (simp [Value.oneCell'])
              case c3 => omega
              case c4 => unfold maxLen; omega
              intro g' cap' w8 hown hgrow hmov
              have hP8 := (hP7.keep (Fr.alloc _ _ _)).push (n := m + 1) hown (by simp [HN.out]) (by rw [ints_append]; simp [ints]) hgrow (k := w7.heap.size + 1) (by simp) hmov
              clear hown hgrow hmov HR7 hP7
              have HQ2 : Hid ((qs ++ [m + 1]).length ≤ i + 1) := by show _ ≤ _; have := HQ.out; simp; omega
              have HP8 : Hid (Pr w3 w8 g lb L ds v' (qs ++ [m + 1]) (.slice (some ⟨g', 0, none⟩) (N + 1) cap') (qs ++ [m + 1])) := hP8
              clear hP8
              go_wp2
              go_roundw
              case rel => exact ⟨i + 1, v', qs ++ [m + 1], by simp, by omega, HQ2, HP8.out⟩
              case measure => simp [intOf]; omega
          · go_wp2_with fail
            refine (asked_any hPr.src (by have := HQ.out; omega) N HN.out).mono ?_
            rintro e w5 ⟨bo, rfl, hI5, hF5⟩
            have hP5 := hPr.keep hF5
            have hU5 : Is w5 uo qs := Is.of_own (n := qs.length) (by have := hP5.row; rw [HN.out] at this; exact this) rfl
            clear hF5 hPr
            go_wp2_with fail
            refine (sameInts_any bo uo N N uc qs _ hI5 hU5 HN.out (by omega)).mono ?_
            rintro e w6 ⟨rfl, q, rfl⟩
            have hP6 := hP5.keep (Fr.drewN [] w5 q)
            clear hP5 hI5 hU5
            go_wp2_with fail
            refine (sLast_any hP6.src).mono ?_
            rintro e w7 ⟨rfl, rfl⟩
            go_wp2
            go_ret
            exact ⟨by simp, hG3.then hP6.fr⟩
      · have hcb : ((c : Int) != 0) = true := by rw [bne_iff_ne]; omega
        have hcc : ((c : Int) == (c : Int)) = true := by simp
        have HC0 : Hid (c ≠ 0) := hc0
        clear hbad hc0
        go_wp2_with fail
        refine (new_no ao L cap c ts _ hT3 HL.out HBD.out HC0.out).mono ?_
        rintro e w4 ⟨rfl, hF4⟩
        have hT4 := hT3.keep hF4
        have hG4 := hG3.then hF4
        clear hF4 hG3 hT3
        go_wp2_with fail
        refine (lcheck_any ao L cap c ts _ hT4 HL.out HBD.out).mono ?_
        rintro e w5 ⟨rfl, hF5⟩
        have hG5 := hG4.then hF5
        clear hF5 hG4 hT4
        go_wp2
        go_ret
        exact ⟨by simp, hG5⟩

theorem own : ownKnob Try.prog.godebug = none := by kernel_rfl
theorem laidOut : laidOutB Try.prog = true := by kernel_rfl
set_option maxHeartbeats 4000000 in
set_option maxRecDepth 100000 in
theorem lifted (os : Os) (started : os.Started) (H : Type) (enc : TypeId × Value → H) :
    ReturnsInHanded {} Try.checked os 5 .any (Rows.logfileAskedSpec.pre6 enc Try.prog Try.f5 Rows.logfileAskedRow.domain false) (Rows.logfileAskedSpec.post enc Try.prog Try.f5 false true false false) := by
  refine returnsInHanded_of_change_sized (C := Try.checked) own started (by kernel_rfl) Try.func5
    (ChangeSpec.witness6 (enc := enc) (C := Try.checked) false ⟨#[], #[.slice none 0 0, .slice none 0 0], []⟩ 8 (by kernel_rfl) (by kernel_rfl) (by kernel_rfl) (by kernel_rfl)) ?_
  intro W base args ds gs before hval0 hW hcnd hsz0 _
  have hval : ∀ (j : Nat) t v, Try.f5.params[j]? = some t → args[j]? = some v → Value.okWide Try.prog W .any base t v := hval0
  have hsz : (DataW.weightsEach Try.prog (Try.f5.params.toList ++ Rows.logfileAskedSpec.plain.varTypes Try.prog) (ds ++ gs)).all (· ≤ reachBytes) = true := hsz0
  have hW' := hW
  obtain ⟨p, q, hA0, hV, rfl, hfz, hnd⟩ := hW
  have hA : DataW.TrodAll enc Try.prog W 0 (fun _ => true) true Try.f5.params.toList args.toList ds p := hA0
  rw [Try.params5] at hA hval hsz
  obtain ⟨v0, vs0, d0, ds0, p0, q0, hargs, rfl, rfl, h0, r0⟩ := trodAll_cons hA
  obtain ⟨v1, vs1, d1, ds1, p1, q1, rfl, rfl, rfl, h1, r1⟩ := trodAll_cons r0
  obtain ⟨rfl, rfl, rfl⟩ := trodAll_nil r1
  obtain rfl : args = #[v0, v1] := by cases args; simp_all
  obtain ⟨rfl, rfl⟩ := trodVars_none hV
  have k0 := h0
  have lt0 : ∀ x ∈ p0, x.block < W.heap.size := by obtain ⟨m, hm⟩ := k0; exact DataW.trod_lt m _ _ _ hm
  obtain ⟨a0, len0, cap0, ts0, rfl, hB0, hL0, hC0⟩ : ∃ ao L cap ts, v0 = .slice ao L cap ∧ TRs W ao ts ∧ L = ts.length ∧ L ≤ cap := by
    obtain ⟨fuel, hf⟩ := h0
    obtain ⟨ao, L, cap, rfl⟩ := okWide_slice Try.undTs' (hval 0 22 v0 rfl rfl)
    exact ts_open hf (fun n hn => of_decide_eq_true (List.all_eq_true.1 hsz n (DataW.weights_mem_each (j := 0) (t := 22) rfl rfl n hn)))
  obtain ⟨a1, len1, cap1, rfl⟩ := okWide_slice Try.undBs (hval 1 24 v1 rfl rfl)
  have k1 := h1
  have lt1 : ∀ x ∈ p1, x.block < W.heap.size := by obtain ⟨m, hm⟩ := k1; exact DataW.trod_lt m _ _ _ hm
  obtain ⟨z1, w1⟩ : ∃ zs, IsRow .u8 W a1 len1 cap1 zs := by
    obtain ⟨fuel, hf⟩ := h1
    rcases open_ints Try.undBs Try.underlying5 (by kernel_rfl) hf with ⟨hcs, _⟩ | ⟨x, l, c, zs, hcs, _, hl, hm, hz, _, hcell, hwz⟩
    · simp [Value.cells] at hcs
      obtain ⟨rfl, rfl, rfl⟩ := hcs
      exact ⟨[], .inl ⟨rfl, rfl, rfl, rfl⟩⟩
    · simp [Value.cells] at hcs
      obtain ⟨rfl, rfl, rfl⟩ := hcs
      exact ⟨zs, .inr ⟨_, rfl, hl, hm, by simpa using hz, hcell, hwz⟩⟩
  have hc1 : len1 ≤ 140737488351232 := by
    obtain ⟨fuel, hf⟩ := k1
    rcases open_ints Try.undBs Try.underlying5 (by kernel_rfl) hf with ⟨hcs, _⟩ | ⟨x, l, c, zs, hcs, _, hl, hm, hz, hx, hcell, hwz⟩
    · simp [Value.cells] at hcs
      omega
    · simp [Value.cells] at hcs
      obtain ⟨rfl, rfl, rfl⟩ := hcs
      have hd := congrArg Prod.fst hx
      simp only at hd
      have := sized_slice (j := 1) hsz rfl (by rw [hd]; rfl) Try.undBs
      rw [show Try.prog.bytesOf 5 = 1 from by kernel_rfl] at this
      simp [lits, reachBytes] at this hz
      omega
  obtain ⟨xs1, hB1⟩ := BArg.of_row w1
  clear hA0 hval0
  refine (walk a0 len0 cap0 ts0 a1 len1 cap1 xs1 W hB0 hL0 hC0 hB1 hc1).mono fun e W' ⟨he, hf⟩ => ?_
  subst he
  have bel : Below W.heap.size W W' := hf.below (Nat.le_refl _) (by simp)
  exact ⟨_, rfl, _, _, _, [], _, [], hW', trodAll_mk1 (shut_bool Try.underlying4 _), (trodAll_cons_mk (Below.trod laidOut (by kernel_rfl) (of_decide_eq_true (by kernel_rfl)) k0 bel lt0) (trodAll_cons_mk (Below.trod laidOut (by kernel_rfl) (of_decide_eq_true (by kernel_rfl)) k1 bel lt1) trodAll_mk0)), rfl, bel.frame _, fun h => by cases h⟩

theorem over : Rows.logfileAskedRow.holds Try.pinned (OpenSpec.ofChange Rows.logfileAskedSpec) :=
  OpenClaim.holds_of_wide 5 Try.f5 rfl rfl rfl rfl rfl rfl rfl ⟨rfl, rfl, rfl, rfl, rfl⟩ rfl rfl rfl rfl rfl (by kernel_rfl) Try.func5 (by kernel_rfl)
    (of_decide_eq_true (by kernel_rfl)) (by unfold Func.isWrapper; first | (rw [if_pos (by decide +kernel)]; kernel_rfl) | (rw [if_neg (by decide +kernel)]; exact ⟨rfl, rfl⟩))
    (fun os started H enc _ => lifted os started H enc)
end Go.Proofs.Ytjhnppgkmmhjbaa.logfileAsked
namespace Go.Proofs.Ytjhnppgkmmhjbaa
theorem logfileasked_holds : Rows.LogfileAskedSaid := logfileAsked.over
#print axioms logfileasked_holds
end Go.Proofs.Ytjhnppgkmmhjbaa
