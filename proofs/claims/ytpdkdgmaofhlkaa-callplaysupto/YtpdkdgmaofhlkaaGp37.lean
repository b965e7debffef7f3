/- Texts of this claim laid together, one behind the other: contracts and plain lemmas; conditions as each names them. -/
import Derived.Test.YtpdkdgmaofhlkaaGp36
/- The document's task: it begins, of a Get. Conditions as each names them. -/
namespace Go.Proofs.Ytpdkdgmaofhlkaa
open Go.ChangeShapes Go.WideShapes Go.ChangeAt Go.RowKit Go.Lib
set_option linter.unusedVariables false
set_option linter.unusedSimpArgs false

set_option maxHeartbeats 4000000 in
set_option maxRecDepth 100000 in
theorem ybegin1 {w : World} {t : Nat} {T : Yt} (h : YtM w t T) (ma le : Int) (ao : Option Addr) (L cap : Nat) (ns : List Int) (hI : IRs w ao ns) (hL : L = ns.length) (hbg : T.bg = false) (hm : mayBg ma le ns) (hk : okC T.k T.key T.en) (hk1 : T.k = 1) (hkz : T.key.size ≤ 64) (hs : T.so = none ∧ T.sl = 0 ∧ T.sc = 0 ∧ T.ro = none ∧ T.rl = 0 ∧ T.rc = 0) (hao : 0 < ns.length → ∀ a, ao = some a → a.block ≠ t) :
    Calls Try.prog 26 #[.pointer (some ⟨t, 0, none⟩), .int .i64 ma, .int .i64 le, .slice ao L cap] w fun e w' => e = .returned (.int .i64 0) ∧ ∃ so sc ro rc rqs, Bi w w' t T ma le ns so 1 sc ro 1 rc [(Cf.shard ⟨T.l, T.s, T.x, T.q⟩ T.key).1] rqs ∧ rqs.length = 1 := by
  have mixed : Try.prog.follows .mixedOrders = true := by kernel_rfl
  have hab := hm.2.2.2.2
  obtain ⟨h1, h2, h3, h4, _⟩ := hm
  have hsh : ns.length ≤ 65536 := Ab.short (by omega) hab
  have HAb : Hid (Calls _ _ _ _ _) := yoabove_any (ma + 1) ao L cap ns true w hI hL ⟨fun _ => hab, fun _ => rfl⟩
  have HI : Hid (∀ V, Fr [t] w V → IRs V ao ns) := fun V hf => hI.keepS hf (fun h0 a e => by simp; exact hao h0 a e)
  have HL : Hid (L = ns.length) := hL
  have hLm : L ≤ 131072 := by omega
  have c8 := h.c8
  have c9 := h.c9
  rw [hbg] at c8
  have z8 := h.fz 8
  have z9 := h.fz 9
  have HB : Hid (Bi w ((w.setCell ⟨t, 8, none⟩ (.bool true)).setCell ⟨t, 9, none⟩ (.int .i64 ma)) t T ma le ns none 0 0 none 0 0 [] []) := Bi.start h hs ma le ns
  have HQ : Hid (∀ wr so sl sc ro rl rc shs rqs, Bi w wr t T ma le ns so sl sc ro rl rc shs rqs → ∀ V, Fr [] wr V → Calls Try.prog 54 #[.pointer (some ⟨t, 0, none⟩), .int .i64 ma, .int .i64 le, .slice ao L cap] V fun e w' => ∃ r : Rv, e = .returned (.agg #[.int .u8 r.k, .int .i64 r.f, .int .i64 r.n, .string ⟨#[]⟩, .string ⟨#[]⟩, .bool false, .string r.key, .string r.en, .slice r.bo r.bl r.bc]) ∧ RqOf T.k T.n ma le T.key T.en ns r ∧ w'.ownsRow V.heap.size 3 1 (.slice r.bo r.bl r.bc) r.bl (intsC (bsOf T.k ns)) ∧ Fr [] V w') := fun wr so sl sc ro rl rc shs rqs hb V hV => yreq_any (hb.keep hV).yt hk ma le ao L cap ns ((HI.out wr hb.fr).keep hV) hL hLm
  have HSh : Hid (∀ V, Calls Try.prog 53 #[.agg #[.int .i64 T.l, .int .i64 T.s, .int .i64 T.x, .int .i64 T.q], .string T.key] V fun e w' => e = .returned (.tuple #[.int .i64 (Cf.shard ⟨T.l, T.s, T.x, T.q⟩ T.key).1, .int .i64 (Cf.shard ⟨T.l, T.s, T.x, T.q⟩ T.key).2]) ∧ Fr [] V w') := fun V => oshard_any T.l T.s T.x T.q T.key V (by omega)
  have HCs : Hid (∀ wr so sl sc ro rl rc shs rqs, Bi w wr t T ma le ns so sl sc ro rl rc shs rqs → wr.cell? ⟨t, 1, none⟩ = some (.int .i64 T.l) ∧ wr.cell? ⟨t, 2, none⟩ = some (.int .i64 T.s) ∧ wr.cell? ⟨t, 3, none⟩ = some (.int .i64 T.x) ∧ wr.cell? ⟨t, 4, none⟩ = some (.int .i64 T.q) ∧ wr.cell? ⟨t, 5, none⟩ = some (.int .u8 1) ∧ wr.cell? ⟨t, 6, none⟩ = some (.string T.key)) := fun wr so sl sc ro rl rc shs rqs hb => ⟨hb.yt.c1, hb.yt.c2, hb.yt.c3, hb.yt.c4, by have := hb.yt.c5; simp only at this; rw [hk1] at this; exact this, hb.yt.c6⟩
  have HB1 : Hid (∀ V (x : Int), Fr [] ((w.setCell ⟨t, 8, none⟩ (.bool true)).setCell ⟨t, 9, none⟩ (.int .i64 ma)) V → ((V.alloc (.cells #[.int .i64 x] 3)).cell? ⟨t, 10, none⟩ = some (.slice none 0 0) ∧ (V.alloc (.cells #[.int .i64 x] 3)).frozen? ⟨t, 10, none⟩ = false) ∧ Hid (Bi w ((V.alloc (.cells #[.int .i64 x] 3)).setCell ⟨t, 10, none⟩ (.slice (some ⟨V.heap.size, 0, none⟩) 1 1)) t T ma le ns (some ⟨V.heap.size, 0, none⟩) 1 1 none 0 0 [x] [])) := fun V x hV => by
    have hb := HB.out.keep (hV.then (Fr.alloc [] V (.cells #[.int .i64 x] 3)))
    have hlt : w.heap.size ≤ V.heap.size := by have h1 := HB.out.fr.size; have h2 := hV.size; omega
    have htl := h.lt
    have hFs : Fr [t] (V.alloc (.cells #[.int .i64 x] 3)) ((V.alloc (.cells #[.int .i64 x] 3)).setCell ⟨t, 10, none⟩ (.slice (some ⟨V.heap.size, 0, none⟩) 1 1)) := Fr.set _ _ _ (by simp)
    have hnew := heap_alloc_new V (.cells #[.int .i64 x] 3)
    have hO : (V.alloc (.cells #[.int .i64 x] 3)).ownsRow 0 3 1 (.slice (some ⟨V.heap.size, 0, none⟩) 1 1) 1 (intsC [x]) := ⟨rfl, .inr ⟨V.heap.size, 1, #[.int .i64 x], rfl, Nat.zero_le _, hnew, Nat.le_refl _, by unfold maxLen; omega, rfl, rfl⟩⟩
    refine ⟨⟨hb.yt.c10, hb.yt.fz 10⟩, row_put17 (j := 10) (.slice (some ⟨V.heap.size, 0, none⟩) 1 1) hb.yt, owns_keepB hO hFs (fun k hk hm => ?_), fun k hk => ?_, ⟨rfl, .inl ⟨rfl, rfl⟩⟩, fun k hk => by simp [Value.ownBlock] at hk, by simp, hb.fr.then hFs⟩
    · simp [Value.ownBlock] at hk
      simp at hm
      omega
    · simp [Value.ownBlock] at hk
      omega
  have HB2 : Hid (∀ wr (x : Int) (so : Option Addr), Bi w wr t T ma le ns so 1 1 none 0 0 [x] [] → ∀ V w1 (r : Rv), Fr [] wr V → Fr [] V w1 → RqOf T.k T.n ma le T.key T.en ns r → w1.ownsRow V.heap.size 3 1 (.slice r.bo r.bl r.bc) r.bl (intsC (bsOf T.k ns)) → ((w1.alloc (.cells #[.int .u8 r.k, .int .i64 r.f, .int .i64 r.n, .string ⟨#[]⟩, .string ⟨#[]⟩, .bool false, .string r.key, .string r.en, .slice r.bo r.bl r.bc] 55)).cell? ⟨t, 11, none⟩ = some (.slice none 0 0) ∧ (w1.alloc (.cells #[.int .u8 r.k, .int .i64 r.f, .int .i64 r.n, .string ⟨#[]⟩, .string ⟨#[]⟩, .bool false, .string r.key, .string r.en, .slice r.bo r.bl r.bc] 55)).frozen? ⟨t, 11, none⟩ = false) ∧ Hid (Bi w ((w1.alloc (.cells #[.int .u8 r.k, .int .i64 r.f, .int .i64 r.n, .string ⟨#[]⟩, .string ⟨#[]⟩, .bool false, .string r.key, .string r.en, .slice r.bo r.bl r.bc] 55)).setCell ⟨t, 11, none⟩ (.slice (some ⟨w1.heap.size, 0, none⟩) 1 1)) t T ma le ns so 1 1 (some ⟨w1.heap.size, 0, none⟩) 1 1 [x] [r])) := fun wr x so hb0 V w1 r hV h1 hR hO => by
    have hfa := Fr.alloc [] w1 (.cells r.a 55)
    have hb := (hb0.keep (hV.then h1)).keep hfa
    have hnew := heap_alloc_new w1 (.cells r.a 55)
    have hN : (w1.alloc (.cells r.a 55)).ownsRow 0 55 9 (.slice (some ⟨w1.heap.size, 0, none⟩) 1 1) 1 ([r].flatMap Rv.cs) := ⟨rfl, .inr ⟨w1.heap.size, 1, r.a, rfl, Nat.zero_le _, hnew, Nat.le_refl _, by unfold maxLen; omega, rfl, rfl⟩⟩
    have hFs : Fr [t] (w1.alloc (.cells r.a 55)) ((w1.alloc (.cells r.a 55)).setCell ⟨t, 11, none⟩ (.slice (some ⟨w1.heap.size, 0, none⟩) 1 1)) := Fr.set _ _ _ (by simp)
    have hT : ∀ {e : TypeId}, e ≠ 79 → ∀ k ∈ [t], ∀ cur, (w1.alloc (.cells r.a 55)).heap[k]? ≠ some (.cells cur e (0, 0)) := fun he k hk2 => by rw [List.mem_singleton.1 hk2]; exact yt_ne hb.yt he
    have hsz1 := hb0.fr.size
    have hsz2 := hV.size
    have hsz3 := h1.size
    refine ⟨⟨hb.yt.c11, hb.yt.fz 11⟩, row_put17 (j := 11) (.slice (some ⟨w1.heap.size, 0, none⟩) 1 1) hb.yt, owns_keepT hb.sh hFs (hT (by decide)), hb.shb, owns_keepT hN hFs (hT (by decide)), fun k hk => ?_, fun r2 hr2 => ?_, hb.fr.then hFs⟩
    · simp [Value.ownBlock] at hk
      omega
    · simp at hr2
      subst hr2
      refine ⟨hR, owns_keepT (owns_keepB (owns_zero hO) hfa (by simp)) hFs (hT (by decide)), fun k hk2 => ?_⟩
      obtain ⟨hbk, _⟩ := owns_cells hO hk2
      refine ⟨by omega, fun e => ?_⟩
      obtain ⟨_, cur, hc⟩ := owns_cells hb0.sh e
      have := lt_of_block hc
      omega
  have hd1 : decide (ma < 0) = false := by simp; omega
  have hd2 : decide (65536 < ma) = false := by simp; omega
  have hd3 : decide (le < 0) = false := by simp; omega
  have hd4 : decide (ma < le) = false := by simp; omega
  obtain ⟨sv, hsv⟩ : ∃ sv, sv = (Cf.shard ⟨T.l, T.s, T.x, T.q⟩ T.key).1 := ⟨_, rfl⟩
  obtain ⟨se, hse⟩ : ∃ se, se = (Cf.shard ⟨T.l, T.s, T.x, T.q⟩ T.key).2 := ⟨_, rfl⟩
  rw [← hsv, ← hse] at HSh
  rw [← hsv]
  obtain ⟨l, hll⟩ : ∃ l, l = T.l := ⟨_, rfl⟩
  obtain ⟨s, hss⟩ : ∃ s, s = T.s := ⟨_, rfl⟩
  obtain ⟨x, hxx⟩ : ∃ x, x = T.x := ⟨_, rfl⟩
  obtain ⟨q, hqq⟩ : ∃ q, q = T.q := ⟨_, rfl⟩
  obtain ⟨key, hkey⟩ : ∃ k, k = T.key := ⟨_, rfl⟩
  rw [← hll, ← hss, ← hxx, ← hqq, ← hkey] at HSh HCs
  clear h hI hL hbg hk hk1 hkz hs hao hab HI hsv hse hll hss hxx hqq hkey
  go_enter Try.func26, Try.ntmps26
  go_wp2_with fail
  refine Calls.mono HAb.out ?_
  rintro e w1 ⟨rfl, rfl⟩
  clear HAb
  go_upto_region 9 with fail
  obtain ⟨W9, HW9⟩ : ∃ W9, Hid ((w.setCell ⟨t, 8, none⟩ (.bool true)).setCell ⟨t, 9, none⟩ (.int .i64 ma) = W9) := ⟨_, rfl⟩
  rw [HW9.out] at HB HB1 ⊢
  clear HW9 c8 c9 z8 z9
  obtain ⟨d1, d2, d3, d4, d5, d6⟩ := HCs.out _ _ _ _ _ _ _ _ _ HB.out
  have HShq : Hid (∀ V, Fr [] W9 V → Calls Try.prog 53 #[.agg #[.int .i64 l, .int .i64 s, .int .i64 x, .int .i64 q], .string key] V fun e w' => e = .returned (.tuple #[.int .i64 sv, .int .i64 se]) ∧ (w'.cell? ⟨t, 1, none⟩ = some (.int .i64 l) ∧ w'.cell? ⟨t, 2, none⟩ = some (.int .i64 s) ∧ w'.cell? ⟨t, 3, none⟩ = some (.int .i64 x) ∧ w'.cell? ⟨t, 4, none⟩ = some (.int .i64 q) ∧ w'.cell? ⟨t, 6, none⟩ = some (.string key)) ∧ Fr [] W9 w') := fun V hV => (HSh.out V).mono (by
    rintro e w' ⟨rfl, hf⟩
    obtain ⟨g1, g2, g3, g4, g5, g6⟩ := HCs.out _ _ _ _ _ _ _ _ _ (HB.out.keep (hV.then hf))
    exact ⟨rfl, ⟨g1, g2, g3, g4, g6⟩, hV.then hf⟩)
  clear HSh
  go_upto_region 10 with fail
  clear d5
  go_region_held3 (fun V => V.cell? ⟨t, 1, none⟩ = some (.int .i64 l) ∧ V.cell? ⟨t, 2, none⟩ = some (.int .i64 s) ∧ V.cell? ⟨t, 3, none⟩ = some (.int .i64 x) ∧ V.cell? ⟨t, 4, none⟩ = some (.int .i64 q) ∧ V.cell? ⟨t, 6, none⟩ = some (.string key)) (go_keep)
    (first | (go_at_call 53; with_reducible refine (HShq.out _ (Fr.drew _ _)).mono ?_; rintro e w1 ⟨rfl, ⟨g1, g2, g3, g4, g6⟩, hf1⟩))
  obtain ⟨⟨m1, m2⟩, HB3⟩ := HB1.out w1 sv hf1
  clear g1 g2 g3 g4 g6 d1 d2 d3 d4 d6 HB1 HShq HB
  go_upto_region 12 with fail
  obtain ⟨W2, HW2⟩ : ∃ W2, Hid ((w1.alloc (.cells #[.int .i64 sv] 3)).setCell ⟨t, 10, none⟩ (.slice (some ⟨w1.heap.size, 0, none⟩) 1 1) = W2) := ⟨_, rfl⟩
  rw [HW2.out] at HB3 ⊢
  clear HW2 m1 m2
  go_wp2_with fail
  refine Calls.mono (HQ.out _ _ _ _ _ _ _ _ _ HB3.out _ (Fr.refl _ _)) ?_
  rintro e w3 ⟨r, rfl, hr1, hr2, hr3⟩
  obtain ⟨⟨m1, m2⟩, HB4⟩ := HB2.out _ _ _ HB3.out _ w3 r (Fr.refl _ _) hr3 hr1 hr2
  clear hr1 hr2 hr3 HB2 HQ HB3
  go_wp2
  go_ret
  exact ⟨rfl, _, _, _, _, _, HB4.out, rfl⟩
end Go.Proofs.Ytpdkdgmaofhlkaa
/- The document's task: it begins, of a call that asks all. Conditions as each names them. -/
namespace Go.Proofs.Ytpdkdgmaofhlkaa
open Go.ChangeShapes Go.WideShapes Go.ChangeAt Go.RowKit Go.Lib
set_option linter.unusedVariables false
set_option linter.unusedSimpArgs false

set_option maxHeartbeats 4000000 in
set_option maxRecDepth 100000 in
theorem ybeginN {w : World} {t : Nat} {T : Yt} (h : YtM w t T) (ma le : Int) (ao : Option Addr) (L cap : Nat) (ns : List Int) (hI : IRs w ao ns) (hL : L = ns.length) (hbg : T.bg = false) (hm : mayBg ma le ns) (hk : okC T.k T.key T.en) (hk1 : T.k ≠ 1) (hsN : 1 ≤ T.s ∧ T.s ≤ 16) (hs : T.so = none ∧ T.sl = 0 ∧ T.sc = 0 ∧ T.ro = none ∧ T.rl = 0 ∧ T.rc = 0) (hao : 0 < ns.length → ∀ a, ao = some a → a.block ≠ t) :
    Calls Try.prog 26 #[.pointer (some ⟨t, 0, none⟩), .int .i64 ma, .int .i64 le, .slice ao L cap] w fun e w' => e = .returned (.int .i64 0) ∧ ∃ so sc ro rc rqs, Bi w w' t T ma le ns so T.s.toNat sc ro T.s.toNat rc (ixs T.s.toNat) rqs ∧ rqs.length = T.s.toNat := by
  obtain ⟨i0, hi, hz0, hz1, hz2⟩ := info_of Try.infoReq
  obtain ⟨i1, hj, hy0, hy1, hy2⟩ := info_of Try.infoI15
  have mixed : Try.prog.follows .mixedOrders = true := by kernel_rfl
  have hab := hm.2.2.2.2
  obtain ⟨h1, h2, h3, h4, _⟩ := hm
  have hsh : ns.length ≤ 65536 := Ab.short (by omega) hab
  have HAb : Hid (Calls _ _ _ _ _) := yoabove_any (ma + 1) ao L cap ns true w hI hL ⟨fun _ => hab, fun _ => rfl⟩
  have HI : Hid (∀ V, Fr [t] w V → IRs V ao ns) := fun V hf => hI.keepS hf (fun h0 a e => by simp; exact hao h0 a e)
  have HL : Hid (L = ns.length) := hL
  have hLm : L ≤ 131072 := by omega
  have c8 := h.c8
  have c9 := h.c9
  rw [hbg] at c8
  have z8 := h.fz 8
  have z9 := h.fz 9
  have HB : Hid (Bi w ((w.setCell ⟨t, 8, none⟩ (.bool true)).setCell ⟨t, 9, none⟩ (.int .i64 ma)) t T ma le ns none 0 0 none 0 0 [] []) := Bi.start h hs ma le ns
  have HQ : Hid (∀ wr so sl sc ro rl rc shs rqs, Bi w wr t T ma le ns so sl sc ro rl rc shs rqs → ∀ V, Fr [] wr V → Calls Try.prog 54 #[.pointer (some ⟨t, 0, none⟩), .int .i64 ma, .int .i64 le, .slice ao L cap] V fun e w' => ∃ r : Rv, e = .returned (.agg #[.int .u8 r.k, .int .i64 r.f, .int .i64 r.n, .string ⟨#[]⟩, .string ⟨#[]⟩, .bool false, .string r.key, .string r.en, .slice r.bo r.bl r.bc]) ∧ RqOf T.k T.n ma le T.key T.en ns r ∧ w'.ownsRow V.heap.size 3 1 (.slice r.bo r.bl r.bc) r.bl (intsC (bsOf T.k ns)) ∧ Fr [] V w') := fun wr so sl sc ro rl rc shs rqs hb V hV => yreq_any (hb.keep hV).yt hk ma le ao L cap ns ((HI.out wr hb.fr).keep hV) hL hLm
  obtain ⟨S, hS⟩ : ∃ S : Nat, (S : Int) = T.s := ⟨T.s.toNat, by omega⟩
  have hSn : T.s.toNat = S := by omega
  rw [hSn]
  have hS16 : S ≤ 16 := by omega
  have HCs : Hid (∀ wr so sl sc ro rl rc shs rqs, Bi w wr t T ma le ns so sl sc ro rl rc shs rqs → wr.cell? ⟨t, 2, none⟩ = some (.int .i64 (S : Int)) ∧ wr.cell? ⟨t, 5, none⟩ = some (.int .u8 T.k) ∧ wr.cell? ⟨t, 10, none⟩ = some (.slice so sl sc) ∧ wr.cell? ⟨t, 11, none⟩ = some (.slice ro rl rc)) := fun wr so sl sc ro rl rc shs rqs hb => ⟨by rw [hS]; exact hb.yt.c2, hb.yt.c5, hb.yt.c10, hb.yt.c11⟩
  have hkq : (T.k == 1) = false := by rw [beq_eq_false_iff_ne]; exact hk1
  have HSt : Hid (∀ wr so sl sc ro rl rc shs rqs, Bi w wr t T ma le ns so sl sc ro rl rc shs rqs → ∀ x, _) := fun wr so sl sc ro rl rc shs rqs hb x => hb.shard x
  have HRq : Hid (∀ wr so sl sc ro rl rc shs rqs, Bi w wr t T ma le ns so sl sc ro rl rc shs rqs → ∀ V w1 (r : Rv), Fr [] wr V → Fr [] V w1 → RqOf T.k T.n ma le T.key T.en ns r → w1.ownsRow V.heap.size 3 1 (.slice r.bo r.bl r.bc) r.bl (intsC (bsOf T.k ns)) → _) := fun wr so sl sc ro rl rc shs rqs hb V w1 r g1 g2 g3 g4 => hb.req g1 g2 g3 g4
  obtain ⟨k, hkk⟩ : ∃ k, k = T.k := ⟨_, rfl⟩
  rw [← hkk] at hkq HCs
  have hd1 : decide (ma < 0) = false := by simp; omega
  have hd2 : decide (65536 < ma) = false := by simp; omega
  have hd3 : decide (le < 0) = false := by simp; omega
  have hd4 : decide (ma < le) = false := by simp; omega
  clear h hI hL hbg hk hk1 hsN hs hao hab hS hSn HI hkk
  go_enter Try.func26, Try.ntmps26
  go_wp2_with fail
  refine Calls.mono HAb.out ?_
  rintro e w1 ⟨rfl, rfl⟩
  clear HAb
  go_upto_region 9 with fail
  obtain ⟨W9, HW9⟩ : ∃ W9, Hid ((w.setCell ⟨t, 8, none⟩ (.bool true)).setCell ⟨t, 9, none⟩ (.int .i64 ma) = W9) := ⟨_, rfl⟩
  rw [HW9.out] at HB ⊢
  clear HW9 c8 c9 z8 z9
  obtain ⟨d2, d5, _, _⟩ := HCs.out _ _ _ _ _ _ _ _ _ HB.out
  go_wp2_with fail
  clear d2 d5
  go_loopw [11] (fun ii wr => ∃ (i : Nat) (so : Option Addr) (sc : Nat) (ro : Option Addr) (rc : Nat) (rqs : List Rv), ii = .int .i64 i ∧ i ≤ S ∧ Hid (Bi w wr t T ma le ns so i sc ro i rc (ixs i) rqs ∧ rqs.length = i)) (fun ii _ => S - (RowKit.intOf ii).toNat)
  case atStart => exact ⟨0, none, 0, none, 0, [], by first | rfl | simp, Nat.zero_le _, HB.out, rfl⟩
  case round =>
    clear HB
    obtain ⟨i, so, sc, ro, rc, rqs, rfl, hiS, HP⟩ := hrel
    obtain ⟨d2, d5, d10, d11⟩ := HCs.out _ _ _ _ _ _ _ _ _ HP.out.1
    by_cases hiN : i < S
    · have hlt : (i : Int) < (S : Int) := by omega
      obtain ⟨q1, q2, q3⟩ := HSt.out _ _ _ _ _ _ _ _ _ HP.out.1 (i : Int)
      have HQ1 : Hid _ := q1
      have HQ2 : Hid _ := q2
      have HQ3 : Hid _ := q3
      clear q1 q2 q3 d5 d11
      go_upto_region 18 with (at_builtin; refine wpList_own (wr.alloc (.cells #[.int .i64 (i : Int)] 3)) rfl _ _ 42 3 rfl i1 (.int .i64 0) 1 8 Try.undIs15 hj hy0 hy1 hy2 rfl (by decide) so i sc _ rfl HQ1.out ⟨wr.heap.size, 0, none⟩ 1 [.int .i64 (i : Int)] rfl rfl HQ2.out (by intro u hu; simp at hu; subst hu; rfl) (by omega) (by omega) ?_; intro so' c' w2 g1 g2 g3; obtain ⟨⟨e1, e2⟩, HB2⟩ := HQ3.out so' c' w2 g1 g2 g3; clear g1 g2 g3; go_frame)
      clear HQ1 HQ2 HQ3 e1 e2 d2 d10
      obtain ⟨W2, HW2⟩ : ∃ W2, Hid (w2.setCell ⟨t, 10, none⟩ (.slice so' (i + 1) c') = W2) := ⟨_, rfl⟩
      rw [HW2.out] at HB2 ⊢
      clear HW2
      obtain ⟨_, _, _, d11⟩ := HCs.out _ _ _ _ _ _ _ _ _ HB2.out
      have HC : Hid (∀ V, Fr [] W2 V → Calls Try.prog 54 #[.pointer (some ⟨t, 0, none⟩), .int .i64 ma, .int .i64 le, .slice ao L cap] V fun e w' => ∃ r : Rv, e = .returned (.agg #[.int .u8 r.k, .int .i64 r.f, .int .i64 r.n, .string ⟨#[]⟩, .string ⟨#[]⟩, .bool false, .string r.key, .string r.en, .slice r.bo r.bl r.bc]) ∧ (w'.cell? ⟨t, 11, none⟩ = some (.slice ro i rc) ∧ (w'.alloc (.cells #[.int .u8 r.k, .int .i64 r.f, .int .i64 r.n, .string ⟨#[]⟩, .string ⟨#[]⟩, .bool false, .string r.key, .string r.en, .slice r.bo r.bl r.bc] 55)).cell? ⟨t, 11, none⟩ = some (.slice ro i rc)) ∧ Hid (BiRq w w' t T ma le ns so' (i + 1) c' ro i rc (ixs i ++ [(i : Int)]) rqs r)) := fun V hV => by
        refine (HQ.out _ _ _ _ _ _ _ _ _ HB2.out V hV).mono ?_
        rintro e w' ⟨r, rfl, hr1, hr2, hr3⟩
        obtain ⟨p1, p2, p3, p4⟩ := HRq.out _ _ _ _ _ _ _ _ _ HB2.out V w' r hV hr3 hr1 hr2
        exact ⟨r, rfl, p1, p2, p3, p4⟩
      clear HQ HRq
      go_wp2_with fail
      go_region_law (first
        | (refine step_own _ (by rfl) _ _ 76 55 (by rfl) i0 (.agg #[.int .u8 0, .int .i64 0, .int .i64 0, .string ⟨#[]⟩, .string ⟨#[]⟩, .bool false, .string ⟨#[]⟩, .string ⟨#[]⟩, .slice none 0 0]) 9 120 Try.undReqs hi hz0 hz1 hz2 rfl (by decide) ro i rc _ (by rfl) HA3.out.1 ⟨w1.heap.size, 0, none⟩ 1 r.cs rfl (by rfl) HA3.out.2.1 (rv_cs_one r) (by omega) (by omega) ?_; intro ro' c2 w3 g1 g2 g3; obtain ⟨⟨j0, j1⟩, HR4⟩ := HA3.out.2.2 ro' c2 w3 g1 g2 g3)
        | (go_simp; go_at_call 54; with_reducible refine (HC.out _ (Fr.drew _ _)).mono ?_; rintro e w1 ⟨r, rfl, ⟨f0, f1⟩, HA3⟩; dsimp only))
      all_goals
        have HE : Hid (Bi w (w3.setCell ⟨t, 11, none⟩ (.slice ro' (i + 1) c2)) t T ma le ns so' (i + 1) c' ro' (i + 1) c2 (ixs (i + 1)) (rqs ++ [r]) ∧ (rqs ++ [r]).length = i + 1) := ⟨by have h := HR4.out; rw [ixs_succ]; exact h, by rw [List.length_append, HP.out.2]; rfl⟩
        clear HA3 HC f0 f1 j0 j1 HR4 g1 g2 g3 HP d11
        go_wp2
        go_roundw
        case rel => exact ⟨i + 1, so', c', ro', c2, _, by simp, by omega, HE⟩
        case measure => simp [RowKit.intOf]; omega
    · have hge : ¬ ((i : Int) < (S : Int)) := by omega
      have HE : Hid (∃ so sc ro rc rqs, Bi w wr t T ma le ns so S sc ro S rc (ixs S) rqs ∧ rqs.length = S) := by
        have e : i = S := by omega
        have h := HP.out
        rw [e] at h
        exact ⟨so, sc, ro, rc, rqs, h⟩
      clear HP d5 d10 d11
      go_wp2
      go_ret
      exact ⟨rfl, HE.out⟩
end Go.Proofs.Ytpdkdgmaofhlkaa
/- The document's task: a beginning that is refused. Conditions as each names them. -/
namespace Go.Proofs.Ytpdkdgmaofhlkaa
open Go.ChangeShapes Go.WideShapes Go.ChangeAt Go.RowKit Go.Lib
set_option linter.unusedVariables false
set_option linter.unusedSimpArgs false

set_option maxHeartbeats 2000000 in
set_option maxRecDepth 100000 in
theorem ybegin_bad {w : World} {t : Nat} {T : Yt} (h : YtM w t T) (ma le : Int) (ao : Option Addr) (L cap : Nat) (ns : List Int) (hI : IRs w ao ns) (hL : L = ns.length) (he : bgE T.bg ma le ns ≠ 0) :
    Calls Try.prog 26 #[.pointer (some ⟨t, 0, none⟩), .int .i64 ma, .int .i64 le, .slice ao L cap] w fun e w' => e = .returned (.int .i64 (bgE T.bg ma le ns)) ∧ w = w' := by
  have c8 := h.c8
  cases hb : T.bg with
  | true =>
    rw [hb] at c8
    have E : bgE true ma le ns = 10 := by unfold bgE; rw [if_pos rfl]
    rw [E]
    clear h E he hI
    go_enter Try.func26, Try.ntmps26
    go_wp2
    go_ret
    exact ⟨rfl, rfl⟩
  | false =>
    rw [hb] at c8 he
    have hm : ¬ mayBg ma le ns := fun hm => he (by unfold bgE; rw [if_neg (by simp), if_pos hm])
    have E : bgE false ma le ns = 1 := by unfold bgE; rw [if_neg (by simp), if_neg hm]
    rw [E]
    clear h E he
    by_cases h1 : ma < 0
    · clear hI hm hL
      go_enter Try.func26, Try.ntmps26
      go_wp2
      go_ret
      exact ⟨rfl, rfl⟩
    · by_cases h2 : 65536 < ma
      · clear hI hm hL
        go_enter Try.func26, Try.ntmps26
        go_wp2
        go_ret
        exact ⟨rfl, rfl⟩
      · by_cases h3 : le < 0
        · clear hI hm hL
          go_enter Try.func26, Try.ntmps26
          go_wp2
          go_ret
          exact ⟨rfl, rfl⟩
        · by_cases h4 : ma < le
          · clear hI hm hL
            go_enter Try.func26, Try.ntmps26
            go_wp2
            go_ret
            exact ⟨rfl, rfl⟩
          · have hA : ¬ Ab (ma + 1) ns := fun hA => hm ⟨by omega, by omega, by omega, by omega, hA⟩
            have HAb : Hid (Calls _ _ _ _ _) := yoabove_any (ma + 1) ao L cap ns false w hI hL ⟨fun h => (by cases h), fun h => absurd h hA⟩
            clear hI hm hL hA
            go_enter Try.func26, Try.ntmps26
            go_wp2_with fail
            refine Calls.mono HAb.out ?_
            rintro e w1 ⟨rfl, rfl⟩
            go_wp2
            go_ret
            exact ⟨rfl, rfl⟩
end Go.Proofs.Ytpdkdgmaofhlkaa
