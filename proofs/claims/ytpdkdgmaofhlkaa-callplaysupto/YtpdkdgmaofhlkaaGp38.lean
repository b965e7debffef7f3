/- Texts of this claim laid together, one behind the other: contracts and plain lemmas; conditions as each names them. -/
import Derived.Test.YtpdkdgmaofhlkaaGp26
import Derived.Test.YtpdkdgmaofhlkaaGp34
import Derived.Test.YtpdkdgmaofhlkaaGp3
/- The document's task: a reply that is another one's; a reply that it takes. Conditions as each names them. -/
namespace Go.Proofs.Ytpdkdgmaofhlkaa
open Go.ChangeShapes Go.WideShapes Go.ChangeAt Go.RowKit Go.Lib
set_option linter.unusedVariables false
set_option linter.unusedSimpArgs false

theorem Try.undResps : Try.prog.underlying 77 = some (.slice 46) := by kernel_rfl
theorem Try.infoResp : (Try.prog.info? 46).map (fun i => (i.zero, i.size, i.bytes)) = some (some (.agg #[.int .i64 0, .bool false, .slice none 0 0, .slice none 0 0, .int .i64 0]), 5, 72) := by kernel_rfl
set_option maxHeartbeats 1600000 in
set_option maxRecDepth 100000 in
theorem ygot_arg {w : World} {t : Nat} {T : Yt} (r : Rp) (h : YtM w t T) (hlt : T.pl < T.ak) (hak : T.ak ≤ 16) (hto : r.to_ ≠ T.n) : Calls Try.prog 29 #[.pointer (some ⟨t, 0, none⟩), .agg r.a] w fun e w' => e = .returned (.int .i64 1) ∧ Fr [] w w' := by
  obtain ⟨W, HW⟩ : ∃ W, Hid (w.alloc (.cells r.a 46) = W) := ⟨_, rfl⟩
  have hA : Fr [] w W := by rw [← HW.out]; exact Fr.alloc [] w _
  have hB : W.heap[w.heap.size]? = some (.cells r.a 46 (0, 0)) := by rw [← HW.out]; exact heap_alloc_new w _
  have HK : Hid (∀ V, Fr [] W V → YtM V t T ∧ V.heap[w.heap.size]? = some (.cells r.a 46 (0, 0))) := fun V hf => ⟨h.keep (hA.then hf) (by simp), hf.keep hB (by simp)⟩
  have HA : Hid (Fr [] w W) := hA
  have hk := h.keep hA (by simp)
  have c12 := hk.c12
  have c13 := hk.c13
  clear h hk hA hB
  obtain ⟨a, b, c, d, e, f, g, i, j⟩ := r
  obtain ⟨n, l, s, x, q, k, key, en, bg, ma, so, sl, sc, ro, rl, rc, ak, po, pl, pc⟩ := T
  simp only [Rp.a] at c12 c13 hlt hak HW HK hto ⊢
  have hg : decide ((ak : Int) ≤ (pl : Int)) = false := by simp; omega
  have hq2 : (a != n) = true := by simp [hto]
  go_enter Try.func29, Try.ntmps29
  go_upto_region 3 with fail
  rw [HW.out]
  clear HW
  go_quiet (fail)
  have HD : Hid (Fr [] W (W.drewN nq)) := Fr.drewN _ _ _
  obtain ⟨k1, k2⟩ := HK.out _ HD.out
  have k0 := k1.c0
  have k4 : (W.drewN nq).cell? ⟨w.heap.size, 0, none⟩ = some (.int .i64 a) := by rw [cell_of_row _ _ _ _ _ _ k2]; rfl
  simp only at k0
  clear c12 c13 k1 k2 HK
  obtain ⟨W1, HW1⟩ : ∃ W1, Hid (W.drewN nq = W1) := ⟨_, rfl⟩
  rw [HW1.out] at k0 k4 HD ⊢
  clear HW1
  go_wp2_with fail
  go_quiet (fail)
  have HD2 : Hid (Fr [] w (W1.drewN nq)) := (HA.out.then HD.out).then (Fr.drewN _ _ _)
  go_wp2
  go_ret
  exact ⟨rfl, HD2.out⟩
/-- What taking a reply leaves. -/
structure Gk (w w' : World) (t : Nat) (T : Yt) (r : Rp) (cs : List Value) : Prop where
  ex : ∃ po' pc', YtM w' t { T with po := po', pl := T.pl + 1, pc := pc' } ∧ w'.ownsRow 0 46 5 (.slice po' (T.pl + 1) pc') (T.pl + 1) (cs ++ r.a.toList) ∧ Fr (t :: (Value.slice T.po T.pl T.pc).ownBlock.toList) w w' ∧ (∀ k, (Value.slice po' (T.pl + 1) pc').ownBlock = some k → (Value.slice T.po T.pl T.pc).ownBlock = some k ∨ w.heap.size ≤ k)
theorem Gk.of {w V w2 : World} {t : Nat} {T : Yt} {r : Rp} {cs : List Value} (h : YtM w t T) (hrow : w.ownsRow 0 46 5 (.slice T.po T.pl T.pc) T.pl cs) (hf : Fr [] w V) {b : Nat} (hbn : w.heap.size ≤ b) (hB : V.heap[b]? = some (.cells r.a 46 (0, 0))) :
    (V.alloc (.cells r.a 46)).ownsRow 0 46 5 (.slice T.po T.pl T.pc) T.pl cs ∧ (∀ j u, r.a.toList[j]? = some u → (V.alloc (.cells r.a 46)).cell? ((⟨V.heap.size, 0, none⟩ : Addr).add j) = some u) ∧
    ∀ po' pc' w2, w2.ownsRow 0 46 5 (.slice po' (T.pl + 1) pc') (T.pl + 1) (cs ++ r.a.toList) → ((Value.slice po' (T.pl + 1) pc').ownBlock = (Value.slice T.po T.pl T.pc).ownBlock ∨ (Value.slice po' (T.pl + 1) pc').ownBlock = some (V.alloc (.cells r.a 46)).heap.size) → Fr (Value.slice T.po T.pl T.pc).ownBlock.toList (V.alloc (.cells r.a 46)) w2 →
      ((w2.cell? ⟨t, 13, none⟩ = some (.slice T.po T.pl T.pc) ∧ w2.frozen? ⟨t, 13, none⟩ = false) ∧ (w2.heap[b]? = some (.cells r.a 46 (0, 0)))) ∧ Hid (Gk w (w2.setCell ⟨t, 13, none⟩ (.slice po' (T.pl + 1) pc')) t T r cs) := by
  have hfa : Fr [] V (V.alloc (.cells r.a 46)) := Fr.alloc [] _ _
  have hWa := hf.then hfa
  refine ⟨owns_keepB hrow hWa (by simp), ?_, ?_⟩
  · intro j u hu
    have hr := heap_alloc_new V (.cells r.a 46)
    rw [Addr.add_lit, cell_of_row _ _ _ _ _ _ hr, Nat.zero_add]
    simpa using hu
  · intro po' pc' w2 h1 h2 h3
    have hne : t ∉ (Value.slice T.po T.pl T.pc).ownBlock.toList := fun hm => by
      obtain ⟨_, cur, hc⟩ := owns_cells hrow (Option.mem_toList.1 hm)
      unfold YtM at h
      rw [h] at hc
      simp only [Option.some.injEq, Obj.cells.injEq] at hc
      exact absurd hc.2.1 (by decide)
    have hbne : b ∉ (Value.slice T.po T.pl T.pc).ownBlock.toList := fun hm => by
      obtain ⟨_, cur, hc⟩ := owns_cells hrow (Option.mem_toList.1 hm)
      have := lt_of_block hc
      omega
    have hk2 : YtM w2 t T := (h.keep hWa (by simp)).keep h3 hne
    have hFs : Fr [t] w2 (w2.setCell ⟨t, 13, none⟩ (.slice po' (T.pl + 1) pc')) := Fr.set _ _ _ (by simp)
    refine ⟨⟨⟨hk2.c13, hk2.fz 13⟩, h3.keep (hfa.keep hB (by simp)) hbne⟩, ⟨po', pc', row_put17 (j := 13) (.slice po' (T.pl + 1) pc') hk2, owns_keepB h1 hFs (fun k hk hm => ?_), ?_, fun k hk => ?_⟩⟩
    · obtain ⟨_, cur, hc⟩ := owns_cells h1 hk
      rw [List.mem_singleton.1 hm] at hc
      unfold YtM at hk2
      rw [hk2] at hc
      simp only [Option.some.injEq, Obj.cells.injEq] at hc
      exact absurd hc.2.1 (by decide)
    · exact (hWa.mono (by intro x hx; simp at hx)).then ((h3.mono (by intro x hx _; exact List.mem_cons_of_mem _ hx)).then (hFs.mono (by intro x hx _; simp at hx; simp [hx])))
    · rcases h2 with e | e
      · left; rw [← e]; exact hk
      · right
        rw [e] at hk
        cases hk
        exact hWa.size
set_option maxHeartbeats 4000000 in
set_option maxRecDepth 100000 in
theorem ygot_ok {w : World} {t : Nat} {T : Yt} (r : Rp) (cs : List Value) (h : YtM w t T) (hlt : T.pl < T.ak) (hak : T.ak ≤ 16) (hto : r.to_ = T.n) (hrow : w.ownsRow 0 46 5 (.slice T.po T.pl T.pc) T.pl cs) : Calls Try.prog 29 #[.pointer (some ⟨t, 0, none⟩), .agg r.a] w fun e w' => e = .returned (.int .i64 0) ∧ Gk w w' t T r cs := by
  obtain ⟨i0, hi, hz0, hz1, hz2⟩ := info_of Try.infoResp
  have mixed : Try.prog.follows .mixedOrders = true := by kernel_rfl
  obtain ⟨W, HW⟩ : ∃ W, Hid (w.alloc (.cells r.a 46) = W) := ⟨_, rfl⟩
  have hA : Fr [] w W := by rw [← HW.out]; exact Fr.alloc [] w _
  have hB : W.heap[w.heap.size]? = some (.cells r.a 46 (0, 0)) := by rw [← HW.out]; exact heap_alloc_new w _
  have HK : Hid (∀ V, Fr [] W V → YtM V t T ∧ V.heap[w.heap.size]? = some (.cells r.a 46 (0, 0))) := fun V hf => ⟨h.keep (hA.then hf) (by simp), hf.keep hB (by simp)⟩
  have HG : Hid (∀ V, Fr [] W V → _) := fun V hf => Gk.of (V := V) (w2 := V) (r := r) h hrow (hA.then hf) (Nat.le_refl _) (hf.keep hB (by simp))
  have hk := h.keep hA (by simp)
  have c12 := hk.c12
  have c13 := hk.c13
  have hlt0 := hk.lt
  have HNe : Hid (t ≠ w.heap.size ∧ w.heap.size ≠ t) := by have := h.lt; exact ⟨by omega, by omega⟩
  clear h hk hA hB hrow
  obtain ⟨a, b, c, d, e, f, g, i, j⟩ := r
  obtain ⟨n, l, s, x, q, k, key, en, bg, ma, so, sl, sc, ro, rl, rc, ak, po, pl, pc⟩ := T
  simp only [Rp.a] at c12 c13 hlt hak HW HK HG hto ⊢
  subst hto
  have hg : decide ((ak : Int) ≤ (pl : Int)) = false := by simp; omega
  have hq2 : (a != a) = false := by simp
  go_enter Try.func29, Try.ntmps29
  go_upto_region 3 with fail
  rw [HW.out]
  clear HW
  go_quiet (fail)
  have HD : Hid (Fr [] W (W.drewN nq)) := Fr.drewN _ _ _
  obtain ⟨k1, k2⟩ := HK.out _ HD.out
  have k0 := k1.c0
  have k4 : (W.drewN nq).cell? ⟨w.heap.size, 0, none⟩ = some (.int .i64 a) := by rw [cell_of_row _ _ _ _ _ _ k2]; rfl
  simp only at k0
  clear c12 c13 k1 k2
  obtain ⟨W1, HW1⟩ : ∃ W1, Hid (W.drewN nq = W1) := ⟨_, rfl⟩
  rw [HW1.out] at k0 k4 HD ⊢
  clear HW1
  go_wp2_with fail
  go_quiet (fail)
  obtain ⟨W2, HW2⟩ : ∃ W2, Hid (W1.drewN nq = W2) := ⟨_, rfl⟩
  have HD2 : Hid (Fr [] W W2) := by show Fr _ _ _; rw [← HW2.out]; exact HD.out.then (Fr.drewN _ _ _)
  rw [HW2.out]
  clear HW2 k0 k4
  obtain ⟨k1, k2⟩ := HK.out _ HD2.out
  have k13 := k1.c13
  obtain ⟨e0, e1, e2, e3, e4⟩ := rp_cells k2
  simp only at k13
  obtain ⟨q1, q2, q3⟩ := HG.out W2 HD2.out
  have HQ1 : Hid ((W2.alloc (.cells #[.int .i64 a, .bool b, .slice c d e, .slice f g i, .int .i64 j] 46)).drew.ownsRow 0 46 5 (.slice po pl pc) pl cs) := owns_keepB q1 (Fr.drew [] _) (by simp)
  have HQ2 : Hid (∀ jj u, [Value.int .i64 a, .bool b, .slice c d e, .slice f g i, .int .i64 j][jj]? = some u → (W2.alloc (.cells #[.int .i64 a, .bool b, .slice c d e, .slice f g i, .int .i64 j] 46)).drew.cell? ((⟨W2.heap.size, 0, none⟩ : Addr).add jj) = some u) := fun jj u hu => q2 jj u hu
  have HQ3 : Hid (∀ po' pc' w3, w3.ownsRow 0 46 5 (.slice po' (pl + 1) pc') (pl + 1) (cs ++ [Value.int .i64 a, .bool b, .slice c d e, .slice f g i, .int .i64 j]) → ((Value.slice po' (pl + 1) pc').ownBlock = (Value.slice po pl pc).ownBlock ∨ (Value.slice po' (pl + 1) pc').ownBlock = some (W2.alloc (.cells #[.int .i64 a, .bool b, .slice c d e, .slice f g i, .int .i64 j] 46)).drew.heap.size) → Fr (Value.slice po pl pc).ownBlock.toList (W2.alloc (.cells #[.int .i64 a, .bool b, .slice c d e, .slice f g i, .int .i64 j] 46)).drew w3 → _) := fun po' pc' w3 g1 g2 g3 => q3 po' pc' w3 g1 g2 ((Fr.drew _ _).then g3)
  have ka : (W2.alloc (.cells #[.int .i64 a, .bool b, .slice c d e, .slice f g i, .int .i64 j] 46)).cell? ⟨t, 13, none⟩ = some (.slice po pl pc) := ((HK.out _ (HD2.out.then (Fr.alloc [] _ _))).1).c13
  clear k1 k2 q1 q2 q3 HG HK
  go_wp2_with fail
  go_region_law (first
    | (refine step_own _ (by rfl) _ _ 77 46 (by rfl) i0 (.agg #[.int .i64 0, .bool false, .slice none 0 0, .slice none 0 0, .int .i64 0]) 5 72 Try.undResps hi hz0 hz1 hz2 rfl (by decide) po pl pc cs (by rfl) HQ1.out ⟨W2.heap.size, 0, none⟩ 1 [.int .i64 a, .bool b, .slice c d e, .slice f g i, .int .i64 j] rfl (by rfl) HQ2.out (by intro u hu; simp at hu; rcases hu with rfl | rfl | rfl | rfl | rfl <;> rfl) (by omega) (by omega) ?_; intro po' pc' w3 g1 g2 g3; obtain ⟨⟨⟨j0, j1⟩, j2⟩, HR4⟩ := HQ3.out po' pc' w3 g1 g2 g3))
  all_goals
    clear HQ1 HQ2 HQ3 k13 ka e0 e1 e2 e3 e4 j2
    go_wp2
    go_ret
    exact ⟨rfl, HR4.out⟩
end Go.Proofs.Ytpdkdgmaofhlkaa
/- The document's task: Next. Conditions as named. -/
namespace Go.Proofs.Ytpdkdgmaofhlkaa
open Go.ChangeShapes Go.WideShapes Go.ChangeAt Go.RowKit Go.Lib
set_option linter.unusedVariables false
set_option linter.unusedSimpArgs false

set_option maxHeartbeats 4000000 in
set_option maxRecDepth 100000 in
theorem ynext_any {w : World} {t : Nat} {T : Yt} (h : YtM w t T) (hlt : T.ak < T.rl) (hrl : T.rl ≤ 16) (hsl : T.sl = T.rl) (x : Int) (r : Rv) (sb rb : Nat) (hso : T.so = some ⟨sb, 0, none⟩) (hro : T.ro = some ⟨rb, 0, none⟩) (hx : w.cell? ⟨sb, T.ak, none⟩ = some (.int .i64 x)) (hr : ∀ j u, r.cs[j]? = some u → w.cell? ⟨rb, T.ak * 9 + j, none⟩ = some u) :
    Calls Try.prog 32 #[.pointer (some ⟨t, 0, none⟩)] w fun e w' => e = .returned (.tuple #[.int .i64 x, Rv.v r, .bool true]) ∧ Fr [] w w' := by
  have mixed : Try.prog.follows .mixedOrders = true := by kernel_rfl
  obtain ⟨W, HW⟩ : ∃ W, Hid (w.alloc (.cells #[.int .u8 0, .int .i64 0, .int .i64 0, .string ⟨#[]⟩, .string ⟨#[]⟩, .bool false, .string ⟨#[]⟩, .string ⟨#[]⟩, .slice none 0 0] 55) = W) := ⟨_, rfl⟩
  have hA : Fr [] w W := by rw [← HW.out]; exact Fr.alloc [] w _
  have hB : W.heap[w.heap.size]? = some (.cells #[.int .u8 0, .int .i64 0, .int .i64 0, .string ⟨#[]⟩, .string ⟨#[]⟩, .bool false, .string ⟨#[]⟩, .string ⟨#[]⟩, .slice none 0 0] 55 (0, 0)) := by rw [← HW.out]; exact heap_alloc_new w _
  have hk := h.keep hA (by simp)
  have c10 := hk.c10
  have c11 := hk.c11
  have c12 := hk.c12
  rw [hso] at c10
  rw [hro] at c11
  have hbs : sb < w.heap.size := World.block_lt_of_cell? w ⟨sb, T.ak, none⟩ (by rw [hx])
  have hr0 := hr 0 _ rfl
  have hbr : rb < w.heap.size := World.block_lt_of_cell? w ⟨rb, T.ak * 9 + 0, none⟩ (by rw [hr0])
  have htl := h.lt
  have HS : Hid (∀ V, Fr [] W V → V.cell? ⟨t, 10, none⟩ = some (.slice (some ⟨sb, 0, none⟩) T.sl T.sc) ∧ V.cell? ⟨t, 11, none⟩ = some (.slice (some ⟨rb, 0, none⟩) T.rl T.rc) ∧ V.cell? ⟨t, 12, none⟩ = some (.int .i64 (T.ak : Int)) ∧ V.cell? ⟨sb, T.ak, none⟩ = some (.int .i64 x) ∧ (∀ j u, r.cs[j]? = some u → V.cell? ⟨rb, T.ak * 9 + j, none⟩ = some u) ∧ V.heap[w.heap.size]? = some (.cells #[.int .u8 0, .int .i64 0, .int .i64 0, .string ⟨#[]⟩, .string ⟨#[]⟩, .bool false, .string ⟨#[]⟩, .string ⟨#[]⟩, .slice none 0 0] 55 (0, 0))) := fun V hf => by
    have hk2 := hk.keep hf (by simp)
    have e10 := hk2.c10
    have e11 := hk2.c11
    rw [hso] at e10
    rw [hro] at e11
    exact ⟨e10, e11, hk2.c12, (World.cell?_of_block ((hA.then hf).block sb hbs (by simp))).trans hx, fun j u hu => (World.cell?_of_block ((hA.then hf).block rb hbr (by simp))).trans (hr j u hu), hf.keep hB (by simp)⟩
  have HB : Hid (∀ V, Fr [] W V → _) := fun V hf => req_fin (w := w) (W := V) r (hA.then hf) (hf.keep hB (by simp))
  have n1 : t ≠ w.heap.size := by omega
  have n2 : w.heap.size ≠ t := by omega
  have n3 : sb ≠ w.heap.size := by omega
  have n4 : w.heap.size ≠ sb := by omega
  have n5 : rb ≠ w.heap.size := by omega
  have n6 : w.heap.size ≠ rb := by omega
  clear h hk hA hB hx hr hr0 hso hro hbs hbr htl
  obtain ⟨n, l, s, xx, q, k, key, en, bg, ma, so, sl, sc, ro, rl, rc, ak, po, pl, pc⟩ := T
  obtain ⟨rk, rf, rn, rkey, ren, rbo, rbl, rbc⟩ := r
  simp only [Rv.cs] at c10 c11 c12 hlt hrl hsl HS HB ⊢
  subst hsl
  have hg : decide ((sl : Int) ≤ (ak : Int)) = false := by simp; omega
  have hl1 : (ak : Int) < (sl : Int) := by omega
  go_enter Try.func32, Try.ntmps32
  go_upto_region 1 with fail
  rw [HW.out]
  clear HW
  go_quiet (fail)
  obtain ⟨W1, HW1⟩ : ∃ W1, Hid (W.drewN nq = W1) := ⟨_, rfl⟩
  have HF1 : Hid (Fr [] W W1) := by show Fr _ _ _; rw [← HW1.out]; exact Fr.drewN _ _ _
  rw [HW1.out]
  clear HW1 c10 c11 c12
  go_upto_region 3 with fail
  obtain ⟨c10, c11, c12, cx, cr, hB1⟩ := HS.out W1 HF1.out
  have r0 := cr 0 _ rfl
  have r1 := cr 1 _ rfl
  have r2 := cr 2 _ rfl
  have r3 := cr 3 _ rfl
  have r4 := cr 4 _ rfl
  have r5 := cr 5 _ rfl
  have r6 := cr 6 _ rfl
  have r7 := cr 7 _ rfl
  have r8 := cr 8 _ rfl
  rw [Nat.add_zero] at r0
  obtain ⟨d0, d1, d2, d3, d4, d5, d6, d7, d8⟩ := rq_cells hB1
  obtain ⟨z0, z1, z2, z3, z4, z5, z6, z7, z8⟩ := rq_frozen hB1
  clear cr hB1 HS
  obtain ⟨b, hb⟩ : ∃ b, b = w.heap.size := ⟨_, rfl⟩
  rw [← hb] at d0 d1 d2 d3 d4 d5 d6 d7 d8 z0 z1 z2 z3 z4 z5 z6 z7 z8 n1 n2 n3 n4 n5 n6 ⊢
  have HBb : Hid (b = w.heap.size) := hb
  clear hb
  go_region
  all_goals
    obtain ⟨q1, q2, q3⟩ := HB.out W1 HF1.out
    rw [← HBb.out] at q1 q2
    have q1' := (Fr.drew [] _).keep q1 (by simp)
    have HQ : Hid (_ ∧ _) := And.intro q1' (q2.then (Fr.drew [] _))
    clear q1 q2 q3 q1' HB d0 d1 d2 d3 d4 d5 d6 d7 d8 z0 z1 z2 z3 z4 z5 z6 z7 z8 c10 c11 c12 cx r0 r1 r2 r3 r4 r5 r6 r7 r8
    go_wp2
    refine bodyPost_ret (results_tct17 rfl _ _ _ b _ rfl (load_req ⟨rk, rf, rn, rkey, ren, rbo, rbl, rbc⟩ HQ.out.1)) rfl ?_
    exact ⟨rfl, HQ.out.2⟩
end Go.Proofs.Ytpdkdgmaofhlkaa
/- Which calls may be, by the document. Conditions: texts of fewer than 2^63 bytes. -/
namespace Go.Proofs.Ytpdkdgmaofhlkaa
open Go.ChangeShapes Go.WideShapes Go.ChangeAt Go.RowKit Go.Lib
set_option linter.unusedVariables false
set_option linter.unusedSimpArgs false
set_option maxHeartbeats 4000000 in
set_option maxRecDepth 100000 in
theorem yccheck_any (k : Int) (key en : ByteArray) (w : World) (hk : 0 ≤ k ∧ k ≤ 255) : Calls Try.prog 8 #[.agg #[.int .u8 k, .string key, .string en]] w fun e w' => e = .returned (.int .i64 (ckE k key en)) ∧ Fr [] w w' := by
  have e0 := eNil17
  have hE1 := tl_beq17 key
  have hE2 := tl_beq17 en
  have HF : Hid (Fr [] w (w.alloc (.cells #[.int .u8 k, .string key, .string en] 24))) := Fr.alloc _ _ _
  by_cases h1 : k = 1
  · subst h1
    by_cases hA : okK key
    · by_cases hB : en.size = 0
      · have E : decide (okC 1 key en) = true := decide_eq_true (by unfold okC; simp [hA, hB])
        have E2 : ckE _ key en = 0 := if_pos (of_decide_eq_true E)
        rw [E2]
        clear E2
        have HK := fun w => (yokey_any key w)
        rw [decide_eq_true hA] at HK
        simp only [hB, decide_true] at hE2
        clear E
        by_cases hk0 : key.size = 0
        · simp only [hk0, decide_true] at hE1
          by_cases he0 : en.size = 0
          · try simp only [he0, decide_true] at hE2
            exfalso
            (try unfold okK at hA)
            omega
          · try simp only [he0, decide_false] at hE2
            exfalso
            (try unfold okK at hA)
            omega
        · simp only [hk0, decide_false] at hE1
          go_enter Try.func8, Try.ntmps8
          go_wp2_with (first | (refine (HK _).mono ?_; rintro e w1 ⟨rfl, rfl⟩))
          all_goals (go_ret; exact ⟨rfl, HF.out⟩)
      · have E : decide (okC 1 key en) = false := decide_eq_false (by unfold okC; simp [hB])
        have E2 : ckE _ key en = 1 := if_neg (of_decide_eq_false E)
        rw [E2]
        clear E2
        have HK := fun w => (yokey_any key w)
        rw [decide_eq_true hA] at HK
        simp only [hB, decide_false] at hE2
        clear E
        by_cases hk0 : key.size = 0
        · simp only [hk0, decide_true] at hE1
          by_cases he0 : en.size = 0
          · try simp only [he0, decide_true] at hE2
            exfalso
            (try unfold okK at hA)
            omega
          · try simp only [he0, decide_false] at hE2
            exfalso
            (try unfold okK at hA)
            omega
        · simp only [hk0, decide_false] at hE1
          go_enter Try.func8, Try.ntmps8
          go_wp2_with (first | (refine (HK _).mono ?_; rintro e w1 ⟨rfl, rfl⟩))
          all_goals (go_ret; exact ⟨rfl, HF.out⟩)
    · have E : decide (okC 1 key en) = false := decide_eq_false (by unfold okC; simp [hA])
      have E2 : ckE _ key en = 1 := if_neg (of_decide_eq_false E)
      rw [E2]
      clear E2
      have HK := fun w => (yokey_any key w)
      rw [decide_eq_false hA] at HK
      clear E
      by_cases hk0 : key.size = 0
      · simp only [hk0, decide_true] at hE1
        by_cases he0 : en.size = 0
        · try simp only [he0, decide_true] at hE2
          go_enter Try.func8, Try.ntmps8
          go_wp2_with (first | (refine (HK _).mono ?_; rintro e w1 ⟨rfl, rfl⟩))
          all_goals (go_ret; exact ⟨rfl, HF.out⟩)
        · try simp only [he0, decide_false] at hE2
          go_enter Try.func8, Try.ntmps8
          go_wp2_with (first | (refine (HK _).mono ?_; rintro e w1 ⟨rfl, rfl⟩))
          all_goals (go_ret; exact ⟨rfl, HF.out⟩)
      · simp only [hk0, decide_false] at hE1
        go_enter Try.func8, Try.ntmps8
        go_wp2_with (first | (refine (HK _).mono ?_; rintro e w1 ⟨rfl, rfl⟩))
        all_goals (go_ret; exact ⟨rfl, HF.out⟩)
  by_cases h2 : k = 2
  · subst h2
    by_cases hA : key.size ≤ 64
    · by_cases hB : en.size ≤ 64
      · have E : decide (okC 2 key en) = true := decide_eq_true (by unfold okC; simp [hA, hB])
        have E2 : ckE _ key en = 0 := if_pos (of_decide_eq_true E)
        rw [E2]
        clear E2
        have hAz : (key.size : Int) ≤ 64 := by omega
        have hBz : (en.size : Int) ≤ 64 := by omega
        clear E
        by_cases hk0 : key.size = 0
        · simp only [hk0, decide_true] at hE1
          by_cases he0 : en.size = 0
          · try simp only [he0, decide_true] at hE2
            go_enter Try.func8, Try.ntmps8
            go_wp2
            all_goals (go_ret; exact ⟨rfl, HF.out⟩)
          · try simp only [he0, decide_false] at hE2
            go_enter Try.func8, Try.ntmps8
            go_wp2
            all_goals (go_ret; exact ⟨rfl, HF.out⟩)
        · simp only [hk0, decide_false] at hE1
          go_enter Try.func8, Try.ntmps8
          go_wp2
          all_goals (go_ret; exact ⟨rfl, HF.out⟩)
      · have E : decide (okC 2 key en) = false := decide_eq_false (by unfold okC; simp [hB])
        have E2 : ckE _ key en = 1 := if_neg (of_decide_eq_false E)
        rw [E2]
        clear E2
        have hAz : (key.size : Int) ≤ 64 := by omega
        have hBz : ¬ (en.size : Int) ≤ 64 := by omega
        clear E
        by_cases hk0 : key.size = 0
        · simp only [hk0, decide_true] at hE1
          by_cases he0 : en.size = 0
          · try simp only [he0, decide_true] at hE2
            exfalso
            (try unfold okK at hA)
            omega
          · try simp only [he0, decide_false] at hE2
            go_enter Try.func8, Try.ntmps8
            go_wp2
            all_goals (go_ret; exact ⟨rfl, HF.out⟩)
        · simp only [hk0, decide_false] at hE1
          go_enter Try.func8, Try.ntmps8
          go_wp2
          all_goals (go_ret; exact ⟨rfl, HF.out⟩)
    · have E : decide (okC 2 key en) = false := decide_eq_false (by unfold okC; simp [hA])
      have E2 : ckE _ key en = 1 := if_neg (of_decide_eq_false E)
      rw [E2]
      clear E2
      have hAz : ¬ (key.size : Int) ≤ 64 := by omega
      clear E
      by_cases hk0 : key.size = 0
      · simp only [hk0, decide_true] at hE1
        by_cases he0 : en.size = 0
        · try simp only [he0, decide_true] at hE2
          exfalso
          (try unfold okK at hA)
          omega
        · try simp only [he0, decide_false] at hE2
          exfalso
          (try unfold okK at hA)
          omega
      · simp only [hk0, decide_false] at hE1
        go_enter Try.func8, Try.ntmps8
        go_wp2
        all_goals (go_ret; exact ⟨rfl, HF.out⟩)
  by_cases h3 : k = 3
  · subst h3
    by_cases hA : key.size = 0
    · by_cases hB : en.size = 0
      · have E : decide (okC 3 key en) = true := decide_eq_true (by unfold okC; simp [hA, hB])
        have E2 : ckE _ key en = 0 := if_pos (of_decide_eq_true E)
        rw [E2]
        clear E2
        simp only [hA, decide_true] at hE1
        simp only [hB, decide_true] at hE2
        clear E
        go_enter Try.func8, Try.ntmps8
        go_wp2
        all_goals (go_ret; exact ⟨rfl, HF.out⟩)
      · have E : decide (okC 3 key en) = false := decide_eq_false (by unfold okC; simp [hB])
        have E2 : ckE _ key en = 1 := if_neg (of_decide_eq_false E)
        rw [E2]
        clear E2
        simp only [hA, decide_true] at hE1
        simp only [hB, decide_false] at hE2
        clear E
        go_enter Try.func8, Try.ntmps8
        go_wp2
        all_goals (go_ret; exact ⟨rfl, HF.out⟩)
    · have E : decide (okC 3 key en) = false := decide_eq_false (by unfold okC; simp [hA])
      have E2 : ckE _ key en = 1 := if_neg (of_decide_eq_false E)
      rw [E2]
      clear E2
      simp only [hA, decide_false] at hE1
      clear E
      go_enter Try.func8, Try.ntmps8
      go_wp2
      all_goals (go_ret; exact ⟨rfl, HF.out⟩)
  by_cases h4 : k = 4
  · subst h4
    by_cases hA : key.size = 0
    · by_cases hB : en.size = 0
      · have E : decide (okC 4 key en) = true := decide_eq_true (by unfold okC; simp [hA, hB])
        have E2 : ckE _ key en = 0 := if_pos (of_decide_eq_true E)
        rw [E2]
        clear E2
        simp only [hA, decide_true] at hE1
        simp only [hB, decide_true] at hE2
        clear E
        go_enter Try.func8, Try.ntmps8
        go_wp2
        all_goals (go_ret; exact ⟨rfl, HF.out⟩)
      · have E : decide (okC 4 key en) = false := decide_eq_false (by unfold okC; simp [hB])
        have E2 : ckE _ key en = 1 := if_neg (of_decide_eq_false E)
        rw [E2]
        clear E2
        simp only [hA, decide_true] at hE1
        simp only [hB, decide_false] at hE2
        clear E
        go_enter Try.func8, Try.ntmps8
        go_wp2
        all_goals (go_ret; exact ⟨rfl, HF.out⟩)
    · have E : decide (okC 4 key en) = false := decide_eq_false (by unfold okC; simp [hA])
      have E2 : ckE _ key en = 1 := if_neg (of_decide_eq_false E)
      rw [E2]
      clear E2
      simp only [hA, decide_false] at hE1
      clear E
      go_enter Try.func8, Try.ntmps8
      go_wp2
      all_goals (go_ret; exact ⟨rfl, HF.out⟩)
  have E : decide (okC k key en) = false := decide_eq_false (by unfold okC; simp [h1, h2, h3, h4])
  have E2 : ckE _ key en = 1 := if_neg (of_decide_eq_false E)
  rw [E2]
  clear E2
  clear E
  by_cases hk0 : key.size = 0
  · simp only [hk0, decide_true] at hE1
    by_cases he0 : en.size = 0
    · simp only [he0, decide_true] at hE2
      go_enter Try.func8, Try.ntmps8
      go_wp2
      all_goals (go_ret; exact ⟨rfl, HF.out⟩)
    · simp only [he0, decide_false] at hE2
      go_enter Try.func8, Try.ntmps8
      go_wp2
      all_goals (go_ret; exact ⟨rfl, HF.out⟩)
  · simp only [hk0, decide_false] at hE1
    go_enter Try.func8, Try.ntmps8
    go_wp2
    all_goals (go_ret; exact ⟨rfl, HF.out⟩)
end Go.Proofs.Ytpdkdgmaofhlkaa
