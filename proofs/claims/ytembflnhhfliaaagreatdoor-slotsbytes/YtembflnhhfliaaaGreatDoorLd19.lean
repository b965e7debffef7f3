/- A pair's doings at its disks: write, clear, cut, mend. Conditions: disks that are there; fewer than 2^40 raw writes. -/
import Derived.Test.YtembflnhhfliaaaGreatDoorLs19
namespace Go.Proofs.YtembflnhhfliaaaGreatDoor
open BigFrame Go.ChangeShapes Go.WideShapes Go.ChangeAt Go.RowKit Go.Lib Go.Maps
set_option linter.unusedVariables false
set_option linter.unusedSimpArgs false

/-- What is left behind a doing. -/
def DoP (w0 : World) (pb gd gr : Nat) (SD SR SS : List Nat) (t : Sk) (w : World) (e : Ending) (w' : World) : Prop := e = .returned (.bool true) ∧ ∃ SD' SR' t' vs' vt' SS', Ts w0 w' pb gd gr SD' SR' t' vs' vt' SS' ∧ t'.n ≤ t.n + 1 ∧ To (Ow pb SD SR SS) (Ow pb SD' SR' SS') w w'
set_option maxHeartbeats 4000000 in
set_option maxRecDepth 100000 in
theorem does_write {w0 w : World} {pb gd gr : Nat} {SD SR SS : List Nat} {t : Sk} {vs vt : Value} (h : Ts w0 w pb gd gr SD SR t vs vt SS) (hn : t.n < 2^40) (m slot at_ n : Int) (b1 h1 bo : Option Addr) (L1 c1 L2 c2 M cb : Nat) (ys : List Nat) (hat : at_ ≤ 9223372036854775807) (hB : BArg w0 bo M cb ys) :
    Calls Tryz.prog 8 #[.pointer (some ⟨pb, 0, none⟩), .agg #[.int .u8 3, .int .i64 m, .slice b1 L1 c1, .slice h1 L2 c2, .int .i64 slot, .int .i64 at_, .slice bo M cb, .int .i64 n]] w fun e w' => DoP w0 pb gd gr SD SR SS t w e w' := by
  obtain ⟨E, t', hc⟩ := Wrote.some t slot at_ ys
  have hn' := hc.n
  obtain ⟨w1, HW1⟩ : ∃ w1, Hid (w.alloc (.cells #[.int .u8 3, .int .i64 m, .slice b1 L1 c1, .slice h1 L2 c2, .int .i64 slot, .int .i64 at_, .slice bo M cb, .int .i64 n] 60) = w1) := ⟨_, rfl⟩
  have hF1 : Fr [] w w1 := by rw [← HW1.out]; exact Fr.alloc [] w _
  obtain ⟨ob, hob⟩ : ∃ ob, ob = w.heap.size := ⟨_, rfl⟩
  have hb1 : w1.heap[ob]? = some (.cells #[.int .u8 3, .int .i64 m, .slice b1 L1 c1, .slice h1 L2 c2, .int .i64 slot, .int .i64 at_, .slice bo M cb, .int .i64 n] 60 (0, 0)) := by rw [← HW1.out, hob]; exact heap_alloc_new w _
  have hFd : Fr [] w w1.drew := hF1.then (Fr.drew [] w1)
  have hbd : w1.drew.heap[ob]? = some (.cells #[.int .u8 3, .int .i64 m, .slice b1 L1 c1, .slice h1 L2 c2, .int .i64 slot, .int .i64 at_, .slice bo M cb, .int .i64 n] 60 (0, 0)) := (Fr.drew [] w1).keep hb1 (by simp)
  have hTd := h.quiet hFd
  have hoD : ob ∉ SD := fun hm => by have := h.pr.d.lt _ hm; omega
  have hoR : ob ∉ SR := fun hm => by have := h.pr.r.lt _ hm; omega
  have HC : Hid (Calls _ _ _ _ _) := two_any (t := t) (fD := 19) (fR := 20) (aD := #[.pointer (some ⟨gd, 0, none⟩), .int .i64 slot, .int .i64 at_, .slice bo M cb]) (aR := #[.pointer (some ⟨gr, 0, none⟩), .int .i64 slot, .int .i64 at_, .slice bo M cb]) (E := E) (t' := t') hTd hbd hoD hoR (ld_write hTd.pr.d hn hat (hB.keep hTd.pr.d.fr) (hTd.pr.d.apart hB) hc) (fun W hL _ => lr_write hL hn hat (hB.keep hL.fr) (hL.apart hB) hc)
  have HF : Hid (Fr [] w w1.drew ∧ t'.n ≤ t.n + 1) := ⟨hFd, hn'⟩
  have k0 : w1.cell? ⟨ob, 0, none⟩ = some (.int .u8 3) := by rw [cell_of_row _ _ _ _ _ _ hb1]; rfl
  have p0 : w1.drew.cell? ⟨pb, 0, none⟩ = some (.pointer (some ⟨gd, 0, none⟩)) := by rw [cell_of_row _ _ _ _ _ _ hTd.box]; rfl
  have p2 : w1.drew.cell? ⟨pb, 2, none⟩ = some (.pointer (some ⟨gr, 0, none⟩)) := by rw [cell_of_row _ _ _ _ _ _ hTd.box]; rfl
  have k4 : w1.drew.cell? ⟨ob, 4, none⟩ = some (.int .i64 slot) := by rw [cell_of_row _ _ _ _ _ _ hbd]; rfl
  have k5 : w1.drew.cell? ⟨ob, 5, none⟩ = some (.int .i64 at_) := by rw [cell_of_row _ _ _ _ _ _ hbd]; rfl
  have k6 : w1.drew.cell? ⟨ob, 6, none⟩ = some (.slice bo M cb) := by rw [cell_of_row _ _ _ _ _ _ hbd]; rfl
  clear h hn hb1 hbd hTd hF1 hFd hoD hoR hc hn' hB hat
  go_enter Tryz.func8, Tryz.ntmps8
  go_upto_region 1 with fail
  rw [HW1.out, ← hob]
  clear HW1 hob
  go_upto_region 13 with fail
  clear k0
  go_loud (go_region_held3 (fun W => W.cell? ⟨pb, 0, none⟩ = some (.pointer (some ⟨gd, 0, none⟩)) ∧ W.cell? ⟨pb, 2, none⟩ = some (.pointer (some ⟨gr, 0, none⟩)) ∧ W.cell? ⟨ob, 4, none⟩ = some (.int .i64 slot) ∧ W.cell? ⟨ob, 5, none⟩ = some (.int .i64 at_) ∧ W.cell? ⟨ob, 6, none⟩ = some (.slice bo M cb)) (go_keep)
    (first
    | (go_at_call 19; with_reducible refine HC.out.mono ?_; rintro e2 w2 ⟨rfl, q1, q2, HC2⟩; have l0 := q1 0 _ rfl; have l2 := q1 2 _ rfl; have l4 := q2 4 _ rfl; have l5 := q2 5 _ rfl; have l6 := q2 6 _ rfl;  clear q1 q2)
    | (go_at_call 20; with_reducible refine HC2.out.mono ?_; rintro e3 w3 ⟨rfl, q1, q2, HR3⟩; have m0 := q1 0 _ rfl; have m2 := q1 2 _ rfl; have m4 := q2 4 _ rfl; have m5 := q2 5 _ rfl; have m6 := q2 6 _ rfl;  clear q1 q2)))
  have HR : Hid (DoP w0 pb gd gr SD SR SS t w (.returned (.bool true)) w3) := by
    obtain ⟨SD', SR', a1, a2⟩ := HR3.out
    exact ⟨rfl, SD', SR', t', _, _, SS, a1, HF.out.2, (To.quiet HF.out.1).then a2⟩
  clear HR3 HC HC2
  go_wp2
  go_ret
  exact HR.out
set_option maxHeartbeats 4000000 in
set_option maxRecDepth 100000 in
theorem does_clear {w0 w : World} {pb gd gr : Nat} {SD SR SS : List Nat} {t : Sk} {vs vt : Value} (h : Ts w0 w pb gd gr SD SR t vs vt SS) (hn : t.n < 2^40) (m slot at_ n : Int) (b1 h1 bo : Option Addr) (L1 c1 L2 c2 M cb : Nat) :
    Calls Tryz.prog 8 #[.pointer (some ⟨pb, 0, none⟩), .agg #[.int .u8 4, .int .i64 m, .slice b1 L1 c1, .slice h1 L2 c2, .int .i64 slot, .int .i64 at_, .slice bo M cb, .int .i64 n]] w fun e w' => DoP w0 pb gd gr SD SR SS t w e w' := by
  obtain ⟨E, t', hc⟩ := Cleared.some t slot
  have hn' := hc.n
  obtain ⟨w1, HW1⟩ : ∃ w1, Hid (w.alloc (.cells #[.int .u8 4, .int .i64 m, .slice b1 L1 c1, .slice h1 L2 c2, .int .i64 slot, .int .i64 at_, .slice bo M cb, .int .i64 n] 60) = w1) := ⟨_, rfl⟩
  have hF1 : Fr [] w w1 := by rw [← HW1.out]; exact Fr.alloc [] w _
  obtain ⟨ob, hob⟩ : ∃ ob, ob = w.heap.size := ⟨_, rfl⟩
  have hb1 : w1.heap[ob]? = some (.cells #[.int .u8 4, .int .i64 m, .slice b1 L1 c1, .slice h1 L2 c2, .int .i64 slot, .int .i64 at_, .slice bo M cb, .int .i64 n] 60 (0, 0)) := by rw [← HW1.out, hob]; exact heap_alloc_new w _
  have hFd : Fr [] w w1.drew := hF1.then (Fr.drew [] w1)
  have hbd : w1.drew.heap[ob]? = some (.cells #[.int .u8 4, .int .i64 m, .slice b1 L1 c1, .slice h1 L2 c2, .int .i64 slot, .int .i64 at_, .slice bo M cb, .int .i64 n] 60 (0, 0)) := (Fr.drew [] w1).keep hb1 (by simp)
  have hTd := h.quiet hFd
  have hoD : ob ∉ SD := fun hm => by have := h.pr.d.lt _ hm; omega
  have hoR : ob ∉ SR := fun hm => by have := h.pr.r.lt _ hm; omega
  have HC : Hid (Calls _ _ _ _ _) := two_any (t := t) (fD := 21) (fR := 22) (aD := #[.pointer (some ⟨gd, 0, none⟩), .int .i64 slot]) (aR := #[.pointer (some ⟨gr, 0, none⟩), .int .i64 slot]) (E := E) (t' := t') hTd hbd hoD hoR (ld_clear hTd.pr.d hn hc) (fun W hL _ => lr_clear hL hn hc)
  have HF : Hid (Fr [] w w1.drew ∧ t'.n ≤ t.n + 1) := ⟨hFd, hn'⟩
  have k0 : w1.cell? ⟨ob, 0, none⟩ = some (.int .u8 4) := by rw [cell_of_row _ _ _ _ _ _ hb1]; rfl
  have p0 : w1.drew.cell? ⟨pb, 0, none⟩ = some (.pointer (some ⟨gd, 0, none⟩)) := by rw [cell_of_row _ _ _ _ _ _ hTd.box]; rfl
  have p2 : w1.drew.cell? ⟨pb, 2, none⟩ = some (.pointer (some ⟨gr, 0, none⟩)) := by rw [cell_of_row _ _ _ _ _ _ hTd.box]; rfl
  have k4 : w1.drew.cell? ⟨ob, 4, none⟩ = some (.int .i64 slot) := by rw [cell_of_row _ _ _ _ _ _ hbd]; rfl
  clear h hn hb1 hbd hTd hF1 hFd hoD hoR hc hn'
  go_enter Tryz.func8, Tryz.ntmps8
  go_upto_region 1 with fail
  rw [HW1.out, ← hob]
  clear HW1 hob
  go_upto_region 15 with fail
  clear k0
  go_loud (go_region_held3 (fun W => W.cell? ⟨pb, 0, none⟩ = some (.pointer (some ⟨gd, 0, none⟩)) ∧ W.cell? ⟨pb, 2, none⟩ = some (.pointer (some ⟨gr, 0, none⟩)) ∧ W.cell? ⟨ob, 4, none⟩ = some (.int .i64 slot)) (go_keep)
    (first
    | (go_at_call 21; with_reducible refine HC.out.mono ?_; rintro e2 w2 ⟨rfl, q1, q2, HC2⟩; have l0 := q1 0 _ rfl; have l2 := q1 2 _ rfl; have l4 := q2 4 _ rfl;  clear q1 q2)
    | (go_at_call 22; with_reducible refine HC2.out.mono ?_; rintro e3 w3 ⟨rfl, q1, q2, HR3⟩; have m0 := q1 0 _ rfl; have m2 := q1 2 _ rfl; have m4 := q2 4 _ rfl;  clear q1 q2)))
  have HR : Hid (DoP w0 pb gd gr SD SR SS t w (.returned (.bool true)) w3) := by
    obtain ⟨SD', SR', a1, a2⟩ := HR3.out
    exact ⟨rfl, SD', SR', t', _, _, SS, a1, HF.out.2, (To.quiet HF.out.1).then a2⟩
  clear HR3 HC HC2
  go_wp2
  go_ret
  exact HR.out
set_option maxHeartbeats 4000000 in
set_option maxRecDepth 100000 in
theorem does_cut {w0 w : World} {pb gd gr : Nat} {SD SR SS : List Nat} {t : Sk} {vs vt : Value} (h : Ts w0 w pb gd gr SD SR t vs vt SS) (hn : t.n < 2^40) (m slot at_ n : Int) (b1 h1 bo : Option Addr) (L1 c1 L2 c2 M cb : Nat) (hnn : n ≤ 9223372036854775807) :
    Calls Tryz.prog 8 #[.pointer (some ⟨pb, 0, none⟩), .agg #[.int .u8 5, .int .i64 m, .slice b1 L1 c1, .slice h1 L2 c2, .int .i64 slot, .int .i64 at_, .slice bo M cb, .int .i64 n]] w fun e w' => DoP w0 pb gd gr SD SR SS t w e w' := by
  obtain ⟨E, t', hc⟩ := CutTo.some t n
  have hn' := hc.n
  obtain ⟨w1, HW1⟩ : ∃ w1, Hid (w.alloc (.cells #[.int .u8 5, .int .i64 m, .slice b1 L1 c1, .slice h1 L2 c2, .int .i64 slot, .int .i64 at_, .slice bo M cb, .int .i64 n] 60) = w1) := ⟨_, rfl⟩
  have hF1 : Fr [] w w1 := by rw [← HW1.out]; exact Fr.alloc [] w _
  obtain ⟨ob, hob⟩ : ∃ ob, ob = w.heap.size := ⟨_, rfl⟩
  have hb1 : w1.heap[ob]? = some (.cells #[.int .u8 5, .int .i64 m, .slice b1 L1 c1, .slice h1 L2 c2, .int .i64 slot, .int .i64 at_, .slice bo M cb, .int .i64 n] 60 (0, 0)) := by rw [← HW1.out, hob]; exact heap_alloc_new w _
  have hFd : Fr [] w w1.drew := hF1.then (Fr.drew [] w1)
  have hbd : w1.drew.heap[ob]? = some (.cells #[.int .u8 5, .int .i64 m, .slice b1 L1 c1, .slice h1 L2 c2, .int .i64 slot, .int .i64 at_, .slice bo M cb, .int .i64 n] 60 (0, 0)) := (Fr.drew [] w1).keep hb1 (by simp)
  have hTd := h.quiet hFd
  have hoD : ob ∉ SD := fun hm => by have := h.pr.d.lt _ hm; omega
  have hoR : ob ∉ SR := fun hm => by have := h.pr.r.lt _ hm; omega
  have HC : Hid (Calls _ _ _ _ _) := two_any (t := t) (fD := 23) (fR := 24) (aD := #[.pointer (some ⟨gd, 0, none⟩), .int .i64 n]) (aR := #[.pointer (some ⟨gr, 0, none⟩), .int .i64 n]) (E := E) (t' := t') hTd hbd hoD hoR (ld_cutTo hTd.pr.d hnn hc) (fun W hL _ => lr_cut hL hnn hc)
  have HF : Hid (Fr [] w w1.drew ∧ t'.n ≤ t.n + 1) := ⟨hFd, hn'⟩
  have k0 : w1.cell? ⟨ob, 0, none⟩ = some (.int .u8 5) := by rw [cell_of_row _ _ _ _ _ _ hb1]; rfl
  have p0 : w1.drew.cell? ⟨pb, 0, none⟩ = some (.pointer (some ⟨gd, 0, none⟩)) := by rw [cell_of_row _ _ _ _ _ _ hTd.box]; rfl
  have p2 : w1.drew.cell? ⟨pb, 2, none⟩ = some (.pointer (some ⟨gr, 0, none⟩)) := by rw [cell_of_row _ _ _ _ _ _ hTd.box]; rfl
  have k7 : w1.drew.cell? ⟨ob, 7, none⟩ = some (.int .i64 n) := by rw [cell_of_row _ _ _ _ _ _ hbd]; rfl
  clear h hn hb1 hbd hTd hF1 hFd hoD hoR hc hn' hnn
  go_enter Tryz.func8, Tryz.ntmps8
  go_upto_region 1 with fail
  rw [HW1.out, ← hob]
  clear HW1 hob
  go_upto_region 17 with fail
  clear k0
  go_loud (go_region_held3 (fun W => W.cell? ⟨pb, 0, none⟩ = some (.pointer (some ⟨gd, 0, none⟩)) ∧ W.cell? ⟨pb, 2, none⟩ = some (.pointer (some ⟨gr, 0, none⟩)) ∧ W.cell? ⟨ob, 7, none⟩ = some (.int .i64 n)) (go_keep)
    (first
    | (go_at_call 23; with_reducible refine HC.out.mono ?_; rintro e2 w2 ⟨rfl, q1, q2, HC2⟩; have l0 := q1 0 _ rfl; have l2 := q1 2 _ rfl; have l7 := q2 7 _ rfl;  clear q1 q2)
    | (go_at_call 24; with_reducible refine HC2.out.mono ?_; rintro e3 w3 ⟨rfl, q1, q2, HR3⟩; have m0 := q1 0 _ rfl; have m2 := q1 2 _ rfl; have m7 := q2 7 _ rfl;  clear q1 q2)))
  have HR : Hid (DoP w0 pb gd gr SD SR SS t w (.returned (.bool true)) w3) := by
    obtain ⟨SD', SR', a1, a2⟩ := HR3.out
    exact ⟨rfl, SD', SR', t', _, _, SS, a1, HF.out.2, (To.quiet HF.out.1).then a2⟩
  clear HR3 HC HC2
  go_wp2
  go_ret
  exact HR.out
set_option maxHeartbeats 4000000 in
set_option maxRecDepth 100000 in
theorem does_mend {w0 w : World} {pb gd gr : Nat} {SD SR SS : List Nat} {t : Sk} {vs vt : Value} (h : Ts w0 w pb gd gr SD SR t vs vt SS) (hn : t.n < 2^40) (m slot at_ n : Int) (b1 h1 bo : Option Addr) (L1 c1 L2 c2 M cb : Nat) :
    Calls Tryz.prog 8 #[.pointer (some ⟨pb, 0, none⟩), .agg #[.int .u8 6, .int .i64 m, .slice b1 L1 c1, .slice h1 L2 c2, .int .i64 slot, .int .i64 at_, .slice bo M cb, .int .i64 n]] w fun e w' => DoP w0 pb gd gr SD SR SS t w e w' := by
  obtain ⟨E, t', hE, ht'⟩ : ∃ (E : Int) (t' : Sk), E = 0 ∧ t' = t.mend := ⟨0, t.mend, rfl, rfl⟩
  obtain ⟨w1, HW1⟩ : ∃ w1, Hid (w.alloc (.cells #[.int .u8 6, .int .i64 m, .slice b1 L1 c1, .slice h1 L2 c2, .int .i64 slot, .int .i64 at_, .slice bo M cb, .int .i64 n] 60) = w1) := ⟨_, rfl⟩
  have hF1 : Fr [] w w1 := by rw [← HW1.out]; exact Fr.alloc [] w _
  obtain ⟨ob, hob⟩ : ∃ ob, ob = w.heap.size := ⟨_, rfl⟩
  have hb1 : w1.heap[ob]? = some (.cells #[.int .u8 6, .int .i64 m, .slice b1 L1 c1, .slice h1 L2 c2, .int .i64 slot, .int .i64 at_, .slice bo M cb, .int .i64 n] 60 (0, 0)) := by rw [← HW1.out, hob]; exact heap_alloc_new w _
  have hFd : Fr [] w w1.drew := hF1.then (Fr.drew [] w1)
  have hbd : w1.drew.heap[ob]? = some (.cells #[.int .u8 6, .int .i64 m, .slice b1 L1 c1, .slice h1 L2 c2, .int .i64 slot, .int .i64 at_, .slice bo M cb, .int .i64 n] 60 (0, 0)) := (Fr.drew [] w1).keep hb1 (by simp)
  have hTd := h.quiet hFd
  have hoD : ob ∉ SD := fun hm => by have := h.pr.d.lt _ hm; omega
  have hoR : ob ∉ SR := fun hm => by have := h.pr.r.lt _ hm; omega
  have HC : Hid (Calls _ _ _ _ _) := two_any (t := t) (fD := 25) (fR := 26) (aD := #[.pointer (some ⟨gd, 0, none⟩)]) (aR := #[.pointer (some ⟨gr, 0, none⟩)]) (E := E) (t' := t') hTd hbd hoD hoR (by rw [hE, ht']; exact ld_mendTo hTd.pr.d) (fun W hL _ => by rw [hE, ht']; exact lr_mend hL)
  have HF : Hid (Fr [] w w1.drew ∧ t'.n ≤ t.n + 1) := ⟨hFd, by rw [ht']; simp [Sk.mend]⟩
  have k0 : w1.cell? ⟨ob, 0, none⟩ = some (.int .u8 6) := by rw [cell_of_row _ _ _ _ _ _ hb1]; rfl
  have p0 : w1.drew.cell? ⟨pb, 0, none⟩ = some (.pointer (some ⟨gd, 0, none⟩)) := by rw [cell_of_row _ _ _ _ _ _ hTd.box]; rfl
  have p2 : w1.drew.cell? ⟨pb, 2, none⟩ = some (.pointer (some ⟨gr, 0, none⟩)) := by rw [cell_of_row _ _ _ _ _ _ hTd.box]; rfl
  clear h hn hb1 hbd hTd hF1 hFd hoD hoR hE ht'
  go_enter Tryz.func8, Tryz.ntmps8
  go_upto_region 1 with fail
  rw [HW1.out, ← hob]
  clear HW1 hob
  go_upto_region 19 with fail
  clear k0
  go_loud (go_region_held3 (fun W => W.cell? ⟨pb, 0, none⟩ = some (.pointer (some ⟨gd, 0, none⟩)) ∧ W.cell? ⟨pb, 2, none⟩ = some (.pointer (some ⟨gr, 0, none⟩))) (go_keep)
    (first
    | (go_at_call 25; with_reducible refine HC.out.mono ?_; rintro e2 w2 ⟨rfl, q1, q2, HC2⟩; have l0 := q1 0 _ rfl; have l2 := q1 2 _ rfl;  clear q1 q2)
    | (go_at_call 26; with_reducible refine HC2.out.mono ?_; rintro e3 w3 ⟨rfl, q1, q2, HR3⟩; have m0 := q1 0 _ rfl; have m2 := q1 2 _ rfl;  clear q1 q2)))
  have HR : Hid (DoP w0 pb gd gr SD SR SS t w (.returned (.bool true)) w3) := by
    obtain ⟨SD', SR', a1, a2⟩ := HR3.out
    exact ⟨rfl, SD', SR', t', _, _, SS, a1, HF.out.2, (To.quiet HF.out.1).then a2⟩
  clear HR3 HC HC2
  go_wp2
  go_ret
  exact HR.out
end Go.Proofs.YtembflnhhfliaaaGreatDoor
