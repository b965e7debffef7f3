/- Texts of this claim laid together, one behind the other: contracts and plain lemmas; conditions as each names them. -/
import Derived.Test.YtdcmjoildfofcaaGreatDoorGp33
/- The statement's own helper asked: Done, Waits, Last, Open; and any op. Conditions as each names them. -/
namespace Go.Proofs.YtdcmjoildfofcaaGreatDoor
open Go.ChangeShapes Go.WideShapes Go.ChangeAt Go.RowKit Go.Lib Go.Maps
set_option linter.unusedVariables false
set_option linter.unusedSimpArgs false

section
variable {w0 w1 w : World} {p q : Option Addr} {tb g z bk T n : Nat} {B RA KB : List Nat}
set_option maxHeartbeats 8000000 in
set_option maxRecDepth 100000 in
theorem asked_done (hA : Asks w0 w1 p q tb g z bk) (h : St w0 w1 w tb g z bk T n B RA KB) (hn : n < 1073741824) (hT : T < 2097150) (kd : Nat) (hkd : kd = 2) (x nn : Int) (wo : Option Addr) (M mc : Nat) (ws : List Wt) (key : ByteArray) (hop : OpA w0 x nn wo M ws key) :
    Calls Tryz.prog 7 #[.pointer p, .pointer q, .agg #[.int .u8 (kd : Int), .int .i64 x, .int .i64 nn, .slice wo M mc, .string key], .pointer (some ⟨bk, 0, none⟩)] w fun e w' => e = .returned (.bool true) ∧ AskT w0 w1 w' tb g z bk T n := by
  obtain ⟨wx, HWx⟩ : ∃ wx, Hid (w.alloc (.cells #[.int .u8 (kd : Int), .int .i64 x, .int .i64 nn, .slice wo M mc, .string key] 52) = wx) := ⟨_, rfl⟩
  have hFx : Fr [] w wx := by rw [← HWx.out]; exact Fr.alloc _ _ _
  have hbx : wx.heap[w.heap.size]? = some (.cells #[.int .u8 (kd : Int), .int .i64 x, .int .i64 nn, .slice wo M mc, .string key] 52 (0, 0)) := by rw [← HWx.out]; exact heap_alloc_new w _
  have hsx : w.heap.size < wx.heap.size := lt_of_block hbx
  have HBX : Hid (∀ (W : World) (S : List Nat), Fr S wx W → w.heap.size ∉ S → W.cell? ⟨w.heap.size, 0, none⟩ = some (.int .u8 (kd : Int)) ∧ W.cell? ⟨w.heap.size, 1, none⟩ = some (.int .i64 x) ∧ W.cell? ⟨w.heap.size, 2, none⟩ = some (.int .i64 nn) ∧ W.cell? ⟨w.heap.size, 3, none⟩ = some (.slice wo M mc) ∧ W.cell? ⟨w.heap.size, 4, none⟩ = some (.string key)) := fun W S hf hS => five_cells (hf.keep hbx hS)
  have HA : Hid (Asks w0 w1 p q tb g z bk) := hA
  have HO : Hid (OpA w0 x nn wo M ws key) := hop
  have HSx : Hid (St w0 w1 wx tb g z bk T n B RA KB) := h.quiet hFx
  have hlt := h.sn.lt
  have hklt := h.klt
  have HLt : Hid ((∀ j, j = z ∨ j ∈ B ∨ j ∈ RA → j < w.heap.size) ∧ (∀ j ∈ KB, j < w.heap.size)) := ⟨hlt, hklt⟩
  have HXn : Hid (w.heap.size ∉ B ++ RA) := fun hm => by have := hlt _ (Or.inr (by simpa using hm)); omega
  have HSz : Hid (w0.heap.size ≤ w.heap.size ∧ w.heap.size ≤ wx.heap.size) := ⟨h.sn.fr.size, by omega⟩
  have q1 : ((kd : Int) == 1) = false := by rw [beq_eq_false_iff_ne]; omega
  have q2 : ((kd : Int) == 2) = true := by rw [hkd]; rfl
  clear hA h hop hkd hbx hlt hklt hFx hsx
  go_enter Tryz.func7, Tryz.ntmps7
  go_upto_region 1 with fail
  rw [HWx.out]
  clear HWx
  obtain ⟨c0, c1, c2, c3, c4⟩ := HBX.out wx [] (Fr.refl _ _) (by simp)
  obtain ⟨zs, er, hzs, hdone⟩ := HA.out.done wx T n B RA KB HSx.out x HO.out.hx
  have HDn : Hid (Calls _ _ _ _ _) := hdone
  clear hdone
  go_wp2_with fail
  refine Calls.mono HDn.out ?_
  rintro e w4 ⟨so, N, c, rfl, hO4, hF4, hu⟩
  have HU : Hid (Calls _ _ _ _ _) := hu
  clear hu c0 c1 c2 c3 c4 HDn
  obtain ⟨c0, c1, c2, c3, c4⟩ := HBX.out w4 (B ++ RA) hF4 HXn.out
  have hNz := hO4.len
  have HNz : Hid (N = zs.length) := hNz
  have hN6 : N ≤ 65536 := by omega
  have HOb : Hid (∀ k, (Value.slice so N c).ownBlock = some k → wx.heap.size ≤ k ∧ k < w4.heap.size) := fun k hk => by
    obtain ⟨h1, cc, h2⟩ := hO4.blk hk
    exact ⟨h1, lt_of_block h2⟩
  have HO4 : Hid (∀ W, Fr (B ++ RA) w4 W → IOw wx.heap.size W so N c zs) := fun W hf => hO4.keepS hf (fun k hk hm => by
    have h1 := (HOb.out k hk).1
    have h2 := HLt.out.1 k (Or.inr (by simpa using hm))
    have := HSz.out
    omega)
  clear hO4 hF4 hNz
  go_wp2_with fail
  refine Calls.mono HU.out ?_
  rintro e w5 ⟨so2, N2, c5, rfl, hN2, hI5, hF5, B', RA', hS5, hnw⟩
  have HS5 : Hid (St w0 w1 w5 tb g z bk T n B' RA' KB) := hS5
  have HO5 : Hid (∀ W, Fr [] w5 W → IOw wx.heap.size W so N c zs) := fun W hf => (HO4.out w5 hF5).keep hf
  have HD : Hid (∀ k, (Value.slice so N c).ownBlock = some k → ¬ (k = z ∨ k ∈ B' ∨ k ∈ RA') ∧ k ∉ KB ∧ w0.heap.size ≤ k) := fun k hk => by
    have h1 := HOb.out k hk
    have hs := HSz.out
    refine ⟨?_, fun hm => by have := HLt.out.2 k hm; omega, by omega⟩
    rintro (e | e)
    · have := HLt.out.1 k (Or.inl e); omega
    · rcases hnw k e with e2 | e2
      · have := HLt.out.1 k (Or.inr e2); omega
      · omega
  obtain rfl : N2 = N := by have := HNz.out; omega
  have HSm : Hid (Calls _ _ _ _ _) := same11 so so2 N2 c c5 zs w5 (HO5.out _ (Fr.refl _ _)).is hI5 HNz.out (by omega)
  clear hS5 hF5 hI5 hnw HU c0 c1 c2 c3 c4 hN2
  go_wp2_with fail
  refine Calls.mono HSm.out ?_
  rintro e w6 ⟨rfl, hF6⟩
  have HTl : Hid (Calls _ _ _ _ _) := st_tellI (HS5.out.quiet hF6) (HO5.out _ hF6) hN6 HD.out hT
  clear hF6 HSm
  go_wp2_with fail
  refine Calls.mono HTl.out ?_
  rintro e w7 ⟨rfl, KB', hS7⟩
  have HS7 : Hid (AskT w0 w1 w7 tb g z bk T n) := ⟨T + 1, n, B', RA', KB', Nat.le_refl _, by omega, hS7⟩
  have q9 : (er == er) = true := by simp
  clear hS7 HTl
  go_wp2
  go_ret
  exact ⟨rfl, HS7.out⟩
set_option maxHeartbeats 8000000 in
set_option maxRecDepth 100000 in
theorem asked_waits (hA : Asks w0 w1 p q tb g z bk) (h : St w0 w1 w tb g z bk T n B RA KB) (hn : n < 1073741824) (hT : T < 2097150) (kd : Nat) (hkd : kd = 3) (x nn : Int) (wo : Option Addr) (M mc : Nat) (ws : List Wt) (key : ByteArray) (hop : OpA w0 x nn wo M ws key) :
    Calls Tryz.prog 7 #[.pointer p, .pointer q, .agg #[.int .u8 (kd : Int), .int .i64 x, .int .i64 nn, .slice wo M mc, .string key], .pointer (some ⟨bk, 0, none⟩)] w fun e w' => e = .returned (.bool true) ∧ AskT w0 w1 w' tb g z bk T n := by
  obtain ⟨wx, HWx⟩ : ∃ wx, Hid (w.alloc (.cells #[.int .u8 (kd : Int), .int .i64 x, .int .i64 nn, .slice wo M mc, .string key] 52) = wx) := ⟨_, rfl⟩
  have hFx : Fr [] w wx := by rw [← HWx.out]; exact Fr.alloc _ _ _
  have hbx : wx.heap[w.heap.size]? = some (.cells #[.int .u8 (kd : Int), .int .i64 x, .int .i64 nn, .slice wo M mc, .string key] 52 (0, 0)) := by rw [← HWx.out]; exact heap_alloc_new w _
  have hsx : w.heap.size < wx.heap.size := lt_of_block hbx
  have HBX : Hid (∀ (W : World) (S : List Nat), Fr S wx W → w.heap.size ∉ S → W.cell? ⟨w.heap.size, 0, none⟩ = some (.int .u8 (kd : Int)) ∧ W.cell? ⟨w.heap.size, 1, none⟩ = some (.int .i64 x) ∧ W.cell? ⟨w.heap.size, 2, none⟩ = some (.int .i64 nn) ∧ W.cell? ⟨w.heap.size, 3, none⟩ = some (.slice wo M mc) ∧ W.cell? ⟨w.heap.size, 4, none⟩ = some (.string key)) := fun W S hf hS => five_cells (hf.keep hbx hS)
  have HA : Hid (Asks w0 w1 p q tb g z bk) := hA
  have HO : Hid (OpA w0 x nn wo M ws key) := hop
  have HSx : Hid (St w0 w1 wx tb g z bk T n B RA KB) := h.quiet hFx
  have hlt := h.sn.lt
  have hklt := h.klt
  have HLt : Hid ((∀ j, j = z ∨ j ∈ B ∨ j ∈ RA → j < w.heap.size) ∧ (∀ j ∈ KB, j < w.heap.size)) := ⟨hlt, hklt⟩
  have HXn : Hid (w.heap.size ∉ B ++ RA) := fun hm => by have := hlt _ (Or.inr (by simpa using hm)); omega
  have HSz : Hid (w0.heap.size ≤ w.heap.size ∧ w.heap.size ≤ wx.heap.size) := ⟨h.sn.fr.size, by omega⟩
  have q1 : ((kd : Int) == 1) = false := by rw [beq_eq_false_iff_ne]; omega
  have q2 : ((kd : Int) == 2) = false := by rw [beq_eq_false_iff_ne]; omega
  have q3 : ((kd : Int) == 3) = true := by rw [hkd]; rfl
  clear hA h hop hkd hbx hlt hklt hFx hsx
  go_enter Tryz.func7, Tryz.ntmps7
  go_upto_region 1 with fail
  rw [HWx.out]
  clear HWx
  obtain ⟨c0, c1, c2, c3, c4⟩ := HBX.out wx [] (Fr.refl _ _) (by simp)
  obtain ⟨zs, er, hzs, hw1, hw2⟩ := HA.out.waits wx T n B RA KB HSx.out x HO.out.hx
  have HW1 : Hid (Calls _ _ _ _ _) := hw1
  have HW2 : Hid _ := hw2
  clear hw1 hw2
  go_wp2_with fail
  refine Calls.mono HW1.out ?_
  rintro e w4 ⟨so, N, c, rfl, hO4, hF4⟩
  clear c0 c1 c2 c3 c4 HW1
  obtain ⟨c0, c1, c2, c3, c4⟩ := HBX.out w4 [] hF4 (by simp)
  have hNz := hO4.len
  have HNz : Hid (N = zs.length) := hNz
  have hN6 : N ≤ 65536 := by omega
  have HOb : Hid (∀ k, (Value.slice so N c).ownBlock = some k → wx.heap.size ≤ k) := fun k hk => (hO4.blk hk).1
  have HO4 : Hid (∀ W, Fr [] w4 W → IOw wx.heap.size W so N c zs) := fun W hf => hO4.keep hf
  have HU : Hid (Calls _ _ _ _ _) := HW2.out w4 hF4
  have HS4 : Hid (St w0 w1 w4 tb g z bk T n B RA KB) := HSx.out.quiet hF4
  have HD : Hid (∀ k, (Value.slice so N c).ownBlock = some k → ¬ (k = z ∨ k ∈ B ∨ k ∈ RA) ∧ k ∉ KB ∧ w0.heap.size ≤ k) := fun k hk => by
    have h1 := HOb.out k hk
    have hs := HSz.out
    exact ⟨fun e => by have := HLt.out.1 k e; omega, fun hm => by have := HLt.out.2 k hm; omega, by omega⟩
  clear hO4 hF4 hNz HW2
  go_wp2_with fail
  refine Calls.mono HU.out ?_
  rintro e w5 ⟨so2, N2, c5, rfl, hN2, hI5, hF5⟩
  obtain rfl : N2 = N := by have := HNz.out; omega
  have HSm : Hid (Calls _ _ _ _ _) := same11 so so2 N2 c c5 zs w5 (HO4.out _ hF5).is hI5 HNz.out (by omega)
  have HF5 : Hid (Fr [] w4 w5) := hF5
  clear hF5 hI5 HU c0 c1 c2 c3 c4 hN2
  go_wp2_with fail
  refine Calls.mono HSm.out ?_
  rintro e w6 ⟨rfl, hF6⟩
  have hF6 := HF5.out.then hF6
  have HTl : Hid (Calls _ _ _ _ _) := st_tellI (HS4.out.quiet hF6) (HO4.out _ hF6) hN6 HD.out hT
  clear hF6 HSm
  go_wp2_with fail
  refine Calls.mono HTl.out ?_
  rintro e w7 ⟨rfl, KB', hS7⟩
  have HS7 : Hid (AskT w0 w1 w7 tb g z bk T n) := ⟨T + 1, n, B, RA, KB', Nat.le_refl _, by omega, hS7⟩
  have q9 : (er == er) = true := by simp
  clear hS7 HTl
  go_wp2
  go_ret
  exact ⟨rfl, HS7.out⟩
set_option maxHeartbeats 8000000 in
set_option maxRecDepth 100000 in
theorem asked_last (hA : Asks w0 w1 p q tb g z bk) (h : St w0 w1 w tb g z bk T n B RA KB) (hn : n < 1073741824) (hT : T < 2097150) (kd : Nat) (hkd : kd = 4) (x nn : Int) (wo : Option Addr) (M mc : Nat) (ws : List Wt) (key : ByteArray) (hop : OpA w0 x nn wo M ws key) :
    Calls Tryz.prog 7 #[.pointer p, .pointer q, .agg #[.int .u8 (kd : Int), .int .i64 x, .int .i64 nn, .slice wo M mc, .string key], .pointer (some ⟨bk, 0, none⟩)] w fun e w' => e = .returned (.bool true) ∧ AskT w0 w1 w' tb g z bk T n := by
  obtain ⟨wx, HWx⟩ : ∃ wx, Hid (w.alloc (.cells #[.int .u8 (kd : Int), .int .i64 x, .int .i64 nn, .slice wo M mc, .string key] 52) = wx) := ⟨_, rfl⟩
  have hFx : Fr [] w wx := by rw [← HWx.out]; exact Fr.alloc _ _ _
  have hbx : wx.heap[w.heap.size]? = some (.cells #[.int .u8 (kd : Int), .int .i64 x, .int .i64 nn, .slice wo M mc, .string key] 52 (0, 0)) := by rw [← HWx.out]; exact heap_alloc_new w _
  have hsx : w.heap.size < wx.heap.size := lt_of_block hbx
  have HBX : Hid (∀ (W : World) (S : List Nat), Fr S wx W → w.heap.size ∉ S → W.cell? ⟨w.heap.size, 0, none⟩ = some (.int .u8 (kd : Int)) ∧ W.cell? ⟨w.heap.size, 1, none⟩ = some (.int .i64 x) ∧ W.cell? ⟨w.heap.size, 2, none⟩ = some (.int .i64 nn) ∧ W.cell? ⟨w.heap.size, 3, none⟩ = some (.slice wo M mc) ∧ W.cell? ⟨w.heap.size, 4, none⟩ = some (.string key)) := fun W S hf hS => five_cells (hf.keep hbx hS)
  have HA : Hid (Asks w0 w1 p q tb g z bk) := hA
  have HO : Hid (OpA w0 x nn wo M ws key) := hop
  have HSx : Hid (St w0 w1 wx tb g z bk T n B RA KB) := h.quiet hFx
  have hlt := h.sn.lt
  have hklt := h.klt
  have HLt : Hid ((∀ j, j = z ∨ j ∈ B ∨ j ∈ RA → j < w.heap.size) ∧ (∀ j ∈ KB, j < w.heap.size)) := ⟨hlt, hklt⟩
  have HXn : Hid (w.heap.size ∉ B ++ RA) := fun hm => by have := hlt _ (Or.inr (by simpa using hm)); omega
  have HSz : Hid (w0.heap.size ≤ w.heap.size ∧ w.heap.size ≤ wx.heap.size) := ⟨h.sn.fr.size, by omega⟩
  have q1 : ((kd : Int) == 1) = false := by rw [beq_eq_false_iff_ne]; omega
  have q2 : ((kd : Int) == 2) = false := by rw [beq_eq_false_iff_ne]; omega
  have q3 : ((kd : Int) == 3) = false := by rw [beq_eq_false_iff_ne]; omega
  have q4 : ((kd : Int) == 4) = true := by rw [hkd]; rfl
  clear hA h hop hkd hbx hlt hklt hFx hsx
  go_enter Tryz.func7, Tryz.ntmps7
  go_upto_region 1 with fail
  rw [HWx.out]
  clear HWx
  obtain ⟨c0, c1, c2, c3, c4⟩ := HBX.out wx [] (Fr.refl _ _) (by simp)
  obtain ⟨v, hl1, hl2⟩ := HA.out.last wx T n B RA KB HSx.out key HO.out.hk
  have HL1 : Hid (∀ V, Fr [] wx V → Calls Tryz.prog 21 #[.pointer p, .string key] V fun e w' => e = .returned (.int .i64 v) ∧ Fr [] wx w' ∧ w'.cell? ⟨w.heap.size, 4, none⟩ = some (.string key)) := fun V hf => (hl1 V hf).mono (fun e w' h => ⟨h.1, hf.then h.2, (HBX.out w' [] (hf.then h.2) (by simp)).2.2.2.2⟩)
  have HL2 : Hid (∀ V, Fr [] wx V → Calls Tryz.prog 22 #[.pointer q, .string key] V fun e w' => e = .returned (.int .i64 v) ∧ Fr [] wx w' ∧ w'.cell? ⟨w.heap.size, 4, none⟩ = some (.string key)) := fun V hf => (hl2 V hf).mono (fun e w' h => ⟨h.1, hf.then h.2, (HBX.out w' [] (hf.then h.2) (by simp)).2.2.2.2⟩)
  have q9 : (v == v) = true := by simp
  have HFin : Hid (∀ W, Fr [] wx W → AskT w0 w1 W tb g z bk T n) := fun W hf => ⟨T, n, B, RA, KB, by omega, by omega, HSx.out.quiet hf⟩
  clear hl1 hl2
  go_upto_region 22 with fail
  go_region_held3 (fun W => W.cell? ⟨w.heap.size, 4, none⟩ = some (.string key)) (go_keep)
    (first
      | (go_at_call 21; with_reducible refine Calls.mono (HL1.out _ (Fr.drew _ _)) ?_; rintro e wA ⟨rfl, hfA, kA⟩)
      | (go_at_call 22; with_reducible refine Calls.mono (HL2.out _ (Fr.drew _ _)) ?_; rintro e wA ⟨rfl, hfA, kA⟩)
      | (go_at_call 21; with_reducible refine Calls.mono (HL1.out _ hfA) ?_; rintro e wC ⟨rfl, hfC, kC⟩)
      | (go_at_call 22; with_reducible refine Calls.mono (HL2.out _ hfA) ?_; rintro e wC ⟨rfl, hfC, kC⟩))
  all_goals (go_wp2; go_ret; exact ⟨rfl, HFin.out _ hfC⟩)
set_option maxHeartbeats 8000000 in
set_option maxRecDepth 100000 in
theorem asked_open (hA : Asks w0 w1 p q tb g z bk) (h : St w0 w1 w tb g z bk T n B RA KB) (hn : n < 1073741824) (hT : T < 2097150) (kd : Nat) (hkd : kd ≠ 1 ∧ kd ≠ 2 ∧ kd ≠ 3 ∧ kd ≠ 4) (x nn : Int) (wo : Option Addr) (M mc : Nat) (ws : List Wt) (key : ByteArray) (hop : OpA w0 x nn wo M ws key) :
    Calls Tryz.prog 7 #[.pointer p, .pointer q, .agg #[.int .u8 (kd : Int), .int .i64 x, .int .i64 nn, .slice wo M mc, .string key], .pointer (some ⟨bk, 0, none⟩)] w fun e w' => e = .returned (.bool true) ∧ AskT w0 w1 w' tb g z bk T n := by
  obtain ⟨wx, HWx⟩ : ∃ wx, Hid (w.alloc (.cells #[.int .u8 (kd : Int), .int .i64 x, .int .i64 nn, .slice wo M mc, .string key] 52) = wx) := ⟨_, rfl⟩
  have hFx : Fr [] w wx := by rw [← HWx.out]; exact Fr.alloc _ _ _
  have hbx : wx.heap[w.heap.size]? = some (.cells #[.int .u8 (kd : Int), .int .i64 x, .int .i64 nn, .slice wo M mc, .string key] 52 (0, 0)) := by rw [← HWx.out]; exact heap_alloc_new w _
  have hsx : w.heap.size < wx.heap.size := lt_of_block hbx
  have HBX : Hid (∀ (W : World) (S : List Nat), Fr S wx W → w.heap.size ∉ S → W.cell? ⟨w.heap.size, 0, none⟩ = some (.int .u8 (kd : Int)) ∧ W.cell? ⟨w.heap.size, 1, none⟩ = some (.int .i64 x) ∧ W.cell? ⟨w.heap.size, 2, none⟩ = some (.int .i64 nn) ∧ W.cell? ⟨w.heap.size, 3, none⟩ = some (.slice wo M mc) ∧ W.cell? ⟨w.heap.size, 4, none⟩ = some (.string key)) := fun W S hf hS => five_cells (hf.keep hbx hS)
  have HA : Hid (Asks w0 w1 p q tb g z bk) := hA
  have HO : Hid (OpA w0 x nn wo M ws key) := hop
  have HSx : Hid (St w0 w1 wx tb g z bk T n B RA KB) := h.quiet hFx
  have hlt := h.sn.lt
  have hklt := h.klt
  have HLt : Hid ((∀ j, j = z ∨ j ∈ B ∨ j ∈ RA → j < w.heap.size) ∧ (∀ j ∈ KB, j < w.heap.size)) := ⟨hlt, hklt⟩
  have HXn : Hid (w.heap.size ∉ B ++ RA) := fun hm => by have := hlt _ (Or.inr (by simpa using hm)); omega
  have HSz : Hid (w0.heap.size ≤ w.heap.size ∧ w.heap.size ≤ wx.heap.size) := ⟨h.sn.fr.size, by omega⟩
  have q1 : ((kd : Int) == 1) = false := by rw [beq_eq_false_iff_ne]; omega
  have q2 : ((kd : Int) == 2) = false := by rw [beq_eq_false_iff_ne]; omega
  have q3 : ((kd : Int) == 3) = false := by rw [beq_eq_false_iff_ne]; omega
  have q4 : ((kd : Int) == 4) = false := by rw [beq_eq_false_iff_ne]; omega
  clear hA h hop hkd hbx hlt hklt hFx hsx
  go_enter Tryz.func7, Tryz.ntmps7
  go_upto_region 1 with fail
  rw [HWx.out]
  clear HWx
  obtain ⟨c0, c1, c2, c3, c4⟩ := HBX.out wx [] (Fr.refl _ _) (by simp)
  obtain ⟨zs, hzs, hw1, hw2⟩ := HA.out.opens wx T n B RA KB HSx.out hn
  have HW1 : Hid (Calls _ _ _ _ _) := hw1
  have HW2 : Hid _ := hw2
  clear hw1 hw2
  go_wp2_with fail
  refine Calls.mono HW1.out ?_
  rintro e w4 ⟨so, N, c, rfl, hO4, hF4⟩
  clear c0 c1 c2 c3 c4 HW1
  obtain ⟨c0, c1, c2, c3, c4⟩ := HBX.out w4 [] hF4 (by simp)
  have hNz := hO4.len
  have HNz : Hid (N = zs.length) := hNz
  have hN6 : N ≤ 65536 := by omega
  have HOb : Hid (∀ k, (Value.slice so N c).ownBlock = some k → wx.heap.size ≤ k) := fun k hk => (hO4.blk hk).1
  have HO4 : Hid (∀ W, Fr [] w4 W → IOw wx.heap.size W so N c zs) := fun W hf => hO4.keep hf
  have HU : Hid (Calls _ _ _ _ _) := HW2.out w4 hF4
  have HS4 : Hid (St w0 w1 w4 tb g z bk T n B RA KB) := HSx.out.quiet hF4
  have HD : Hid (∀ k, (Value.slice so N c).ownBlock = some k → ¬ (k = z ∨ k ∈ B ∨ k ∈ RA) ∧ k ∉ KB ∧ w0.heap.size ≤ k) := fun k hk => by
    have h1 := HOb.out k hk
    have hs := HSz.out
    exact ⟨fun e => by have := HLt.out.1 k e; omega, fun hm => by have := HLt.out.2 k hm; omega, by omega⟩
  clear hO4 hF4 hNz HW2
  go_wp2_with fail
  refine Calls.mono HU.out ?_
  rintro e w5 ⟨so2, N2, c5, rfl, hN2, hI5, hF5⟩
  obtain rfl : N2 = N := by have := HNz.out; omega
  have HSm : Hid (Calls _ _ _ _ _) := same11 so so2 N2 c c5 zs w5 (HO4.out _ hF5).is hI5 HNz.out (by omega)
  have HF5 : Hid (Fr [] w4 w5) := hF5
  clear hF5 hI5 HU c0 c1 c2 c3 c4 hN2
  go_wp2_with fail
  refine Calls.mono HSm.out ?_
  rintro e w6 ⟨rfl, hF6⟩
  have hF6 := HF5.out.then hF6
  have HTl : Hid (Calls _ _ _ _ _) := st_tellI (HS4.out.quiet hF6) (HO4.out _ hF6) hN6 HD.out hT
  clear hF6 HSm
  go_wp2_with fail
  refine Calls.mono HTl.out ?_
  rintro e w7 ⟨rfl, KB', hS7⟩
  have HS7 : Hid (AskT w0 w1 w7 tb g z bk T n) := ⟨T + 1, n, B, RA, KB', Nat.le_refl _, by omega, hS7⟩
  clear hS7 HTl
  go_wp2
  go_ret
  exact ⟨rfl, HS7.out⟩
theorem asked_any (hA : Asks w0 w1 p q tb g z bk) (h : St w0 w1 w tb g z bk T n B RA KB) (hn : n < 1073741824) (hT : T < 2097150) (kd : Nat) (x nn : Int) (wo : Option Addr) (M mc : Nat) (ws : List Wt) (key : ByteArray) (hop : OpA w0 x nn wo M ws key) :
    Calls Tryz.prog 7 #[.pointer p, .pointer q, .agg #[.int .u8 (kd : Int), .int .i64 x, .int .i64 nn, .slice wo M mc, .string key], .pointer (some ⟨bk, 0, none⟩)] w fun e w' => e = .returned (.bool true) ∧ AskT w0 w1 w' tb g z bk T n := by
  by_cases h1 : kd = 1
  · exact asked_add hA h hn hT kd h1 x nn wo M mc ws key hop
  by_cases h2 : kd = 2
  · exact asked_done hA h hn hT kd h2 x nn wo M mc ws key hop
  by_cases h3 : kd = 3
  · exact asked_waits hA h hn hT kd h3 x nn wo M mc ws key hop
  by_cases h4 : kd = 4
  · exact asked_last hA h hn hT kd h4 x nn wo M mc ws key hop
  exact asked_open hA h hn hT kd ⟨h1, h2, h3, h4⟩ x nn wo M mc ws key hop
end
end Go.Proofs.YtdcmjoildfofcaaGreatDoor
