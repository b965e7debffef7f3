/- Texts of this claim laid together, one behind the other: contracts and plain lemmas; conditions as each names them. -/
import Derived.Test.YtkplammapbiebaaGreatDoorGp27
import Derived.Test.YtkplammapbiebaaGreatDoorGp37
import Derived.Deep.RegionHeld3
/- What the statement's own asked answers of both shards, there or not: true. Conditions as each names them. -/
namespace Go.Proofs.YtkplammapbiebaaGreatDoor
open BigFrame Go.ChangeShapes Go.WideShapes Go.ChangeAt Go.RowKit Go.Lib Go.Maps
set_option linter.unusedVariables false
set_option linter.unusedSimpArgs false

/-- What an op is asked with can be read. -/
structure OpB (w : World) (x : Int) (wk wv : ByteArray) (wd : Bool) (key en : ByteArray) (bo : Option Addr) (M : Nat) (ns : List Int) : Prop where
  e : PEach ⟨x, wk, wv, wd⟩
  k : key.size ≤ 140737488355328
  en : en.size ≤ 140737488355328
  is : IRs w bo ns
  m : M = ns.length
  few : M < 2097152
theorem OpB.keep {w w' : World} {x : Int} {wk wv : ByteArray} {wd : Bool} {key en : ByteArray} {bo : Option Addr} {M : Nat} {ns : List Int} (h : OpB w x wk wv wd key en bo M ns) (hf : Fr [] w w') : OpB w' x wk wv wd key en bo M ns := ⟨h.e, h.k, h.en, h.is.keep hf, h.m, h.few⟩
section
variable {w0 w : World} {n : Nat} {Own : Nat → Prop} {s r : Option Addr}
theorem Pr9.mono {m : Nat} (h : Pr9 w0 w s r n Own) (hm : n ≤ m) : Pr9 w0 w s r m Own := by
  rcases h with ⟨sb, b, g, N, lc, lo, hs, e1, e2, h⟩ | h
  · exact Or.inl ⟨sb, b, g, N, lc, lo, hs, e1, e2, ⟨h.sh.mono hm, h.ks, Nat.le_trans h.le hm, h.ap, h.own, h.nw⟩⟩
  · exact Or.inr h
theorem Nx9.from {wx W : World} {m : Nat} (h : Nx9 w0 wx W s r n Own) (hf : Fr [] w wx) (hm : n ≤ m) : Nx9 w0 w W s r m Own := by
  obtain ⟨Own', h1, h2, h3⟩ := h
  refine ⟨Own', h1.mono hm, (FrM.of hf).trans h2 (fun j hj => Or.inl hj), fun j hj => ?_⟩
  rcases h3 j hj with e | e
  · exact Or.inl e
  · exact Or.inr (Nat.le_trans hf.size e)
theorem Pr9.nx {W : World} (h : Pr9 w0 w s r n Own) (hf : Fr [] w W) : Nx9 w0 w W s r n Own := ⟨Own, h.quiet hf, FrM.of hf, fun j hj => Or.inl hj⟩
theorem eight_cells {w : World} {k : Nat} {a b c d e f g h : Value} {t : TypeId} (hb : w.heap[k]? = some (.cells #[a, b, c, d, e, f, g, h] t (0, 0))) : w.cell? ⟨k, 0, none⟩ = some a ∧ w.cell? ⟨k, 1, none⟩ = some b ∧ w.cell? ⟨k, 2, none⟩ = some c ∧ w.cell? ⟨k, 3, none⟩ = some d ∧ w.cell? ⟨k, 4, none⟩ = some e ∧ w.cell? ⟨k, 5, none⟩ = some f ∧ w.cell? ⟨k, 6, none⟩ = some g ∧ w.cell? ⟨k, 7, none⟩ = some h := by
  refine ⟨?_, ?_, ?_, ?_, ?_, ?_, ?_, ?_⟩ <;> (rw [cell_of_row _ _ _ _ _ _ hb]; rfl)
theorem twinIs_rs {w : World} {t : Nat} {ns : List Int} (h : w.heap[t]? = some (.cells (intsC (ns ++ [7777])).toArray 3 (0, 0))) (hf : ns.length ≤ 17592186044416) : IRs w (some ⟨t, 0, none⟩) ns := by
  refine ⟨fun _ => ⟨t, 0, rfl, lt_of_block h, fun i hi => ?_⟩, hf⟩
  rw [cell_of_row _ _ _ _ _ _ h, Nat.zero_add]
  have := intsC_get (ns ++ [7777]) i (by simp; omega)
  simpa [List.getD, List.getElem?_append_left hi] using this
theorem EOut.ers {w w' : World} {ro : Option Addr} {N rc : Nat} {ps : List Pr} (h : EOut w w' ro N rc ps) (hN : N < 1099511627776) : ERs w' ro ps := ers_of h.row h.len (by rw [← h.len]; exact hN)
set_option maxHeartbeats 8000000 in
set_option maxRecDepth 100000 in
theorem asked9_1 (h : Pr9 w0 w s r n Own) (hn : n < 1073740000) (kd : Nat) (hkd : kd = 1) (x : Int) (wk wv : ByteArray) (wd : Bool) (key en : ByteArray) (bo : Option Addr) (M cb : Nat) (ns : List Int) (hop : OpB w x wk wv wd key en bo M ns) :
    Calls Tryz.prog 13 #[.pointer s, .pointer r, .agg #[.int .u8 (kd : Int), .int .i64 x, .string wk, .string wv, .bool wd, .string key, .string en, .slice bo M cb]] w fun e w' => e = .returned (.bool true) ∧ Nx9 w0 w w' s r (n + 1) Own := by
  obtain ⟨wx, HWx⟩ : ∃ wx, Hid (w.alloc (.cells #[.int .u8 (kd : Int), .int .i64 x, .string wk, .string wv, .bool wd, .string key, .string en, .slice bo M cb] 61) = wx) := ⟨_, rfl⟩
  have hFx : Fr [] w wx := by rw [← HWx.out]; exact Fr.alloc _ _ _
  have hbx : wx.heap[w.heap.size]? = some (.cells #[.int .u8 (kd : Int), .int .i64 x, .string wk, .string wv, .bool wd, .string key, .string en, .slice bo M cb] 61 (0, 0)) := by rw [← HWx.out]; exact heap_alloc_new w _
  obtain ⟨bx, Hbx⟩ : ∃ bx, Hid (bx = w.heap.size) := ⟨_, rfl⟩
  have HBX : Hid (∀ W, FrM wx W Own → _) := fun W hm => by
    obtain ⟨T, hT, hT2⟩ := hm.to
    exact eight_cells (hT.keep hbx (fun hh => by have := h.lt _ (hT2 _ hh); omega))
  rw [← Hbx.out] at HBX
  have HFx : Hid (Fr [] w wx) := hFx
  have HP : Hid (Pr9 w0 wx s r n Own) := h.quiet hFx
  have HO : Hid (OpB wx x wk wv wd key en bo M ns) := hop.keep hFx
  have HQ : Hid (∀ W, Fr [] wx W → Nx9 w0 w W s r (n + 1) Own) := fun W hf => (HP.out.nx hf).from hFx (by omega)
  have q1 : ((kd : Int) == 1) = true := by rw [beq_iff_eq]; omega
  have HI : Hid (Calls _ _ _ _ _) := pr_install HP.out (by omega) x wk wv wd hop.e
  clear h hop hFx hbx hkd
  go_enter Tryz.func13, Tryz.ntmps13
  go_upto_region 1 with fail
  rw [HWx.out, ← Hbx.out]
  clear HWx Hbx
  obtain ⟨c0, c1, c2, c3, c4, c5, c6, c7⟩ := HBX.out wx (FrM.of (Fr.refl _ _))
  go_wp2_with fail
  refine Calls.mono HI.out ?_
  rintro e w1 ⟨ok, c, rfl, hM1, hk⟩
  have HK : Hid (Calls _ _ _ _ _) := hk
  clear hk HI c0 c1 c2 c3 c4 c5 c6 c7
  obtain ⟨c0, c1, c2, c3, c4, c5, c6, c7⟩ := HBX.out w1 hM1
  clear hM1
  go_wp2_with fail
  refine Calls.mono HK.out ?_
  rintro e w2 ⟨rfl, hN⟩
  have HN : Hid (Nx9 w0 w w2 s r (n + 1) Own) := hN.from HFx.out (Nat.le_refl _)
  have r1 : (ok == ok) = true := by simp
  have r2 : (c == c) = true := by simp
  clear hN HK c0 c1 c2 c3 c4 c5 c6 c7
  go_wp2
  go_ret
  exact ⟨by simp, HN.out⟩
set_option maxHeartbeats 8000000 in
set_option maxRecDepth 100000 in
theorem asked9_2 (h : Pr9 w0 w s r n Own) (hn : n < 1073740000) (kd : Nat) (hkd : kd = 2) (x : Int) (wk wv : ByteArray) (wd : Bool) (key en : ByteArray) (bo : Option Addr) (M cb : Nat) (ns : List Int) (hop : OpB w x wk wv wd key en bo M ns) :
    Calls Tryz.prog 13 #[.pointer s, .pointer r, .agg #[.int .u8 (kd : Int), .int .i64 x, .string wk, .string wv, .bool wd, .string key, .string en, .slice bo M cb]] w fun e w' => e = .returned (.bool true) ∧ Nx9 w0 w w' s r (n + 1) Own := by
  obtain ⟨wx, HWx⟩ : ∃ wx, Hid (w.alloc (.cells #[.int .u8 (kd : Int), .int .i64 x, .string wk, .string wv, .bool wd, .string key, .string en, .slice bo M cb] 61) = wx) := ⟨_, rfl⟩
  have hFx : Fr [] w wx := by rw [← HWx.out]; exact Fr.alloc _ _ _
  have hbx : wx.heap[w.heap.size]? = some (.cells #[.int .u8 (kd : Int), .int .i64 x, .string wk, .string wv, .bool wd, .string key, .string en, .slice bo M cb] 61 (0, 0)) := by rw [← HWx.out]; exact heap_alloc_new w _
  obtain ⟨bx, Hbx⟩ : ∃ bx, Hid (bx = w.heap.size) := ⟨_, rfl⟩
  have HBX : Hid (∀ W, FrM wx W Own → _) := fun W hm => by
    obtain ⟨T, hT, hT2⟩ := hm.to
    exact eight_cells (hT.keep hbx (fun hh => by have := h.lt _ (hT2 _ hh); omega))
  rw [← Hbx.out] at HBX
  have HFx : Hid (Fr [] w wx) := hFx
  have HP : Hid (Pr9 w0 wx s r n Own) := h.quiet hFx
  have HO : Hid (OpB wx x wk wv wd key en bo M ns) := hop.keep hFx
  have HQ : Hid (∀ W, Fr [] wx W → Nx9 w0 w W s r (n + 1) Own) := fun W hf => (HP.out.nx hf).from hFx (by omega)
  have q1 : ((kd : Int) == 1) = false := by rw [beq_eq_false_iff_ne]; omega
  have q2 : ((kd : Int) == 2) = true := by rw [beq_iff_eq]; omega
  clear h hop hFx hbx hkd
  go_enter Tryz.func13, Tryz.ntmps13
  go_upto_region 1 with fail
  rw [HWx.out, ← Hbx.out]
  clear HWx Hbx
  obtain ⟨c0, c1, c2, c3, c4, c5, c6, c7⟩ := HBX.out wx (FrM.of (Fr.refl _ _))
  obtain ⟨q, o, hg1, hg2⟩ := pr_get HP.out key x HO.out.k
  have HG1 : Hid (Calls _ _ _ _ _) := hg1
  have HG2 : Hid (∀ V, Fr [] wx V → Calls Tryz.prog 69 #[.pointer r, .string key, .int .i64 x] V fun e w' => e = .returned (.tuple #[.string q, .bool o]) ∧ Fr [] V w') := hg2
  clear hg1 hg2
  go_wp2_with fail
  refine Calls.mono HG1.out ?_
  rintro e w1 ⟨rfl, hF1⟩
  have HF1 : Hid (Fr [] wx w1) := hF1
  clear hF1 HG1 c0 c1 c2 c3 c4 c5 c6 c7
  obtain ⟨c0, c1, c2, c3, c4, c5, c6, c7⟩ := HBX.out w1 (FrM.of HF1.out)
  go_wp2_with fail
  refine Calls.mono (HG2.out _ HF1.out) ?_
  rintro e w2 ⟨rfl, hF2⟩
  have HN : Hid (Nx9 w0 w w2 s r (n + 1) Own) := HQ.out _ (HF1.out.then hF2)
  clear hF2 HG2 c0 c1 c2 c3 c4 c5 c6 c7
  go_wp2
  go_ret
  exact ⟨by simp, HN.out⟩
set_option maxHeartbeats 8000000 in
set_option maxRecDepth 100000 in
theorem asked9_3 (h : Pr9 w0 w s r n Own) (hn : n < 1073740000) (kd : Nat) (hkd : kd = 3) (x : Int) (wk wv : ByteArray) (wd : Bool) (key en : ByteArray) (bo : Option Addr) (M cb : Nat) (ns : List Int) (hop : OpB w x wk wv wd key en bo M ns) :
    Calls Tryz.prog 13 #[.pointer s, .pointer r, .agg #[.int .u8 (kd : Int), .int .i64 x, .string wk, .string wv, .bool wd, .string key, .string en, .slice bo M cb]] w fun e w' => e = .returned (.bool true) ∧ Nx9 w0 w w' s r (n + 1) Own := by
  obtain ⟨wx, HWx⟩ : ∃ wx, Hid (w.alloc (.cells #[.int .u8 (kd : Int), .int .i64 x, .string wk, .string wv, .bool wd, .string key, .string en, .slice bo M cb] 61) = wx) := ⟨_, rfl⟩
  have hFx : Fr [] w wx := by rw [← HWx.out]; exact Fr.alloc _ _ _
  have hbx : wx.heap[w.heap.size]? = some (.cells #[.int .u8 (kd : Int), .int .i64 x, .string wk, .string wv, .bool wd, .string key, .string en, .slice bo M cb] 61 (0, 0)) := by rw [← HWx.out]; exact heap_alloc_new w _
  obtain ⟨bx, Hbx⟩ : ∃ bx, Hid (bx = w.heap.size) := ⟨_, rfl⟩
  have HBX : Hid (∀ W, FrM wx W Own → _) := fun W hm => by
    obtain ⟨T, hT, hT2⟩ := hm.to
    exact eight_cells (hT.keep hbx (fun hh => by have := h.lt _ (hT2 _ hh); omega))
  rw [← Hbx.out] at HBX
  have HFx : Hid (Fr [] w wx) := hFx
  have HP : Hid (Pr9 w0 wx s r n Own) := h.quiet hFx
  have HO : Hid (OpB wx x wk wv wd key en bo M ns) := hop.keep hFx
  have HQ : Hid (∀ W, Fr [] wx W → Nx9 w0 w W s r (n + 1) Own) := fun W hf => (HP.out.nx hf).from hFx (by omega)
  have q1 : ((kd : Int) == 1) = false := by rw [beq_eq_false_iff_ne]; omega
  have q2 : ((kd : Int) == 2) = false := by rw [beq_eq_false_iff_ne]; omega
  have q3 : ((kd : Int) == 3) = true := by rw [beq_iff_eq]; omega
  clear h hop hFx hbx hkd
  go_enter Tryz.func13, Tryz.ntmps13
  go_upto_region 1 with fail
  rw [HWx.out, ← Hbx.out]
  clear HWx Hbx
  obtain ⟨c0, c1, c2, c3, c4, c5, c6, c7⟩ := HBX.out wx (FrM.of (Fr.refl _ _))
  obtain ⟨ps, hpl, hs1, hs2⟩ := pr_scan HP.out (by omega) key en x
  have HS : Hid (∀ V, Fr [] wx V → V.cell? ⟨bx, 1, none⟩ = some (.int .i64 x) ∧ V.cell? ⟨bx, 5, none⟩ = some (.string key) ∧ V.cell? ⟨bx, 6, none⟩ = some (.string en)) := fun V hf => by obtain ⟨_, a1, _, _, _, a5, a6, _⟩ := HBX.out V (FrM.of hf); exact ⟨a1, a5, a6⟩
  have P1 : Hid (∀ V, Fr [] wx V → Calls Tryz.prog 19 #[.pointer s, .string key, .string en, .int .i64 x] V fun e w' => ∃ ro N rc, e = .returned (.slice ro N rc) ∧ Hid (N = ps.length) ∧ ERs w' ro ps ∧ Fr [] wx w') := fun V hf => (hs1 V hf).mono fun e w' ⟨ro, N, rc, e1, h1, h2⟩ => ⟨ro, N, rc, e1, h1.len, h1.ers (by have := h1.len; omega), hf.then h2⟩
  have P2 : Hid (∀ V, Fr [] wx V → Calls Tryz.prog 71 #[.pointer r, .string key, .string en, .int .i64 x] V fun e w' => ∃ ro N rc, e = .returned (.slice ro N rc) ∧ Hid (N = ps.length) ∧ ERs w' ro ps ∧ Fr [] wx w' ∧ Fr [] V w') := fun V hf => (hs2 V hf).mono fun e w' ⟨ro, N, rc, e1, h1, h2⟩ => ⟨ro, N, rc, e1, h1.len, h1.ers (by have := h1.len; omega), hf.then h2, h2⟩
  have P3 : Hid (∀ V a N c b N' c', Hid (N = ps.length) → Hid (N' = ps.length) → ERs V a ps → ERs V b ps → Fr [] wx V → Calls Tryz.prog 70 #[.slice a N c, .slice b N' c'] V fun e w' => e = .returned (.bool true) ∧ Fr [] wx w') := fun V a N c b N' c' hN hN' h1 h2 hf => by
    obtain rfl : N = N' := hN.out.trans hN'.out.symm
    exact (sameEntries_any a b N c c' ps V h1 h2 hN.out).mono fun e w' h => ⟨h.1, hf.then h.2⟩
  clear hs1 hs2 hpl
  obtain ⟨d1, d5, d6⟩ := HS.out wx (Fr.refl _ _)
  clear c1 c2 c3 c4 c5 c6 c7
  go_wp2_with fail
  go_region_held3 (fun V => V.cell? ⟨bx, 1, none⟩ = some (.int .i64 x) ∧ V.cell? ⟨bx, 5, none⟩ = some (.string key) ∧ V.cell? ⟨bx, 6, none⟩ = some (.string en)) (go_keep)
    (first
      | (go_at_call 70; with_reducible refine Calls.mono (P3.out _ _ _ _ _ _ _ k1 m1 k3 m2 m3) ?_; rintro e w5 ⟨rfl, hF5⟩; obtain ⟨e1, e5, e6⟩ := HS.out w5 hF5)
      | (go_at_call 71; with_reducible refine Calls.mono (P2.out _ k4) ?_; rintro e w3 ⟨lo3, n3, c3, rfl, m1, m2, m3, m4⟩; have k3 := k2.keep m4; obtain ⟨e1, e5, e6⟩ := HS.out w3 m3)
      | (go_at_call 19; with_reducible refine Calls.mono (P1.out _ (Fr.drew _ _)) ?_; rintro e w2 ⟨lo2, n2, c2, rfl, k1, k2, k4⟩; obtain ⟨e1, e5, e6⟩ := HS.out w2 k4))
  all_goals (
    have HN : Hid (Nx9 w0 w w5 s r (n + 1) Own) := HQ.out _ hF5
    go_wp2
    go_ret
    exact ⟨rfl, HN.out⟩)
set_option maxHeartbeats 8000000 in
set_option maxRecDepth 100000 in
theorem asked9_4 (h : Pr9 w0 w s r n Own) (hn : n < 1073740000) (kd : Nat) (hkd : kd = 4) (x : Int) (wk wv : ByteArray) (wd : Bool) (key en : ByteArray) (bo : Option Addr) (M cb : Nat) (ns : List Int) (hop : OpB w x wk wv wd key en bo M ns) :
    Calls Tryz.prog 13 #[.pointer s, .pointer r, .agg #[.int .u8 (kd : Int), .int .i64 x, .string wk, .string wv, .bool wd, .string key, .string en, .slice bo M cb]] w fun e w' => e = .returned (.bool true) ∧ Nx9 w0 w w' s r (n + 1) Own := by
  obtain ⟨wx, HWx⟩ : ∃ wx, Hid (w.alloc (.cells #[.int .u8 (kd : Int), .int .i64 x, .string wk, .string wv, .bool wd, .string key, .string en, .slice bo M cb] 61) = wx) := ⟨_, rfl⟩
  have hFx : Fr [] w wx := by rw [← HWx.out]; exact Fr.alloc _ _ _
  have hbx : wx.heap[w.heap.size]? = some (.cells #[.int .u8 (kd : Int), .int .i64 x, .string wk, .string wv, .bool wd, .string key, .string en, .slice bo M cb] 61 (0, 0)) := by rw [← HWx.out]; exact heap_alloc_new w _
  obtain ⟨bx, Hbx⟩ : ∃ bx, Hid (bx = w.heap.size) := ⟨_, rfl⟩
  have HBX : Hid (∀ W, FrM wx W Own → _) := fun W hm => by
    obtain ⟨T, hT, hT2⟩ := hm.to
    exact eight_cells (hT.keep hbx (fun hh => by have := h.lt _ (hT2 _ hh); omega))
  rw [← Hbx.out] at HBX
  have HFx : Hid (Fr [] w wx) := hFx
  have HP : Hid (Pr9 w0 wx s r n Own) := h.quiet hFx
  have HO : Hid (OpB wx x wk wv wd key en bo M ns) := hop.keep hFx
  have HQ : Hid (∀ W, Fr [] wx W → Nx9 w0 w W s r (n + 1) Own) := fun W hf => (HP.out.nx hf).from hFx (by omega)
  have q1 : ((kd : Int) == 1) = false := by rw [beq_eq_false_iff_ne]; omega
  have q2 : ((kd : Int) == 2) = false := by rw [beq_eq_false_iff_ne]; omega
  have q3 : ((kd : Int) == 3) = false := by rw [beq_eq_false_iff_ne]; omega
  have q4 : ((kd : Int) == 4) = true := by rw [beq_iff_eq]; omega
  clear h hop hFx hbx hkd
  go_enter Tryz.func13, Tryz.ntmps13
  go_upto_region 1 with fail
  rw [HWx.out, ← Hbx.out]
  clear HWx Hbx
  obtain ⟨c0, c1, c2, c3, c4, c5, c6, c7⟩ := HBX.out wx (FrM.of (Fr.refl _ _))
  have HC : Hid (∀ V, Fr [] wx V → Calls Tryz.prog 72 #[.pointer s, .int .i64 x] V fun e w1 => ∃ c : Int, e = .returned (.int .i64 c) ∧ w1.cell? ⟨bx, 1, none⟩ = some (.int .i64 x) ∧ Hid (Calls Tryz.prog 73 #[.pointer r, .int .i64 x] w1 fun e w2 => e = .returned (.int .i64 c) ∧ w2.cell? ⟨bx, 1, none⟩ = some (.int .i64 x) ∧ Hid (Nx9 w0 w w2 s r (n + 1) Own))) := fun V hf => by
    refine (pr_collect (HP.out.quiet hf) (by omega) x).mono ?_
    rintro e w1 ⟨c, rfl, hM, hk⟩
    refine ⟨c, rfl, (HBX.out w1 ((FrM.of hf).trans hM (fun j hj => Or.inl hj))).2.1, hk.mono ?_⟩
    rintro e w2 ⟨rfl, hN⟩
    refine ⟨rfl, ?_, hN.from (HFx.out.then hf) (by omega)⟩
    obtain ⟨O2, _, q2, _⟩ := hN
    exact (HBX.out w2 ((FrM.of hf).trans q2 (fun j hj => Or.inl hj))).2.1
  clear c2 c3 c4 c5 c6 c7
  go_wp2_with fail
  go_region_held3 (fun V => V.cell? ⟨bx, 1, none⟩ = some (.int .i64 x)) (go_keep)
    (first
      | (go_at_call 72; with_reducible refine Calls.mono (HC.out _ (Fr.drew _ _)) ?_; rintro e w2 ⟨c, rfl, k1, HK⟩)
      | (go_at_call 73; with_reducible refine Calls.mono HK.out ?_; rintro e w3 ⟨rfl, k2, HN3⟩))
  all_goals (
    have r2 : (c == c) = true := by simp
    go_wp2
    go_ret
    exact ⟨by simp, HN3.out⟩)
set_option maxHeartbeats 8000000 in
set_option maxRecDepth 100000 in
theorem asked9_5 (h : Pr9 w0 w s r n Own) (hn : n < 1073740000) (kd : Nat) (hkd : kd = 5) (x : Int) (wk wv : ByteArray) (wd : Bool) (key en : ByteArray) (bo : Option Addr) (M cb : Nat) (ns : List Int) (hop : OpB w x wk wv wd key en bo M ns) :
    Calls Tryz.prog 13 #[.pointer s, .pointer r, .agg #[.int .u8 (kd : Int), .int .i64 x, .string wk, .string wv, .bool wd, .string key, .string en, .slice bo M cb]] w fun e w' => e = .returned (.bool true) ∧ Nx9 w0 w w' s r (n + 1) Own := by
  obtain ⟨wx, HWx⟩ : ∃ wx, Hid (w.alloc (.cells #[.int .u8 (kd : Int), .int .i64 x, .string wk, .string wv, .bool wd, .string key, .string en, .slice bo M cb] 61) = wx) := ⟨_, rfl⟩
  have hFx : Fr [] w wx := by rw [← HWx.out]; exact Fr.alloc _ _ _
  have hbx : wx.heap[w.heap.size]? = some (.cells #[.int .u8 (kd : Int), .int .i64 x, .string wk, .string wv, .bool wd, .string key, .string en, .slice bo M cb] 61 (0, 0)) := by rw [← HWx.out]; exact heap_alloc_new w _
  obtain ⟨bx, Hbx⟩ : ∃ bx, Hid (bx = w.heap.size) := ⟨_, rfl⟩
  have HBX : Hid (∀ W, FrM wx W Own → _) := fun W hm => by
    obtain ⟨T, hT, hT2⟩ := hm.to
    exact eight_cells (hT.keep hbx (fun hh => by have := h.lt _ (hT2 _ hh); omega))
  rw [← Hbx.out] at HBX
  have HFx : Hid (Fr [] w wx) := hFx
  have HP : Hid (Pr9 w0 wx s r n Own) := h.quiet hFx
  have HO : Hid (OpB wx x wk wv wd key en bo M ns) := hop.keep hFx
  have HQ : Hid (∀ W, Fr [] wx W → Nx9 w0 w W s r (n + 1) Own) := fun W hf => (HP.out.nx hf).from hFx (by omega)
  have q1 : ((kd : Int) == 1) = false := by rw [beq_eq_false_iff_ne]; omega
  have q2 : ((kd : Int) == 2) = false := by rw [beq_eq_false_iff_ne]; omega
  have q3 : ((kd : Int) == 3) = false := by rw [beq_eq_false_iff_ne]; omega
  have q4 : ((kd : Int) == 4) = false := by rw [beq_eq_false_iff_ne]; omega
  have q5 : ((kd : Int) == 5) = true := by rw [beq_iff_eq]; omega
  clear h hop hFx hbx hkd
  go_enter Tryz.func13, Tryz.ntmps13
  go_upto_region 1 with fail
  rw [HWx.out, ← Hbx.out]
  clear HWx Hbx
  obtain ⟨c0, c1, c2, c3, c4, c5, c6, c7⟩ := HBX.out wx (FrM.of (Fr.refl _ _))
  obtain ⟨kv, hd1, hd2⟩ := pr_dump HP.out (by omega) x ns
  have HD1 : Hid (∀ V, Fr [] wx V → ∀ (bo : Option Addr) (Mn cb : Nat), IRs V bo ns → Mn = ns.length → Calls Tryz.prog 17 #[.pointer s, .int .i64 x, .slice bo Mn cb] V fun e w' => ∃ ro N rc hs, e = .returned (.slice ro N rc) ∧ Hid (N = hs.length ∧ HRs w' ro hs ∧ hs.map hkv = kv) ∧ Fr [] V w') := fun V hf bo Mn cb h1 h2 => (hd1 V hf bo Mn cb h1 h2).mono fun e w' ⟨ro, N, rc, e1, ⟨hs, a1, a2, a3, a4⟩, h2⟩ => ⟨ro, N, rc, hs, e1, ⟨a1.len, a2, a3⟩, h2⟩
  have HD2 : Hid (∀ V, Fr [] wx V → ∀ (bo : Option Addr) (Mn cb : Nat), IRs V bo ns → Mn = ns.length → Calls Tryz.prog 75 #[.pointer r, .int .i64 x, .slice bo Mn cb] V fun e w' => ∃ ro N rc hs, e = .returned (.slice ro N rc) ∧ Hid (N = hs.length ∧ HRs w' ro hs ∧ hs.map hkv = kv) ∧ Fr [] V w') := fun V hf bo Mn cb h1 h2 => (hd2 V hf bo Mn cb h1 h2).mono fun e w' ⟨ro, N, rc, hs, e1, a1, a2, a3, h2⟩ => ⟨ro, N, rc, hs, e1, ⟨a1, a2, a3⟩, h2⟩
  clear hd1 hd2
  have HT : Hid (Calls _ _ _ _ _) := twinIs_any bo M cb ns wx HO.out.is HO.out.m HO.out.few
  go_wp2_with fail
  refine Calls.mono HT.out ?_
  rintro e w1 ⟨t, rfl, ht, hrow, hF1⟩
  have HR : Hid (∀ V, Fr [] w1 V → V.heap[t]? = some (.cells (intsC (ns ++ [7777])).toArray 3 (0, 0))) := fun V hf => hf.keep hrow (by simp)
  have HF1 : Hid (Fr [] wx w1) := hF1
  have HI1 : Hid (IRs w1 (some ⟨t, 0, none⟩) ns) := twinIs_rs hrow HO.out.is.few
  clear hF1 hrow ht HT c0 c1 c2 c3 c4 c5 c6 c7
  obtain ⟨c0, c1, c2, c3, c4, c5, c6, c7⟩ := HBX.out w1 (FrM.of HF1.out)
  go_wp2_with fail
  refine Calls.mono (HD1.out _ HF1.out _ _ _ HI1.out HO.out.m) ?_
  rintro e w2 ⟨ro, N, rc, hs, rfl, HA, hF2⟩
  have HF2 : Hid (Fr [] wx w2) := HF1.out.then hF2
  have HR2 : Hid (Fr [] w1 w2) := hF2
  clear hF2 HD1 HI1 c0 c1 c2 c3 c4 c5 c6 c7
  obtain ⟨c0, c1, c2, c3, c4, c5, c6, c7⟩ := HBX.out w2 (FrM.of HF2.out)
  go_wp2_with fail
  refine Calls.mono (HD2.out _ HF2.out _ _ _ (HO.out.is.keep HF2.out) HO.out.m) ?_
  rintro e w3 ⟨ro2, N2, rc2, gs, rfl, HB, hF3⟩
  have HF3 : Hid (Fr [] wx w3) := HF2.out.then hF3
  have HR3 : Hid (Fr [] w1 w3) := HR2.out.then hF3
  obtain rfl : N = N2 := by
    have h1 := congrArg List.length (HA.out.2.2.trans HB.out.2.2.symm)
    simp only [List.length_map] at h1
    rw [HA.out.1, HB.out.1, h1]
  have HSm : Hid (Calls _ _ _ _ _) := sameHelds_any ro ro2 N rc rc2 hs gs w3 (HA.out.2.1.keep hF3) HB.out.2.1 HA.out.1 (HA.out.2.2.trans HB.out.2.2.symm)
  clear hF3 HD2 c0 c1 c2 c3 c4 c5 c6 c7
  obtain ⟨c0, c1, c2, c3, c4, c5, c6, c7⟩ := HBX.out w3 (FrM.of HF3.out)
  go_wp2_with fail
  refine Calls.mono HSm.out ?_
  rintro e w4 ⟨rfl, hF4⟩
  have HF4 : Hid (Fr [] wx w4) := HF3.out.then hF4
  have HLf : Hid (Calls _ _ _ _ _) := leftIs_any t bo M cb ns w4 (HO.out.is.keep HF4.out) HO.out.m HO.out.few (HR.out _ (HR3.out.then hF4))
  clear hF4 HSm c0 c1 c2 c3 c4 c5 c6 c7
  obtain ⟨c0, c1, c2, c3, c4, c5, c6, c7⟩ := HBX.out w4 (FrM.of HF4.out)
  go_wp2_with fail
  refine Calls.mono HLf.out ?_
  rintro e w5 ⟨rfl, hF5⟩
  have HN : Hid (Nx9 w0 w w5 s r (n + 1) Own) := HQ.out _ (HF4.out.then hF5)
  clear hF5 HLf c0 c1 c2 c3 c4 c5 c6 c7
  go_wp2
  go_ret
  exact ⟨rfl, HN.out⟩
set_option maxHeartbeats 8000000 in
set_option maxRecDepth 100000 in
theorem asked9_0 (h : Pr9 w0 w s r n Own) (hn : n < 1073740000) (kd : Nat) (hkd : kd ≠ 1 ∧ kd ≠ 2 ∧ kd ≠ 3 ∧ kd ≠ 4 ∧ kd ≠ 5) (x : Int) (wk wv : ByteArray) (wd : Bool) (key en : ByteArray) (bo : Option Addr) (M cb : Nat) (ns : List Int) (hop : OpB w x wk wv wd key en bo M ns) :
    Calls Tryz.prog 13 #[.pointer s, .pointer r, .agg #[.int .u8 (kd : Int), .int .i64 x, .string wk, .string wv, .bool wd, .string key, .string en, .slice bo M cb]] w fun e w' => e = .returned (.bool true) ∧ Nx9 w0 w w' s r (n + 1) Own := by
  obtain ⟨wx, HWx⟩ : ∃ wx, Hid (w.alloc (.cells #[.int .u8 (kd : Int), .int .i64 x, .string wk, .string wv, .bool wd, .string key, .string en, .slice bo M cb] 61) = wx) := ⟨_, rfl⟩
  have hFx : Fr [] w wx := by rw [← HWx.out]; exact Fr.alloc _ _ _
  have hbx : wx.heap[w.heap.size]? = some (.cells #[.int .u8 (kd : Int), .int .i64 x, .string wk, .string wv, .bool wd, .string key, .string en, .slice bo M cb] 61 (0, 0)) := by rw [← HWx.out]; exact heap_alloc_new w _
  obtain ⟨bx, Hbx⟩ : ∃ bx, Hid (bx = w.heap.size) := ⟨_, rfl⟩
  have HBX : Hid (∀ W, FrM wx W Own → _) := fun W hm => by
    obtain ⟨T, hT, hT2⟩ := hm.to
    exact eight_cells (hT.keep hbx (fun hh => by have := h.lt _ (hT2 _ hh); omega))
  rw [← Hbx.out] at HBX
  have HFx : Hid (Fr [] w wx) := hFx
  have HP : Hid (Pr9 w0 wx s r n Own) := h.quiet hFx
  have HO : Hid (OpB wx x wk wv wd key en bo M ns) := hop.keep hFx
  have HQ : Hid (∀ W, Fr [] wx W → Nx9 w0 w W s r (n + 1) Own) := fun W hf => (HP.out.nx hf).from hFx (by omega)
  have q1 : ((kd : Int) == 1) = false := by rw [beq_eq_false_iff_ne]; omega
  have q2 : ((kd : Int) == 2) = false := by rw [beq_eq_false_iff_ne]; omega
  have q3 : ((kd : Int) == 3) = false := by rw [beq_eq_false_iff_ne]; omega
  have q4 : ((kd : Int) == 4) = false := by rw [beq_eq_false_iff_ne]; omega
  have q5 : ((kd : Int) == 5) = false := by rw [beq_eq_false_iff_ne]; omega
  clear h hop hFx hbx hkd
  go_enter Tryz.func13, Tryz.ntmps13
  go_upto_region 1 with fail
  rw [HWx.out, ← Hbx.out]
  clear HWx Hbx
  obtain ⟨c0, c1, c2, c3, c4, c5, c6, c7⟩ := HBX.out wx (FrM.of (Fr.refl _ _))
  obtain ⟨kv, hd1, hd2⟩ := pr_all HP.out (by omega)
  have HD1 : Hid (∀ V, Fr [] wx V → Calls Tryz.prog 16 #[.pointer s] V fun e w' => ∃ ro N rc hs, e = .returned (.slice ro N rc) ∧ Hid (N = hs.length ∧ HRs w' ro hs ∧ hs.map hkv = kv) ∧ Fr [] V w') := fun V hf => (hd1 V hf).mono fun e w' ⟨ro, N, rc, e1, ⟨hs, a1, a2, a3, a4⟩, h2⟩ => ⟨ro, N, rc, hs, e1, ⟨a1.len, a2, a3⟩, h2⟩
  have HD2 : Hid (∀ V, Fr [] wx V → Calls Tryz.prog 21 #[.pointer r] V fun e w' => ∃ ro N rc hs, e = .returned (.slice ro N rc) ∧ Hid (N = hs.length ∧ HRs w' ro hs ∧ hs.map hkv = kv) ∧ Fr [] V w') := fun V hf => (hd2 V hf).mono fun e w' ⟨ro, N, rc, hs, e1, a1, a2, a3, h2⟩ => ⟨ro, N, rc, hs, e1, ⟨a1, a2, a3⟩, h2⟩
  clear hd1 hd2
  go_wp2_with fail
  refine Calls.mono (HD1.out _ (Fr.refl _ _)) ?_
  rintro e w2 ⟨ro, N, rc, hs, rfl, HA, hF2⟩
  have HF2 : Hid (Fr [] wx w2) := hF2
  clear hF2 HD1 c0 c1 c2 c3 c4 c5 c6 c7
  go_wp2_with fail
  refine Calls.mono (HD2.out _ HF2.out) ?_
  rintro e w3 ⟨ro2, N2, rc2, gs, rfl, HB, hF3⟩
  have HF3 : Hid (Fr [] wx w3) := HF2.out.then hF3
  obtain rfl : N = N2 := by
    have h1 := congrArg List.length (HA.out.2.2.trans HB.out.2.2.symm)
    simp only [List.length_map] at h1
    rw [HA.out.1, HB.out.1, h1]
  have HSm : Hid (Calls _ _ _ _ _) := sameHelds_any ro ro2 N rc rc2 hs gs w3 (HA.out.2.1.keep hF3) HB.out.2.1 HA.out.1 (HA.out.2.2.trans HB.out.2.2.symm)
  clear hF3 HD2
  go_wp2_with fail
  refine Calls.mono HSm.out ?_
  rintro e w4 ⟨rfl, hF4⟩
  have HN : Hid (Nx9 w0 w w4 s r (n + 1) Own) := HQ.out _ (HF3.out.then hF4)
  clear hF4 HSm
  go_wp2
  go_ret
  exact ⟨rfl, HN.out⟩
theorem asked9_any (h : Pr9 w0 w s r n Own) (hn : n < 1073740000) (kd : Nat) (x : Int) (wk wv : ByteArray) (wd : Bool) (key en : ByteArray) (bo : Option Addr) (M cb : Nat) (ns : List Int) (hop : OpB w x wk wv wd key en bo M ns) :
    Calls Tryz.prog 13 #[.pointer s, .pointer r, .agg #[.int .u8 (kd : Int), .int .i64 x, .string wk, .string wv, .bool wd, .string key, .string en, .slice bo M cb]] w fun e w' => e = .returned (.bool true) ∧ Nx9 w0 w w' s r (n + 1) Own := by
  by_cases h1 : kd = 1
  · exact asked9_1 h hn kd h1 x wk wv wd key en bo M cb ns hop
  · by_cases h2 : kd = 2
    · exact asked9_2 h hn kd h2 x wk wv wd key en bo M cb ns hop
    · by_cases h3 : kd = 3
      · exact asked9_3 h hn kd h3 x wk wv wd key en bo M cb ns hop
      · by_cases h4 : kd = 4
        · exact asked9_4 h hn kd h4 x wk wv wd key en bo M cb ns hop
        · by_cases h5 : kd = 5
          · exact asked9_5 h hn kd h5 x wk wv wd key en bo M cb ns hop
          · exact asked9_0 h hn kd ⟨h1, h2, h3, h4, h5⟩ x wk wv wd key en bo M cb ns hop
end
end Go.Proofs.YtkplammapbiebaaGreatDoor
