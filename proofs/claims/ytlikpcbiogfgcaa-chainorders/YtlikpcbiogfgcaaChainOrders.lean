/- For every list of versions and every turn the law ChainOrders returns true, and the list reads as it did. No conditions. -/
import Derived.Test.YtlikpcbiogfgcaaVl
import Derived.Test.YtlikpcbiogfgcaaVz
import Derived.Test.YtlikpcbiogfgcaaVo
namespace Go.Proofs.Ytlikpcbiogfgcaa.chainOrders
open Go.ChangeShapes Go.WideShapes Go.ChangeAt Go.RowKit Go.Lib
set_option linter.unusedVariables false
set_option linter.unusedSimpArgs false

/-- What the first loop keeps: the row of the law's own, and what was put. -/
structure I1 (w wr : World) (oo : Option Addr) (on oc : Nat) (xo : Option Addr) (xn : Nat) (os xs : List Vn) : Prop where
  fr : Fr [] w wr
  own : wr.ownsRow 0 30 3 (.slice oo on oc) on (vnsC os)
  onl : on = os.length
  base : ∀ k, (Value.slice oo on oc).ownBlock = some k → w.heap.size ≤ k
  xr : VRs wr xo xs
  xnl : xn = xs.length
  apart : ∀ k, (Value.slice oo on oc).ownBlock = some k → 0 < xs.length → ∀ a, xo = some a → a.block ≠ k
  ok : okV xs
  mem : ∀ v, v ∈ xs ↔ v ∈ os
  len : xs.length = os.length
  dis : Dis os
theorem I1.later {w wr W : World} {oo : Option Addr} {on oc : Nat} {xo : Option Addr} {xn : Nat} {os xs : List Vn} (h : I1 w wr oo on oc xo xn os xs) (hf : Fr [] wr W) : I1 w W oo on oc xo xn os xs :=
  ⟨h.fr.then hf, owns_keep h.own hf (by simp), h.onl, h.base, h.xr.keep hf, h.xnl, h.apart, h.ok, h.mem, h.len, h.dis⟩
theorem I1.ors {w wr : World} {oo : Option Addr} {on oc : Nat} {xo : Option Addr} {xn : Nat} {os xs : List Vn} (h : I1 w wr oo on oc xo xn os xs) : VRs wr oo os :=
  VRs.of_own h.own h.onl (by have := okV_few h.ok; have := h.len; omega) (fun x hx => okX_each (h.ok.1 x ((h.mem x).2 hx)))
theorem own_lt {w : World} {base : Nat} {e : TypeId} {size : Nat} {v : Value} {n : Nat} {xs : List Value} (h : w.ownsRow base e size v n xs) : ∀ k, v.ownBlock = some k → k < w.heap.size := by
  intro k hk
  rcases h.2 with ⟨rfl, _⟩ | ⟨g, cap, cur, rfl, hb, hg, _⟩
  · simp [Value.ownBlock] at hk
  · simp [Value.ownBlock] at hk
    subst hk
    exact lt_of_block hg
/-- One more was put, and kept. -/
theorem I1.more {w wr W W' : World} {oo : Option Addr} {on oc : Nat} {xo : Option Addr} {xn : Nat} {os xs : List Vn} (h : I1 w wr oo on oc xo xn os xs) {v : Vn} (hx : okX v) {d : Nat} (hU : UpTo xs v.num d) (hT : ¬ There xs v d)
    {ro : Option Addr} {N rc : Nat} (hO : VOut wr W ro N rc (xs.take d ++ [v] ++ xs.drop d)) (hF : Fr [] wr W)
    {g cap : Nat} (hown : W'.ownsRow 0 30 3 (.slice (some ⟨g, 0, none⟩) (on + 1) cap) (on + 1) (vnsC os ++ vnC v))
    (hgr : (W.alloc (.cells #[.int .i64 v.num, .string v.val, .bool v.drop] 30)).grownBy W' (Value.slice oo on oc).ownBlock) (hmv : Moved (W.alloc (.cells #[.int .i64 v.num, .string v.val, .bool v.drop] 30)).heap.size (.slice oo on oc) (.slice (some ⟨g, 0, none⟩) (on + 1) cap)) :
    I1 w W' (some ⟨g, 0, none⟩) (on + 1) cap ro N (os ++ [v]) (xs.take d ++ [v] ++ xs.drop d) := by
  have hok := okV_ins h.ok hx hU hT
  have hlen := len_ins (v := v) hU.le
  have hA : Fr [] W (W.alloc (.cells #[.int .i64 v.num, .string v.val, .bool v.drop] 30)) := Fr.alloc [] W _
  have hS : Fr (Value.slice oo on oc).ownBlock.toList (W.alloc (.cells #[.int .i64 v.num, .string v.val, .bool v.drop] 30)) W' := Fr.grown hgr (fun y hy _ => Option.mem_toList.2 hy)
  have hoL := own_lt h.own
  -- the new row lies beyond all that there was
  have hxb : 0 < (xs.take d ++ [v] ++ xs.drop d).length → ∀ a, ro = some a → wr.heap.size ≤ a.block ∧ a.block < W.heap.size := by
    intro h0 a e
    obtain ⟨rc', _, ho⟩ := hO.own
    rcases ho.2 with ⟨hv, hn⟩ | ⟨g', cap', cur, hv, hb, hg, _⟩
    · cases hv; cases e
    · cases hv
      cases e
      exact ⟨hb, lt_of_block hg⟩
  have hxr : VRs W ro (xs.take d ++ [v] ++ xs.drop d) := hO.rs (by have := okV_few hok; omega) (fun x hx => okX_each (hok.1 x hx))
  have hG : Fr [] w W' := (h.fr.then (hF.then hA)).on hS (fun y hy => h.base y (Option.mem_toList.1 hy))
  refine ⟨hG, by rw [vnsC_append]; simpa [vnsC] using hown, by simp [h.onl], ?_, ?_, hO.len, ?_, hok, ?_, by rw [hlen, h.len]; simp, dis_snoc h.dis ?_⟩
  · intro k hk
    rcases hmv with hm | ⟨y, h1, h2⟩
    · exact h.base k (by rw [← hm]; exact hk)
    · rw [h1] at hk
      cases hk
      have := (h.fr.then (hF.then hA)).size
      omega
  · refine (hxr.keep hA).keepS hS ?_
    intro h0 a e hm
    have h1 := hoL _ (Option.mem_toList.1 hm)
    have h2 := (hxb h0 a e).1
    omega
  · intro k hk h0 a e hak
    have hb := hxb h0 a e
    rcases hmv with hm | ⟨y, h1, h2⟩
    · have := hoL k (by rw [← hm]; exact hk)
      omega
    · rw [h1] at hk
      cases hk
      have := hA.size
      omega
  · intro x
    rw [mem_ins, h.mem, List.mem_append, List.mem_singleton]
    constructor
    · rintro (e | e)
      · exact Or.inr e
      · exact Or.inl e
    · rintro (e | e)
      · exact Or.inr e
      · exact Or.inl e
  · intro y hy e
    exact hT ((there_iff h.ok.2 hU).2 ⟨y, (h.mem y).2 hy, e⟩)
/-- What the second loop keeps. -/
structure I2 (w2 wr : World) (zo : Option Addr) (zn : Nat) (os zs : List Vn) (t i : Nat) : Prop where
  fr : Fr [] w2 wr
  zr : VRs wr zo zs
  znl : zn = zs.length
  ok : okV zs
  mem : ∀ v, v ∈ zs ↔ ∃ j, j < i ∧ v = os.getD (fidx os.length t j) Vn.zero
  len : zs.length = i

set_option maxHeartbeats 16000000 in
set_option maxRecDepth 100000 in
theorem walk (ao : Option Addr) (L cap : Nat) (vs : List Vn) (t : Nat) (ht : t < 256) (w : World) (hV : VRs w ao vs) (hL : L = vs.length) (hC : L ≤ cap) :
    Calls Try.prog 3 #[.slice ao L cap, .int .u8 (t : Int)] w fun e w' => e = .returned (.bool true) ∧ Fr [] w w' := by
  have HL : Hid (L = vs.length) := hL
  have HV : Hid (∀ W, Fr [] w W → VRs W ao vs) := fun W hf => hV.keep hf
  have hLL : L ≤ 4398046511104 := by have := hV.few; omega
  clear hV hL
  go_enter Try.func3, Try.ntmps3
  go_wp2_with fail
  refine (alive8_any _).mono ?_
  rintro e w1 ⟨rfl, hF1⟩
  go_wp2_with fail
  refine (vsize_any ao L cap vs _ (HV.out _ hF1) HL.out).mono ?_
  rintro e w2 ⟨N0, rfl, hLN, hN0, rfl⟩
  go_wp2_with fail
  refine (beyond_any w1.heap.size N0 _ (by omega) (by simp)).mono ?_
  rintro e w3 ⟨rfl, rfl⟩
  have hG3 := hF1.then (Fr.alloc [] w1 (.cells #[.int .i64 (N0 : Int)] 3))
  obtain ⟨w3, HW3⟩ : ∃ w3, Hid (w1.alloc (.cells #[.int .i64 (N0 : Int)] 3) = w3) := ⟨_, rfl⟩
  rw [HW3.out] at hG3 ⊢
  clear HW3 hF1
  obtain ⟨Bq, hBq⟩ : ∃ Bq, Bq = decide (1048576 < N0) := ⟨_, rfl⟩
  rw [← hBq]
  clear hBq
  cases Bq with
  | true =>
    go_wp2_with fail
    refine (alive8_any _).mono ?_
    rintro e w4 ⟨rfl, hF4⟩
    go_wp2
    go_ret
    exact ⟨rfl, hG3.then hF4⟩
  | false =>
    by_cases h60 : 60 < L
    · have h60' : (60 : Int) < L := by omega
      go_wp2_with fail
      refine (alive8_any _).mono ?_
      rintro e w4 ⟨rfl, hF4⟩
      go_wp2
      go_ret
      exact ⟨rfl, hG3.then hF4⟩
    have hL60 : (L : Int) ≤ 60 := by omega
    have hL61 : L ≤ 60 := by omega
    clear h60
    go_wp2_with fail
    go_loopw [5, 6, 7] (fun s5 s6 s7 wr => ∃ (oo : Option Addr) (on oc : Nat) (xo : Option Addr) (xn xc i : Nat) (os xs : List Vn), s5 = .slice oo on oc ∧ s6 = .slice xo xn xc ∧ s7 = .int .i64 i ∧ i ≤ L ∧ on ≤ i ∧ xn = on ∧ xn ≤ xc ∧ Hid (I1 w wr oo on oc xo xn os xs)) (fun _ _ s7 _ => L - (intOf s7).toNat)
    case atStart => exact ⟨none, 0, 0, none, 0, 0, 0, [], [], rfl, rfl, rfl, Nat.zero_le _, Nat.le_refl _, rfl, Nat.le_refl _, ⟨hG3, ⟨rfl, .inl ⟨rfl, rfl⟩⟩, rfl, fun k hk => by simp [Value.ownBlock] at hk, VRs.nil _ _, rfl, fun k hk => by simp [Value.ownBlock] at hk, okV_nil, fun v => Iff.rfl, rfl, fun i j _ hj => by simp at hj⟩⟩
    case round =>
      obtain ⟨oo, on, oc, xo, xn, xc, i, os, xs, rfl, rfl, rfl, hiL, honi, rfl, hxc, HI⟩ := hrel
      by_cases hi : i < L
      · have hi' : i < vs.length := by rw [← HL.out]; exact hi
        have hVr := HV.out _ HI.out.fr
        obtain ⟨b, off, rfl, hbl, hat⟩ := hVr.lies (by omega)
        obtain ⟨c0, c1, c2⟩ := hat i hi'
        obtain ⟨v, hv⟩ : ∃ v, v = vs.getD i Vn.zero := ⟨_, rfl⟩
        have hE : VEach v := by rw [hv]; exact hVr.each _ (vgetD_mem vs i hi')
        have HP : Hid (Calls _ _ _ _ _) := put_any xo xn xc v xs _ HI.out.xr HI.out.xnl hxc hE
        have HK : Hid (∀ W, Fr [] w W → VAt W b (off + i * 3) v) := fun W hf => by
          obtain ⟨b', off', e, _, hat'⟩ := (HV.out W hf).lies (by omega)
          cases e
          rw [hv]
          exact hat' i hi'
        rw [← hv] at c0 c1 c2
        clear hv hat hVr hE
        go_wp2_with fail
        refine Calls.mono HP.out ?_
        rintro e w4 ⟨ro, N, rc, us, ok, c, rfl, hT, hO, hF4⟩
        have HI4 : Hid (I1 w w4 oo xn oc xo xn os xs) := HI.out.later hF4
        clear HP c0 c1 c2
        rcases hT with ⟨rfl, _, _, rfl⟩ | ⟨rfl, _, hx, d, hU, ⟨_, _, rfl⟩ | ⟨hT, rfl, rfl⟩⟩
        · clear HI hO
          go_wp2
          exact ⟨⟨oo, xn, oc, xo, xn, xc, i + 1, os, xs, rfl, rfl, by simp, by omega, by omega, rfl, hxc, HI4⟩, by simp [intOf]; omega⟩
        · clear HI hO
          go_wp2
          exact ⟨⟨oo, xn, oc, xo, xn, xc, i + 1, os, xs, rfl, rfl, by simp, by omega, by omega, rfl, hxc, HI4⟩, by simp [intOf]; omega⟩
        · obtain ⟨c0, c1, c2⟩ := HK.out _ (HI.out.fr.then hF4)
          have HMo : Hid (∀ g cap' W', W'.ownsRow 0 30 3 (.slice (some ⟨g, 0, none⟩) (xn + 1) cap') (xn + 1) (vnsC os ++ vnC v) → (w4.alloc (.cells #[.int .i64 v.num, .string v.val, .bool v.drop] 30)).grownBy W' (Value.slice oo xn oc).ownBlock → Moved (w4.alloc (.cells #[.int .i64 v.num, .string v.val, .bool v.drop] 30)).heap.size (.slice oo xn oc) (.slice (some ⟨g, 0, none⟩) (xn + 1) cap') → I1 w W' (some ⟨g, 0, none⟩) (xn + 1) cap' ro N (os ++ [v]) (xs.take d ++ [v] ++ xs.drop d)) := fun g cap' W' h1 h2 h3 => HI.out.more hx hU hT hO hF4 h1 h2 h3
          have hNx : N = xn + 1 := by rw [hO.len, len_ins hU.le, HI.out.xnl]
          have hNc : N ≤ rc := hO.cap
          have HOw : Hid ((w4.alloc (.cells #[.int .i64 v.num, .string v.val, .bool v.drop] 30)).ownsRow 0 30 3 (.slice oo xn oc) xn (vnsC os)) := owns_keep HI4.out.own (Fr.alloc [] _ _) (by simp)
          have HNe : Hid (∀ j u, (vnC v)[j]? = some u → (w4.alloc (.cells #[.int .i64 v.num, .string v.val, .bool v.drop] 30)).cell? ((⟨w4.heap.size, 0, none⟩ : Addr).add j) = some u) := by
            intro j u hu
            rw [Addr.add_lit, World.cell?_alloc_at _ _ _ _ (by simp)]
            simpa [vnC] using hu
          have HNx : Hid (N = xn + 1) := hNx
          obtain ⟨i0, hi0, hz0, hz1, hz2⟩ := infoVn_parts
          clear HI HI4 hO hU hT hx hF4 hNx
          go_upto_region 11 with fail
          go_wp2_with (at_builtin; refine wpList_app1 _ rfl _ _ 22 rfl 30 i0 _ 3 32 Try.undVns' hi0 hz0 hz1 hz2 rfl (by decide) (.slice oo xn oc) xn (vnsC os) rfl HOw.out ⟨w4.heap.size, 0, none⟩ 1 (vnC v) rfl rfl HNe.out (by intro u hu; simp only [vnC, List.mem_cons, List.not_mem_nil, or_false] at hu; rcases hu with rfl | rfl | rfl <;> rfl) (by omega) (by unfold maxLen; omega) ?_
                       intro g cap' W' h1 h2 h3
                       have HI5 : Hid _ := HMo.out g cap' W' h1 h2 h3
                       clear h1 h2 h3
                       go_frame)
          exact ⟨⟨some ⟨g, 0, none⟩, xn + 1, cap', ro, N, rc, i + 1, _, _, rfl, rfl, by simp, by omega, by omega, HNx.out, hNc, HI5⟩, by simp [intOf]; omega⟩
      · have HC5 : Hid (Calls _ _ _ _ _) := vcheck_any xo xn xc 0 xs _ HI.out.xr HI.out.xnl (CkT.of HI.out.ok)
        have hne : ((xn : Int) != (xn : Int)) = false := by simp
        have hxn60 : xn ≤ 60 := by omega
        go_wp2_with fail
        refine Calls.mono HC5.out ?_
        rintro e w5 ⟨rfl, hF5⟩
        have HI5 : Hid (I1 w w5 oo xn oc xo xn os xs) := HI.out.later hF5
        have HK : Hid (∀ W, Fr [] w5 W → VRs W oo os ∧ VRs W xo xs) := fun W hf => ⟨(HI5.out.later hf).ors, (HI5.out.later hf).xr⟩
        have HN : Hid (xn = os.length ∧ xn = xs.length) := ⟨HI5.out.onl, HI5.out.xnl⟩
        have HOx : Hid (∀ v ∈ os, okX v) := fun v hv => HI5.out.ok.1 v ((HI5.out.mem v).2 hv)
        have HDi : Hid (Dis os) := HI5.out.dis
        have HMe : Hid (okV xs ∧ ∀ v, v ∈ xs ↔ v ∈ os) := ⟨HI5.out.ok, HI5.out.mem⟩
        have hG5 : Fr [] w w5 := HI5.out.fr
        clear HC5 HI hF5 HI5 HL HV hG3 hi hiL honi
        go_wp2_with fail
        go_loopw [11, 12] (fun s11 s12 wz => ∃ (zo : Option Addr) (zn zc i : Nat) (zs : List Vn), s11 = .slice zo zn zc ∧ s12 = .int .i64 i ∧ i ≤ xn ∧ zn = i ∧ zn ≤ zc ∧ Hid (I2 w5 wz zo zn os zs t i)) (fun _ s12 _ => xn - (intOf s12).toNat)
        case atStart => exact ⟨none, 0, 0, 0, [], rfl, rfl, Nat.zero_le _, rfl, Nat.le_refl _, ⟨Fr.refl _ _, VRs.nil _ _, rfl, okV_nil, fun v => ⟨fun h => by simp at h, fun ⟨j, hj, _⟩ => by omega⟩, rfl⟩⟩
        case round =>
          obtain ⟨zo, zn, zc, i, zs, rfl, rfl, hin, rfl, hzc, HI2⟩ := hrel
          by_cases hi : zn < xn
          · obtain ⟨ix, hix⟩ : ∃ ix, ix = fidx os.length t zn := ⟨_, rfl⟩
            have hixl : ix < os.length := by rw [hix]; exact fidx_lt (by have := HN.out.1; omega)
            have hixn : ix < xn := by have := HN.out.1; omega
            obtain ⟨b, off, rfl, hbl, hat⟩ := (HK.out _ HI2.out.fr).1.lies (by omega)
            obtain ⟨c0, c1, c2⟩ := hat ix hixl
            obtain ⟨v, hv⟩ : ∃ v, v = os.getD ix Vn.zero := ⟨_, rfl⟩
            rw [← hv] at c0 c1 c2
            have hvm : v ∈ os := by rw [hv]; exact vgetD_mem os ix hixl
            have hx : okX v := HOx.out v hvm
            have HP : Hid (Calls _ _ _ _ _) := put_any zo zn zc v zs _ HI2.out.zr HI2.out.znl hzc (okX_each hx)
            have HQ : Hid (∀ us ok c, PuTold zs v us ok c → c = 0 ∧ ok = true ∧ okV us ∧ (∀ y, y ∈ us ↔ ∃ j, j < zn + 1 ∧ y = os.getD (fidx os.length t j) Vn.zero) ∧ us.length = zn + 1) := by
              intro us ok c h
              have hlz := HI2.out.len
              have hnz := HN.out.1
              rcases h with ⟨_, h, _⟩ | ⟨rfl, _, _, d, hU, h⟩
              · exact absurd ⟨HI2.out.ok, hx⟩ h
              rcases h with ⟨h, _⟩ | ⟨h, rfl, rfl⟩
              · exfalso
                obtain ⟨y, hy, e⟩ := (there_iff HI2.out.ok.2 hU).1 h
                obtain ⟨j, hj, rfl⟩ := (HI2.out.mem y).1 hy
                rw [hv, hix] at e
                have h1 := dis_eq HDi.out (fidx_lt (by omega)) (fidx_lt (by omega)) e
                have h2 := fidx_inj (by omega) (by omega) h1
                omega
              · refine ⟨rfl, rfl, okV_ins HI2.out.ok hx hU h, fun y => ?_, by rw [len_ins hU.le, hlz]⟩
                rw [mem_ins, HI2.out.mem]
                constructor
                · rintro (rfl | ⟨j, hj, e⟩)
                  · exact ⟨zn, by omega, by rw [hv, hix]⟩
                  · exact ⟨j, by omega, e⟩
                · rintro ⟨j, hj, e⟩
                  by_cases hjz : j = zn
                  · subst hjz
                    exact Or.inl (by rw [e, hv, hix])
                  · exact Or.inr ⟨j, by omega, e⟩
            have hrem : Int.tmod ((xn : Int) - 1 - (zn : Int) + (t : Int)) (xn : Int) = (ix : Int) := by
              have e1 : ((xn : Int) - 1 - (zn : Int) + (t : Int)) = ((xn - 1 - zn + t : Nat) : Int) := by omega
              rw [e1, ← Int.ofNat_tmod, hix]
              unfold fidx
              rw [← HN.out.1]
            have HFz : Hid (Fr [] w5 _) := HI2.out.fr
            clear hv hat hvm hx hix HI2
            go_wp2_with fail
            refine Calls.mono HP.out ?_
            rintro e w6 ⟨ro, N, rc, us, ok, c, rfl, hT, hO, hF6⟩
            obtain ⟨rfl, rfl, hoku, hmem, hul⟩ := HQ.out _ _ _ hT
            obtain rfl : N = zn + 1 := hO.len.trans hul
            have hNc : zn + 1 ≤ rc := hO.cap
            have HI3 : Hid (I2 w5 w6 ro (zn + 1) os us t (zn + 1)) := ⟨HFz.out.then hF6, hO.rs (by have := okV_few hoku; omega) (fun x hx => okX_each (hoku.1 x hx)), hO.len, hoku, hmem, hul⟩
            clear HP HQ hT hO hF6 hoku hmem hul c0 c1 c2 hrem HFz
            go_wp2
            exact ⟨⟨ro, zn + 1, rc, zn + 1, us, rfl, by simp, by omega, rfl, hNc, HI3⟩, by simp [intOf]; omega⟩
          · obtain rfl : zn = xn := by omega
            have HEq : Hid (xs = zs) := by
              refine ris_unique xs zs HMe.out.1.2 HI2.out.ok.2 fun v => ?_
              rw [HMe.out.2, HI2.out.mem]
              have hnl := HN.out.1
              constructor
              · intro hv
                obtain ⟨k, hk, e⟩ := mem_get hv
                exact ⟨fidx os.length t k, by rw [hnl]; exact fidx_lt hk, by rw [fidx_fidx hk, e]⟩
              · rintro ⟨j, hj, rfl⟩
                exact vgetD_mem os _ (fidx_lt (by omega))
            have HS : Hid (Calls _ _ _ _ _) := sameVs_any xo zo zn zn xc zc true xs zs _ (HK.out _ HI2.out.fr).2 HI2.out.zr HN.out.2 HI2.out.znl (by simp [HEq.out])
            have HFz : Hid (Fr [] w5 _) := HI2.out.fr
            clear HI2 HEq hi hin
            go_wp2_with fail
            refine Calls.mono HS.out ?_
            rintro e w7 ⟨rfl, hF7⟩
            have hH7 : Fr [] w5 w7 := HFz.out.then hF7
            clear HS HFz hF7
            have hgu := Try.guardVn
            go_wp2_with fail
            go_loopw [16] (fun s16 wz => ∃ (i : Nat), s16 = .int .i64 i ∧ i ≤ zn ∧ Fr [] w5 wz) (fun s16 _ => zn - (intOf s16).toNat)
            case atStart => exact ⟨0, rfl, Nat.zero_le _, hH7⟩
            case round =>
              obtain ⟨k, rfl, hkn, hFk⟩ := hrel
              by_cases hk : k < zn
              · have hkl : k < os.length := by have := HN.out.1; omega
                obtain ⟨b, off, rfl, hbl, hat⟩ := (HK.out _ hFk).1.lies (by omega)
                obtain ⟨c0, _, _⟩ := hat k hkl
                obtain ⟨v, hv⟩ : ∃ v, v = os.getD k Vn.zero := ⟨_, rfl⟩
                rw [← hv] at c0
                have hvm : v ∈ xs := (HMe.out.2 v).2 (by rw [hv]; exact vgetD_mem os k hkl)
                have HA : Hid (Calls _ _ _ _ _) := at_any xo zn xc v.num xs _ (HK.out _ hFk).2 HN.out.2
                have HVA : Hid (∀ W, Fr [] w5 W → VAt W b (off + k * 3) v) := fun W hf => by
                  obtain ⟨b', off', e, _, hat'⟩ := (HK.out W hf).1.lies (by omega)
                  cases e
                  rw [hv]
                  exact hat' k hkl
                have HAt : Hid (∀ x ok c, AtTold xs v.num x ok c → c = 0 ∧ ok = true ∧ x = v) := by
                  intro x ok c h
                  rcases h with ⟨_, h, _⟩ | ⟨rfl, _, d, hd, rfl, rfl⟩
                  · exact absurd HMe.out.1 h
                  · obtain ⟨h1, h2⟩ := upTo_mem HMe.out.1.2 hvm hd
                    exact ⟨rfl, by simpa using h1, h2⟩
                clear hat hv hvm
                go_wp2_with fail
                refine Calls.mono HA.out ?_
                rintro e w8 ⟨x, ok, c, rfl, hT8, hF8⟩
                obtain ⟨rfl, rfl, rfl⟩ := HAt.out _ _ _ hT8
                obtain ⟨W8, HW8⟩ : ∃ W8, Hid (w8.alloc (.cells #[.int .i64 x.num, .string x.val, .bool x.drop] 30) = W8) := ⟨_, rfl⟩
                have hF8' : Fr [] w8 W8 := by rw [← HW8.out]; exact Fr.alloc [] w8 _
                have hb8 : W8.heap[w8.heap.size]? = some (.cells #[.int .i64 x.num, .string x.val, .bool x.drop] 30 (0, 0)) := by rw [← HW8.out]; exact heap_alloc_new w8 _
                have hG8 : Fr [] w5 W8 := hFk.then (hF8.then hF8')
                obtain ⟨y0, y1, y2⟩ := HVA.out _ hG8
                have z0 : W8.cell? ⟨w8.heap.size, 0, none⟩ = some (.int .i64 x.num) := by rw [cell_of_row _ _ _ _ _ _ hb8]; rfl
                have z1 : W8.cell? ⟨w8.heap.size, 1, none⟩ = some (.string x.val) := by rw [cell_of_row _ _ _ _ _ _ hb8]; rfl
                have z2 : W8.cell? ⟨w8.heap.size, 2, none⟩ = some (.bool x.drop) := by rw [cell_of_row _ _ _ _ _ _ hb8]; rfl
                have hqq : ∀ W, (Op.equalIn 10000 30 (.agg #[.int .i64 x.num, .string x.val, .bool x.drop]) (.agg #[.int .i64 x.num, .string x.val, .bool x.drop])).run Try.prog W = .ok true W := fun W => by rw [vn_in W x x, (sameV_iff x x).2 rfl]
                clear HA hT8 hF8 hF8' hb8 HAt HVA c0 HK HN HOx HDi HMe
                obtain ⟨xn', xv, xd⟩ := x
                simp only at y0 y1 y2 z0 z1 z2 hqq
                go_upto_region 28 with fail
                rw [HW8.out]
                clear HW8
                go_quiet (fail)
                all_goals (
                  go_wp2
                  exact ⟨⟨k + 1, by simp, by omega, hG8.then (Fr.drewN _ _ _)⟩, by simp [intOf]; omega⟩)
              · go_wp2
                go_ret
                exact ⟨rfl, hG5.then hFk⟩

theorem own : ownKnob Try.prog.godebug = none := by kernel_rfl
theorem laidOut : laidOutB Try.prog = true := by kernel_rfl
set_option maxHeartbeats 4000000 in
set_option maxRecDepth 100000 in
theorem lifted (os : Os) (started : os.Started) (H : Type) (enc : TypeId × Value → H) :
    ReturnsInHanded {} Try.checked os 3 .any (Rows.chainOrdersSpec.pre6 enc Try.prog Try.f3 Rows.chainOrdersRow.domain false) (Rows.chainOrdersSpec.post enc Try.prog Try.f3 false true false false) := by
  refine returnsInHanded_of_change_sized (C := Try.checked) own started (by kernel_rfl) Try.func3
    (ChangeSpec.witness6 (enc := enc) (C := Try.checked) false ⟨#[], #[.slice none 0 0, .int .u8 0], []⟩ 8 (by kernel_rfl) (by kernel_rfl) (by kernel_rfl) (by kernel_rfl)) ?_
  intro W base args ds gs before hval0 hW hcnd hsz0 _
  have hval : ∀ (j : Nat) t v, Try.f3.params[j]? = some t → args[j]? = some v → Value.okWide Try.prog W .any base t v := hval0
  have hsz : (DataW.weightsEach Try.prog (Try.f3.params.toList ++ Rows.chainOrdersSpec.plain.varTypes Try.prog) (ds ++ gs)).all (· ≤ reachBytes) = true := hsz0
  have hW' := hW
  obtain ⟨p, q, hA0, hV, rfl, hfz, hnd⟩ := hW
  have hA : DataW.TrodAll enc Try.prog W 0 (fun _ => true) true Try.f3.params.toList args.toList ds p := hA0
  rw [Try.params3] at hA hval hsz
  obtain ⟨v0, vs0, d0, ds0, p0, q0, hargs, rfl, rfl, h0, r0⟩ := trodAll_cons hA
  obtain ⟨v1, vs1, d1, ds1, p1, q1, rfl, rfl, rfl, h1, r1⟩ := trodAll_cons r0
  obtain ⟨rfl, rfl, rfl⟩ := trodAll_nil r1
  obtain rfl : args = #[v0, v1] := by cases args; simp_all
  obtain ⟨rfl, rfl⟩ := trodVars_none hV
  have k0 := h0
  have lt0 : ∀ x ∈ p0, x.block < W.heap.size := by obtain ⟨m, hm⟩ := k0; exact DataW.trod_lt m _ _ _ hm
  obtain ⟨a0, len0, cap0, xs0, rfl, hB0, hL0, hC0⟩ : ∃ ao L cap xs, v0 = .slice ao L cap ∧ VRs W ao xs ∧ L = xs.length ∧ L ≤ cap := by
    obtain ⟨fuel, hf⟩ := h0
    obtain ⟨ao, L, cap, rfl⟩ := okWide_slice Try.undVns' (hval 0 22 v0 rfl rfl)
    exact vs_open hf (fun n hn => of_decide_eq_true (List.all_eq_true.1 hsz n (DataW.weights_mem_each (j := 0) (t := 22) rfl rfl n hn)))
  obtain ⟨n1, rfl, rfl, rfl, w1⟩ := open_int Try.underlying5 (hval 1 5 v1 rfl rfl) h1
  have b1 := bounds_u8 w1
  obtain ⟨m1, rfl⟩ : ∃ m : Nat, n1 = (m : Int) := ⟨n1.toNat, by omega⟩
  clear hA0 hval0
  refine (walk a0 len0 cap0 xs0 m1 (by omega) W hB0 hL0 hC0).mono fun e W' ⟨he, hf⟩ => ?_
  subst he
  have bel : Below W.heap.size W W' := hf.below (Nat.le_refl _) (by simp)
  exact ⟨_, rfl, _, _, _, [], _, [], hW', trodAll_mk1 (shut_bool Try.underlying4 _), (trodAll_cons_mk (Below.trod laidOut (by kernel_rfl) (of_decide_eq_true (by kernel_rfl)) k0 bel lt0) (trodAll_cons_mk (shut_int Try.underlying5 w1) trodAll_mk0)), rfl, bel.frame _, fun h => by cases h⟩

theorem over : Rows.chainOrdersRow.holds Try.pinned (OpenSpec.ofChange Rows.chainOrdersSpec) :=
  OpenClaim.holds_of_wide 3 Try.f3 rfl rfl rfl rfl rfl rfl rfl ⟨rfl, rfl, rfl, rfl, rfl⟩ rfl rfl rfl rfl rfl (by kernel_rfl) Try.func3 (by kernel_rfl)
    (of_decide_eq_true (by kernel_rfl)) (by unfold Func.isWrapper; first | (rw [if_pos (by decide +kernel)]; kernel_rfl) | (rw [if_neg (by decide +kernel)]; exact ⟨rfl, rfl⟩))
    (fun os started H enc _ => lifted os started H enc)
end Go.Proofs.Ytlikpcbiogfgcaa.chainOrders
namespace Go.Proofs.Ytlikpcbiogfgcaa
theorem chainorders_holds : Rows.ChainOrdersSaid := chainOrders.over
#print axioms chainorders_holds
end Go.Proofs.Ytlikpcbiogfgcaa
