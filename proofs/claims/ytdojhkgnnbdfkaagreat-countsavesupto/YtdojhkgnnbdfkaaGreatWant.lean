/- What the document's writer does (Var, Int, Text, Fixed behind other bytes, in a row of one's own), and that a writer which is not there does nothing. Conditions: fewer than 2^40 bytes. -/
import Derived.Test.YtdojhkgnnbdfkaaGreatAp
namespace Go.Proofs.YtdojhkgnnbdfkaaGreat
open Go.ChangeShapes Go.WideShapes Go.ChangeAt Go.RowKit Go.Lib

/-- A row of bytes of one's own. -/
def Wn (w : World) (v : Value) (xs : List Nat) : Prop := w.ownsRow 0 5 1 v xs.length (bts xs)
/-- It became another one, and nothing else was written. -/
structure WnTo (w : World) (v : Value) (w' : World) (v' : Value) (ys : List Nat) : Prop where
  wn : Wn w' v' ys
  fr : Fr v.ownBlock.toList w w'
  mv : Moved w.heap.size v v'
theorem Wn.refl {w : World} {v : Value} {xs : List Nat} (h : Wn w v xs) : WnTo w v w v xs := ⟨h, Fr.refl _ _, Moved.refl _ _⟩
theorem moved_mem {n : Nat} {v v' : Value} (h : Moved n v v') {x : Nat} (hx : x ∈ v'.ownBlock.toList) (hn : x < n) : x ∈ v.ownBlock.toList := by
  have hx' : v'.ownBlock = some x := by simpa using hx
  rcases h with h | ⟨k, h1, h2⟩
  · rw [← h]; exact hx
  · rw [hx'] at h1; cases h1; omega
theorem WnTo.then {w w1 w2 : World} {v v1 v2 : Value} {xs ys : List Nat} (h : WnTo w v w1 v1 xs) (k : WnTo w1 v1 w2 v2 ys) : WnTo w v w2 v2 ys :=
  ⟨k.wn, h.fr.trans k.fr (fun _ hx _ => hx) (fun _ hx hn => moved_mem h.mv hx hn), h.mv.trans k.mv h.fr.size⟩
theorem WnTo.step {w wr w1 : World} {v v' v2 : Value} {ys : List Nat} {z n : Nat} {cs : List Value} {o : Obj} (h : WnTo w v wr v' ys) (hown : w1.ownsRow 0 5 1 v2 n cs) (hn : n = (ys ++ [z]).length) (hcs : cs = bts (ys ++ [z])) (hg : (wr.alloc o).grownBy w1 v'.ownBlock) {k : Nat} (hm : Moved k v' v2) (hk : wr.heap.size ≤ k) : WnTo w v w1 v2 (ys ++ [z]) := by
  subst hn
  subst hcs
  have hFa : Fr [] wr (wr.alloc o) := Fr.alloc [] _ _
  have hFg : Fr v'.ownBlock.toList (wr.alloc o) w1 := Fr.grown hg (by intro k hk _; rw [hk]; simp)
  refine ⟨hown, h.fr.trans (hFa.trans hFg (by simp) (fun x hx _ => hx)) (fun _ hx _ => hx) (fun _ hx hn => moved_mem h.mv hx hn), h.mv.trans hm (Nat.le_trans h.fr.size hk)⟩
theorem Wn.slice {w : World} {v : Value} {xs : List Nat} (h : Wn w v xs) : ∃ ao cap, v = .slice ao xs.length cap := own_slice h
theorem Wn.keep {S : List Nat} {w w' : World} {v : Value} {xs : List Nat} (h : Wn w v xs) (hf : Fr S w w') (hn : ∀ k, v.ownBlock = some k → k ∉ S) : Wn w' v xs := owns_keep h hf hn
theorem Wn.rs {w : World} {ao : Option Addr} {n cap : Nat} {xs : List Nat} (h : Wn w (.slice ao n cap) xs) (hl : xs.length < 2^41) : Rs w ao xs := by
  refine ⟨fun h0 => ?_, hl⟩
  obtain ⟨g, c, e, _⟩ := own_form h h0
  cases e
  refine ⟨g, 0, rfl, fun j hj => ?_⟩
  rw [Nat.zero_add, World.ownsRow.cellAt h j (by omega)]
  exact bts_get xs j hj

set_option maxHeartbeats 2000000 in
set_option maxRecDepth 100000 in
theorem refVar_any (v : Value) (xs : List Nat) (N : Nat) (w : World) (h : Wn w v xs) (hN : N < 2^64) (hlen : xs.length < 2^40) :
    Calls Tryz.prog 58 #[v, .int .u64 (N : Int)] w fun e w' => ∃ ao n cap, e = .returned (.slice ao n cap) ∧ WnTo w v w' (.slice ao n cap) (xs ++ enc N) := by
  obtain ⟨i0, hi, hz0, hz1, hz2⟩ := info_parts Tryz.infoB
  have hlen0 := enc_length N
  obtain ⟨zs, hzs⟩ : ∃ zs, zs = xs ++ enc N := ⟨_, rfl⟩
  rw [← hzs]
  have hzl : zs.length < 2^40 + 10 := by rw [hzs, List.length_append]; omega
  have E0 : Hid (zs = xs ++ enc N) := hzs
  clear hzs
  go_enter Tryz.func58, Tryz.ntmps58
  go_wp2_with fail
  go_loopw [0, 1] (fun bb vv wr => ∃ (m : Nat) (v' : Value) (ys : List Nat), bb = v' ∧ vv = .int .u64 m ∧ m < 2^64 ∧ Hid (zs = ys ++ enc m) ∧ Hid (WnTo w v wr v' ys)) (fun _ vv _ => (intOf vv).toNat)
  case atStart => exact ⟨N, v, xs, rfl, rfl, hN, E0, h.refl⟩
  case round =>
    obtain ⟨m, v', ys, rfl, rfl, hm, E, HW⟩ := hrel
    obtain ⟨ao, cap, hv⟩ := HW.out.wn.slice
    obtain ⟨L, hL⟩ : ∃ L, L = ys.length := ⟨_, rfl⟩
    have hLs : L < 2^40 + 10 := by have := congrArg List.length E.out; simp only [List.length_append] at this; omega
    rw [← hL] at hv
    subst hv
    have HL : Hid (L = ys.length) := hL
    clear hL
    have HO : Hid (wr.ownsRow 0 5 1 (.slice ao L cap) L (bts ys)) := by rw [HL.out]; have := HW.out.wn; rw [HL.out] at this; exact this
    by_cases h128 : 128 ≤ m
    · have hb : (128 + (m : Int) % 128) % 256 = ((128 + m % 128 : Nat) : Int) := by omega
      have hq : IntKind.u64.wrap ((m : Int).tdiv 128) = ((m / 128 : Nat) : Int) := by rw [wr_u64, Int.tdiv_eq_ediv_of_nonneg (by omega)]; omega
      go_wp2_with (at_builtin; refine wpList_app1 _ rfl (.tmp 7) (.tmp 12) 76 rfl 5 i0 (.int .u8 0) 1 1 Tryz.undBs hi hz0 hz1 hz2 rfl (by decide) _ L _ rfl (HO.out.alloc _) ⟨wr.heap.size, 0, none⟩ 1 [.int .u8 ((128 + m % 128 : Nat) : Int)] rfl rfl ?c1 ?c2 ?c3 ?c4 ?_)
      case c1 => intro j u hj; match j, hj with | 0, hj => simp at hj; subst hj; simp [Addr.add]
      case c2 => intro u hu; simp at hu; subst hu; rfl
      case c3 => omega
      case c4 => unfold maxLen; omega
      intro g' cap' w1 hown hgrow hmov
      have HR : Hid (WnTo w v w1 (.slice (some ⟨g', 0, none⟩) (L + 1) cap') (ys ++ [128 + m % 128])) := HW.out.step (z := 128 + m % 128) hown (by simp [HL.out]) (by rw [bts_append]; rfl) hgrow hmov (by omega)
      have HE : Hid (zs = (ys ++ [128 + m % 128]) ++ enc (m / 128)) := by have := E.out; rw [enc_high m h128 hm] at this; show _ = _; rw [this]; simp
      clear hown hgrow hmov HO
      go_wp2
      go_roundw
      case rel => exact ⟨m / 128, _, _, rfl, rfl, by omega, HE, HR⟩
      case measure => simp [intOf]; omega
    · have hb : (m : Int) % 256 = (m : Int) := by omega
      go_wp2_with (at_builtin; refine wpList_app1 _ rfl (.tmp 16) (.tmp 19) 76 rfl 5 i0 (.int .u8 0) 1 1 Tryz.undBs hi hz0 hz1 hz2 rfl (by decide) _ L _ rfl (HO.out.alloc _) ⟨wr.heap.size, 0, none⟩ 1 [.int .u8 (m : Int)] rfl rfl ?c1 ?c2 ?c3 ?c4 ?_)
      case c1 => intro j u hj; match j, hj with | 0, hj => simp at hj; subst hj; simp [Addr.add]
      case c2 => intro u hu; simp at hu; subst hu; rfl
      case c3 => omega
      case c4 => unfold maxLen; omega
      intro g' cap' w1 hown hgrow hmov
      have HE : Hid (zs = ys ++ [m]) := by have := E.out; rw [enc_low m (by omega)] at this; exact this
      have HR : Hid (WnTo w v w1 (.slice (some ⟨g', 0, none⟩) (L + 1) cap') zs) := by rw [HE.out]; exact HW.out.step (z := m) hown (by simp [HL.out]) (by rw [bts_append]; rfl) hgrow hmov (by omega)
      clear hown hgrow hmov HO
      go_wp2
      go_ret
      exact ⟨_, _, _, rfl, HR.out⟩
