/- A checkpoint parted by shards: contracts of homesOf, living, Split. Conditions as each names them. -/
import Derived.Test.YtldghdbfhikcoaaGreatDoorCh18
import Derived.Test.YtldghdbfhikcoaaGreatDoorLk18
import Derived.Test.YtldghdbfhikcoaaGreatDoorCi13
namespace Go.Proofs.YtldghdbfhikcoaaGreatDoor
open Go.ChangeShapes Go.WideShapes Go.ChangeAt Go.RowKit Go.Lib Go.Maps
set_option linter.unusedVariables false
set_option linter.unusedSimpArgs false

/-- The shard of a key. -/
def homeOf (s : Int) (h : Hd) : Int := shN13 s h.key
theorem homeOf_lt (s : Int) (h : Hd) (h1 : 1 ≤ s) : 0 ≤ homeOf s h ∧ homeOf s h < s := by
  unfold homeOf shN13
  exact ⟨Int.emod_nonneg _ (by omega), Int.emod_lt_of_pos _ (by omega)⟩
theorem Cf.shard_ok {l s x q : Int} {key : ByteArray} (hm : Cf.may ⟨l, s, x, q⟩) (hk : okK9 key) : Cf.shard ⟨l, s, x, q⟩ key = (shN13 s key, 0) := by
  have hk' : 1 ≤ key.size ∧ key.size ≤ 64 := hk
  simp [Cf.shard, hm, hk']
/-- A row of numbers being filled. -/
structure Hm (w : World) (hb L i : Nat) (ns : List Int) : Prop where
  blk : ∃ cs : Array Value, w.heap[hb]? = some (.cells cs 3 (0, 0)) ∧ cs.size = L ∧ ∀ j, j < i → cs[j]? = some (.int .i64 (ns.getD j 0))
theorem Hm.keep {S : List Nat} {w w' : World} {hb L i : Nat} {ns : List Int} (h : Hm w hb L i ns) (hf : Fr S w w') (hn : hb ∉ S) : Hm w' hb L i ns := by
  obtain ⟨cs, h1, h2, h3⟩ := h.blk
  exact ⟨cs, hf.keep h1 hn, h2, h3⟩
theorem Hm.lt {w : World} {hb L i : Nat} {ns : List Int} (h : Hm w hb L i ns) : hb < w.heap.size := by
  obtain ⟨cs, h1, _⟩ := h.blk
  exact lt_of_block h1
theorem Hm.cell {w : World} {hb L i : Nat} {ns : List Int} (h : Hm w hb L i ns) (j : Nat) (hj : j < L) : ∃ v, w.cell? ⟨hb, j, none⟩ = some v ∧ w.frozen? ⟨hb, j, none⟩ = false := by
  obtain ⟨cs, h1, h2, _⟩ := h.blk
  exact ⟨cs[j]'(by omega), by rw [cell_of_row _ _ _ _ _ _ h1]; simp [h2, hj], vfrozen h1 j⟩
theorem row_put18 {w : World} {b j : Nat} {cs : Array Value} {t : TypeId} (x : Value) (h : w.heap[b]? = some (.cells cs t (0, 0))) : (w.setCell ⟨b, j, none⟩ x).heap[b]? = some (.cells (cs.setIfInBounds j x) t (0, 0)) := by
  have hlt := lt_of_block h
  have h' : w.heap[b] = .cells cs t (0, 0) := by simpa [Array.getElem?_eq_getElem hlt] using h
  show (w.heap.modify b _)[b]? = _
  rw [Array.getElem?_eq_getElem (by simpa using hlt), Array.getElem_modify_self, h']
  rfl
theorem Hm.put {w : World} {hb L i : Nat} {ns : List Int} (h : Hm w hb L i ns) (hi : i < L) : Hm (w.setCell ⟨hb, i, none⟩ (.int .i64 (ns.getD i 0))) hb L (i + 1) ns := by
  obtain ⟨cs, h1, h2, h3⟩ := h.blk
  refine ⟨_, row_put18 _ h1, by simpa using h2, fun j hj => ?_⟩
  by_cases hji : j = i
  · subst hji
    simp [h2, hi]
  · rw [Array.getElem?_setIfInBounds_ne (by omega)]
    exact h3 j (by omega)
theorem Hm.irs {w : World} {hb L : Nat} {ns : List Int} (h : Hm w hb L L ns) (hL : L = ns.length) (hl : L ≤ 17592186044416) : IRs w (some ⟨hb, 0, none⟩) ns := by
  obtain ⟨cs, h1, h2, h3⟩ := h.blk
  exact ⟨fun _ => ⟨hb, 0, rfl, lt_of_block h1, fun i hi => by rw [cell_of_row _ _ _ _ _ _ h1, Nat.zero_add]; exact h3 i (by omega)⟩, by omega⟩
theorem made_ints {w' : World} {b C : Nat} {ys : List Value} (ns : List Int) (h : w'.ownsRow 0 3 1 (.slice (some ⟨b, 0, none⟩) C C) C ys) : Hm w' b C 0 ns := by
  rcases h.2 with ⟨hh, _⟩ | ⟨g', cap', cur, hh, hb, hg, hnc, hcm, hcs, ht⟩
  · cases hh
  · cases hh
    exact ⟨cur, hg, by simpa using hcs, fun j hj => by omega⟩
set_option maxHeartbeats 8000000 in
set_option maxRecDepth 100000 in
theorem homes_any (l s x q : Int) (ho : Option Addr) (Lh ch : Nat) (hs : List Hd) (w : World) (hm : Cf.may ⟨l, s, x, q⟩) (hH : HRs w ho hs) (hLh : Lh = hs.length) (hk : ∀ h ∈ hs, okK9 h.key) :
    Calls Tryz.prog 93 #[.agg #[.int .i64 l, .int .i64 s, .int .i64 x, .int .i64 q], .slice ho Lh ch] w fun e w' => ∃ hb, e = .returned (.slice (some ⟨hb, 0, none⟩) Lh Lh) ∧ IRs w' (some ⟨hb, 0, none⟩) (hs.map (homeOf s)) ∧ Fr [] w w' := by
  obtain ⟨iI, hiI, hzI, hsI, hbI⟩ := infoI_parts
  have HLh : Hid (Lh = hs.length) := hLh
  have hLL : Lh ≤ 3518437208882 := by have := hH.few; omega
  have HK : Hid (∀ h ∈ hs, okK9 h.key) := hk
  have HM : Hid (Cf.may ⟨l, s, x, q⟩) := hm
  obtain ⟨w1, HW1⟩ : ∃ w1, Hid (w.alloc (.cells #[.int .i64 l, .int .i64 s, .int .i64 x, .int .i64 q] 58) = w1) := ⟨_, rfl⟩
  have hF1 : Fr [] w w1 := by rw [← HW1.out]; exact Fr.alloc [] w _
  have hC1 : CfM w1 w.heap.size l s x q := by rw [← HW1.out]; exact CfM.new _ _ _ _ _ _
  have hc1 := hC1.1
  have HH : Hid (∀ W, Fr [] w1 W → HRs W ho hs) := fun W hf => hH.keep (hF1.then hf)
  have HF1 : Hid (Fr [] w w1) := hF1
  have HC1 : Hid (∀ W, Fr [] w1 W → CfM W w.heap.size l s x q) := fun W hf => hC1.keep hf
  clear hH hLh hk hm hF1 hC1
  go_enter Tryz.func93, Tryz.ntmps93
  go_upto_region 1 with fail
  rw [HW1.out]
  go_wp2_with (at_make; refine wpList_make_full _ rfl (.tmp 9) (.tmp 9) 22 rfl 0 3 iI _ 1 Tryz.undIs11 hiI hzI hsI .i64 .i64 Lh Lh Lh rfl rfl rfl rfl ?b2 ?b3 ?b4 ?_)
  case b2 => rw [hbI]; omega
  case b3 => unfold maxLen; omega
  case b4 => exact Nat.zero_le _
  intro w2 hown hgrow
  have hF2 : Fr [] w1 w2 := Fr.grown (S := []) hgrow (by simp)
  have HM2 : Hid (Hm w2 w1.heap.size Lh 0 (hs.map (homeOf s))) := made_ints _ hown
  have HF2 : Hid (Fr [] w1 w2) := hF2
  obtain ⟨hb, hhb⟩ : ∃ hb, hb = w1.heap.size := ⟨_, rfl⟩
  rw [← hhb] at HM2 ⊢
  have hb1 : w1.heap.size ≤ hb := by omega
  clear hown hgrow hF2 hhb
  go_wp2_with fail
  go_loopw [13] (fun ii wr => ∃ (i : Nat), ii = .int .i64 i ∧ i ≤ Lh ∧ Hid (Hm wr hb Lh i (hs.map (homeOf s))) ∧ Hid (Fr [] w1 wr)) (fun ii _ => Lh - (RowKit.intOf ii).toNat)
  case atStart => exact ⟨0, rfl, Nat.zero_le _, HM2, HF2⟩
  case round =>
    obtain ⟨i, rfl, hiL, HR, HF⟩ := hrel
    by_cases hi : i < Lh
    · have hi' : i < hs.length := by rw [← HLh.out]; exact hi
      have hlt : (i : Int) < Lh := by omega
      have hHr := HH.out _ HF.out
      obtain ⟨pb, off, rfl, hpb, hat⟩ := hHr.lies (by omega)
      obtain ⟨c0, c1⟩ := hat i hi'
      have hok := HK.out _ (hgetD_mem hs i hi')
      have hhome : (hs.map (homeOf s)).getD i 0 = homeOf s (hs.getD i Hd.zero) := by simp [List.getD, hi']
      obtain ⟨y, hy⟩ : ∃ y, y = hs.getD i Hd.zero := ⟨_, rfl⟩
      rw [← hy] at c0 c1 hok hhome
      obtain ⟨key, vo, Lv, cv, vs⟩ := y
      simp only at c0 c1 hok
      obtain ⟨w4, HW4⟩ : ∃ w4, Hid (wr.alloc (.cells #[.string key, .slice vo Lv cv] 73) = w4) := ⟨_, rfl⟩
      have hF4 : Fr [] wr w4 := by rw [← HW4.out]; exact Fr.alloc [] wr _
      have hb4 : w4.heap[wr.heap.size]? = some (.cells #[.string key, .slice vo Lv cv] 73 (0, 0)) := by rw [← HW4.out]; exact heap_alloc_new wr _
      have x0 : w4.cell? ⟨wr.heap.size, 0, none⟩ = some (.string key) := by rw [cell_of_row _ _ _ _ _ _ hb4]; rfl
      obtain ⟨_, f0, f1, f2, f3⟩ := HC1.out _ (HF.out.then hF4)
      have hSh := shard_any l s x q key w4 (by have := hok.2; omega)
      rw [Cf.shard_ok HM.out hok] at hSh
      have e1 : shN13 s key = (hs.map (homeOf s)).getD i 0 := by rw [hhome]; rfl
      simp only at hSh
      rw [e1] at hSh
      have HSh : Hid (Calls _ _ _ _ _) := hSh
      have HF4 : Hid (Fr [] w1 w4) := HF.out.then hF4
      have HR4 : Hid (∀ W, Fr [] w4 W → Hm W hb Lh i (hs.map (homeOf s))) := fun W hf => HR.out.keep (hF4.then hf) (by simp)
      obtain ⟨N, hN⟩ : ∃ N, N = (hs.map (homeOf s)).getD i 0 := ⟨_, rfl⟩
      rw [← hN] at HSh
      have HN : Hid (N = (hs.map (homeOf s)).getD i 0) := hN
      clear hat hpb hHr hy hb4 hF4 hSh HR HF hok hhome e1 hN
      go_upto_region 5 with fail
      rw [HW4.out]
      go_wp2_with fail
      refine Calls.mono HSh.out ?_
      rintro e w5 ⟨rfl, hF5⟩
      have hM5 := HR4.out _ hF5
      obtain ⟨v5, g0, g1⟩ := hM5.cell i hi
      have hp := hM5.put hi
      rw [← HN.out] at hp
      have HP : Hid (Hm (w5.setCell ⟨hb, i, none⟩ (.int .i64 N)) hb Lh (i + 1) (hs.map (homeOf s))) := hp
      have HF6 : Hid (Fr [] w1 (w5.setCell ⟨hb, i, none⟩ (.int .i64 N))) := (HF4.out.then hF5).on (Fr.set _ ⟨hb, i, none⟩ _ (by simp) : Fr [hb] _ _) (by intro k hk; simp at hk; omega)
      clear hM5 hF5 hp HSh HR4
      go_wp2_with fail
      go_roundw
      case rel => exact ⟨i + 1, by simp, by omega, HP, HF6⟩
      case measure => simp [RowKit.intOf]; omega
    · have hiL2 : i = Lh := by omega
      have HR2 : Hid (IRs wr (some ⟨hb, 0, none⟩) (hs.map (homeOf s)) ∧ Fr [] w wr) := ⟨(by have h1 := HR.out; rw [hiL2] at h1; exact h1.irs (by rw [List.length_map]; exact HLh.out) (by omega)), HF1.out.then HF.out⟩
      have hlt : ¬ (i : Int) < Lh := by omega
      clear hiL2 HR HF
      go_wp2
      go_ret
      exact ⟨hb, rfl, HR2.out.1, HR2.out.2⟩
end Go.Proofs.YtldghdbfhikcoaaGreatDoor
