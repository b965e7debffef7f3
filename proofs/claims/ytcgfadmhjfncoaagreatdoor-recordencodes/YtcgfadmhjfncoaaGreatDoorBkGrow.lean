/- What the Book's growByte does: more is put behind each held list, which stays as it is; nothing else is written. Conditions: no two held lists share a block. -/
import Derived.Test.YtcgfadmhjfncoaaGreatDoorBkFill
namespace Go.Proofs.YtcgfadmhjfncoaaGreatDoor
open Go.ChangeShapes Go.WideShapes Go.ChangeAt Go.RowKit Go.Lib
set_option linter.unusedVariables false
variable {m : Nat} {wv : Value}

structure GIn (w1 : World) (l : Value) (n M k : Nat) (v : Value) (w : World) : Prop where
  own : w.ownsRow 0 5 1 v (n + k) (List.replicate (n + k) (mkV M))
  rds : Rds w l n (mkV M)
  fr : Fr l.ownBlock.toList w1 w
  plc : v.ownBlock = l.ownBlock ∨ ∃ g, v.ownBlock = some g ∧ w1.heap.size ≤ g
theorem Rds.own0 {w : World} {l v : Value} {n m : Nat} {x : Value} (h : w.ownsRow 0 5 1 v m (List.replicate m x)) (hm : n ≤ m) (he : v.ownBlock = l.ownBlock) {w0 : World} (r : Rds w0 l n x) : Rds w l n x := by
  obtain ⟨ao, cap, rfl, hc, hr⟩ := r.shape
  refine ⟨⟨ao, cap, rfl, hc, fun h0 => ?_⟩, fun k hk => own_type h k (by rw [he]; exact hk)⟩
  obtain ⟨b, rfl, _⟩ := hr h0
  obtain ⟨g, c, rfl, _⟩ := own_form h (by omega)
  simp [Value.ownBlock] at he
  subst he
  refine ⟨g, rfl, fun j hj => ?_⟩
  rw [h.cellAt j (by omega)]
  simp [show j < m by omega]
theorem GIn.next {w1 w w' : World} {l v : Value} {n M k g cap : Nat} (h : GIn w1 l n M k v w) (o : Obj) (hO : w'.ownsRow 0 5 1 (.slice (some ⟨g, 0, none⟩) (n + k + 1) cap) (n + k + 1) (List.replicate (n + k) (mkV M) ++ [mkV M])) (hW : Went (w.alloc o) v g w') (hl : ∀ k, l.ownBlock = some k → k < w1.heap.size) :
    GIn w1 l n M (k + 1) (.slice (some ⟨g, 0, none⟩) (n + k + 1) cap) w' := by
  have e : List.replicate (n + k) (mkV M) ++ [mkV M] = List.replicate (n + k + 1) (mkV M) := by rw [List.replicate_succ']
  rw [e] at hO
  have hFa : Fr [] w (w.alloc o) := Fr.alloc [] _ _
  have hs1 := h.fr.size
  have hs2 := hFa.size
  rcases hW with ⟨hv, hg⟩ | ⟨hv, hg⟩
  · have hFg : Fr [g] (w.alloc o) w' := Fr.grown hg (by intro k hk _; cases hk; simp)
    rcases h.plc with hp | ⟨g', hp, hge⟩
    · have hlg : l.ownBlock = some g := by rw [← hp, hv]
      refine ⟨hO, Rds.own0 hO (by omega) hlg.symm h.rds, ?_, Or.inl hlg.symm⟩
      rw [hlg]
      have := h.fr
      rw [hlg] at this
      exact this.trans (hFa.trans hFg (by simp) (fun x hx _ => hx)) (fun x hx _ => hx) (fun x hx _ => by simpa using hx)
    · rw [hv] at hp
      cases hp
      have hne : ∀ k, l.ownBlock = some k → k ≠ g := by intro k hk; have := hl k hk; omega
      have hF : Fr [g] w w' := hFa.trans hFg (by simp) (fun x hx _ => hx)
      refine ⟨hO, h.rds.keep hF (by intro k hk hm; exact hne k hk (by simpa using hm)), h.fr.trans hF (fun x hx _ => hx) ?_, Or.inr ⟨g, rfl, hge⟩⟩
      intro x hx hxl
      simp at hx
      omega
  · have hFg : Fr [] (w.alloc o) w' := Fr.grown hg (by simp)
    have hF := hFa.then hFg
    refine ⟨hO, h.rds.keep hF (by simp), h.fr.trans hF (fun x hx _ => hx) (by simp), Or.inr ⟨g, rfl, by omega⟩⟩

structure GrowInv (m : Nat) (wv : Value) (w0 : World) (bk : Nat) (rv : Value) (hs0 : List HB) (i : Nat) (hs : List HB) (w : World) : Prop where
  bk : Bk m wv w bk rv hs
  len : hs.length = hs0.length
  same : ∀ (j : Nat) (a : HB), hs[j]? = some a → ∃ b, hs0[j]? = some b ∧ a.l = b.l ∧ a.n = b.n
  done : ∀ (j : Nat) (a : HB), hs[j]? = some a → j < i → P2 w a
  left : ∀ (j : Nat) (a : HB), hs[j]? = some a → i ≤ j → P1 w a ∧ a.long = .slice none 0 0
  sep : ∀ (j : Nat) (a : HB), hs[j]? = some a → ∀ k, a.long.ownBlock = some k → a.l.ownBlock = some k ∨ w0.heap.size ≤ k
  apart : ∀ (j j' : Nat) (a b : HB), hs[j]? = some a → hs[j']? = some b → j ≠ j' → ∀ k, a.long.ownBlock = some k → b.long.ownBlock ≠ some k
  fr : Fr (rv.ownBlock.toList ++ lbs hs0) w0 w
theorem GrowInv.next {w0 w w1 w2 : World} {bk rb cap : Nat} {N : Nat} {hs0 hs : List HB} {i : Nat} {e : HB} {v : Value} {n : Nat} (h : GrowInv m wv w0 bk (.slice (some ⟨rb, 0, none⟩) N cap) hs0 i hs w) (ha : Alone hs0) (hold : ∀ (j : Nat) (a : HB), hs0[j]? = some a → ∀ k, a.l.ownBlock = some k → k < w0.heap.size)
    (hi : hs[i]? = some e) (hN : N = hs.length) (hf1 : Fr [] w w1) (hG : GIn w1 e.l n e.n 70 v w2) (hn : n < 2^40) :
    GrowInv m wv w0 bk (.slice (some ⟨rb, 0, none⟩) N cap) hs0 (i + 1) (hs.set i { e with long := v }) (w2.setCell ⟨rb, i * 3 + 1, none⟩ v) := by
  have hlt : i < hs.length := (List.getElem?_eq_some_iff.1 hi).1
  have hf : Fr e.l.ownBlock.toList w w2 := hf1.trans hG.fr (by simp) (fun x hx _ => hx)
  obtain ⟨hP1e, _⟩ := h.left i e hi (Nat.le_refl _)
  have hte := hP1e.type
  have hw0 := h.fr.size
  have hw1 := hf1.size
  have hw2 := hG.fr.size
  obtain ⟨e0, he0, hel, hen⟩ := h.same i e hi
  -- the old blocks of the others are none of e's
  have hoth : ∀ (j : Nat) (b : HB), hs[j]? = some b → j ≠ i → ∀ k, b.l.ownBlock = some k → k ∉ e.l.ownBlock.toList := by
    intro j b hb hne k hk hm
    obtain ⟨b0, hb0, hbl, _⟩ := h.same j b hb
    exact ha j i b0 e0 hb0 he0 hne k (by rw [← hbl]; exact hk) (by rw [← hel]; simpa using hm)
  have hothl : ∀ (j : Nat) (b : HB), hs[j]? = some b → j ≠ i → ∀ k, b.long.ownBlock = some k → k ∉ e.l.ownBlock.toList := by
    intro j b hb hne k hk hm
    have hek : e.l.ownBlock = some k := by simpa using hm
    rcases h.sep j b hb k hk with hs' | hge
    · exact hoth j b hb hne k hs' hm
    · have := hold i e0 he0 k (by rw [← hel]; exact hek)
      omega
  have hbk2 : Bk m wv w2 bk (.slice (some ⟨rb, 0, none⟩) N cap) hs := by
    refine h.bk.keep hf ?_ ?_
    · intro hm
      obtain ⟨cs, hc⟩ := hte bk (by simpa using hm)
      exact (h.bk.apart hc).1 rfl
    · intro k hk hm
      obtain ⟨cs, hc⟩ := hte k (by simpa using hm)
      exact (h.bk.apart hc).2 hk
  have hrow2 := hbk2.row
  rw [← hN] at hrow2
  have hput := own_put hrow2 (i * 3 + 1) v
  rw [← rowOf_set hs i e hi v] at hput
  have hfs : Fr [rb] w2 (w2.setCell ⟨rb, i * 3 + 1, none⟩ v) := Fr.set _ _ _ (by simp)
  have hrb : ∀ k cs, w2.heap[k]? = some (.cells cs 5 (0, 0)) → k ∉ [rb] := by
    intro k cs hk hm
    exact (hbk2.apart hk).2 (by simp at hm; rw [hm]; rfl)
  have hset : ∀ (j : Nat) (a : HB), (hs.set i { e with long := v })[j]? = some a → (j = i ∧ a = { e with long := v }) ∨ (j ≠ i ∧ hs[j]? = some a) := by
    intro j a ha'
    by_cases hji : j = i
    · subst hji
      rw [List.getElem?_set_self hlt] at ha'
      exact Or.inl ⟨rfl, by cases ha'; rfl⟩
    · rw [List.getElem?_set_ne (fun e => hji e.symm)] at ha'
      exact Or.inr ⟨hji, ha'⟩
  have hlg := hG.own.lt
  refine ⟨⟨?_, ?_, ?_⟩, ?_, ?_, ?_, ?_, ?_, ?_, ?_⟩
  · rw [List.length_set]
    exact hfs.keep hbk2.box (by intro hm; simp at hm; exact hbk2.other (by rw [hm]; rfl))
  · rw [List.length_set, ← hN]
    exact hput
  · rw [List.length_set]; exact hbk2.few
  · rw [List.length_set, h.len]
  · intro j a haj
    rcases hset j a haj with ⟨rfl, rfl⟩ | ⟨_, haj⟩
    · exact ⟨e0, he0, hel, hen⟩
    · exact h.same j a haj
  · intro j a haj hj
    rcases hset j a haj with ⟨rfl, rfl⟩ | ⟨hne, haj⟩
    · refine P2.keep (S := [rb]) ⟨n, hG.rds, hG.own, hn⟩ hfs ?_ ?_
      · intro k hk
        obtain ⟨cs, hc⟩ := hG.rds.type k hk
        exact hrb k cs hc
      · intro k hk
        obtain ⟨cs, hc⟩ := own_type hG.own k hk
        exact hrb k cs hc
    · have hp := (h.done j a haj (by omega)).keep hf (hoth j a haj hne) (hothl j a haj hne)
      obtain ⟨m, q1, q2, q3⟩ := hp
      refine P2.keep (S := [rb]) ⟨m, q1, q2, q3⟩ hfs ?_ ?_
      · intro k hk
        obtain ⟨cs, hc⟩ := q1.type k hk
        exact hrb k cs hc
      · intro k hk
        obtain ⟨cs, hc⟩ := own_type q2 k hk
        exact hrb k cs hc
  · intro j a haj hj
    rcases hset j a haj with ⟨rfl, rfl⟩ | ⟨hne, haj⟩
    · omega
    · obtain ⟨hp, hnil⟩ := h.left j a haj (by omega)
      have hp2 := hp.keep hf (hoth j a haj hne)
      exact ⟨hp2.keep hfs (by intro k hk; obtain ⟨cs, hc⟩ := hp2.type k hk; exact hrb k cs hc), hnil⟩
  · intro j a haj k hk
    rcases hset j a haj with ⟨rfl, rfl⟩ | ⟨hne, haj⟩
    · rcases hG.plc with hp | ⟨g, hp, hge⟩
      · exact Or.inl (by rw [← hp]; exact hk)
      · rw [hp] at hk
        cases hk
        exact Or.inr (by omega)
    · exact h.sep j a haj k hk
  · have key : ∀ (j : Nat) (b : HB), hs[j]? = some b → j ≠ i → ∀ k, v.ownBlock = some k → b.long.ownBlock ≠ some k := by
      intro j b hb hne k hk hbk
      rcases hG.plc with hp | ⟨g, hp, hge⟩
      · rw [hp] at hk
        exact hothl j b hb hne k hbk (by simpa using hk)
      · rw [hp] at hk
        cases hk
        by_cases hji : j < i
        · obtain ⟨m, _, q2, _⟩ := h.done j b hb hji
          have := (q2.lt k hbk).2
          omega
        · obtain ⟨_, hnil⟩ := h.left j b hb (by omega)
          rw [hnil] at hbk
          simp [Value.ownBlock] at hbk
    intro j j' a b haj hbj hne k hk hk'
    rcases hset j a haj with ⟨hj, ea⟩ | ⟨hnj, haj2⟩
    · rcases hset j' b hbj with ⟨hj', _⟩ | ⟨hnj', hbj2⟩
      · exact hne (hj.trans hj'.symm)
      · rw [ea] at hk
        exact key j' b hbj2 hnj' k hk hk'
    · rcases hset j' b hbj with ⟨_, eb⟩ | ⟨hnj', hbj2⟩
      · rw [eb] at hk'
        exact key j a haj2 hnj k hk' hk
      · exact h.apart j j' a b haj2 hbj2 hne k hk hk'
  · refine (h.fr.trans hf (fun x hx _ => hx) ?_).trans hfs (fun x hx _ => hx) ?_
    · intro x hx _
      refine List.mem_append_right _ (mem_lbs.2 ⟨e0, List.mem_of_getElem? he0, ?_⟩)
      rw [← hel]
      simpa using hx
    · intro x hx _
      simp at hx
      subst hx
      simp [Value.ownBlock]

set_option maxHeartbeats 4000000 in
set_option maxRecDepth 100000 in
theorem growByte_any (bk : Nat) (rv : Value) (hs0 : List HB) (w : World) (h : Bk m wv w bk rv hs0) (h1 : ∀ (j : Nat) (h : HB), hs0[j]? = some h → P1 w h) (ha : Alone hs0) (hn : Num m hs0) (hfre : Fresh hs0) :
    Calls Tryz.prog 42 #[.pointer (some ⟨bk, 0, none⟩)] w fun e w' => e = .returned (.tuple #[]) ∧ ∃ hs, Hid (GrowInv m wv w bk rv hs0 hs0.length hs w') := by
  obtain ⟨i0, hi0, hz0, hz1, hz2⟩ := info_parts Tryz.infoB
  have hold : ∀ (j : Nat) (a : HB), hs0[j]? = some a → ∀ k, a.l.ownBlock = some k → k < w.heap.size := by
    intro j a haj k hk
    obtain ⟨cs, hc⟩ := (h1 j a haj).type k hk
    exact lt_of_block hc
  have HI0 : Hid (GrowInv m wv w bk rv hs0 0 hs0 w) := by
    refine ⟨h, rfl, fun j a haj => ⟨a, haj, rfl, rfl⟩, fun _ _ _ hj => by omega, fun j a haj _ => ⟨h1 j a haj, hfre j a haj⟩, ?_, ?_, Fr.refl _ _⟩
    · intro j a haj k hk
      rw [hfre j a haj] at hk
      simp [Value.ownBlock] at hk
    · intro j j' a b haj _ _ k hk
      rw [hfre j a haj] at hk
      simp [Value.ownBlock] at hk
  obtain ⟨N, HN⟩ : ∃ N, Hid (N = hs0.length) := ⟨_, rfl⟩
  have hfew := h.few
  rw [← HN.out] at hfew
  obtain ⟨rao, rcap, hrv⟩ := own_slice h.row
  rw [← HN.out] at hrv
  clear h h1
  subst hrv
  go_enter Tryz.func42, Tryz.ntmps42
  go_wp2_with fail
  go_loopw [2] (fun ii wr => ∃ (i : Nat) (hs : List HB), ii = .int .i64 i ∧ i ≤ N ∧ Hid (GrowInv m wv w bk (.slice rao N rcap) hs0 i hs wr)) (fun ii _ => N - (intOf ii).toNat)
  case atStart => exact ⟨0, hs0, rfl, Nat.zero_le _, HI0⟩
  case round =>
    clear HI0
    obtain ⟨i, hs, rfl, hiN, HI⟩ := hrel
    have c1 := HI.out.bk.c1
    by_cases hi : i < N
    · have HN2 : Hid (N = hs.length) := by show _ = _; rw [HI.out.len, HN.out]
      obtain ⟨e, he⟩ : ∃ e, hs[i]? = some e := ⟨_, List.getElem?_eq_getElem (by rw [← HN2.out]; exact hi)⟩
      have HE : Hid (hs[i]? = some e) := he
      obtain ⟨rb, rc, hrv, hrc, d0, d1, d2⟩ := HI.out.bk.at i e he
      rw [← HN2.out] at hrv hrc
      cases hrv
      have hen : e.n < 1048577 := by
        obtain ⟨b, hb, _, hbn⟩ := HI.out.same i e he
        rw [hbn, hn i b hb]
        omega
      obtain ⟨⟨n, hO, hn40⟩, hnil⟩ := HI.out.left i e he (Nat.le_refl _)
      obtain ⟨lao, lcap, hl⟩ := own_slice hO
      have HLe : Hid (e.l = .slice lao n lcap) := hl
      rw [hnil] at d1
      rw [hl] at d0 hO
      have hlc : n ≤ lcap := by
        rcases hO.2 with ⟨hh, h0⟩ | ⟨_, _, _, hh, _, _, hnc, _⟩
        · cases hh; omega
        · cases hh; exact hnc
      obtain ⟨M, HM⟩ : ∃ M, Hid (M = e.n) := ⟨_, rfl⟩
      rw [← HM.out] at d2 hen hO
      clear he hl hnil
      go_wp2_with fail
      obtain ⟨hv, hhv⟩ : ∃ hv, hv = wr.heap.size := ⟨_, rfl⟩
      obtain ⟨w1, hw1⟩ : ∃ w1, w1 = wr.alloc (Obj.cells #[.slice lao n lcap, .slice none 0 0, .int .i64 (M : Int)] 79) := ⟨_, rfl⟩
      rw [← hw1, ← hhv]
      have hF1 : Fr [] wr w1 := by rw [hw1]; exact Fr.alloc [] _ _
      have hvb : w1.heap[hv]? = some (.cells #[.slice lao n lcap, .slice none 0 0, .int .i64 (M : Int)] 79 (0, 0)) := by rw [hw1, hhv]; exact heap_alloc_new wr _
      have hlt : ∀ k, (Value.slice lao n lcap).ownBlock = some k → k < w1.heap.size ∧ k ≠ hv := by
        intro k hk
        have := (hO.lt k hk).2
        have := hF1.size
        omega
      have hO1 := owns_keep hO hF1 (by simp)
      clear hO hw1 hhv d0 d1 d2 c1
      have HG0 : Hid (GIn w1 (.slice lao n lcap) n M 0 (.slice lao n lcap) w1) := by
        refine ⟨hO1, ?_, Fr.refl _ _, Or.inl rfl⟩
        refine Rds.of_own hO1 (Nat.le_refl _) rfl hlc ?_
        intro a ha'
        rcases hO1.2 with ⟨hh, _⟩ | ⟨g, _, _, hh, _⟩
        · cases hh; cases ha'
        · cases hh; cases ha'; exact ⟨rfl, rfl⟩
      clear hO1
      go_loopw [4, 5] (fun vv kk wr' => ∃ (k : Nat) (vao : Option Addr) (vcap : Nat), vv = .slice vao (n + k) vcap ∧ kk = .int .i64 k ∧ k ≤ 70 ∧ Hid (GIn w1 (.slice lao n lcap) n M k (.slice vao (n + k) vcap) wr')) (fun _ kk _ => 70 - (intOf kk).toNat)
      case atStart => exact ⟨0, lao, lcap, rfl, rfl, by omega, HG0⟩
      case round =>
        clear HG0
        obtain ⟨k, vao, vcap, rfl, rfl, hk70, HG⟩ := hrel
        have hvb2 := HG.out.fr.keep hvb (by intro hm; exact (hlt hv (by simpa using hm)).2 rfl)
        by_cases hk : k < 70
        · have v2 : wr.cell? ⟨hv, 2, none⟩ = some (.int .i64 (M : Int)) := by rw [cell_of_row _ _ _ _ _ _ hvb2]; rfl
          obtain ⟨B, HB⟩ : ∃ B, Hid (mkN M = B) := ⟨_, rfl⟩
          have HOa : Hid ((wr.alloc (Obj.cells #[.int .u8 (B : Int)] 5)).ownsRow 0 5 1 (.slice vao (n + k) vcap) (n + k) (List.replicate (n + k) (mkV M))) := owns_keep HG.out.own (Fr.alloc [] _ _) (by simp)
          clear hvb2
          go_wp2_with (first | (refine (markByte_at M B _ hen HB.out).mono ?_; rintro e w' ⟨rfl, rfl⟩) | (at_builtin; refine wpList_app _ rfl (.tmp 28) (.tmp 32) 28 rfl 5 i0 (.int .u8 0) 1 1 Tryz.undBs hi0 hz0 hz1 hz2 rfl (by omega) _ _ _ rfl HOa.out ⟨wr.heap.size, 0, none⟩ 1 [.int .u8 (B : Int)] rfl rfl ?c1 ?c2 (by omega) (by simp only [maxLen]; omega) ?_))
          case c1 =>
            intro j u hj
            have hnew : (wr.alloc (Obj.cells #[.int .u8 (B : Int)] 5)).heap[wr.heap.size]? = some (Obj.cells #[.int .u8 (B : Int)] 5) := heap_alloc_new wr _
            rw [show (⟨wr.heap.size, 0, none⟩ : Addr).add j = ⟨wr.heap.size, j, none⟩ from by simp [Addr.add]; omega, cell_of_row _ _ _ _ _ _ hnew]
            simpa using hj
          case c2 =>
            intro u hu
            simp at hu
            subst hu
            rfl
          intro g cap' w' hO2 hW2
          have HG2 : Hid (GIn w1 (.slice lao n lcap) n M (k + 1) (.slice (some ⟨g, 0, none⟩) (n + (k + 1)) cap') w') := by
            refine GIn.next HG.out _ ?_ hW2 (fun k hk => (hlt k hk).1)
            rw [mkV_eq, HB.out]
            rw [mkV_eq, HB.out] at hO2
            exact hO2
          clear hO2 hW2 hlt hvb
          go_wp2_with fail
          go_roundw
          case rel => exact ⟨k + 1, some ⟨g, 0, none⟩, cap', by simp only [Nat.add_assoc], by simp, by omega, HG2⟩
          case measure => simp [intOf]; omega
        · obtain rfl : k = 70 := by omega
          obtain ⟨V, HV⟩ : ∃ V, Hid (V = Value.slice vao (n + 70) vcap) := ⟨_, rfl⟩
          have HN3 : Hid (GrowInv m wv w bk (.slice (some ⟨rb, 0, none⟩) N rcap) hs0 (i + 1) (hs.set i { e with long := .slice vao (n + 70) vcap }) (wr.setCell ⟨rb, i * 3 + 1, none⟩ (.slice vao (n + 70) vcap))) := by
            refine GrowInv.next HI.out ha hold HE.out HN2.out hF1 ?_ hn40
            rw [HLe.out, ← HM.out]
            exact HG.out
          have hbk2 : Bk m wv wr bk (.slice (some ⟨rb, 0, none⟩) N rcap) hs := by
            have hf : Fr (Value.slice lao n lcap).ownBlock.toList _ wr := hF1.trans HG.out.fr (by simp) (fun x hx _ => hx)
            have hte := (HI.out.left i e HE.out (Nat.le_refl _)).1.type
            rw [HLe.out] at hte
            refine HI.out.bk.keep hf ?_ ?_
            · intro hm
              obtain ⟨cs, hc⟩ := hte bk (by simpa using hm)
              exact (HI.out.bk.apart hc).1 rfl
            · intro k hk hm
              obtain ⟨cs, hc⟩ := hte k (by simpa using hm)
              exact (HI.out.bk.apart hc).2 hk
          have c1' := hbk2.c1
          obtain ⟨rb', rc', hrv', _, _, d1', _⟩ := hbk2.at i e HE.out
          cases hrv'
          have hf1 : wr.frozen? ⟨rb, i * 3 + 1, none⟩ = false := by
            have hr := hbk2.row
            rw [← HN2.out] at hr
            exact own_free hr _
          clear hbk2 hvb2 hvb hlt
          go_wp2_with fail
          go_roundw
          case rel => exact ⟨i + 1, _, by simp, by omega, HN3⟩
          case measure => simp [intOf]; omega
    · obtain rfl : i = N := by omega
      go_wp2_with fail
      go_end0
      exact ⟨rfl, hs, by rw [← HN.out]; exact HI⟩
end Go.Proofs.YtcgfadmhjfncoaaGreatDoor
