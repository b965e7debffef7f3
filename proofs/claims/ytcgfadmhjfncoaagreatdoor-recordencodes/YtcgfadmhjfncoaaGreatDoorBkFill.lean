/- What the Book's fillByte does: each held list is written over with its mark, and nothing else. Conditions: no two held lists share a block. -/
import Derived.Test.YtcgfadmhjfncoaaGreatDoorBkKeep
namespace Go.Proofs.YtcgfadmhjfncoaaGreatDoor
open Go.ChangeShapes Go.WideShapes Go.ChangeAt Go.RowKit Go.Lib
set_option linter.unusedVariables false
variable {m : Nat} {wv : Value}

/-- The held lists are numbered from one on. -/
def Num (m : Nat) (hs : List HB) : Prop := ∀ (j : Nat) (h : HB), hs[j]? = some h → h.n = m + j + 1

/-- Nothing was put behind them yet. -/
def Fresh (hs : List HB) : Prop := ∀ (j : Nat) (h : HB), hs[j]? = some h → h.long = .slice none 0 0

structure FillInv (m : Nat) (wv : Value) (w0 : World) (bk : Nat) (rv : Value) (hs : List HB) (i : Nat) (w : World) : Prop where
  bk : Bk m wv w bk rv hs
  done : ∀ (j : Nat) (h : HB), hs[j]? = some h → j < i → P1 w h
  left : ∀ (j : Nat) (h : HB), hs[j]? = some h → i ≤ j → P0 w h
  fr : Fr (lbs hs) w0 w
theorem FillInv.next {w0 w w1 w2 : World} {bk : Nat} {rv : Value} {hs : List HB} {i : Nat} {e : HB} (h : FillInv m wv w0 bk rv hs i w) (ha : Alone hs) (hi : hs[i]? = some e) (hf1 : Fr [] w w1) (hf2 : Fr e.l.ownBlock.toList w1 w2) (hp : P1 w2 e) : FillInv m wv w0 bk rv hs (i + 1) w2 := by
  have hf : Fr e.l.ownBlock.toList w w2 := hf1.trans hf2 (by simp) (fun x hx _ => hx)
  have hte := (h.left i e hi (Nat.le_refl _)).type
  have hoth : ∀ (j : Nat) (b : HB), hs[j]? = some b → j ≠ i → ∀ k, b.l.ownBlock = some k → k ∉ e.l.ownBlock.toList := by
    intro j b hb hne k hk hm
    exact ha j i b e hb hi hne k hk (by simpa using hm)
  refine ⟨h.bk.keep hf ?_ ?_, ?_, ?_, h.fr.trans hf (fun x hx _ => hx) ?_⟩
  · intro hm
    obtain ⟨cs, hc⟩ := hte bk (by simpa using hm)
    exact (h.bk.apart hc).1 rfl
  · intro k hk hm
    obtain ⟨cs, hc⟩ := hte k (by simpa using hm)
    exact (h.bk.apart hc).2 hk
  · intro j b hb hj
    by_cases hji : j = i
    · subst hji
      rw [hi] at hb
      cases hb
      exact hp
    · exact (h.done j b hb (by omega)).keep hf (hoth j b hb hji)
  · intro j b hb hj
    exact (h.left j b hb (by omega)).keep hf (hoth j b hb (by omega))
  · intro x hx _
    exact mem_lbs.2 ⟨e, List.mem_of_getElem? hi, by simpa using hx⟩
theorem fill_step (k n : Nat) (vs : List Value) (x : Value) (hk : k < n) (hl : vs.length = n) : (List.replicate k x ++ vs.drop k).set k x = List.replicate (k + 1) x ++ vs.drop (k + 1) := by
  rw [List.set_append_right _ _ (by simp), List.length_replicate, Nat.sub_self, List.drop_eq_getElem_cons (by omega), List.set_cons_zero, List.replicate_succ', List.append_assoc]
  rfl

set_option maxHeartbeats 4000000 in
set_option maxRecDepth 100000 in
theorem fillByte_any (bk : Nat) (rv : Value) (hs : List HB) (w : World) (h : Bk m wv w bk rv hs) (h0 : ∀ (j : Nat) (h : HB), hs[j]? = some h → P0 w h) (ha : Alone hs) (hn : Num m hs) (hfre : Fresh hs) :
    Calls Tryz.prog 31 #[.pointer (some ⟨bk, 0, none⟩)] w fun e w' => e = .returned (.tuple #[]) ∧ Hid (FillInv m wv w bk rv hs hs.length w') := by
  have HI0 : Hid (FillInv m wv w bk rv hs 0 w) := ⟨h, fun _ _ _ hj => by omega, fun j b hb _ => h0 j b hb, Fr.refl _ _⟩
  obtain ⟨N, HN⟩ : ∃ N, Hid (N = hs.length) := ⟨_, rfl⟩
  have hfew := h.few
  rw [← HN.out] at hfew
  clear h0
  obtain ⟨rao, rcap, hrv⟩ := own_slice h.row
  rw [← HN.out] at hrv
  clear h
  subst hrv
  go_enter Tryz.func31, Tryz.ntmps31
  go_wp2_with fail
  go_loopw [2] (fun ii wr => ∃ i : Nat, ii = .int .i64 i ∧ i ≤ N ∧ Hid (FillInv m wv w bk (.slice rao N rcap) hs i wr)) (fun ii _ => N - (intOf ii).toNat)
  case atStart => exact ⟨0, rfl, Nat.zero_le _, HI0⟩
  case round =>
    clear HI0
    obtain ⟨i, rfl, hiN, HI⟩ := hrel
    have c1 := HI.out.bk.c1
    by_cases hi : i < N
    · obtain ⟨e, he⟩ : ∃ e, hs[i]? = some e := ⟨_, List.getElem?_eq_getElem (by rw [← HN.out]; exact hi)⟩
      have HE : Hid (hs[i]? = some e) := he
      obtain ⟨rb, rc, hrv, hrc, d0, d1, d2⟩ := HI.out.bk.at i e he
      rw [← HN.out] at hrv hrc
      cases hrv
      have hen : e.n < 1048577 := by rw [hn i e he]; omega
      obtain ⟨n, vs, hO, hn40⟩ := HI.out.left i e he (Nat.le_refl _)
      obtain ⟨lao, lcap, hl⟩ := own_slice hO
      have HLe : Hid (e.l = .slice lao n lcap) := hl
      rw [hl] at d0 hO
      obtain ⟨M, HM⟩ : ∃ M, Hid (M = e.n) := ⟨_, rfl⟩
      rw [hfre i e he] at d1
      rw [← HM.out] at d2 hen
      clear he hl
      go_wp2_with fail
      obtain ⟨hv, hhv⟩ : ∃ hv, hv = wr.heap.size := ⟨_, rfl⟩
      obtain ⟨w1, hw1⟩ : ∃ w1, w1 = wr.alloc (Obj.cells #[.slice lao n lcap, .slice none 0 0, .int .i64 (M : Int)] 79) := ⟨_, rfl⟩
      rw [← hw1, ← hhv]
      have hF1 : Fr [] wr w1 := by rw [hw1]; exact Fr.alloc [] _ _
      have hvb : w1.heap[hv]? = some (.cells #[.slice lao n lcap, .slice none 0 0, .int .i64 (M : Int)] 79 (0, 0)) := by rw [hw1, hhv]; exact heap_alloc_new wr _
      have hlt : ∀ k, (Value.slice lao n lcap).ownBlock = some k → k ≠ hv := by
        intro k hk
        have := (hO.lt k hk).2
        omega
      have hO1 := owns_keep hO hF1 (by simp)
      have hvl := hO.1
      clear hO hw1 hhv d0 d1 d2 c1
      have HI0 : Hid (w1.ownsRow 0 5 1 (.slice lao n lcap) n (List.replicate 0 (mkV M) ++ vs.drop 0)) := hO1
      go_loopw [4] (fun kk wr' => ∃ k : Nat, kk = .int .i64 k ∧ k ≤ n ∧ Hid (wr'.ownsRow 0 5 1 (.slice lao n lcap) n (List.replicate k (mkV M) ++ vs.drop k)) ∧ Fr (Value.slice lao n lcap).ownBlock.toList w1 wr') (fun kk _ => n - (intOf kk).toNat)
      case atStart => exact ⟨0, rfl, Nat.zero_le _, HI0, Fr.refl _ _⟩
      case round =>
        clear HI0 hO1
        obtain ⟨k, rfl, hkn, HO, hF2⟩ := hrel
        have hvb2 := hF2.keep hvb (by intro hm; exact hlt hv (by simpa using hm) rfl)
        have v0 : wr.cell? ⟨hv, 0, none⟩ = some (.slice lao n lcap) := by rw [cell_of_row _ _ _ _ _ _ hvb2]; rfl
        have v2 : wr.cell? ⟨hv, 2, none⟩ = some (.int .i64 (M : Int)) := by rw [cell_of_row _ _ _ _ _ _ hvb2]; rfl
        clear hvb2
        by_cases hk : k < n
        · obtain ⟨g, gc, hg, hgc⟩ := own_form HO.out (by omega)
          cases hg
          have hO := HO.out
          have hlen : (List.replicate k (mkV M) ++ vs.drop k).length = n * 1 := hO.1
          obtain ⟨y, hy⟩ : ∃ y, (List.replicate k (mkV M) ++ vs.drop k)[k]? = some y := ⟨_, List.getElem?_eq_getElem (by omega)⟩
          have hcell : wr.cell? ⟨g, k, none⟩ = some y := by rw [hO.cellAt k (by omega), hy]
          have hfree := own_free hO k
          have hput := own_put hO k (mkV M)
          rw [fill_step k n vs (mkV M) hk (by omega)] at hput
          have hfr : Fr [g] wr (wr.setCell ⟨g, k, none⟩ (mkV M)) := Fr.set _ _ _ (by simp)
          have hF3 : Fr [g] w1 (wr.setCell ⟨g, k, none⟩ (mkV M)) := (show Fr [g] w1 wr from hF2).then hfr
          have HF4 : Hid (Fr [g] w1 (wr.setCell ⟨g, k, none⟩ (mkV M)).drew) := hF3.then (Fr.drew _ _)
          have HP : Hid ((wr.setCell ⟨g, k, none⟩ (mkV M)).drew.ownsRow 0 5 1 (.slice (some ⟨g, 0, none⟩) n lcap) n (List.replicate (k + 1) (mkV M) ++ vs.drop (k + 1))) := owns_keep hput (Fr.drew [] _) (by simp)
          obtain ⟨B, HB⟩ : ∃ B, Hid (mkN M = B) := ⟨_, rfl⟩
          rw [mkV_eq, HB.out] at HF4 HP
          clear hO hlen hy hput hfr hF3 hvb hlt
          go_wp2_with fail
          go_region_with (refine (markByte_at M B _ hen HB.out).mono ?_; rintro e w' ⟨rfl, rfl⟩)
          all_goals
            go_wp2_with fail
            go_roundw
            case rel => exact ⟨k + 1, by simp, by omega, (by rw [mkV_eq, HB.out]; exact HP), HF4.out⟩
            case measure => simp [intOf]; omega
        · obtain rfl : k = n := by omega
          have HP1 : Hid (P1 wr e) := by
            refine ⟨k, ?_, hn40⟩
            rw [HLe.out, ← HM.out]
            have := HO.out
            rw [List.drop_of_length_le (by omega), List.append_nil] at this
            exact this
          have HI2 : Hid (FillInv m wv w bk (.slice (some ⟨rb, 0, none⟩) N rcap) hs (i + 1) wr) := HI.out.next ha HE.out hF1 (by rw [HLe.out]; exact hF2) HP1.out
          clear hF2
          go_wp2_with fail
          go_roundw
          case rel => exact ⟨i + 1, by simp, by omega, HI2⟩
          case measure => simp [intOf]; omega
    · obtain rfl : i = N := by omega
      go_wp2_with fail
      go_end0
      exact ⟨rfl, by rw [← HN.out]; exact HI⟩
end Go.Proofs.YtcgfadmhjfncoaaGreatDoor
