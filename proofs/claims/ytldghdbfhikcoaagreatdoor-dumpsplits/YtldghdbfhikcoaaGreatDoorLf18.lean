/- A Book's mark of a list of lists, its test, its fill. Conditions: one such list is held; the table of powers of ten reads as the library lays it. -/
import Derived.Test.YtldghdbfhikcoaaGreatDoorLp18
namespace Go.Proofs.YtldghdbfhikcoaaGreatDoor.Bq
open BigFrame Go.ChangeShapes Go.WideShapes Go.ChangeAt Go.RowKit Go.Lib
set_option linter.unusedVariables false
set_option linter.unusedSimpArgs false

set_option maxHeartbeats 1000000 in
theorem markHL_at (n : Nat) (B : ByteArray) (w : World) (hn : n < 134217728) (hB : mWord n = B) (ht : Tab w) : Calls Tryz.prog 124 #[.int .i64 (n : Int)] w fun e w' => ∃ b, e = .returned (.slice (some ⟨b, 0, none⟩) 1 1) ∧ Fr [] w w' ∧ Mk9 w' B b ∧ w.heap.size ≤ b := by
  have HB : Hid (mWord n = B) := hB
  clear hB
  go_enter Tryz.func124, Tryz.ntmps124
  go_wp2_with fail
  refine (word_any n B hn HB.out _ ht).mono ?_
  rintro e w1 ⟨rfl, hF⟩
  go_wp2
  go_ret
  exact ⟨w1.heap.size, rfl, hF.then (Fr.alloc [] _ _), heap_alloc_new w1 _, hF.size⟩
set_option maxHeartbeats 8000000 in
set_option maxRecDepth 100000 in
theorem fillHL_any (bk : Nat) (rv : Value) (e : HB) (w : World) (h : Bl kHL w bk rv [e]) (h0 : P0 kHL w e) (hfre : e.long = .slice none 0 0) (htab : Tab w) (hgt : gTab ∉ lbs [e]) :
    Calls Tryz.prog 55 #[.pointer (some ⟨bk, 0, none⟩)] w fun r w' => r = .returned (.tuple #[]) ∧ Hid (FL w.heap.size w' bk rv e ∧ Fr (lbs [e]) w w') := by
  have hlb : lbs [e] = e.l.ownBlock.toList := by simp [lbs]
  rw [hlb] at hgt ⊢
  clear hlb
  obtain ⟨N, HN⟩ : ∃ N, Hid (N = [e].length) := ⟨_, rfl⟩
  have hN1 : N ≤ 1 := by have := HN.out; simp at this; omega
  have HNUM : Hid (e.n < 134217728) := h.num 0 e rfl
  obtain ⟨rao, rcap, hrv⟩ := own_slice h.row
  rw [← HN.out] at hrv
  subst hrv
  have HH : Hid (Bl kHL w bk (.slice rao N rcap) [e] ∧ P0 kHL w e ∧ e.long = .slice none 0 0) := ⟨h, h0, hfre⟩
  obtain ⟨base, HBs⟩ : ∃ base, Hid (base = w.heap.size) := ⟨_, rfl⟩
  rw [← HBs.out]
  clear h h0 hfre
  go_enter Tryz.func55, Tryz.ntmps55
  go_wp2_with fail
  go_loopw [2] (fun ii wr => ∃ i : Nat, ii = .int .i64 i ∧ i ≤ N ∧ Hid ((i = 0 ∧ wr = w) ∨ (i = 1 ∧ FL base wr bk (.slice rao N rcap) e ∧ Fr e.l.ownBlock.toList w wr))) (fun ii _ => N - (RowKit.intOf ii).toNat)
  case atStart => exact ⟨0, rfl, Nat.zero_le _, Or.inl ⟨rfl, rfl⟩⟩
  case round =>
    obtain ⟨i, rfl, hiN, HI⟩ := hrel
    have hN2 : 1 ≤ N := by have := HN.out; simp at this; omega
    by_cases hi : i < N
    · have hi0 : i = 0 := by omega
      have HI0 : Hid (i = 0) := hi0
      obtain rfl : wr = w := by
        rcases HI.out with ⟨_, q⟩ | ⟨q, _⟩
        · exact q
        · omega
      clear HI
      obtain ⟨rb, rc, hrv, hrc, d0, d1, d2⟩ := HH.out.1.at i e (by rw [hi0]; rfl)
      have c1 : wr.cell? ⟨bk, 9, none⟩ = some (.slice rao N rcap) := HH.out.1.c1
      rw [← HN.out] at hrv hrc
      cases hrv
      clear hi0
      have hen : e.n < 134217728 := HNUM.out
      obtain ⟨n, vs, hOc, hn21⟩ := HH.out.2.1
      obtain ⟨lao, lcap, lf, hl, hnl, hlf, hO⟩ := hOc
      have HLe : Hid (e.l = .slice lao n lcap) := hl
      have HCu : Hid (n ≤ lcap ∧ lcap ≤ lf) := ⟨hnl, hlf⟩
      rw [hl] at d0 hgt
      clear hnl hlf
      obtain ⟨M, HM⟩ : ∃ M, Hid (M = e.n) := ⟨_, rfl⟩
      rw [HH.out.2.2] at d1
      rw [← HM.out] at d2 hen
      clear hl
      obtain ⟨B, HB⟩ : ∃ B, Hid (mWord M = B) := ⟨_, rfl⟩
      go_wp2_with fail
      obtain ⟨hv, hhv⟩ : ∃ hv, hv = wr.heap.size := ⟨_, rfl⟩
      obtain ⟨w1, hw1⟩ : ∃ w1, w1 = wr.alloc (Obj.cells #[.slice lao n lcap, .slice none 0 0, .int .i64 (M : Int)] 168) := ⟨_, rfl⟩
      rw [← hw1, ← hhv]
      have hF1 : Fr [] wr w1 := by rw [hw1]; exact Fr.alloc [] _ _
      have HF1 : Hid (Fr [] wr w1) := hF1
      have HTB : Hid (Tab w1) := htab.keep hF1 (by simp)
      have HGT : Hid (gTab ∉ (Value.slice lao n lcap).ownBlock.toList) := hgt
      have hvb : w1.heap[hv]? = some (.cells #[.slice lao n lcap, .slice none 0 0, .int .i64 (M : Int)] 168 (0, 0)) := by rw [hw1, hhv]; exact heap_alloc_new wr _
      have HLT : Hid (∀ k, (Value.slice lao n lcap).ownBlock = some k → k < base ∧ k ≠ hv) := by
        intro k hk
        have := (hO.lt k (by rw [ownBlock_cap lao n n lf lcap]; exact hk)).2
        have := HBs.out
        omega
      have HBz : Hid (base ≤ w1.heap.size) := by have := hF1.size; have := HBs.out; show _ ≤ _; omega
      have hO1 := owns_keep hO hF1 (by simp)
      have hvl := hO.1
      have HHw : Hid (Bl kHL wr bk (.slice (some ⟨rb, 0, none⟩) N rcap) [e] ∧ e.long = .slice none 0 0 ∧ (∀ k, e.l.ownBlock = some k → ∃ cs, wr.heap[k]? = some (.cells cs 23 (0, 0)))) := ⟨HH.out.1, HH.out.2.2, HH.out.2.1.type⟩
      clear hO hw1 hhv d0 d1 d2 c1 HH htab hgt
      have HI0' : Hid (FHi base B lao n lf lcap 0 [] vs w1 w1) := ⟨rfl, hvl, hO1, fun b hb => by simp at hb, Fr.refl _ _⟩
      clear hO1 hF1 hvl
      obtain ⟨w0, hw0⟩ : ∃ w0, w0 = wr := ⟨_, rfl⟩
      subst hw0
      go_loopw [4] (fun kk wr' => ∃ (k : Nat) (ms : List Nat) (R : List Value), kk = .int .i64 k ∧ k ≤ n ∧ Hid (FHi base B lao n lf lcap k ms R w1 wr')) (fun kk _ => n - (RowKit.intOf kk).toNat)
      case atStart => exact ⟨0, [], vs, rfl, Nat.zero_le _, HI0'⟩
      case round =>
        clear HI0'
        obtain ⟨k, ms, R, rfl, hkn, HR⟩ := hrel
        have hvb2 := HR.out.fr.keep hvb (by intro hm; exact (HLT.out hv (by simpa using hm)).2 rfl)
        by_cases hk : k < n
        · have hlt : (k : Int) < n := by omega
          obtain ⟨t, gc, hg, hgc⟩ := own_form HR.out.own (by omega)
          cases hg
          have htb : t < base := (HLT.out t rfl).1
          have hvt' : t ≠ hv := (HLT.out t rfl).2
          have hvt : hv ≠ t := fun e => hvt' e.symm
          obtain ⟨a, S, hRe, hS⟩ := fmore1 hk HR.out.rl
          subst hRe
          have HS : Hid (S.length = (n - (k + 1)) * 1) := hS
          have HC : Hid (∀ W, Fr [] wr W → W.cell? ⟨hv, 0, none⟩ = some (.slice (some ⟨t, 0, none⟩) n lcap) ∧ W.cell? ⟨hv, 2, none⟩ = some (.int .i64 (M : Int)) ∧ W.cell? ⟨t, k, none⟩ = some a ∧ W.frozen? ⟨t, k, none⟩ = false) := by
            intro W hf
            have hb := hf.keep hvb2 (by simp)
            have hO := owns_keep HR.out.own hf (by simp)
            have hlm := HR.out.len
            have hol := hO.1
            refine ⟨by rw [cell_of_row _ _ _ _ _ _ hb]; rfl, by rw [cell_of_row _ _ _ _ _ _ hb]; rfl, ?_, own_free hO _⟩
            rw [hO.cellAt k (by omega), List.getElem?_append_right (by simp; omega)]
            simp [hlm]
          have HP : Hid (∀ W b, Fr [] wr W → Mk9 W B b → base ≤ b → Hid (FHi base B (some ⟨t, 0, none⟩) n lf lcap (k + 1) (ms ++ [b]) S w1 (W.setCell ⟨t, k, none⟩ (.slice (some ⟨b, 0, none⟩) 1 1)))) := fun W b hf h1 h2 => HR.out.next HS.out htb hf h1 h2
          have HZ0 : Hid (base ≤ wr.heap.size) := Nat.le_trans HBz.out HR.out.fr.size
          obtain ⟨a0, a1, a2, a3⟩ := HC.out _ (Fr.refl [] wr)
          obtain ⟨b0, b1, b2, b3⟩ := HC.out _ (Fr.drew [] wr)
          have hMk := markHL_at M B wr.drew hen HB.out ((HTB.out.keep HR.out.fr HGT.out).keep (Fr.drew [] _) (by simp))
          clear hvb hvb2 hS
          go_wp2_with fail
          first
            | go_loud (go_region_held3 (fun W => W.cell? ⟨hv, 0, none⟩ = some (.slice (some ⟨t, 0, none⟩) n lcap) ∧ W.cell? ⟨hv, 2, none⟩ = some (.int .i64 (M : Int))) (go_keep)
                (first
                | (go_at_call 124; with_reducible refine hMk.mono ?_; rintro e w3 ⟨b, rfl, hF3, hm3, hb3⟩; obtain ⟨j0, j1, j2, j3⟩ := HC.out _ ((Fr.drew [] wr).then hF3))))
            | fail
          have p1 := HP.out _ b ((Fr.drew [] wr).then hF3) hm3 (Nat.le_trans HZ0.out hb3)
          clear hF3 hMk HP HC hm3 hb3
          go_wp2_with fail
          go_roundw
          case rel => exact ⟨k + 1, ms ++ [b], S, by simp, by omega, p1⟩
          case measure => simp [RowKit.intOf]; omega
        · have hle : (n : Int) ≤ k := by omega
          have v0 : wr.cell? ⟨hv, 0, none⟩ = some (.slice lao n lcap) := by rw [cell_of_row _ _ _ _ _ _ hvb2]; rfl
          have HFin : Hid ((FL base wr bk (.slice (some ⟨rb, 0, none⟩) N rcap) e ∧ Fr e.l.ownBlock.toList w0 wr)) := by
            have hkn' : k = n := by omega
            have hR0 : R = [] := List.eq_nil_of_length_eq_zero (by rw [HR.out.rl, hkn']; omega)
            have hown := HR.out.own
            rw [hR0, List.append_nil] at hown
            have hfr : Fr e.l.ownBlock.toList w0 wr := HF1.out.trans (by rw [HLe.out]; exact HR.out.fr) (by simp) (fun x hx _ => hx)
            refine ⟨⟨?_, ⟨n, ms, ?_, by rw [HR.out.len]; exact hkn', hn21, ?_⟩, HHw.out.2.1, Nat.le_trans HBz.out HR.out.fr.size⟩, hfr⟩
            · refine HHw.out.1.keep hfr ?_ ?_
              · intro hm
                obtain ⟨cs, hc⟩ := HHw.out.2.2 bk (by simpa using hm)
                exact (HHw.out.1.apart hc).1 rfl
              · intro k hk hm
                obtain ⟨cs, hc⟩ := HHw.out.2.2 k (by simpa using hm)
                exact (HHw.out.1.apart hc).2 hk
            · rw [HLe.out]
              exact ⟨lao, lcap, lf, rfl, HCu.out.1, HCu.out.2, hown⟩
            · have := HR.out.mks
              rw [← HB.out, HM.out] at this
              exact this
          have HI1 : Hid (i + 1 = 1) := by have := HI0.out; show _ = _; omega
          clear hvb hvb2 HR
          go_wp2_with fail
          go_roundw
          case rel => exact ⟨i + 1, by simp, by omega, Or.inr ⟨HI1.out, HFin.out⟩⟩
          case measure => simp [RowKit.intOf]; omega
    · have hi1 : i = N := by omega
      have HFin : Hid (FL base wr bk (.slice rao N rcap) e ∧ Fr e.l.ownBlock.toList w wr) := by
        rcases HI.out with ⟨q, _⟩ | ⟨_, q⟩
        · omega
        · exact q
      have c1 : wr.cell? ⟨bk, 9, none⟩ = some (.slice rao N rcap) := HFin.out.1.bl.c1
      subst hi1
      go_wp2_with fail
      go_end0
      exact ⟨rfl, HFin⟩
end Go.Proofs.YtldghdbfhikcoaaGreatDoor.Bq
