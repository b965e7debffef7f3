/- A reply handed to a task that is not there. No conditions. -/
import Derived.Test.YtpdkdgmaofhlkaaOv17
namespace Go.Proofs.Ytpdkdgmaofhlkaa
open Go.ChangeShapes Go.WideShapes Go.ChangeAt Go.RowKit Go.Lib
set_option linter.unusedVariables false
set_option linter.unusedSimpArgs false

set_option maxHeartbeats 8000000 in
set_option maxRecDepth 100000 in
theorem asks_got_no {p : Value} {w : World} (h : NoT p w) (a : Aj) (hA : AjB w a) (h0 : a.k = 2) : Calls Try.prog 12 #[p, .pointer none, .agg a.v] w fun e w' => e = .returned (.bool true) ∧ Fr [] w w' := by
  obtain ⟨ak, ma, le, bo, bl, bc, ns, ⟨rt, rk, eo, el, ec, ho, hl, hc, ct⟩, es, hs⟩ := a
  simp only [Aj.v] at h0 ⊢
  have hRp : RpB w ⟨rt, rk, eo, el, ec, ho, hl, hc, ct⟩ es hs := hA.rp
  have HAc : Hid (∀ W, Fr [] (w.alloc (.cells #[.int .u8 ak, .int .i64 ma, .int .i64 le, .slice bo bl bc, .int .i64 rt, .bool rk, .slice eo el ec, .slice ho hl hc, .int .i64 ct] 48)) W → W.cell? ⟨w.heap.size, 0, none⟩ = some (.int .u8 ak) ∧ W.cell? ⟨w.heap.size, 1, none⟩ = some (.int .i64 ma) ∧ W.cell? ⟨w.heap.size, 2, none⟩ = some (.int .i64 le) ∧ W.cell? ⟨w.heap.size, 3, none⟩ = some (.slice bo bl bc) ∧ W.cell? ⟨w.heap.size, 4, none⟩ = some (.int .i64 rt) ∧ W.cell? ⟨w.heap.size, 5, none⟩ = some (.bool rk) ∧ W.cell? ⟨w.heap.size, 6, none⟩ = some (.slice eo el ec) ∧ W.cell? ⟨w.heap.size, 7, none⟩ = some (.slice ho hl hc) ∧ W.cell? ⟨w.heap.size, 8, none⟩ = some (.int .i64 ct)) := fun W hW => by
    have := rq_cells (hW.keep (heap_alloc_new w (.cells #[.int .u8 ak, .int .i64 ma, .int .i64 le, .slice bo bl bc, .int .i64 rt, .bool rk, .slice eo el ec, .slice ho hl hc, .int .i64 ct] 48)) (by simp))
    exact this
  have HF0 : Hid (Fr [] w (w.alloc (.cells #[.int .u8 ak, .int .i64 ma, .int .i64 le, .slice bo bl bc, .int .i64 rt, .bool rk, .slice eo el ec, .slice ho hl hc, .int .i64 ct] 48))) := Fr.alloc [] w _
  have HTR : Hid (Calls Try.prog 28 #[.agg #[.int .i64 rt, .bool rk, .slice eo el ec, .slice ho hl hc, .int .i64 ct]] (w.alloc (.cells #[.int .u8 ak, .int .i64 ma, .int .i64 le, .slice bo bl bc, .int .i64 rt, .bool rk, .slice eo el ec, .slice ho hl hc, .int .i64 ct] 48)) fun e w' => ∃ be bh ks, e = .returned (.agg #[.int .i64 rt, .bool rk, .slice (some ⟨be, 0, none⟩) el (el + 1), .slice (some ⟨bh, 0, none⟩) hl (hl + 1), .int .i64 ct]) ∧ TwR (w.alloc (.cells #[.int .u8 ak, .int .i64 ma, .int .i64 le, .slice bo bl bc, .int .i64 rt, .bool rk, .slice eo el ec, .slice ho hl hc, .int .i64 ct] 48)) w' ⟨rt, rk, eo, el, ec, ho, hl, hc, ct⟩ es hs be bh ks ∧ Fr [] (w.alloc (.cells #[.int .u8 ak, .int .i64 ma, .int .i64 le, .slice bo bl bc, .int .i64 rt, .bool rk, .slice eo el ec, .slice ho hl hc, .int .i64 ct] 48)) w') := twinR_any (r := ⟨rt, rk, eo, el, ec, ho, hl, hc, ct⟩) (es := es) (hs := hs) (hRp.keep HF0.out)
  have HLf : Hid (∀ W w0 be bh ks, Fr [] w W → TwR w0 W ⟨rt, rk, eo, el, ec, ho, hl, hc, ct⟩ es hs be bh ks → Calls Try.prog 30 #[.agg #[.int .i64 rt, .bool rk, .slice (some ⟨be, 0, none⟩) el (el + 1), .slice (some ⟨bh, 0, none⟩) hl (hl + 1), .int .i64 ct], .agg #[.int .i64 rt, .bool rk, .slice eo el ec, .slice ho hl hc, .int .i64 ct]] W fun e w' => e = .returned (.bool true) ∧ Fr [] W w') := fun W w0 be bh ks hW hT => leftR_any (r := ⟨rt, rk, eo, el, ec, ho, hl, hc, ct⟩) (es := es) (hs := hs) (be := be) (bh := bh) (ks := ks) (hRp.keep hW) hT
  have HG : Hid (∀ W be bh, Fr [] w W → Calls Try.prog 21 #[p, .agg #[.int .i64 rt, .bool rk, .slice (some ⟨be, 0, none⟩) el (el + 1), .slice (some ⟨bh, 0, none⟩) hl (hl + 1), .int .i64 ct]] W fun e w' => e = .returned (.int .i64 2) ∧ Fr [] W w') := fun W be bh hW => qGot_no (twRp ⟨rt, rk, eo, el, ec, ho, hl, hc, ct⟩ be bh) (h.keep hW)
  have HY : Hid (∀ W, Calls Try.prog 29 #[.pointer none, .agg #[.int .i64 rt, .bool rk, .slice eo el ec, .slice ho hl hc, .int .i64 ct]] W fun e w' => e = .returned (.int .i64 2) ∧ Fr [] W w') := fun W => ygot_nil ⟨rt, rk, eo, el, ec, ho, hl, hc, ct⟩ W
  have HHl : Hid ((hl = hs.length ∧ ∀ t ∈ hs, t.L = t.vs.length) ∧ el = es.length) := ⟨⟨hRp.hl, fun t ht => (hRp.yh.each t ht).len⟩, hRp.el⟩
  have hel : el ≤ 4398046511104 := by have := hRp.ye.few; have := hRp.el; simp only at *; omega
  have hhl : hl ≤ 4398046511104 := by have := hRp.yh.few; have := hRp.hl; simp only at *; omega
  have HVL : Hid (∀ j, (hs.getD j Hd.zero).L ≤ 4398046511104) := fun j => by
    by_cases hj : j < hs.length
    · have h1 := (hRp.yh.each _ (hgetD_mem hs j hj)).len
      have h2 := (hRp.yh.each _ (hgetD_mem hs j hj)).rs.few
      omega
    · rw [show hs.getD j Hd.zero = Hd.zero from by simp [List.getD, Nat.le_of_not_lt hj]]
      exact Nat.zero_le _
  obtain ⟨o, rfl⟩ := h.ptr
  subst h0
  clear h hA hRp
  obtain ⟨a0, a1, a2, a3, a4, a5, a6, a7, a8⟩ := HAc.out _ (Fr.refl _ _)
  go_enter Try.func12, Try.ntmps12
  go_wp2_with fail
  refine HTR.out.mono ?_
  rintro e w1 ⟨be, bh, ks, rfl, hT, hf1⟩
  have HA1 : Hid (Fr [] (w.alloc (.cells #[.int .u8 2, .int .i64 ma, .int .i64 le, .slice bo bl bc, .int .i64 rt, .bool rk, .slice eo el ec, .slice ho hl hc, .int .i64 ct] 48)) (w1.alloc (.cells #[.int .i64 rt, .bool rk, .slice (some ⟨be, 0, none⟩) el (el + 1), .slice (some ⟨bh, 0, none⟩) hl (hl + 1), .int .i64 ct] 46))) := hf1.then (Fr.alloc [] w1 _)
  have HT1 : Hid (TwR (w.alloc (.cells #[.int .u8 2, .int .i64 ma, .int .i64 le, .slice bo bl bc, .int .i64 rt, .bool rk, .slice eo el ec, .slice ho hl hc, .int .i64 ct] 48)) (w1.alloc (.cells #[.int .i64 rt, .bool rk, .slice (some ⟨be, 0, none⟩) el (el + 1), .slice (some ⟨bh, 0, none⟩) hl (hl + 1), .int .i64 ct] 46)) ⟨rt, rk, eo, el, ec, ho, hl, hc, ct⟩ es hs be bh ks) := hT.keep (Fr.alloc [] w1 _)
  have HG1 : Hid ((w1.alloc (.cells #[.int .i64 rt, .bool rk, .slice (some ⟨be, 0, none⟩) el (el + 1), .slice (some ⟨bh, 0, none⟩) hl (hl + 1), .int .i64 ct] 46)).heap[w1.heap.size]? = some (.cells #[.int .i64 rt, .bool rk, .slice (some ⟨be, 0, none⟩) el (el + 1), .slice (some ⟨bh, 0, none⟩) hl (hl + 1), .int .i64 ct] 46 (0, 0))) := heap_alloc_new w1 _
  have HGn : Hid (w.heap.size ≤ w1.heap.size) := (HF0.out.then hf1).size
  clear hT hf1 HTR a0 a1 a2 a3 a4 a5 a6 a7 a8
  go_wp2_with fail
  refine (HG.out _ be bh (HF0.out.then HA1.out)).mono ?_
  rintro e w2 ⟨rfl, hf2⟩
  have HA2 : Hid (Fr [] (w.alloc (.cells #[.int .u8 2, .int .i64 ma, .int .i64 le, .slice bo bl bc, .int .i64 rt, .bool rk, .slice eo el ec, .slice ho hl hc, .int .i64 ct] 48)) w2) := HA1.out.then hf2
  have HT2 : Hid (TwR (w.alloc (.cells #[.int .u8 2, .int .i64 ma, .int .i64 le, .slice bo bl bc, .int .i64 rt, .bool rk, .slice eo el ec, .slice ho hl hc, .int .i64 ct] 48)) w2 ⟨rt, rk, eo, el, ec, ho, hl, hc, ct⟩ es hs be bh ks) := HT1.out.keep hf2
  have HG2 : Hid (w2.heap[w1.heap.size]? = some (.cells #[.int .i64 rt, .bool rk, .slice (some ⟨be, 0, none⟩) el (el + 1), .slice (some ⟨bh, 0, none⟩) hl (hl + 1), .int .i64 ct] 46 (0, 0))) := hf2.keep HG1.out (by simp)
  clear hf2 HA1 HT1 HG1 HG
  obtain ⟨a0, a1, a2, a3, a4, a5, a6, a7, a8⟩ := HAc.out _ HA2.out
  go_wp2_with fail
  refine (HY.out _).mono ?_
  rintro e w3 ⟨rfl, hf3⟩
  have HA3 : Hid (Fr [] (w.alloc (.cells #[.int .u8 2, .int .i64 ma, .int .i64 le, .slice bo bl bc, .int .i64 rt, .bool rk, .slice eo el ec, .slice ho hl hc, .int .i64 ct] 48)) w3) := HA2.out.then hf3
  have HT3 : Hid (TwR (w.alloc (.cells #[.int .u8 2, .int .i64 ma, .int .i64 le, .slice bo bl bc, .int .i64 rt, .bool rk, .slice eo el ec, .slice ho hl hc, .int .i64 ct] 48)) w3 ⟨rt, rk, eo, el, ec, ho, hl, hc, ct⟩ es hs be bh ks) := HT2.out.keep hf3
  have HG3 : Hid (w3.heap[w1.heap.size]? = some (.cells #[.int .i64 rt, .bool rk, .slice (some ⟨be, 0, none⟩) el (el + 1), .slice (some ⟨bh, 0, none⟩) hl (hl + 1), .int .i64 ct] 46 (0, 0))) := hf3.keep HG2.out (by simp)
  clear hf3 HA2 HT2 HG2 HY a0 a1 a2 a3 a4 a5 a6 a7 a8
  obtain ⟨a0, a1, a2, a3, a4, a5, a6, a7, a8⟩ := HAc.out _ HA3.out
  obtain ⟨b0, b1, b2, b3, b4⟩ := rp_cells HG3.out
  go_wp2_with fail
  refine (HLf.out _ _ be bh ks (HF0.out.then HA3.out) HT3.out).mono ?_
  rintro e w4 ⟨rfl, hf4⟩
  have HF4 : Hid (Fr [] w w4) := (HF0.out.then HA3.out).then hf4
  have HT4 : Hid (TwR (w.alloc (.cells #[.int .u8 2, .int .i64 ma, .int .i64 le, .slice bo bl bc, .int .i64 rt, .bool rk, .slice eo el ec, .slice ho hl hc, .int .i64 ct] 48)) w4 ⟨rt, rk, eo, el, ec, ho, hl, hc, ct⟩ es hs be bh ks) := HT3.out.keep hf4
  have HG4 : Hid (w4.heap[w1.heap.size]? = some (.cells #[.int .i64 rt, .bool rk, .slice (some ⟨be, 0, none⟩) el (el + 1), .slice (some ⟨bh, 0, none⟩) hl (hl + 1), .int .i64 ct] 46 (0, 0))) := hf4.keep HG3.out (by simp)
  have HW0 : Hid (w.heap.size ≤ (w.alloc (.cells #[.int .u8 2, .int .i64 ma, .int .i64 le, .slice bo bl bc, .int .i64 rt, .bool rk, .slice eo el ec, .slice ho hl hc, .int .i64 ct] 48)).heap.size) := HF0.out.size
  clear hf4 HA3 HT3 HG3 HLf HAc HF0 a0 a1 a2 a3 a4 a5 a6 a7 a8 b0 b1 b2 b3 b4
  obtain ⟨g, hg⟩ : ∃ g, g = w1.heap.size := ⟨_, rfl⟩
  rw [← hg] at HG4 HGn ⊢
  clear hg
  have HB4 : Hid (∀ W, Fr [be] w4 W → W.cell? ⟨g, 2, none⟩ = some (.slice (some ⟨be, 0, none⟩) el (el + 1))) := fun W hW => (rp_cells (hW.keep HG4.out (by simp; exact ty_ne17 HG4.out HT4.out.re (by decide)))).2.2.1
  go_wp2_with fail
  go_loopw [14] (fun ii wr => ∃ i : Nat, ii = .int .i64 i ∧ i ≤ el ∧ Hid (∃ cs : Array Value, wr.heap[be]? = some (.cells cs 85 (0, 0)) ∧ cs.size = (el + 1) * 2) ∧ Hid (Fr [be] w4 wr)) (fun ii _ => el - (RowKit.intOf ii).toNat)
  case atStart => exact ⟨0, rfl, Nat.zero_le _, ⟨_, HT4.out.re, by have h1 := eysC_length (es ++ [spE]); rw [List.length_append] at h1; simp only [List.length_cons, List.length_nil] at h1; rw [HHl.out.2]; simpa using h1⟩, Fr.refl _ _⟩
  case round =>
    obtain ⟨i, rfl, hiM, HCs, HFw⟩ := hrel
    have c2 := HB4.out wr HFw.out
    by_cases hil : i < el
    · obtain ⟨cs, hcs, hsz⟩ := HCs.out
      obtain ⟨⟨u0, p1⟩, ⟨u1, p2⟩, p3, p4, ⟨cs', q1, q2, _⟩, hF⟩ := put_two (.string ⟨#[115, 112, 111, 105, 108, 116]⟩) (.string ⟨#[]⟩) hcs (show i * 2 + 1 < cs.size by rw [hsz]; omega)
      have HC2 : Hid (∃ cs : Array Value, ((wr.setCell ⟨be, i * 2, none⟩ (.string ⟨#[115, 112, 111, 105, 108, 116]⟩)).setCell ⟨be, i * 2 + 1, none⟩ (.string ⟨#[]⟩)).heap[be]? = some (.cells cs 85 (0, 0)) ∧ cs.size = (el + 1) * 2) := ⟨cs', q1, by rw [q2]; exact hsz⟩
      have HF3 : Hid (Fr [be] w4 ((wr.setCell ⟨be, i * 2, none⟩ (.string ⟨#[115, 112, 111, 105, 108, 116]⟩)).setCell ⟨be, i * 2 + 1, none⟩ (.string ⟨#[]⟩))) := HFw.out.then hF
      clear hcs hsz HCs q1 q2 hF
      go_wp2
      go_roundw
      case rel => exact ⟨i + 1, by simp, by omega, HC2, HF3⟩
      case measure => simp [RowKit.intOf]; omega
    · have hie : el = i := by omega
      subst hie
      have HOv : Hid (Ov w wr g bh hs ks hl #[.int .i64 rt, .bool rk, .slice (some ⟨be, 0, none⟩) el (el + 1), .slice (some ⟨bh, 0, none⟩) hl (hl + 1), .int .i64 ct] 0) := Ov.begin (r := ⟨rt, rk, eo, el, ec, ho, hl, hc, ct⟩) HW0.out HT4.out HHl.out.1.2 HHl.out.1.1 HF4.out HG4.out HGn.out HFw.out
      have HBx : Hid (∀ W j, Ov w W g bh hs ks hl #[.int .i64 rt, .bool rk, .slice (some ⟨be, 0, none⟩) el (el + 1), .slice (some ⟨bh, 0, none⟩) hl (hl + 1), .int .i64 ct] j → W.cell? ⟨g, 3, none⟩ = some (.slice (some ⟨bh, 0, none⟩) hl (hl + 1))) := fun W j hO => (rp_cells hO.bxr).2.2.2.1
      clear HB4 HFw HCs HT4 HG4 HF4 HW0 HGn
      go_wp2_with fail
      clear c2
      go_loopg [15] hl (fun gk ii wq => ∃ m : Nat, ii = .int .i64 m ∧ m ≤ hl ∧ hl - m ≤ gk ∧ Hid (Ov w wq g bh hs ks hl #[.int .i64 rt, .bool rk, .slice (some ⟨be, 0, none⟩) el (el + 1), .slice (some ⟨bh, 0, none⟩) hl (hl + 1), .int .i64 ct] m))
      case atStart => exact ⟨0, by simp, Nat.zero_le _, by omega, HOv⟩
      case round =>
        obtain ⟨m, rfl, hmM, hgk, HO⟩ := hrel
        have c3 := HBx.out _ _ HO.out
        by_cases hml : m < hl
        · have HLm : Hid (∃ B Lm, B = ks.getD m 0 ∧ Lm = (hs.getD m Hd.zero).L ∧ Lm ≤ 4398046511104) := ⟨_, _, rfl, rfl, HVL.out m⟩
          obtain ⟨B, Lm, hB, hLm, hLb⟩ := HLm.out
          have HBL : Hid (B = ks.getD m 0 ∧ Lm = (hs.getD m Hd.zero).L) := ⟨hB, hLm⟩
          have HCl : Hid (∀ W, Ov w W g bh hs ks hl #[.int .i64 rt, .bool rk, .slice (some ⟨be, 0, none⟩) el (el + 1), .slice (some ⟨bh, 0, none⟩) hl (hl + 1), .int .i64 ct] m → W.cell? ⟨g, 3, none⟩ = some (.slice (some ⟨bh, 0, none⟩) hl (hl + 1)) ∧ W.cell? ⟨bh, m * 2 + 1, none⟩ = some (.slice (some ⟨B, 0, none⟩) Lm (Lm + 1))) := fun W hO => ⟨HBx.out _ _ hO, by rw [HBL.out.1, HBL.out.2]; exact hO.cell hml⟩
          clear hB hLm HLm
          go_wp2_with fail
          go_loopg [16] Lm (fun gj ii wq => ∃ k : Nat, ii = .int .i64 k ∧ k ≤ Lm ∧ Lm - k ≤ gj ∧ Hid (Ov w wq g bh hs ks hl #[.int .i64 rt, .bool rk, .slice (some ⟨be, 0, none⟩) el (el + 1), .slice (some ⟨bh, 0, none⟩) hl (hl + 1), .int .i64 ct] m))
          case atStart => exact ⟨0, by simp, Nat.zero_le _, by omega, HO⟩
          case round =>
            obtain ⟨k, rfl, hkM, hgj, HOk⟩ := hrel
            obtain ⟨d3, d4⟩ := HCl.out _ HOk.out
            by_cases hkl : k < Lm
            · have hV := HOk.out.ver hml k (by rw [← HBL.out.2]; exact hkl) (.int .i64 (-77)) (.string ⟨#[]⟩) (.bool false)
              rw [← HBL.out.1] at hV
              obtain ⟨⟨u0, p1⟩, ⟨u1, p2⟩, ⟨u2, p3⟩, p4, p5, p6, hO2⟩ := hV
              have HO2 : Hid (Ov _ _ _ _ _ _ _ _ _) := hO2
              clear hO2 c3
              go_wp2
              go_roundg (Lm - (k + 1))
              case measure => omega
              case rel => exact ⟨k + 1, by simp, by omega, by omega, HO2⟩
            · have hC := HOk.out.clr hml (.string ⟨#[]⟩) (.slice none 0 0)
              obtain ⟨⟨u0, p1⟩, ⟨u1, p2⟩, p3, p4, hO2⟩ := hC
              have HO2 : Hid (Ov _ _ _ _ _ _ _ _ _) := hO2
              clear hO2 c3 p2
              go_wp2
              go_roundg (hl - (m + 1))
              case measure => omega
              case rel => exact ⟨m + 1, by simp, by omega, by omega, HO2⟩
        · go_wp2
          go_ret
          exact ⟨rfl, HO.out.fr⟩
end Go.Proofs.Ytpdkdgmaofhlkaa
