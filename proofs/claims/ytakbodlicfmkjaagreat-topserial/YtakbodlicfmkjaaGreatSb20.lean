/- The tasks of a new machine are seated: the walk of seatAll. Conditions as each names them. -/
import Derived.Test.YtakbodlicfmkjaaGreatSa20
namespace Go.Proofs.YtakbodlicfmkjaaGreat.Ap
open Go.ChangeShapes Go.WideShapes Go.ChangeAt Go.RowKit Go.Lib
set_option linter.unusedVariables false
set_option linter.unusedSimpArgs false
/-- So many lanes' and owners' tasks are seated, behind the dispatcher's. -/
def SaP (w0 : World) (c : Cf) (Q : Ix → Part) (la : Nat → Nat) (nl : Nat) (ob : Nat → Nat) (oy : Nat → Oy) (no mb lsB osB : Nat) (cs0 : Array Value) (a b : Nat) (w : World) : Prop :=
  ∃ l cs xs so k kd kw kk, Sq w0 w c Q la nl ob oy no mb cs (.slice so (1 + a + b) k) (1 + a + b) xs l ∧ Sf l cs cs0 xs mb la nl ob no lsB osB kd kw kk a b
/-- All are. -/
def SaE (w0 : World) (c : Cf) (Q : Ix → Part) (la : Nat → Nat) (nl : Nat) (ob : Nat → Nat) (oy : Nat → Oy) (no mb lsB osB : Nat) (cs0 : Array Value) (w : World) : Prop :=
  ∃ l cs xs so k kd kw kk kg, Sq w0 w c Q la nl ob oy no mb cs (.slice so (1 + nl + no + 1) k) (1 + nl + no + 1) (xs ++ [.iface 227 (.pointer (some ⟨kg, 0, none⟩))]) l ∧ Sf l cs cs0 xs mb la nl ob no lsB osB kd kw kk nl no ∧ (kg, Obj.cells #[.pointer (some ⟨mb, 0, none⟩), .int .i64 ((1 + nl + no : Nat) : Int)] 228 (0, 0)) ∈ l
section
variable {w0 w : World} {c : Cf} {Q : Ix → Part} {la : Nat → Nat} {nl : Nat} {ob : Nat → Nat} {oy : Nat → Oy} {no mb lsB osB : Nat} {cs0 : Array Value}
set_option maxHeartbeats 8000000 in
set_option maxRecDepth 100000 in
theorem seatAll_any {l : List (Nat × Obj)} {lk ok : Nat} {curL curO : Array Value} (h : Bd w0 w c Q la nl ob oy no l) (hm : (mb, Obj.cells cs0 77 (0, 0)) ∈ l) (hsz : cs0.size = 19) (h13 : cs0[13]? = some (.slice none 0 0)) (h10 : cs0[10]? = some (.slice (some ⟨lsB, 0, none⟩) nl lk)) (h11 : cs0[11]? = some (.slice (some ⟨osB, 0, none⟩) no ok))
    (hL : (lsB, Obj.cells curL 156 (0, 0)) ∈ l) (hL2 : ∀ i, i < nl → curL[i]? = some (pv (la i))) (hO : (osB, Obj.cells curO 131 (0, 0)) ∈ l) (hO2 : ∀ i, i < no → curO[i]? = some (pv (ob i))) (hnl : nl ≤ 16) (hno : no ≤ 16) :
    Calls Tryz.prog 64 #[.pointer (some ⟨mb, 0, none⟩)] w fun e w' => (∃ v, e = .returned v) ∧ SaE w0 c Q la nl ob oy no mb lsB osB cs0 w' := by
  obtain ⟨iT, hiT, hzT, hsT, hbT⟩ := info3a Tryz.infoTask
  have hs0 : Sq w0 w c Q la nl ob oy no mb cs0 (.slice none 0 0) 0 [] l := ⟨h, hm, hsz, h13, RowL.nil _ _⟩
  obtain ⟨o, n, k, xs, ho, hn, hk, hxs⟩ : ∃ (o : Option Addr) (n k : Nat) (xs : List Value), o = none ∧ n = 0 ∧ k = 0 ∧ xs = [] := ⟨_, _, _, _, rfl, rfl, rfl, rfl⟩
  have hs1 : Sq w0 w c Q la nl ob oy no mb cs0 (.slice o n k) n xs l := by rw [ho, hn, hk, hxs]; exact hs0
  have HX : Hid (HxP w mb o n k xs) := hs1.hx (by omega)
  have HA : Hid (∀ W bx g cap w', Fr [] w W → W.heap[bx]? = some (.cells #[.pointer (some ⟨mb, 0, none⟩), .int .i64 (n : Int)] 220 (0, 0)) → w.heap.size ≤ bx → w'.ownsRow 0 102 1 (.slice (some ⟨g, 0, none⟩) (n + 1) cap) (n + 1) (xs ++ [.iface 215 (.pointer (some ⟨bx, 0, none⟩))]) → Went W (.slice o n k) g w' →
      w'.cell? ⟨mb, 13, none⟩ = some (.slice o n k) ∧ w'.frozen? ⟨mb, 13, none⟩ = false ∧ Hid (SaP w0 c Q la nl ob oy no mb lsB osB cs0 0 0 (w'.setCell ⟨mb, 13, none⟩ (.slice (some ⟨g, 0, none⟩) (n + 1) cap)))) := fun W bx g cap w' a1 a2 a3 a4 a5 => by
    obtain ⟨q1, q2, q3⟩ := hs1.step (tK := 220) (tI := 215) ⟨by decide, by decide⟩ W bx g cap w' a1 a2 a3 a4 a5
    refine ⟨q1, q2, ?_⟩
    obtain ⟨l', cs', r1, r2, r3, r4⟩ := q3.out
    rw [hn, hxs] at r1
    rw [hn] at r2
    refine ⟨l', cs', _, _, cap, bx, fun _ => 0, fun _ => 0, (by rw [hn]; exact r1), ⟨r3, ⟨curL, r4 _ _ _ (by decide) (by decide) hL, hL2⟩, ⟨curO, r4 _ _ _ (by decide) (by decide) hO, hO2⟩, r2, fun i hi => absurd hi (by omega), fun i hi => absurd hi (by omega), rfl, fun i hi => ?_⟩⟩
    obtain rfl : i = 0 := by omega
    rfl
  obtain ⟨c13, ow0, HN⟩ := HX.out _ (Fr.drew [] w)
  have hn2 : n ≤ 50 := by omega
  have H10 : Hid (cs0[10]? = some (.slice (some ⟨lsB, 0, none⟩) nl lk)) := h10
  have H11 : Hid (cs0[11]? = some (.slice (some ⟨osB, 0, none⟩) no ok)) := h11
  clear h hm hsz h13 h10 h11 hL hL2 hO hO2 hs0 hs1 ho hn hk hxs ow0
  go_enter Tryz.func64, Tryz.ntmps64
  go_upto_region 0 with fail
  go_cut [6] from 6 to 19 (fun p wx => p = .pointer (some ⟨mb, 0, none⟩) ∧ SaP w0 c Q la nl ob oy no mb lsB osB cs0 0 0 wx)
  case first =>
    go_region_law (first
    | (refine step_app _ rfl (.tmp 10) (.tmp 16) 73 rfl 102 iT .nilIface 1 16 Tryz.undTasks hiT hzT hsT hbT rfl (by decide) (.slice o n k) n xs (by rfl) (HX.out _ (HF2.out.then (fr2 _ _ _))).2.1 ⟨w2.heap.size + 1, 0, none⟩ 1 [.iface 215 (.pointer (some ⟨w2.heap.size, 0, none⟩))] (by rfl) rfl (one_cell (alloc2 _ _ _ _)) (one_iface _ _) (by omega) (by unfold maxLen; omega) ?_; intro g cap w4 hO hW; obtain ⟨e13, ef, HP⟩ := HA.out _ _ g cap w4 (HF2.out.then (fr2 _ _ _)) (alloc1 _ _ _ _) HF2.out.size hO hW)
    | (go_simp; go_at_call 103; with_reducible refine Calls.mono HN.out ?_; rintro e w2 ⟨rfl, hf2, d13, HF2, d14, d15⟩; dsimp only))
    all_goals (go_wp2; go_meet; exact ⟨rfl, HP.out⟩)
  case rest =>
    obtain ⟨rfl, hS⟩ := hcut
    have HS0 : Hid (SaP w0 c Q la nl ob oy no mb lsB osB cs0 0 0 wc) := hS
    clear hS HX HA HN c13 hn2
    have c10 : wc.cell? ⟨mb, 10, none⟩ = some (.slice (some ⟨lsB, 0, none⟩) nl lk) := by
      obtain ⟨l, cs, xs, so, k, kd, kw, kk, q1, q2⟩ := HS0.out
      rw [q1.bd.cell q1.box, q2.hc 10 (by decide)]; exact H10.out
    go_wp2_with fail
    go_loopw [25] (fun ii wr => ∃ (i : Nat), ii = .int .i64 i ∧ i ≤ nl ∧ Hid (SaP w0 c Q la nl ob oy no mb lsB osB cs0 i 0 wr)) (fun ii _ => nl - (RowKit.intOf ii).toNat)
    case atStart => exact ⟨0, rfl, Nat.zero_le _, HS0⟩
    case round =>
      obtain ⟨i, rfl, hin, HS⟩ := hrel
      by_cases hi : i < nl
      · have hlt : (i : Int) < nl := by omega
        obtain ⟨l, cs, xs, so, k, kd, kw, kk, q1, q2⟩ := HS.out
        obtain ⟨n, hn⟩ : ∃ n, n = 1 + i + 0 := ⟨_, rfl⟩
        rw [← hn] at q1
        obtain ⟨o, ho⟩ : ∃ o, o = so := ⟨_, rfl⟩
        rw [← ho] at q1
        have HX : Hid (HxP wr mb o n k xs) := q1.hx (by omega)
        obtain ⟨cur, hcur, hcur2⟩ := q2.lr
        have cl : wr.cell? ⟨lsB, i, none⟩ = some (.pointer (some ⟨la i, 0, none⟩)) := by rw [q1.bd.cell hcur]; exact hcur2 i hi
        have HA : Hid (∀ W bx g cap w', Fr [] wr W → W.heap[bx]? = some (.cells #[.pointer (some ⟨mb, 0, none⟩), .int .i64 (n : Int), .pointer (some ⟨la i, 0, none⟩)] 223 (0, 0)) → wr.heap.size ≤ bx → w'.ownsRow 0 102 1 (.slice (some ⟨g, 0, none⟩) (n + 1) cap) (n + 1) (xs ++ [.iface 221 (.pointer (some ⟨bx, 0, none⟩))]) → Went W (.slice o n k) g w' →
            w'.cell? ⟨mb, 13, none⟩ = some (.slice o n k) ∧ w'.frozen? ⟨mb, 13, none⟩ = false ∧ Hid (SaP w0 c Q la nl ob oy no mb lsB osB cs0 (i + 1) 0 (w'.setCell ⟨mb, 13, none⟩ (.slice (some ⟨g, 0, none⟩) (n + 1) cap)))) := fun W bx g cap w' a1 a2 a3 a4 a5 => by
          obtain ⟨p1, p2, p3⟩ := q1.step (tK := 223) (tI := 221) ⟨by decide, by decide⟩ W bx g cap w' a1 a2 a3 a4 a5
          refine ⟨p1, p2, ?_⟩
          obtain ⟨l', cs', r1, r2, r3, r4⟩ := p3.out
          have e : 1 + (i + 1) + 0 = n + 1 := by omega
          have hf := (q2.rest r3 r4).lane (bx := bx) hi (by rw [hn] at r2; have e1 : 1 + i + 0 = i + 1 := (by omega); rw [e1] at r2; exact r2)
          exact ⟨l', cs', _, some ⟨g, 0, none⟩, cap, kd, upd kw i bx, kk, by rw [e]; exact r1, hf⟩
        obtain ⟨c13, _, HN⟩ := HX.out _ (Fr.drew [] wr)
        have hn2 : n ≤ 50 := by omega
        clear q1 q2 hcur hcur2 hn ho HS
        go_wp2_with fail
        go_region_law (first
    | (refine step_app _ rfl (.tmp 33) (.tmp 40) 73 rfl 102 iT .nilIface 1 16 Tryz.undTasks hiT hzT hsT hbT rfl (by decide) (.slice o n k) n xs (by rfl) (HX.out _ (HF2.out.then (fr2 _ _ _))).2.1 ⟨w2.heap.size + 1, 0, none⟩ 1 [.iface 221 (.pointer (some ⟨w2.heap.size, 0, none⟩))] (by rfl) rfl (one_cell (alloc2 _ _ _ _)) (one_iface _ _) (by omega) (by unfold maxLen; omega) ?_; intro g cap w4 hO hW; obtain ⟨e13, ef, HP⟩ := HA.out _ _ g cap w4 (HF2.out.then (fr2 _ _ _)) (alloc1 _ _ _ _) HF2.out.size hO hW)
    | (go_simp; go_at_call 103; with_reducible refine Calls.mono HN.out ?_; rintro e w2 ⟨rfl, hf2, d13, HF2, d14, d15⟩; dsimp only))
        all_goals (
          go_wp2_with fail
          go_roundw
          case rel => exact ⟨i + 1, by simp, by omega, HP⟩
          case measure => simp [RowKit.intOf]; omega)
      · have hil : i = nl := by omega
        rw [hil] at HS
        have hlt : ¬ (i : Int) < nl := by omega
        have c11 : wr.cell? ⟨mb, 11, none⟩ = some (.slice (some ⟨osB, 0, none⟩) no ok) := by
          obtain ⟨l, cs, xs, so, k, kd, kw, kk, q1, q2⟩ := HS.out
          rw [q1.bd.cell q1.box, q2.hc 11 (by decide)]; exact H11.out
        clear hil c10 HS0
        obtain ⟨wq, hwq⟩ : ∃ wq, wq = wr := ⟨_, rfl⟩
        subst hwq
        go_wp2_with fail
        go_loopw [50] (fun jj wr => ∃ (j : Nat), jj = .int .i64 j ∧ j ≤ no ∧ Hid (SaP w0 c Q la nl ob oy no mb lsB osB cs0 nl j wr)) (fun jj _ => no - (RowKit.intOf jj).toNat)
        case atStart => exact ⟨0, rfl, Nat.zero_le _, HS⟩
        case round =>
          obtain ⟨j, rfl, hjn, HSj⟩ := hrel
          by_cases hj : j < no
          · have hlj : (j : Int) < no := by omega
            obtain ⟨l, cs, xs, so, k, kd, kw, kk, q1, q2⟩ := HSj.out
            obtain ⟨n, hn⟩ : ∃ n, n = 1 + nl + j := ⟨_, rfl⟩
            rw [← hn] at q1
            obtain ⟨o, ho⟩ : ∃ o, o = so := ⟨_, rfl⟩
            rw [← ho] at q1
            have HX : Hid (HxP wr mb o n k xs) := q1.hx (by omega)
            obtain ⟨cur, hcur, hcur2⟩ := q2.wr
            have cl : wr.cell? ⟨osB, j, none⟩ = some (.pointer (some ⟨ob j, 0, none⟩)) := by rw [q1.bd.cell hcur]; exact hcur2 j hj
            have HA : Hid (∀ W bx g cap w', Fr [] wr W → W.heap[bx]? = some (.cells #[.pointer (some ⟨mb, 0, none⟩), .int .i64 (n : Int), .int .i64 (j : Int), .pointer (some ⟨ob j, 0, none⟩)] 226 (0, 0)) → wr.heap.size ≤ bx → w'.ownsRow 0 102 1 (.slice (some ⟨g, 0, none⟩) (n + 1) cap) (n + 1) (xs ++ [.iface 224 (.pointer (some ⟨bx, 0, none⟩))]) → Went W (.slice o n k) g w' →
                w'.cell? ⟨mb, 13, none⟩ = some (.slice o n k) ∧ w'.frozen? ⟨mb, 13, none⟩ = false ∧ Hid (SaP w0 c Q la nl ob oy no mb lsB osB cs0 nl (j + 1) (w'.setCell ⟨mb, 13, none⟩ (.slice (some ⟨g, 0, none⟩) (n + 1) cap)))) := fun W bx g cap w' a1 a2 a3 a4 a5 => by
              obtain ⟨p1, p2, p3⟩ := q1.step (tK := 226) (tI := 224) ⟨by decide, by decide⟩ W bx g cap w' a1 a2 a3 a4 a5
              refine ⟨p1, p2, ?_⟩
              obtain ⟨l', cs', r1, r2, r3, r4⟩ := p3.out
              have e : 1 + nl + (j + 1) = n + 1 := by omega
              have hf := (q2.rest r3 r4).owner (bx := bx) (by rw [hn] at r2; have e1 : 1 + nl + j = nl + 1 + j := (by omega); rw [e1] at r2; exact r2)
              exact ⟨l', cs', _, some ⟨g, 0, none⟩, cap, kd, kw, upd kk j bx, by rw [e]; exact r1, hf⟩
            obtain ⟨c13, _, HN⟩ := HX.out _ (Fr.drew [] wr)
            have hn2 : n ≤ 50 := by omega
            clear q1 q2 hcur hcur2 hn ho HSj
            go_wp2_with fail
            go_region_law (first
    | (refine step_app _ rfl (.tmp 59) (.tmp 67) 73 rfl 102 iT .nilIface 1 16 Tryz.undTasks hiT hzT hsT hbT rfl (by decide) (.slice o n k) n xs (by rfl) (HX.out _ (HF2.out.then (fr2 _ _ _))).2.1 ⟨w2.heap.size + 1, 0, none⟩ 1 [.iface 224 (.pointer (some ⟨w2.heap.size, 0, none⟩))] (by rfl) rfl (one_cell (alloc2 _ _ _ _)) (one_iface _ _) (by omega) (by unfold maxLen; omega) ?_; intro g cap w4 hO hW; obtain ⟨e13, ef, HP⟩ := HA.out _ _ g cap w4 (HF2.out.then (fr2 _ _ _)) (alloc1 _ _ _ _) HF2.out.size hO hW)
    | (go_simp; go_at_call 103; with_reducible refine Calls.mono HN.out ?_; rintro e w2 ⟨rfl, hf2, d13, HF2, d14, d15⟩; dsimp only))
            all_goals (
              go_wp2_with fail
              go_roundw
              case rel => exact ⟨j + 1, by simp, by omega, HP⟩
              case measure => simp [RowKit.intOf]; omega)
          · have hjl : j = no := by omega
            rw [hjl] at HSj
            have hlj : ¬ (j : Int) < no := by omega
            obtain ⟨l, cs, xs, so, k, kd, kw, kk, q1, q2⟩ := HSj.out
            obtain ⟨n, hn⟩ : ∃ n, n = 1 + nl + no := ⟨_, rfl⟩
            rw [← hn] at q1
            obtain ⟨o, ho⟩ : ∃ o, o = so := ⟨_, rfl⟩
            rw [← ho] at q1
            have HX : Hid (HxP wr mb o n k xs) := q1.hx (by omega)
            have HA : Hid (∀ W bx g cap w', Fr [] wr W → W.heap[bx]? = some (.cells #[.pointer (some ⟨mb, 0, none⟩), .int .i64 (n : Int)] 228 (0, 0)) → wr.heap.size ≤ bx → w'.ownsRow 0 102 1 (.slice (some ⟨g, 0, none⟩) (n + 1) cap) (n + 1) (xs ++ [.iface 227 (.pointer (some ⟨bx, 0, none⟩))]) → Went W (.slice o n k) g w' →
                w'.cell? ⟨mb, 13, none⟩ = some (.slice o n k) ∧ w'.frozen? ⟨mb, 13, none⟩ = false ∧ Hid (SaE w0 c Q la nl ob oy no mb lsB osB cs0 (w'.setCell ⟨mb, 13, none⟩ (.slice (some ⟨g, 0, none⟩) (n + 1) cap)))) := fun W bx g cap w' a1 a2 a3 a4 a5 => by
              obtain ⟨p1, p2, p3⟩ := q1.step (tK := 228) (tI := 227) ⟨by decide, by decide⟩ W bx g cap w' a1 a2 a3 a4 a5
              refine ⟨p1, p2, ?_⟩
              obtain ⟨l', cs', r1, r2, r3, r4⟩ := p3.out
              rw [hn] at r1 r2
              exact ⟨l', cs', xs, some ⟨g, 0, none⟩, cap, kd, kw, kk, bx, (by rw [hn]; exact r1), q2.rest r3 r4, r2⟩
            obtain ⟨c13, _, HN⟩ := HX.out _ (Fr.drew [] wr)
            have hn2 : n ≤ 50 := by omega
            clear q1 q2 hn ho HSj hjl HS
            go_wp2_with fail
            go_region_law (first
    | (refine step_app _ rfl (.tmp 76) (.tmp 82) 73 rfl 102 iT .nilIface 1 16 Tryz.undTasks hiT hzT hsT hbT rfl (by decide) (.slice o n k) n xs (by rfl) (HX.out _ (HF2.out.then (fr2 _ _ _))).2.1 ⟨w2.heap.size + 1, 0, none⟩ 1 [.iface 227 (.pointer (some ⟨w2.heap.size, 0, none⟩))] (by rfl) rfl (one_cell (alloc2 _ _ _ _)) (one_iface _ _) (by omega) (by unfold maxLen; omega) ?_; intro g cap w4 hO hW; obtain ⟨e13, ef, HP⟩ := HA.out _ _ g cap w4 (HF2.out.then (fr2 _ _ _)) (alloc1 _ _ _ _) HF2.out.size hO hW)
    | (go_simp; go_at_call 103; with_reducible refine Calls.mono HN.out ?_; rintro e w2 ⟨rfl, hf2, d13, HF2, d14, d15⟩; dsimp only))
            all_goals (
              go_wp2
              go_end0
              exact ⟨⟨_, rfl⟩, HP.out⟩)
end
end Go.Proofs.YtakbodlicfmkjaaGreat.Ap
