/- The walk of the law FeedOrder. Conditions: what the law's frame hands on. -/
import Derived.Test.YtibgdfjfhjckoaaOn16
import Derived.Test.YtibgdfjfhjckoaaIn10
namespace Go.Proofs.Ytibgdfjfhjckoaa
open Go.ChangeShapes Go.WideShapes Go.ChangeAt Go.RowKit Go.Lib Go.Maps
set_option linter.unusedVariables false
set_option linter.unusedSimpArgs false

set_option maxHeartbeats 4000000 in
set_option maxRecDepth 100000 in
theorem in16_any (bo : Option Addr) (M bc : Nat) (bs : List Int) (x : Int) (w : World) (h : IRs w bo bs) (hM : M = bs.length) (b : Bool) (hb : b = true ↔ x ∈ bs) : Calls Try.prog 19 #[.slice bo M bc, .int .i64 x] w fun e w' => e = .returned (.bool b) ∧ Fr [] w w' := by
  have HM : Hid (M = bs.length) := hM
  have HB : Hid (b = true ↔ x ∈ bs) := hb
  have hfew : M ≤ 17592186044416 := by rw [hM]; exact h.few
  clear hM hb
  go_enter Try.func19, Try.ntmps19
  go_wp2_with fail
  go_loopw [5] (fun ii wr => ∃ i : Nat, ii = .int .i64 i ∧ i ≤ M ∧ Hid (∀ j, j < i → bs.getD j 0 ≠ x) ∧ Hid (Fr [] w wr)) (fun ii _ => M - (RowKit.intOf ii).toNat)
  case atStart => exact ⟨0, rfl, Nat.zero_le _, fun j hj => by omega, Fr.refl _ _⟩
  case round =>
    obtain ⟨i, rfl, hiM, HU, HF⟩ := hrel
    by_cases hil : i < M
    · have hi' : i < bs.length := by rw [← HM.out]; exact hil
      obtain ⟨k, off, e, _, hc⟩ := (h.keep HF.out).lies (by omega)
      subst e
      have d0 := hc i hi'
      obtain ⟨y, hy⟩ : ∃ y, y = bs.getD i 0 := ⟨_, rfl⟩
      rw [← hy] at d0
      have HY : Hid (y = bs.getD i 0) := hy
      clear hc hy
      by_cases hxe : y = x
      · have heq : (y == x) = true := by simpa using hxe
        have HT : Hid (b = true) := HB.out.2 (by rw [← hxe, HY.out]; simp [List.getD, hi'])
        clear HY
        go_wp2
        go_ret
        rw [HT.out]
        exact ⟨rfl, HF.out⟩
      · have heq : (y == x) = false := by simpa using hxe
        have HU2 : Hid (∀ j, j < i + 1 → bs.getD j 0 ≠ x) := fun j hj => by
          by_cases e : j = i
          · rw [e, ← HY.out]; exact hxe
          · exact HU.out j (by omega)
        clear HY HU
        go_wp2
        go_roundw
        case rel => exact ⟨i + 1, by simp, by omega, HU2, HF⟩
        case measure => simp [RowKit.intOf]; omega
    · obtain rfl : i = M := by omega
      have HT : Hid (b = false) := by
        show _ = _
        have hn2 : ¬ x ∈ bs := fun hm => by
          obtain ⟨j, hj, e⟩ := List.getElem_of_mem hm
          exact HU.out j (by rw [HM.out]; exact hj) (by simp [List.getD, hj, e])
        cases b with
        | true => exact absurd (HB.out.1 rfl) hn2
        | false => rfl
      go_wp2
      go_ret
      rw [HT.out]
      exact ⟨rfl, HF.out⟩
/-- The numbers that were asked for: from m + 1 to r. -/
def askd (m r : Nat) : List Nat := (List.range (r - m)).map (· + (m + 1))
theorem askd_len (m r : Nat) : (askd m r).length = r - m := by simp [askd]
theorem askd_self (m : Nat) : askd m m = [] := by simp [askd]
theorem askd_snoc {m r : Nat} (h : m ≤ r) : askd m r ++ [r + 1] = askd m (r + 1) := by
  unfold askd
  rw [show r + 1 - m = (r - m) + 1 from by omega, List.range_succ, List.map_append]
  simp
  omega
theorem askd_get {m r i : Nat} (h : i < r - m) : (askd m r).getD i 0 = m + 1 + i := by
  simp [askd, List.getD, h]
  omega
/-- What stands between two rounds: the feed's state, and the law's own numbers. -/
structure Ost (b f g L : Nat) (bs : List Int) (X : List Tx) (m q : Nat) (w0 w : World) (mk nx rs : Nat) (r : Nat) (hv : Bool) : Prop where
  one : One b f g L bs X ⟨r, L, q, hv, false⟩ (askd m r) w
  fr : FrO b w0 w
  mr : m ≤ r
  rL : r ≤ L
  mL : mk ≤ L
  nx : nx = if hv = true then r else r + 1
  rs : rs = r - m
  hr : hv = true → m + 1 ≤ r
theorem Ost.keep {b f g L : Nat} {bs : List Int} {X : List Tx} {m q : Nat} {w0 w w' : World} {mk nx rs r : Nat} {hv : Bool} (h : Ost b f g L bs X m q w0 w mk nx rs r hv) (hf : Fr [] w w') : Ost b f g L bs X m q w0 w' mk nx rs r hv :=
  ⟨h.one.keep hf, h.fr.then (.of hf), h.mr, h.rL, h.mL, h.nx, h.rs, h.hr⟩
set_option maxHeartbeats 32000000 in
set_option maxRecDepth 100000 in
theorem order16_walk (ao : Option Addr) (L cap : Nat) (ts : List Tm) (mark win : Int) (bo : Option Addr) (M bc : Nat) (bs : List Int) (uo : Option Addr) (U uc : Nat) (xs : List Nat) (w : World) (hT : TRs w ao ts) (hL : L = ts.length) (hR : IRs w bo bs) (hM : M = bs.length) (hi : ∀ x ∈ bs, i64 x) (hm : i64 mark) (hU : BArg w uo U uc xs) :
    Calls Try.prog 5 #[.slice ao L cap, .agg #[.int .i64 mark, .slice bo M bc, .int .i64 win], .slice uo U uc] w fun e w' => e = .returned (.bool true) ∧ Fr [] w w' := by
  obtain ⟨w0, HW0⟩ : ∃ w0, Hid (w.alloc (.cells #[.int .i64 mark, .slice bo M bc, .int .i64 win] 25) = w0) := ⟨_, rfl⟩
  obtain ⟨A, HA⟩ : ∃ A, Hid (w.heap.size = A) := ⟨_, rfl⟩
  have hF0 : Fr [] w w0 := by rw [← HW0.out]; exact Fr.alloc _ _ _
  have hab : w0.heap[A]? = some (.cells #[.int .i64 mark, .slice bo M bc, .int .i64 win] 25 (0, 0)) := by rw [← HW0.out, ← HA.out]; exact heap_alloc_new _ _
  have HAb : Hid (w0.heap[A]? = some (.cells #[.int .i64 mark, .slice bo M bc, .int .i64 win] 25 (0, 0))) := hab
  have a0 : w0.cell? ⟨A, 0, none⟩ = some (.int .i64 mark) := by rw [cell_of_row _ _ _ _ _ _ hab]; rfl
  have a1 : w0.cell? ⟨A, 1, none⟩ = some (.slice bo M bc) := by rw [cell_of_row _ _ _ _ _ _ hab]; rfl
  have a2 : w0.cell? ⟨A, 2, none⟩ = some (.int .i64 win) := by rw [cell_of_row _ _ _ _ _ _ hab]; rfl
  have HMd : Hid (Calls _ _ _ _ _) := made16_any ao L cap ts mark win bo M bc bs w0 (hT.keep hF0) hL (hR.keep hF0) hM hi hm
  have HF0 : Hid (Fr [] w w0) := hF0
  have HT : Hid (TRs w ao ts) := hT
  have HL : Hid (L = ts.length) := hL
  have HR : Hid (IRs w bo bs) := hR
  have HM : Hid (M = bs.length) := hM
  have HU : Hid (BArg w uo U uc xs) := hU
  have hmost := hU.most
  clear hF0 hab hT hL hR hM hi hm hU
  go_enter Try.func5, Try.ntmps5
  go_upto_region 1 with fail
  rw [HW0.out, HA.out]
  clear HW0 HA
  go_wp2_with fail
  refine Calls.mono HMd.out ?_
  rintro e w1 hmade
  obtain ⟨hF1, hone⟩ := hmade.one
  have HF1 : Hid (Fr [] w0 w1) := hF1
  clear hmade hF1 a0 a1 a2 HMd
  rcases hone with ⟨ps, rfl⟩ | ⟨hnew, hok, f, x, g, rfl, hO⟩
  · have HLv : Hid (Calls _ _ _ _ _) := lives16_any w1
    go_wp2_with fail
    refine Calls.mono HLv.out ?_
    rintro e w2 ⟨rfl, hF2⟩
    go_wp2
    go_ret
    exact ⟨rfl, HF0.out.then (HF1.out.then hF2)⟩
  · obtain ⟨p1, p2, p3, p4, p5⟩ := newC_ok hnew
    obtain ⟨m, rfl⟩ : ∃ m : Nat, mark = m := ⟨mark.toNat, by omega⟩
    obtain ⟨q, rfl⟩ : ∃ q : Nat, win = q := ⟨win.toNat, by omega⟩
    simp only [Int.toNat_natCast] at hO
    obtain ⟨n1, n2, n3, n4, n5⟩ := hO.nums
    simp only at n1 n2 n3 n4 n5
    obtain ⟨b, hb⟩ : ∃ b, b = w0.heap.size := ⟨_, rfl⟩
    rw [← hb] at hO
    have HO1 : Hid (One b f g L bs (txs ts) ⟨m, m, q, false, false⟩ [] w1) := hO
    have HEnd : Hid (∀ W, FrO b w1 W → Fr [] w W) := fun W hf => by rw [hb] at hf; exact HF0.out.then (hf.fr HF1.out)
    have HAc : Hid (∀ W, FrO b w1 W → W.cell? ⟨A, 0, none⟩ = some (.int .i64 (m : Int)) ∧ W.cell? ⟨A, 1, none⟩ = some (.slice bo M bc) ∧ W.cell? ⟨A, 2, none⟩ = some (.int .i64 (q : Int))) := fun W hf => by
      have := hf.keep (HF1.out.keep HAb.out (by simp)) (by decide) (by decide) (by decide) (by decide) (by decide)
      exact ⟨by rw [cell_of_row _ _ _ _ _ _ this]; rfl, by rw [cell_of_row _ _ _ _ _ _ this]; rfl, by rw [cell_of_row _ _ _ _ _ _ this]; rfl⟩
    have HOK : Hid (okL 1 (txs ts)) := hok
    clear hO hnew hok p1 p2 p5 hb
    have HC : Hid (Calls _ _ _ _ _) := one_more HO1.out (L : Int)
    go_wp2_with fail
    refine Calls.mono HC.out ?_
    rintro e w2 ⟨rfl, HO2, HG2⟩
    have hs2 : Fe.moreS ⟨m, m, q, false, false⟩ L (L : Int) = ⟨m, L, q, false, false⟩ := by
      have : Fe.moreC ⟨m, m, q, false, false⟩ L (L : Int) = 0 := by simp [Fe.moreC]; omega
      simp [Fe.moreS, this]
    rw [hs2] at HO2
    have HOs2 : Hid (Ost b f g L bs (txs ts) m q w1 w2 m (m + 1) 0 m false) := ⟨by rw [askd_self]; exact HO2.out, HG2.out, Nat.le_refl _, by omega, by omega, by simp, by omega, fun e => by cases e⟩
    obtain ⟨a0, a1, a2⟩ := HAc.out _ HG2.out
    clear HC hs2 HO1 HO2 HG2
    go_wp2_with fail
    go_loopw [11, 12, 13, 14] (fun mm nn rr ii wr => ∃ (i mk nx rs r : Nat) (hv : Bool), mm = .int .i64 mk ∧ nn = .int .i64 nx ∧ rr = .int .i64 rs ∧ ii = .int .i64 i ∧ i ≤ 400 ∧ mk ≤ 65536 ∧ nx ≤ 65537 ∧ rs ≤ 65536 ∧ Hid (Ost b f g L bs (txs ts) m q w1 wr mk nx rs r hv)) (fun _ _ _ ii _ => 400 - (RowKit.intOf ii).toNat)
    case atStart => exact ⟨0, m, m + 1, 0, m, false, rfl, by simp, rfl, rfl, by omega, by omega, by omega, by omega, HOs2⟩
    case round =>
      clear HOs2 a0 a1 a2
      obtain ⟨i, mk, nx, rs, r, hv, rfl, rfl, rfl, rfl, hi4, hmk, hnx, hrs, HS⟩ := hrel
      obtain ⟨a0, a1, a2⟩ := HAc.out _ HS.out.fr
      have HEx : Hid (Calls Try.prog 22 #[.pointer (some ⟨g, 0, none⟩)] wr fun e w' => ∃ so, e = .returned (.slice so rs rs) ∧ Hid (Is w' so (askd m r)) ∧ Hid (Fr [] wr w')) := one_asked HS.out.one (by rw [askd_len]; have := HS.out.rL; omega) rs (by rw [askd_len]; exact HS.out.rs)
      by_cases hgo : i < U ∧ i < 400
      · obtain ⟨hil, hi⟩ := hgo
        have hdl : decide ((i : Int) < (U : Int)) = true := by simpa using hil
        obtain ⟨bb, off, e, hbb, hc⟩ := (HU.out.keep (HEnd.out _ HS.out.fr)).lies (by omega)
        subst e
        have d0 := hc i hil
        have hx256 : xs.getD i 0 < 256 := HU.out.low _ (by have := HU.out.len; simp [List.getD, show i < xs.length by omega])
        obtain ⟨y, hy⟩ : ∃ y, y = xs.getD i 0 := ⟨_, rfl⟩
        rw [← hy] at d0 hx256
        clear hc hy
        obtain ⟨mk', hmk'⟩ : ∃ mk' : Nat, mk' = min (mk + y % 4) L := ⟨_, rfl⟩
        have hmkL : mk' ≤ L := by omega
        have HS1 : Hid (Ost b f g L bs (txs ts) m q w1 wr mk' nx rs r hv) := ⟨HS.out.one, HS.out.fr, HS.out.mr, HS.out.rL, hmkL, HS.out.nx, HS.out.rs, HS.out.hr⟩
        have HMin : Hid ((if (L : Int) < (mk : Int) + (y : Int) % 4 then (L : Int) else (mk : Int) + (y : Int) % 4) = (mk' : Int)) := by show _ = _; rw [hmk']; split <;> omega
        clear hmk'
        go_upto_region 14 with fail
        rw [HMin.out]
        clear HMin HEx HS d0 hx256
        have HC : Hid (Calls _ _ _ _ _) := one_can HS1.out.one (mk' : Int)
        have hrL := HS1.out.rL
        have hmr := HS1.out.mr
        have HRse : Hid (rs = r - m) := HS1.out.rs
        cases hv with
        | false =>
          have hnxe : nx = r + 1 := by have := HS1.out.nx; simpa using this
          subst hnxe
          by_cases hrl : r < L
          · rw [show Fe.can ⟨r, L, q, false, false⟩ bs (mk' : Int) = 1 from by simp [Fe.can, hrl]] at HC
            go_wp2_with fail
            refine Calls.mono HC.out ?_
            rintro e w2 ⟨rfl, HF2⟩
            have HS2 : Hid (Ost b f g L bs (txs ts) m q w1 w2 mk' (r + 1) rs r false) := HS1.out.keep HF2.out
            clear HC HF2 HS1
            have hcr : Fe.readC ⟨r, L, q, false, false⟩ = 0 := by simp [Fe.readC]; omega
            have HC : Hid (Calls Try.prog 17 #[.pointer (some ⟨f, 0, none⟩)] w2 fun e w' => e = .returned (.tuple #[.int .i64 ((r : Int) + 1), .int .i64 0]) ∧ Hid (Ost b f g L bs (txs ts) m q w1 w' mk' (r + 1) (rs + 1) (r + 1) true)) := by
              refine Calls.mono (one_read HS2.out.one (by rw [askd_len]; omega)) ?_
              rintro e w' ⟨he, h1, h2⟩
              have h1 := h1.out
              rw [show Fe.readS ⟨r, L, q, false, false⟩ = ⟨r + 1, L, q, true, false⟩ from by simp [Fe.readS, hcr], show Fe.readQ ⟨r, L, q, false, false⟩ (askd m r) = askd m (r + 1) from by rw [Fe.readQ, if_pos hcr]; exact askd_snoc HS2.out.mr] at h1
              refine ⟨?_, h1, HS2.out.fr.then h2.out, by omega, by omega, HS2.out.mL, by simp, by have := HRse.out; omega, fun _ => by omega⟩
              rw [he, hcr]
              simp [Fe.readN, hcr]
            go_wp2_with fail
            refine Calls.mono HC.out ?_
            rintro e w3 ⟨rfl, HS3⟩
            have hnn : (((r : Int) + 1) != ((r : Int) + 1)) = false := by simp
            clear HC HS2 hcr
            go_wp2
            go_roundw
            case rel => exact ⟨i + 1, mk', r + 1, rs + 1, r + 1, true, rfl, by simp, by simp, by simp, by omega, by omega, by omega, by have := HRse.out; omega, HS3⟩
            case measure => simp [RowKit.intOf]; omega
          · rw [show Fe.can ⟨r, L, q, false, false⟩ bs (mk' : Int) = 0 from by simp [Fe.can, hrl]] at HC
            go_wp2_with fail
            refine Calls.mono HC.out ?_
            rintro e w2 ⟨rfl, HF2⟩
            have HS2 : Hid (Ost b f g L bs (txs ts) m q w1 w2 mk' (r + 1) rs r false) := HS1.out.keep HF2.out
            clear HC HF2 HS1
            go_wp2
            go_roundw
            case rel => exact ⟨i + 1, mk', r + 1, rs, r, false, rfl, by simp, rfl, by simp, by omega, by omega, by omega, by omega, HS2⟩
            case measure => simp [RowKit.intOf]; omega
        | true =>
          have hnxe : nx = r := by have := HS1.out.nx; simpa using this
          have hr1 := HS1.out.hr rfl
          subst hnxe
          by_cases hb : (nx : Int) ∈ bs
          · rw [show Fe.can ⟨nx, L, q, true, false⟩ bs (mk' : Int) = 2 from by simp [Fe.can, hb]] at HC
            go_wp2_with fail
            refine Calls.mono HC.out ?_
            rintro e w2 ⟨rfl, HF2⟩
            have HS2 : Hid (Ost b f g L bs (txs ts) m q w1 w2 mk' nx rs nx true) := HS1.out.keep HF2.out
            clear HC HF2 HS1
            have hcs : Fe.skipC ⟨nx, L, q, true, false⟩ bs = 0 := by simp [Fe.skipC, hb]
            have HC : Hid (Calls Try.prog 18 #[.pointer (some ⟨f, 0, none⟩)] w2 fun e w' => e = .returned (.tuple #[.int .i64 (nx : Int), .int .i64 0]) ∧ Hid (Ost b f g L bs (txs ts) m q w1 w' mk' (nx + 1) rs nx false)) := by
              refine Calls.mono (one_skip HS2.out.one) ?_
              rintro e w' ⟨he, h1, h2⟩
              have h1 := h1.out
              rw [show Fe.skipS ⟨nx, L, q, true, false⟩ bs = ⟨nx, L, q, false, false⟩ from by simp [Fe.skipS, hcs]] at h1
              refine ⟨?_, h1, HS2.out.fr.then h2.out, HS2.out.mr, HS2.out.rL, HS2.out.mL, by simp, HS2.out.rs, fun e => by cases e⟩
              rw [he, hcs]
              simp [Fe.skipN, hcs]
            go_wp2_with fail
            refine Calls.mono HC.out ?_
            rintro e w3 ⟨rfl, HS3⟩
            have hnn : ((nx : Int) != (nx : Int)) = false := by simp
            obtain ⟨a0, a1, a2⟩ := HAc.out _ HS3.out.fr
            clear HC HS2 hcs
            have HC : Hid (Calls _ _ _ _ _) := in16_any bo M bc bs (nx : Int) w3 (HR.out.keep (HEnd.out _ HS3.out.fr)) HM.out true ⟨fun _ => hb, fun _ => rfl⟩
            go_wp2_with fail
            refine Calls.mono HC.out ?_
            rintro e w4 ⟨rfl, hF4⟩
            have HS4 : Hid (Ost b f g L bs (txs ts) m q w1 w4 mk' (nx + 1) rs nx false) := HS3.out.keep hF4
            clear HC hF4 HS3 a0 a1 a2
            go_wp2
            go_roundw
            case rel => exact ⟨i + 1, mk', nx + 1, rs, nx, false, rfl, by simp, rfl, by simp, by omega, by omega, by omega, by omega, HS4⟩
            case measure => simp [RowKit.intOf]; omega
          · by_cases hn : Fe.near ⟨nx, L, q, true, false⟩ (mk' : Int) = true
            · rw [show Fe.can ⟨nx, L, q, true, false⟩ bs (mk' : Int) = 3 from by simp [Fe.can, hb, hn]] at HC
              go_wp2_with fail
              refine Calls.mono HC.out ?_
              rintro e w2 ⟨rfl, HF2⟩
              have HS2 : Hid (Ost b f g L bs (txs ts) m q w1 w2 mk' nx rs nx true) := HS1.out.keep HF2.out
              clear HC HF2 HS1
              have HC : Hid (Calls _ _ _ _ _) := one_dis HS2.out.one (mk' : Int) (by simp [Fe.disC, hb, hn])
              have hnear : (nx : Int) - q ≤ mk' := by simpa [Fe.near] using hn
              go_wp2_with fail
              refine Calls.mono HC.out ?_
              rintro e w3 ⟨kk, kn, rfl, HWs, HO3, HG3⟩
              have HS3 : Hid (Ost b f g L bs (txs ts) m q w1 w3 mk' (nx + 1) rs nx false) := ⟨HO3.out, HS2.out.fr.then HG3.out, HS2.out.mr, HS2.out.rL, HS2.out.mL, by simp, HS2.out.rs, fun e => by cases e⟩
              clear HC HO3 HG3 HS2 hn
              obtain ⟨w4, HW4⟩ : ∃ w4, Hid (w3.alloc (.cells #[.int .i64 (nx : Int), .slice (some ⟨kk, 0, none⟩) kn kn] 42) = w4) := ⟨_, rfl⟩
              obtain ⟨B, HBB⟩ : ∃ B, Hid (w3.heap.size = B) := ⟨_, rfl⟩
              have hF4 : Fr [] w3 w4 := by rw [← HW4.out]; exact Fr.alloc _ _ _
              have hB4 : B2 w4 B (.int .i64 (nx : Int)) (.slice (some ⟨kk, 0, none⟩) kn kn) := ⟨by rw [← HW4.out, ← HBB.out]; exact heap_alloc_new _ _⟩
              have HB4 : Hid (B2 w4 B (.int .i64 (nx : Int)) (.slice (some ⟨kk, 0, none⟩) kn kn)) := hB4
              have HS4 : Hid (Ost b f g L bs (txs ts) m q w1 w4 mk' (nx + 1) rs nx false) := HS3.out.keep hF4
              have HWr : Hid (kn = ((txs ts).getD (nx - 1) Tx.zero).ws.length ∧ WRs w4 (some ⟨kk, 0, none⟩) ((txs ts).getD (nx - 1) Tx.zero).ws) := ⟨HWs.out.1, HWs.out.2.keep hF4⟩
              clear hF4 hB4 HS3 HWs
              go_upto_region 27 with fail
              rw [HW4.out, HBB.out]
              clear HW4 HBB
              obtain ⟨r, rfl⟩ : ∃ r, nx = r + 1 := ⟨nx - 1, by omega⟩
              have hTW := HT.out.keep (HEnd.out _ HS4.out.fr)
              have hrl : r < ts.length := by rw [← HL.out]; omega
              obtain ⟨lb, loff, e9, _, hcl⟩ := hTW.lies (by omega)
              subst e9
              have hx := hcl r hrl
              have hat := hTW.each _ (tgetD_mem ts r hrl)
              have hnum := (okL_get HOK.out r (by rw [txs_length]; exact hrl)).2
              rw [txs_getD] at hnum
              have hwse : ((txs ts).getD (r + 1 - 1) Tx.zero).ws = (ts.getD r Tm.zero).ws := by rw [Nat.add_sub_cancel, txs_getD]; rfl
              rw [hwse] at HWr
              obtain ⟨t, htt⟩ : ∃ t, t = ts.getD r Tm.zero := ⟨_, rfl⟩
              rw [← htt] at hx hat hnum HWr
              clear hcl htt hwse
              obtain ⟨tn, xo, XM, cm, ws⟩ := t
              simp only [Tm.tx] at hnum
              have htn : tn = (r : Int) + 1 := by rw [hnum]; omega
              subst htn
              obtain ⟨x0, x1⟩ := hx
              simp only at x0 x1
              have HAt : Hid (TArg w4 ((r : Int) + 1) xo XM cm ws) := hat
              clear hat hnum
              have f0 : ∀ y : Wd16 w4, y.W.cell? ⟨B, 0, none⟩ = some (.int .i64 ((r : Int) + 1)) := fun y => by have := (HB4.out.keep y.h).c0; simpa using this
              have f1 : ∀ y : Wd16 w4, y.W.cell? ⟨B, 1, none⟩ = some (.slice (some ⟨kk, 0, none⟩) kn kn) := fun y => (HB4.out.keep y.h).c1
              have g1 : ∀ y : Wd16 w4, y.W.cell? ⟨A, 1, none⟩ = some (.slice bo M bc) := fun y => (HAc.out _ (HS4.out.keep y.h).fr).2.1
              have g2 : ∀ y : Wd16 w4, y.W.cell? ⟨A, 2, none⟩ = some (.int .i64 (q : Int)) := fun y => (HAc.out _ (HS4.out.keep y.h).fr).2.2
              have l0 : ∀ y : Wd16 w4, y.W.cell? ⟨lb, loff + r * 2, none⟩ = some (.int .i64 ((r : Int) + 1)) := fun y => (World.cell?_of_block (y.h.block lb (World.block_lt_of_cell? w4 _ x0) (by simp))).trans x0
              have l1 : ∀ y : Wd16 w4, y.W.cell? ⟨lb, loff + r * 2 + 1, none⟩ = some (.slice xo XM cm) := fun y => (World.cell?_of_block (y.h.block lb (World.block_lt_of_cell? w4 _ x0) (by simp))).trans x1
              have HIn : ∀ y : Wd16 w4, Calls Try.prog 19 #[.slice bo M bc, .int .i64 ((r : Int) + 1)] y.W fun e w' => e = .returned (.bool false) ∧ Fr [] y.W w' := fun y => in16_any bo M bc bs ((r : Int) + 1) y.W (HR.out.keep (HEnd.out _ (HS4.out.keep y.h).fr)) HM.out false ⟨(fun e => by cases e), fun e => absurd (by simpa using e) hb⟩
              have HSm : ∀ y : Wd16 w4, Calls Try.prog 21 #[.agg #[.int .i64 ((r : Int) + 1), .slice (some ⟨kk, 0, none⟩) kn kn], .agg #[.int .i64 ((r : Int) + 1), .slice xo XM cm]] y.W fun e w' => e = .returned (.bool true) ∧ Fr [] y.W w' := fun y => sameTxn_any _ _ _ _ kn XM kn cm true ws ws y.W (HWr.out.2.keep y.h) (HAt.out.rs.keep y.h) HWr.out.1 HAt.out.len (by simp)
              have hnn : (((r : Int) + 1) != ((r : Int) + 1)) = false := by simp
              have hsub : IntKind.i64.wrap ((r : Int) + 1 - (mk' : Int)) = (r : Int) + 1 - (mk' : Int) := by rw [IntKind.wrap_i64]; omega
              have hdq : decide ((q : Int) < (r : Int) + 1 - (mk' : Int)) = false := by simp; omega
              have hix : IntKind.i64.wrap ((r : Int) + 1 - 1) = (r : Int) := by rw [IntKind.wrap_i64]; omega
              clear x0 x1 hTW
              refine wp_region_wd16 (w1 := w4) (by kernel_rfl) (by kernel_rfl) (Fr.refl _ _) ?_
              repeat (go_big_quiet_step (first
                | (go_at_call 19; with_reducible refine (HIn _).mono ?_; exact fun e w3 hh => ⟨hh.1, ⟨_, Fr.then (Wd16.h _) hh.2⟩, rfl⟩)
                | (go_at_call 21; with_reducible refine (HSm _).mono ?_; exact fun e w3 hh => ⟨hh.1, ⟨_, Fr.then (Wd16.h _) hh.2⟩, rfl⟩)))
              refine wpQuiet_nil ?_
              rintro _ ⟨z, rfl⟩
              clear f0 f1 g1 g2 l0 l1 HIn HSm
              obtain ⟨w7, hF7⟩ := z
              simp only
              have HS7 : Hid (Ost b f g L bs (txs ts) m q w1 w7 mk' (r + 1 + 1) rs (r + 1) false) := HS4.out.keep hF7
              clear hF7 HS4 HB4
              go_wp2
              go_roundw
              case rel => exact ⟨i + 1, mk', r + 1 + 1, rs, r + 1, false, rfl, by simp, rfl, by simp, by omega, by omega, by omega, by omega, HS7⟩
              case measure => simp [RowKit.intOf]; omega
            · rw [show Fe.can ⟨nx, L, q, true, false⟩ bs (mk' : Int) = 0 from by simp [Fe.can, hb, hn]] at HC
              go_wp2_with fail
              refine Calls.mono HC.out ?_
              rintro e w2 ⟨rfl, HF2⟩
              have HS2 : Hid (Ost b f g L bs (txs ts) m q w1 w2 mk' nx rs nx true) := HS1.out.keep HF2.out
              clear HC HF2 HS1
              go_wp2
              go_roundw
              case rel => exact ⟨i + 1, mk', nx, rs, nx, true, rfl, rfl, rfl, by simp, by omega, by omega, by omega, by omega, HS2⟩
              case measure => simp [RowKit.intOf]; omega
      · by_cases hil : i < U
        · have hdl : decide ((i : Int) < (U : Int)) = true := by simpa using hil
          have hd4 : decide ((i : Int) < 400) = false := by simp; omega
          have HC : Hid (Calls _ _ _ _ _) := HEx.out
          go_wp2_with fail
          refine Calls.mono HC.out ?_
          rintro e w2 ⟨so, rfl, HIs, HFa⟩
          have HS2 : Hid (Ost b f g L bs (txs ts) m q w1 w2 mk nx rs r hv) := HS.out.keep HFa.out
          have HRs : Hid (rs = r - m) := HS.out.rs
          clear HC HEx HFa HS a0 a1 a2
          go_wp2_with fail
          go_loopw [22] (fun jj wz => ∃ j : Nat, jj = .int .i64 j ∧ j ≤ rs ∧ Hid (Fr [] w2 wz)) (fun jj _ => rs - (RowKit.intOf jj).toNat)
          case atStart => exact ⟨0, rfl, Nat.zero_le _, Fr.refl _ _⟩
          case round =>
            obtain ⟨j, rfl, hjr, HFz⟩ := hrel
            by_cases hjl : j < rs
            · obtain ⟨b0, off0, e0, hcz⟩ := (HIs.out.keep HFz.out).lies (by rw [askd_len, ← HRs.out]; omega)
              subst e0
              have z0 := hcz j (by rw [askd_len, ← HRs.out]; exact hjl)
              rw [askd_get (by rw [← HRs.out]; exact hjl)] at z0
              obtain ⟨a0, a1, a2⟩ := HAc.out _ (HS2.out.keep HFz.out).fr
              have hzz : (((m + 1 + j : Nat) : Int) != ((m : Int) + 1 + (j : Int))) = false := by simp
              have hzy : (((m : Int) + 1 + (j : Int)) != ((m : Int) + 1 + (j : Int))) = false := by simp
              clear hcz
              go_wp2_with fail
              go_quiet (fail)
              go_wp2
              go_roundw
              case rel => exact ⟨j + 1, by simp, by omega, HFz.out.then (Fr.drewN _ _ _)⟩
              case measure => simp [RowKit.intOf]; omega
            · obtain rfl : j = rs := by omega
              have HLv : Hid (Calls _ _ _ _ _) := lives16_any wr
              have hjj : ((j : Int) == (j : Int)) = true := by simp
              go_wp2_with fail
              refine Calls.mono HLv.out ?_
              rintro e w3 ⟨rfl, hF3⟩
              have HGz : Hid (Fr [] w w3) := HEnd.out _ ((HS2.out.keep HFz.out).fr.then (.of hF3))
              clear hF3 HLv
              go_wp2
              go_ret
              exact ⟨rfl, HGz.out⟩
        · have hdl : decide ((i : Int) < (U : Int)) = false := by simpa using hil
          have HC : Hid (Calls _ _ _ _ _) := HEx.out
          go_wp2_with fail
          refine Calls.mono HC.out ?_
          rintro e w2 ⟨so, rfl, HIs, HFa⟩
          have HS2 : Hid (Ost b f g L bs (txs ts) m q w1 w2 mk nx rs r hv) := HS.out.keep HFa.out
          have HRs : Hid (rs = r - m) := HS.out.rs
          clear HC HEx HFa HS a0 a1 a2
          go_wp2_with fail
          go_loopw [22] (fun jj wz => ∃ j : Nat, jj = .int .i64 j ∧ j ≤ rs ∧ Hid (Fr [] w2 wz)) (fun jj _ => rs - (RowKit.intOf jj).toNat)
          case atStart => exact ⟨0, rfl, Nat.zero_le _, Fr.refl _ _⟩
          case round =>
            obtain ⟨j, rfl, hjr, HFz⟩ := hrel
            by_cases hjl : j < rs
            · obtain ⟨b0, off0, e0, hcz⟩ := (HIs.out.keep HFz.out).lies (by rw [askd_len, ← HRs.out]; omega)
              subst e0
              have z0 := hcz j (by rw [askd_len, ← HRs.out]; exact hjl)
              rw [askd_get (by rw [← HRs.out]; exact hjl)] at z0
              obtain ⟨a0, a1, a2⟩ := HAc.out _ (HS2.out.keep HFz.out).fr
              have hzz : (((m + 1 + j : Nat) : Int) != ((m : Int) + 1 + (j : Int))) = false := by simp
              have hzy : (((m : Int) + 1 + (j : Int)) != ((m : Int) + 1 + (j : Int))) = false := by simp
              clear hcz
              go_wp2_with fail
              go_quiet (fail)
              go_wp2
              go_roundw
              case rel => exact ⟨j + 1, by simp, by omega, HFz.out.then (Fr.drewN _ _ _)⟩
              case measure => simp [RowKit.intOf]; omega
            · obtain rfl : j = rs := by omega
              have HLv : Hid (Calls _ _ _ _ _) := lives16_any wr
              have hjj : ((j : Int) == (j : Int)) = true := by simp
              go_wp2_with fail
              refine Calls.mono HLv.out ?_
              rintro e w3 ⟨rfl, hF3⟩
              have HGz : Hid (Fr [] w w3) := HEnd.out _ ((HS2.out.keep HFz.out).fr.then (.of hF3))
              clear hF3 HLv
              go_wp2
              go_ret
              exact ⟨rfl, HGz.out⟩
end Go.Proofs.Ytibgdfjfhjckoaa
