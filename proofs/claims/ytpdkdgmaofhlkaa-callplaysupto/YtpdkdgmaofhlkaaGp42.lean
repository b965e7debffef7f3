/- Texts of this claim laid together, one behind the other: contracts and plain lemmas; conditions as each names them. -/
import Derived.Test.YtpdkdgmaofhlkaaGp39
/- The document's task: the answer to a Save. Conditions as named. -/
namespace Go.Proofs.Ytpdkdgmaofhlkaa
open Go.ChangeShapes Go.WideShapes Go.ChangeAt Go.RowKit Go.Lib Go.Sort
set_option linter.unusedVariables false
set_option linter.unusedSimpArgs false

set_option maxHeartbeats 4000000 in
set_option maxRecDepth 100000 in
theorem yans4 {w : World} {t : Nat} {T : Yt} {xs : List Rx} (h : YtM w t T) (hk : T.k = 4) (hal : T.al = true) (hR : Rys w T xs) :
    Calls Try.prog 34 #[.pointer (some ⟨t, 0, none⟩)] w (YansP 4 T.ma xs w) := by
  have mixed : Try.prog.follows .mixedOrders = true := by kernel_rfl
  have hF := Fr.alloc [] w (.cells (ansA 0 0 false none 0 0 0) 72)
  have hA := yall_any (h.keep hF (by simp))
  rw [hal] at hA
  have HA : Hid (Calls _ _ _ _ _) := hA
  have HSt : Hid (∀ w1, Fr [] (w.alloc (.cells (ansA 0 0 false none 0 0 0) 72)) w1 → w1.cell? ⟨t, 9, none⟩ = some (.int .i64 T.ma) ∧ Ai w (w1.alloc (.cells (ansA 0 T.ma true none 0 0 0) 72)) w.heap.size w1.heap.size t T xs true none 0 0 0) := fun w1 hf => ⟨(h.keep (hF.then hf) (by simp)).c9, Ai.start h hR hf⟩
  have HX : Hid (∀ x ∈ xs, RxB w x) := hR.each
  have HPl : Hid (T.pl = xs.length) := hR.len
  have hfew := hR.few
  clear h hF hA hal hR
  obtain ⟨n, l, s, x, q, k, key, en0, bg, ma, so, sl, sc, ro, rl, rc, ak, po, pl, pc⟩ := T
  simp only at hk HSt HPl hfew ⊢
  subst hk
  simp only [ansA] at HA HSt
  go_enter Try.func34, Try.ntmps34
  go_wp2_with fail
  refine Calls.mono HA.out ?_
  rintro e w1 ⟨rfl, hf1⟩
  obtain ⟨c9, hI0⟩ := HSt.out w1 hf1
  have HI0 : Hid (Ai _ _ _ _ _ _ _ _ _ _ _ _) := hI0
  clear hf1 HA HSt hI0
  go_upto_region 8 with fail
  obtain ⟨W0, HW0⟩ : ∃ W0, Hid (w1.alloc (.cells #[.int .i64 0, .int .i64 ma, .bool true, .slice none 0 0, .int .i64 0] 72) = W0) := ⟨_, rfl⟩
  rw [HW0.out] at HI0 ⊢
  obtain ⟨b2, hb2⟩ : ∃ b, b = w.heap.size := ⟨_, rfl⟩
  obtain ⟨ab, hab⟩ : ∃ b, b = w1.heap.size := ⟨_, rfl⟩
  rw [← hb2, ← hab] at HI0 ⊢
  clear HW0 hb2 hab c9
  have HS : Hid (∀ wr B eo en ec ct, Ai w wr b2 ab t ⟨n, l, s, x, q, 4, key, en0, bg, ma, so, sl, sc, ro, rl, rc, ak, po, pl, pc⟩ xs B eo en ec ct → wr.cell? ⟨t, 5, none⟩ = some (.int .u8 4) ∧ wr.cell? ⟨t, 13, none⟩ = some (.slice po pl pc)) := fun wr B eo en ec ct h => ⟨h.yt.c5, h.yt.c13⟩
  go_loopw [6, 7] (fun s6 s7 wr => ∃ (i : Nat) (ho : Option Addr) (hn hc : Nat), s6 = .slice ho hn hc ∧ s7 = .int .i64 i ∧ i ≤ pl ∧ Hid (Ai w wr b2 ab t ⟨n, l, s, x, q, 4, key, en0, bg, ma, so, sl, sc, ro, rl, rc, ak, po, pl, pc⟩ xs true none 0 0 0 ∧ hn = (ansH 4 (xs.take i)).length ∧ wr.ownsRow w.heap.size 88 2 (.slice ho hn hc) hn (hdsC (ansH 4 (xs.take i))))) (fun _ s7 _ => pl - (RowKit.intOf s7).toNat)
  case atStart => exact ⟨0, none, 0, 0, rfl, by first | rfl | simp, Nat.zero_le _, HI0.out, rfl, ⟨rfl, .inl ⟨rfl, rfl⟩⟩⟩
  case round =>
    clear HI0
    obtain ⟨i, ho, hn, hc, rfl, rfl, hiP, HI⟩ := hrel
    obtain ⟨d5, d13⟩ := HS.out _ _ _ _ _ _ HI.out.1
    by_cases hiN : i < pl
    · have hlt : (i : Int) < (pl : Int) := by omega
      have hix : i < xs.length := by have := HPl.out; omega
      obtain ⟨pb, rfl, p0, p1, p2, p3, p4⟩ := Rys.at HI.out.1.rs i hiN
      have HRx : Hid (RxB w (xs.getD i Rx.zero)) := HX.out _ (rx_mem xs i hix)
      have HTk : Hid (xs.take (i + 1) = xs.take i ++ [xs.getD i Rx.zero]) := rx_take xs i hix
      obtain ⟨y, hy⟩ : ∃ y, y = xs.getD i Rx.zero := ⟨_, rfl⟩
      rw [← hy] at p0 p1 p2 p3 p4 HRx HTk
      clear hy
      obtain ⟨⟨rto, rok, reo, rel, rec_, rho, rhl, rhc, rct⟩, res_, rhs⟩ := y
      simp only at p0 p1 p2 p3 p4
      go_upto_region 11 with fail
      obtain ⟨W1, HW1⟩ : ∃ W1, Hid (wr.alloc (.cells #[.int .i64 rto, .bool rok, .slice reo rel rec_, .slice rho rhl rhc, .int .i64 rct] 46) = W1) := ⟨_, rfl⟩
      have HF1 : Hid (Fr [] wr W1) := by show Fr _ _ _; rw [← HW1.out]; exact Fr.alloc [] _ _
      have HBx : Hid (W1.heap[wr.heap.size]? = some (.cells #[.int .i64 rto, .bool rok, .slice reo rel rec_, .slice rho rhl rhc, .int .i64 rct] 46 (0, 0))) := by show _ = _; rw [← HW1.out]; exact heap_alloc_new wr _
      obtain ⟨bx, hbx⟩ : ∃ b, b = wr.heap.size := ⟨_, rfl⟩
      rw [HW1.out]
      rw [← hbx] at HBx ⊢
      have HBl : Hid (bx = wr.heap.size) := hbx
      clear HW1 p0 p1 p2 p3 p4 d5 d13 hbx
      have HI1 : Hid (Ai w W1 b2 ab t ⟨n, l, s, x, q, 4, key, en0, bg, ma, so, sl, sc, ro, rl, rc, ak, some ⟨pb, 0, none⟩, pl, pc⟩ xs true none 0 0 0) := HI.out.1.keep HF1.out
      obtain ⟨d5, _⟩ := HS.out _ _ _ _ _ _ HI1.out
      have hRh := HRx.out.rh
      have hhl : rhl = rhs.length := HRx.out.lh
      have hmh : rhl ≤ 4194304 := HRx.out.mh
      have HRh : Hid (∀ V, Fr [] w V → RrH V rho rhs) := fun V hf => (hRh.keep hf).rr
      have HHl : Hid (rhl = rhs.length) := hhl
      have HBd : Hid ((ansH 4 (xs.take i)).length ≤ i * 4194304) := by
        show _ ≤ _
        simp only [ansH, if_true, sortB_length]
        exact hs_bound (fun z hz => (HX.out z hz)) i
      have HIn : Hid (∀ j, j < rhl → sortB Hd.key ((xs.take i).flatMap Rx.hs ++ rhs.take (j + 1)) = insK (ltB Hd.key) (rhs.getD j Hd.zero) (sortB Hd.key ((xs.take i).flatMap Rx.hs ++ rhs.take j))) := fun j hj => by
        rw [htake_snoc rhs j (by omega), ← List.append_assoc, sortB_snoc]
      have HH0 : Hid (hn = (sortB Hd.key ((xs.take i).flatMap Rx.hs ++ rhs.take 0)).length ∧ W1.ownsRow w.heap.size 88 2 (.slice ho hn hc) hn (hdsC (sortB Hd.key ((xs.take i).flatMap Rx.hs ++ rhs.take 0)))) := by
        have h := HI.out.2
        simp only [ansH, if_true] at h
        rw [List.take_zero, List.append_nil]
        exact ⟨h.1, owns_keepB h.2 HF1.out (by simp)⟩
      have HEn : Hid (sortB Hd.key ((xs.take i).flatMap Rx.hs ++ rhs.take rhl) = ansH 4 (xs.take (i + 1))) := by
        show _ = _
        rw [HTk.out, hhl, List.take_length]
        simp [ansH]
      have hbd2 : hn ≤ 67108864 := by have h1 := HBd.out; have h2 := HI.out.2.1; omega
      have HBx2 : Hid (∀ V, Fr [] W1 V → V.cell? ⟨bx, 3, none⟩ = some (.slice rho rhl rhc)) := fun V hf => (rp_cells (hf.keep HBx.out (by simp))).2.2.2.1
      have HW : Hid (Fr [] w W1) := HI1.out.fr
      have HI2 : Hid (∀ V, Fr [] W1 V → Ai w V b2 ab t ⟨n, l, s, x, q, 4, key, en0, bg, ma, so, sl, sc, ro, rl, rc, ak, some ⟨pb, 0, none⟩, pl, pc⟩ xs true none 0 0 0) := fun V hf => HI1.out.keep hf
      have HSz : Hid (∀ j, (sortB Hd.key ((xs.take i).flatMap Rx.hs ++ rhs.take j)).length ≤ hn + j) := fun j => by
        rw [sortB_length, List.length_append, List.length_take]
        have h := HI.out.2.1
        simp only [ansH, if_true, sortB_length] at h
        omega
      clear hRh hhl HBd HBx HF1 HRx HTk HBl HI HI1
      go_wp2_with fail
      clear d5
      go_loopg [6, 10] rhl (fun gk s6 s10 wq => ∃ (j m : Nat) (vo : Option Addr) (vc : Nat), s6 = .slice vo m vc ∧ s10 = .int .i64 j ∧ j ≤ rhl ∧ rhl - j ≤ gk ∧ m ≤ 134217728 ∧ Hid (m = (sortB Hd.key ((xs.take i).flatMap Rx.hs ++ rhs.take j)).length ∧ wq.ownsRow w.heap.size 88 2 (.slice vo m vc) m (hdsC (sortB Hd.key ((xs.take i).flatMap Rx.hs ++ rhs.take j))) ∧ Fr [] W1 wq))
      case atStart => exact ⟨0, hn, ho, hc, rfl, by first | rfl | simp, Nat.zero_le _, by omega, by omega, HH0.out.1, HH0.out.2, Fr.refl _ _⟩
      case round =>
        clear HH0
        obtain ⟨j, m, vo, vc, rfl, rfl, hjL, hgk, hmb, HP⟩ := hrel
        have f3 := HBx2.out _ HP.out.2.2
        by_cases hj : j < rhl
        · have hjl : (j : Int) < (rhl : Int) := by omega
          have hj' : j < rhs.length := by have := HHl.out; omega
          obtain ⟨hb_, hoff, rfl, _, hcs⟩ := RrH_lies (HRh.out _ (HW.out.then HP.out.2.2)) (by omega)
          obtain ⟨l0, l1⟩ := hcs j hj'
          have HIj := HIn.out j hj
          obtain ⟨y, hy⟩ : ∃ y, y = rhs.getD j Hd.zero := ⟨_, rfl⟩
          rw [← hy] at l0 l1 HIj
          clear hy hcs
          have HIq : Hid (sortB Hd.key ((xs.take i).flatMap Rx.hs ++ rhs.take (j + 1)) = insK (ltB Hd.key) y (sortB Hd.key ((xs.take i).flatMap Rx.hs ++ rhs.take j))) := HIj
          have HC : Hid (Calls _ _ _ _ _) := ycHeld_any vo m vc (sortB Hd.key ((xs.take i).flatMap Rx.hs ++ rhs.take j)) y wr (RrH.of_own HP.out.2.1 HP.out.1) HP.out.1 (by omega)
          clear HIj
          obtain ⟨yk, yvo, yL, yc, yvs⟩ := y
          simp only at l0 l1 HC
          go_wp2_with fail
          refine Calls.mono HC.out ?_
          rintro e w4 ⟨vo2, vc2, rfl, hO2, hf2⟩
          have HP2 : Hid (m + 1 = (sortB Hd.key ((xs.take i).flatMap Rx.hs ++ rhs.take (j + 1))).length ∧ w4.ownsRow w.heap.size 88 2 (.slice vo2 (m + 1) vc2) (m + 1) (hdsC (sortB Hd.key ((xs.take i).flatMap Rx.hs ++ rhs.take (j + 1)))) ∧ Fr [] W1 w4) := ⟨by rw [HIq.out, insK_length, ← HP.out.1], by rw [HIq.out]; exact own_base hO2 (HW.out.then HP.out.2.2).size, HP.out.2.2.then hf2⟩
          have hmb2 : m + 1 ≤ 134217728 := by have h1 := HSz.out (j + 1); have h2 := HP2.out.1; omega
          clear hO2 hf2 HC HIq HP l0 l1 f3
          go_wp2
          go_roundg (rhl - (j + 1))
          case measure => omega
          case rel => exact ⟨j + 1, m + 1, vo2, vc2, rfl, by simp, by omega, by omega, hmb2, HP2⟩
        · have hjl : ¬ ((j : Int) < (rhl : Int)) := by omega
          have HN : Hid (Ai w wr b2 ab t ⟨n, l, s, x, q, 4, key, en0, bg, ma, so, sl, sc, ro, rl, rc, ak, some ⟨pb, 0, none⟩, pl, pc⟩ xs true none 0 0 0 ∧ m = (ansH 4 (xs.take (i + 1))).length ∧ wr.ownsRow w.heap.size 88 2 (.slice vo m vc) m (hdsC (ansH 4 (xs.take (i + 1))))) := by
            have h := HP.out
            rw [show j = rhl by omega, HEn.out] at h
            exact ⟨HI2.out _ h.2.2, h.1, h.2.1⟩
          clear HP
          go_wp2
          go_roundw
          case rel => exact ⟨i + 1, vo, m, vc, rfl, by simp, by omega, HN⟩
          case measure => simp [RowKit.intOf]; omega
    · have hge : ¬ ((i : Int) < (pl : Int)) := by omega
      have HTk : Hid (xs.take i = xs) := List.take_of_length_le (by have := HPl.out; omega)
      obtain ⟨⟨a0, a1, a2, a3, a4⟩, _⟩ := HI.out.1.ca
      obtain ⟨⟨e0, e1, e2, e3, e4⟩, z0, z1, z2, z3, z4⟩ := HI.out.1.cb
      obtain ⟨o1, o2, o3⟩ := HI.out.1.out
      have HO : Hid (_ ∧ _ ∧ _) := ⟨o1, o2, o3⟩
      have hne1 := HI.out.1.ne
      have hne2 := fun e => hne1 (Eq.symm e)
      simp only at a1
      clear o1 o2 o3 d5
      have HE : Hid (hn = (ansH 4 xs).length ∧ wr.ownsRow w.heap.size 88 2 (.slice ho hn hc) hn (hdsC (ansH 4 xs)) ∧ Fr [] w wr ∧ wr.heap[b2]? = some (.cells (ansA 0 0 false none 0 0 0) 72 (0, 0))) := by have h := HI.out.2; rw [HTk.out] at h; exact ⟨h.1, h.2, HI.out.1.fr, HI.out.1.r2⟩
      clear HI HTk
      go_wp2
      refine bodyPost_ret (results_ctt17 rfl _ _ _ b2 _ rfl (load_ans HO.out.1)) rfl ?_
      obtain ⟨e1, e2, e3, e4⟩ := HE.out
      subst e1
      have hO := owns_keepT e2 HO.out.2.1 (fun k hk cur hc => by
        rw [List.mem_singleton.1 hk, e4] at hc
        simp only [Option.some.injEq, Obj.cells.injEq] at hc
        exact absurd hc.2.1 (by decide))
      refine ⟨none, 0, ho, hc, rfl, RrE.nil _ _, ⟨RrH.of_own hO rfl, fun z hz => ?_⟩, HO.out.2.2⟩
      have hz' : z ∈ xs.flatMap Rx.hs := by
        simp only [ansH, if_true] at hz
        exact sortB_mem Hd.key hz
      obtain ⟨y, hy, hzy⟩ := List.mem_flatMap.1 hz'
      exact ((HX.out y hy).rh.each z hzy).keep HO.out.2.2
end Go.Proofs.Ytpdkdgmaofhlkaa
