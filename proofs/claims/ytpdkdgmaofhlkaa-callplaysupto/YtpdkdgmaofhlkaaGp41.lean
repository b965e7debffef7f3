/- Texts of this claim laid together, one behind the other: contracts and plain lemmas; conditions as each names them. -/
import Derived.Test.YtpdkdgmaofhlkaaGp39
/- The document's task: the answer to a Scan. Conditions as named. -/
namespace Go.Proofs.Ytpdkdgmaofhlkaa
open Go.ChangeShapes Go.WideShapes Go.ChangeAt Go.RowKit Go.Lib Go.Sort
set_option linter.unusedVariables false
set_option linter.unusedSimpArgs false

/-- While entries are laid into their places. -/
structure A2 (w wr : World) (b2 ab bx t : Nat) (T : Yt) (xs : List Rx) (eo : Option Addr) (en ec : Nat) (ls : List Ey) (bxr : Array Value) : Prop where
  ai : Ai w wr b2 ab t T xs true eo en ec 0
  len : en = ls.length
  own : wr.ownsRow w.heap.size 85 2 (.slice eo en ec) en (eysC ls)
  bxr : wr.heap[bx]? = some (.cells bxr 46 (0, 0))
theorem A2.put {w wr V w4 : World} {b2 ab bx t : Nat} {T : Yt} {xs : List Rx} {eo eo2 : Option Addr} {en en2 ec ec2 : Nat} {ls ls2 : List Ey} {bxr : Array Value} (h : A2 w wr b2 ab bx t T xs eo en ec ls bxr) (hX : ∀ x ∈ xs, RxB w x) (hV : Fr [] wr V) (h4 : Fr [] V w4) (hl : en2 = ls2.length) (hO : w4.ownsRow w.heap.size 85 2 (.slice eo2 en2 ec2) en2 (eysC ls2)) :
    (w4.cell? ⟨ab, 3, none⟩ = some (.slice eo en ec) ∧ w4.frozen? ⟨ab, 3, none⟩ = false) ∧ Hid (A2 w (w4.setCell ⟨ab, 3, none⟩ (.slice eo2 en2 ec2)) b2 ab bx t T xs eo2 en2 ec2 ls2 bxr) := by
  have hk := h.ai.keep (hV.then h4)
  have hbx := (hV.then h4).keep h.bxr (by simp)
  have hFs : Fr [ab] w4 (w4.setCell ⟨ab, 3, none⟩ (.slice eo2 en2 ec2)) := Fr.set _ _ _ (by simp)
  have hT : ∀ {e : TypeId}, e ≠ 72 → ∀ k ∈ [ab], ∀ cur, w4.heap[k]? ≠ some (.cells cur e (0, 0)) := fun he k hk2 cur hc => by
    rw [List.mem_singleton.1 hk2, hk.ra] at hc
    simp only [Option.some.injEq, Obj.cells.injEq] at hc
    exact he hc.2.1.symm
  refine ⟨⟨hk.ca.1.2.2.2.1, hk.ca.2.2.1⟩, hk.put hX hFs (by rw [row_put17 _ hk.ra]; rfl), hl, owns_keepT hO hFs (hT (by decide)), hFs.keep hbx (fun hm => ?_)⟩
  rw [List.mem_singleton.1 hm, hk.ra] at hbx
  simp only [Option.some.injEq, Obj.cells.injEq] at hbx
  exact absurd hbx.2.1 (by decide)
set_option maxHeartbeats 4000000 in
set_option maxRecDepth 100000 in
theorem yans2 {w : World} {t : Nat} {T : Yt} {xs : List Rx} (h : YtM w t T) (hk : T.k = 2) (hal : T.al = true) (hR : Rys w T xs) :
    Calls Try.prog 34 #[.pointer (some ⟨t, 0, none⟩)] w (YansP 2 T.ma xs w) := by
  have mixed : Try.prog.follows .mixedOrders = true := by kernel_rfl
  have hF := Fr.alloc [] w (.cells (ansA 0 0 false none 0 0 0) 72)
  have hA := yall_any (h.keep hF (by simp))
  rw [hal] at hA
  have HA : Hid (Calls _ _ _ _ _) := hA
  have HSt : Hid (∀ w1, Fr [] (w.alloc (.cells (ansA 0 0 false none 0 0 0) 72)) w1 → w1.cell? ⟨t, 9, none⟩ = some (.int .i64 T.ma) ∧ Ai w (w1.alloc (.cells (ansA 0 T.ma true none 0 0 0) 72)) w.heap.size w1.heap.size t T xs true none 0 0 0) := fun w1 hf => ⟨(h.keep (hF.then hf) (by simp)).c9, Ai.start h hR hf⟩
  have HX : Hid (∀ x ∈ xs, RxB w x) := hR.each
  have HPl : Hid (T.pl = xs.length) := hR.len
  have hfew := hR.few
  clear h hF hA hal hR
  obtain ⟨n, l, s, x, q, k, key, en0, bg, ma, so, sl, sc, ro, rl, rc, ak, po, pl, pc⟩ := T
  simp only at hk HSt HPl hfew ⊢
  subst hk
  simp only [ansA] at HA HSt
  go_enter Try.func34, Try.ntmps34
  go_wp2_with fail
  refine Calls.mono HA.out ?_
  rintro e w1 ⟨rfl, hf1⟩
  obtain ⟨c9, hI0⟩ := HSt.out w1 hf1
  have HI0 : Hid (Ai _ _ _ _ _ _ _ _ _ _ _ _) := hI0
  clear hf1 HA HSt hI0
  go_upto_region 8 with fail
  obtain ⟨W0, HW0⟩ : ∃ W0, Hid (w1.alloc (.cells #[.int .i64 0, .int .i64 ma, .bool true, .slice none 0 0, .int .i64 0] 72) = W0) := ⟨_, rfl⟩
  rw [HW0.out] at HI0 ⊢
  obtain ⟨b2, hb2⟩ : ∃ b, b = w.heap.size := ⟨_, rfl⟩
  obtain ⟨ab, hab⟩ : ∃ b, b = w1.heap.size := ⟨_, rfl⟩
  rw [← hb2, ← hab] at HI0 ⊢
  clear HW0 hb2 hab c9
  have HS : Hid (∀ wr B eo en ec ct, Ai w wr b2 ab t ⟨n, l, s, x, q, 2, key, en0, bg, ma, so, sl, sc, ro, rl, rc, ak, po, pl, pc⟩ xs B eo en ec ct → wr.cell? ⟨t, 5, none⟩ = some (.int .u8 2) ∧ wr.cell? ⟨t, 13, none⟩ = some (.slice po pl pc)) := fun wr B eo en ec ct h => ⟨h.yt.c5, h.yt.c13⟩
  go_loopw [6, 7] (fun s6 s7 wr => ∃ (i : Nat) (eo : Option Addr) (en ec : Nat), s6 = .slice none 0 0 ∧ s7 = .int .i64 i ∧ i ≤ pl ∧ Hid (Ai w wr b2 ab t ⟨n, l, s, x, q, 2, key, en0, bg, ma, so, sl, sc, ro, rl, rc, ak, po, pl, pc⟩ xs true eo en ec 0 ∧ en = (ansE 2 (xs.take i)).length ∧ wr.ownsRow w.heap.size 85 2 (.slice eo en ec) en (eysC (ansE 2 (xs.take i))))) (fun _ s7 _ => pl - (RowKit.intOf s7).toNat)
  case atStart => exact ⟨0, none, 0, 0, rfl, by first | rfl | simp, Nat.zero_le _, HI0.out, rfl, ⟨rfl, .inl ⟨rfl, rfl⟩⟩⟩
  case round =>
    clear HI0
    obtain ⟨i, eo, en, ec, rfl, rfl, hiP, HI⟩ := hrel
    obtain ⟨d5, d13⟩ := HS.out _ _ _ _ _ _ HI.out.1
    by_cases hiN : i < pl
    · have hlt : (i : Int) < (pl : Int) := by omega
      have hix : i < xs.length := by have := HPl.out; omega
      obtain ⟨pb, rfl, p0, p1, p2, p3, p4⟩ := Rys.at HI.out.1.rs i hiN
      have HRx : Hid (RxB w (xs.getD i Rx.zero)) := HX.out _ (rx_mem xs i hix)
      have HTk : Hid (xs.take (i + 1) = xs.take i ++ [xs.getD i Rx.zero]) := rx_take xs i hix
      obtain ⟨y, hy⟩ : ∃ y, y = xs.getD i Rx.zero := ⟨_, rfl⟩
      rw [← hy] at p0 p1 p2 p3 p4 HRx HTk
      clear hy
      obtain ⟨⟨rto, rok, reo, rel, rec_, rho, rhl, rhc, rct⟩, res_, rhs⟩ := y
      simp only at p0 p1 p2 p3 p4
      go_upto_region 11 with fail
      obtain ⟨W1, HW1⟩ : ∃ W1, Hid (wr.alloc (.cells #[.int .i64 rto, .bool rok, .slice reo rel rec_, .slice rho rhl rhc, .int .i64 rct] 46) = W1) := ⟨_, rfl⟩
      have HF1 : Hid (Fr [] wr W1) := by show Fr _ _ _; rw [← HW1.out]; exact Fr.alloc [] _ _
      have HBx : Hid (W1.heap[wr.heap.size]? = some (.cells #[.int .i64 rto, .bool rok, .slice reo rel rec_, .slice rho rhl rhc, .int .i64 rct] 46 (0, 0))) := by show _ = _; rw [← HW1.out]; exact heap_alloc_new wr _
      obtain ⟨bx, hbx⟩ : ∃ b, b = wr.heap.size := ⟨_, rfl⟩
      rw [HW1.out]
      rw [← hbx] at HBx ⊢
      have HBl : Hid (bx = wr.heap.size) := hbx
      clear HW1 p0 p1 p2 p3 p4 d5 d13 hbx
      have HI1 : Hid (Ai w W1 b2 ab t ⟨n, l, s, x, q, 2, key, en0, bg, ma, so, sl, sc, ro, rl, rc, ak, some ⟨pb, 0, none⟩, pl, pc⟩ xs true eo en ec 0) := HI.out.1.keep HF1.out
      obtain ⟨d5, _⟩ := HS.out _ _ _ _ _ _ HI1.out
      obtain ⟨bxv, HBv⟩ : ∃ v : Array Value, Hid (v = #[.int .i64 rto, .bool rok, .slice reo rel rec_, .slice rho rhl rhc, .int .i64 rct]) := ⟨_, rfl⟩
      have HF2 : Hid (∀ V : World, V.heap[bx]? = some (.cells bxv 46 (0, 0)) → V.cell? ⟨bx, 2, none⟩ = some (.slice reo rel rec_)) := fun V hv => by rw [HBv.out] at hv; exact (rp_cells hv).2.2.1
      have hRe := HRx.out.re
      have hel : rel = res_.length := HRx.out.le
      have hme : rel ≤ 4194304 := HRx.out.me
      have HRe : Hid (∀ V, Fr [] w V → RrE V reo res_) := fun V hf => hRe.keep hf
      have HEl : Hid (rel = res_.length) := hel
      have HBd : Hid ((ansE 2 (xs.take i)).length ≤ i * 4194304) := by
        show _ ≤ _
        have e : ansE 2 (xs.take i) = sortB Ey.key ((xs.take i).flatMap Rx.es) := rfl
        rw [e, sortB_length]
        exact es_bound (fun z hz => (HX.out z hz)) i
      have HIn : Hid (∀ j, j < rel → sortB Ey.key ((xs.take i).flatMap Rx.es ++ res_.take (j + 1)) = insK (ltB Ey.key) (res_.getD j Ey.zero) (sortB Ey.key ((xs.take i).flatMap Rx.es ++ res_.take j))) := fun j hj => by
        rw [etake_snoc res_ j (by omega), ← List.append_assoc, sortB_snoc]
      have HH0 : Hid (A2 w W1 b2 ab bx t ⟨n, l, s, x, q, 2, key, en0, bg, ma, so, sl, sc, ro, rl, rc, ak, some ⟨pb, 0, none⟩, pl, pc⟩ xs eo en ec (sortB Ey.key ((xs.take i).flatMap Rx.es ++ res_.take 0)) bxv) := by
        have h := HI.out.2
        have e : ansE 2 (xs.take i) = sortB Ey.key ((xs.take i).flatMap Rx.es) := rfl
        rw [e] at h
        rw [List.take_zero, List.append_nil]
        exact ⟨HI1.out, h.1, owns_keepB h.2 HF1.out (by simp), by rw [HBv.out]; exact HBx.out⟩
      have HEn : Hid (sortB Ey.key ((xs.take i).flatMap Rx.es ++ res_.take rel) = ansE 2 (xs.take (i + 1))) := by
        show _ = _
        rw [HTk.out, hel, List.take_length]
        simp [ansE]
      have hbd2 : en ≤ 67108864 := by have h1 := HBd.out; have h2 := HI.out.2.1; omega
      have HSz : Hid (∀ j, (sortB Ey.key ((xs.take i).flatMap Rx.es ++ res_.take j)).length ≤ en + j) := fun j => by
        rw [sortB_length, List.length_append, List.length_take]
        have h := HI.out.2.1
        have e : ansE 2 (xs.take i) = sortB Ey.key ((xs.take i).flatMap Rx.es) := rfl
        rw [e, sortB_length] at h
        omega
      clear hRe hel HBd HBx HF1 HRx HTk HBl HI HI1
      obtain ⟨en1, hen1⟩ : ∃ e, e = en := ⟨_, rfl⟩
      rw [← hen1] at HSz hbd2
      go_wp2_with fail
      clear d5
      go_loopg [9] rel (fun gk s9 wq => ∃ (j m : Nat) (vo : Option Addr) (vc : Nat), s9 = .int .i64 j ∧ j ≤ rel ∧ rel - j ≤ gk ∧ m ≤ 134217728 ∧ Hid (A2 w wq b2 ab bx t ⟨n, l, s, x, q, 2, key, en0, bg, ma, so, sl, sc, ro, rl, rc, ak, some ⟨pb, 0, none⟩, pl, pc⟩ xs vo m vc (sortB Ey.key ((xs.take i).flatMap Rx.es ++ res_.take j)) bxv))
      case atStart => exact ⟨0, en, eo, ec, by first | rfl | simp, Nat.zero_le _, by omega, by omega, HH0⟩
      case round =>
        clear HH0 hen1
        obtain ⟨j, m, vo, vc, rfl, hjL, hgk, hmb, HP⟩ := hrel
        have f2 := HF2.out _ HP.out.bxr
        by_cases hj : j < rel
        · have hjl : (j : Int) < (rel : Int) := by omega
          have hj' : j < res_.length := by have := HEl.out; omega
          obtain ⟨hb_, hoff, rfl, _, l0, l1⟩ := RrE_at (HRe.out _ HP.out.ai.fr) j hj'
          have HIj := HIn.out j hj
          obtain ⟨y, hy⟩ : ∃ y, y = res_.getD j Ey.zero := ⟨_, rfl⟩
          rw [← hy] at l0 l1 HIj
          clear hy
          have HIq : Hid (sortB Ey.key ((xs.take i).flatMap Rx.es ++ res_.take (j + 1)) = insK (ltB Ey.key) y (sortB Ey.key ((xs.take i).flatMap Rx.es ++ res_.take j))) := HIj
          have c3 := HP.out.ai.ca.1.2.2.2.1
          have HC : Hid (∀ V, Fr [] wr V → Calls Try.prog 59 #[.slice vo m vc, .agg #[.string y.key, .string y.val]] V fun e w' => ∃ vo2 vc2, e = .returned (.slice vo2 (m + 1) vc2) ∧ (w'.cell? ⟨ab, 3, none⟩ = some (.slice vo m vc) ∧ w'.frozen? ⟨ab, 3, none⟩ = false) ∧ Hid (m + 1 = (sortB Ey.key ((xs.take i).flatMap Rx.es ++ res_.take (j + 1))).length ∧ A2 w (w'.setCell ⟨ab, 3, none⟩ (.slice vo2 (m + 1) vc2)) b2 ab bx t ⟨n, l, s, x, q, 2, key, en0, bg, ma, so, sl, sc, ro, rl, rc, ak, some ⟨pb, 0, none⟩, pl, pc⟩ xs vo2 (m + 1) vc2 (sortB Ey.key ((xs.take i).flatMap Rx.es ++ res_.take (j + 1))) bxv)) := fun V hV => by
            refine (ycEntry_any vo m vc (sortB Ey.key ((xs.take i).flatMap Rx.es ++ res_.take j)) y V (RrE.of_own (owns_keepB HP.out.own hV (by simp)) HP.out.len) HP.out.len (by omega)).mono ?_
            rintro e w' ⟨vo2, vc2, rfl, hO2, hf2⟩
            have hl2 : m + 1 = (sortB Ey.key ((xs.take i).flatMap Rx.es ++ res_.take (j + 1))).length := by rw [HIq.out, insK_length, ← HP.out.len]
            obtain ⟨p1, p2⟩ := HP.out.put HX.out hV hf2 hl2 (by rw [HIq.out]; exact own_base hO2 (HP.out.ai.fr.then hV).size)
            exact ⟨vo2, vc2, rfl, p1, hl2, p2.out⟩
          clear HIj
          obtain ⟨yk, yv⟩ := y
          simp only at l0 l1 HC
          clear HIq HP
          go_upto_region 20 with fail
          go_region_law (first
            | (go_simp; go_at_call 59; with_reducible refine (HC.out _ (Fr.drew _ _)).mono ?_; rintro e w4 ⟨vo2, vc2, rfl, ⟨g0, g1⟩, HR4⟩; dsimp only))
          all_goals
            have hmb2 : m + 1 ≤ 134217728 := by have h1 := HSz.out (j + 1); have h2 := HR4.out.1; omega
            have HP2 : Hid (A2 _ _ _ _ _ _ _ _ _ _ _ _ _) := HR4.out.2
            clear HC HR4 l0 l1 f2 c3 g0 g1
            go_wp2
            go_roundg (rel - (j + 1))
            case measure => omega
            case rel => exact ⟨j + 1, m + 1, vo2, vc2, by simp, by omega, by omega, hmb2, HP2⟩
        · have hjl : ¬ ((j : Int) < (rel : Int)) := by omega
          have HN : Hid (Ai w wr b2 ab t ⟨n, l, s, x, q, 2, key, en0, bg, ma, so, sl, sc, ro, rl, rc, ak, some ⟨pb, 0, none⟩, pl, pc⟩ xs true vo m vc 0 ∧ m = (ansE 2 (xs.take (i + 1))).length ∧ wr.ownsRow w.heap.size 85 2 (.slice vo m vc) m (eysC (ansE 2 (xs.take (i + 1))))) := by
            have h := HP.out
            rw [show j = rel by omega, HEn.out] at h
            exact ⟨h.ai, h.len, h.own⟩
          clear HP
          go_wp2
          go_roundw
          case rel => exact ⟨i + 1, vo, m, vc, rfl, by simp, by omega, HN⟩
          case measure => simp [RowKit.intOf]; omega
    · have hge : ¬ ((i : Int) < (pl : Int)) := by omega
      have HTk : Hid (xs.take i = xs) := List.take_of_length_le (by have := HPl.out; omega)
      obtain ⟨⟨a0, a1, a2, a3, a4⟩, _⟩ := HI.out.1.ca
      obtain ⟨⟨e0, e1, e2, e3, e4⟩, z0, z1, z2, z3, z4⟩ := HI.out.1.cb
      obtain ⟨o1, o2, o3⟩ := HI.out.1.out
      have HO : Hid (_ ∧ _ ∧ _) := ⟨o1, o2, o3⟩
      have hne1 := HI.out.1.ne
      have hne2 := fun e => hne1 (Eq.symm e)
      simp only at a1
      clear o1 o2 o3 d5
      have HE : Hid (en = (ansE 2 xs).length ∧ wr.ownsRow w.heap.size 85 2 (.slice eo en ec) en (eysC (ansE 2 xs)) ∧ Fr [] w wr ∧ wr.heap[b2]? = some (.cells (ansA 0 0 false none 0 0 0) 72 (0, 0))) := by have h := HI.out.2; rw [HTk.out] at h; exact ⟨h.1, h.2, HI.out.1.fr, HI.out.1.r2⟩
      clear HI HTk
      go_wp2
      refine bodyPost_ret (results_ctt17 rfl _ _ _ b2 _ rfl (load_ans HO.out.1)) rfl ?_
      obtain ⟨e1, e2, e3, e4⟩ := HE.out
      subst e1
      have hO := owns_keepT e2 HO.out.2.1 (fun k hk cur hc => by
        rw [List.mem_singleton.1 hk, e4] at hc
        simp only [Option.some.injEq, Obj.cells.injEq] at hc
        exact absurd hc.2.1 (by decide))
      exact ⟨eo, ec, none, 0, rfl, RrE.of_own hO rfl, ⟨RrH.nil _ _, by simp [ansH]⟩, HO.out.2.2⟩
end Go.Proofs.Ytpdkdgmaofhlkaa
/- The document's task: the answer to a Collect. Conditions as named. -/
namespace Go.Proofs.Ytpdkdgmaofhlkaa
open Go.ChangeShapes Go.WideShapes Go.ChangeAt Go.RowKit Go.Lib Go.Sort
set_option linter.unusedVariables false
set_option linter.unusedSimpArgs false

set_option maxHeartbeats 4000000 in
set_option maxRecDepth 100000 in
theorem yans3 {w : World} {t : Nat} {T : Yt} {xs : List Rx} (h : YtM w t T) (hk : T.k = 3) (hal : T.al = true) (hR : Rys w T xs) :
    Calls Try.prog 34 #[.pointer (some ⟨t, 0, none⟩)] w (YansP 3 T.ma xs w) := by
  have mixed : Try.prog.follows .mixedOrders = true := by kernel_rfl
  have hF := Fr.alloc [] w (.cells (ansA 0 0 false none 0 0 0) 72)
  have hA := yall_any (h.keep hF (by simp))
  rw [hal] at hA
  have HA : Hid (Calls _ _ _ _ _) := hA
  have HSt : Hid (∀ w1, Fr [] (w.alloc (.cells (ansA 0 0 false none 0 0 0) 72)) w1 → w1.cell? ⟨t, 9, none⟩ = some (.int .i64 T.ma) ∧ Ai w (w1.alloc (.cells (ansA 0 T.ma true none 0 0 0) 72)) w.heap.size w1.heap.size t T xs true none 0 0 0) := fun w1 hf => ⟨(h.keep (hF.then hf) (by simp)).c9, Ai.start h hR hf⟩
  have HX : Hid (∀ x ∈ xs, RxB w x) := hR.each
  have HPl : Hid (T.pl = xs.length) := hR.len
  have hfew := hR.few
  clear h hF hA hal hR
  obtain ⟨n, l, s, x, q, k, key, en0, bg, ma, so, sl, sc, ro, rl, rc, ak, po, pl, pc⟩ := T
  simp only at hk HSt HPl hfew ⊢
  subst hk
  simp only [ansA] at HA HSt
  go_enter Try.func34, Try.ntmps34
  go_wp2_with fail
  refine Calls.mono HA.out ?_
  rintro e w1 ⟨rfl, hf1⟩
  obtain ⟨c9, hI0⟩ := HSt.out w1 hf1
  have HI0 : Hid (Ai _ _ _ _ _ _ _ _ _ _ _ _) := hI0
  clear hf1 HA HSt hI0
  go_upto_region 8 with fail
  obtain ⟨W0, HW0⟩ : ∃ W0, Hid (w1.alloc (.cells #[.int .i64 0, .int .i64 ma, .bool true, .slice none 0 0, .int .i64 0] 72) = W0) := ⟨_, rfl⟩
  rw [HW0.out] at HI0 ⊢
  obtain ⟨b2, hb2⟩ : ∃ b, b = w.heap.size := ⟨_, rfl⟩
  obtain ⟨ab, hab⟩ : ∃ b, b = w1.heap.size := ⟨_, rfl⟩
  rw [← hb2, ← hab] at HI0 ⊢
  clear HW0 hb2 hab c9
  have HS : Hid (∀ wr B eo en ec ct, Ai w wr b2 ab t ⟨n, l, s, x, q, 3, key, en0, bg, ma, so, sl, sc, ro, rl, rc, ak, po, pl, pc⟩ xs B eo en ec ct → wr.cell? ⟨t, 5, none⟩ = some (.int .u8 3) ∧ wr.cell? ⟨t, 13, none⟩ = some (.slice po pl pc)) := fun wr B eo en ec ct h => ⟨h.yt.c5, h.yt.c13⟩
  go_loopw [6, 7] (fun s6 s7 wr => ∃ (i : Nat) (ct : Int), s6 = .slice none 0 0 ∧ s7 = .int .i64 i ∧ i ≤ pl ∧ Hid (Ai w wr b2 ab t ⟨n, l, s, x, q, 3, key, en0, bg, ma, so, sl, sc, ro, rl, rc, ak, po, pl, pc⟩ xs true none 0 0 ct ∧ ct = ansC 3 (xs.take i))) (fun _ s7 _ => pl - (RowKit.intOf s7).toNat)
  case atStart => exact ⟨0, 0, rfl, by first | rfl | simp, Nat.zero_le _, HI0.out, by simp [ansC]⟩
  case round =>
    clear HI0
    obtain ⟨i, ct, rfl, rfl, hiP, HI⟩ := hrel
    obtain ⟨d5, d13⟩ := HS.out _ _ _ _ _ _ HI.out.1
    by_cases hiN : i < pl
    · have hlt : (i : Int) < (pl : Int) := by omega
      have hix : i < xs.length := by have := HPl.out; omega
      obtain ⟨pb, rfl, p0, p1, p2, p3, p4⟩ := Rys.at HI.out.1.rs i hiN
      have HRx : Hid (RxB w (xs.getD i Rx.zero)) := HX.out _ (rx_mem xs i hix)
      have HTk : Hid (xs.take (i + 1) = xs.take i ++ [xs.getD i Rx.zero]) := rx_take xs i hix
      obtain ⟨y, hy⟩ : ∃ y, y = xs.getD i Rx.zero := ⟨_, rfl⟩
      rw [← hy] at p0 p1 p2 p3 p4 HRx HTk
      clear hy
      obtain ⟨⟨rto, rok, reo, rel, rec_, rho, rhl, rhc, rct⟩, res_, rhs⟩ := y
      simp only at p0 p1 p2 p3 p4
      go_upto_region 11 with fail
      obtain ⟨W1, HW1⟩ : ∃ W1, Hid (wr.alloc (.cells #[.int .i64 rto, .bool rok, .slice reo rel rec_, .slice rho rhl rhc, .int .i64 rct] 46) = W1) := ⟨_, rfl⟩
      have HF1 : Hid (Fr [] wr W1) := by show Fr _ _ _; rw [← HW1.out]; exact Fr.alloc [] _ _
      have HBx : Hid (W1.heap[wr.heap.size]? = some (.cells #[.int .i64 rto, .bool rok, .slice reo rel rec_, .slice rho rhl rhc, .int .i64 rct] 46 (0, 0))) := by show _ = _; rw [← HW1.out]; exact heap_alloc_new wr _
      obtain ⟨bx, hbx⟩ : ∃ b, b = wr.heap.size := ⟨_, rfl⟩
      rw [HW1.out]
      rw [← hbx] at HBx ⊢
      have HBl : Hid (bx = wr.heap.size) := hbx
      clear HW1 p0 p1 p2 p3 p4 d5 d13 hbx
      have HI1 : Hid (Ai w W1 b2 ab t ⟨n, l, s, x, q, 3, key, en0, bg, ma, so, sl, sc, ro, rl, rc, ak, some ⟨pb, 0, none⟩, pl, pc⟩ xs true none 0 0 ct) := HI.out.1.keep HF1.out
      obtain ⟨d5, _⟩ := HS.out _ _ _ _ _ _ HI1.out
      obtain ⟨⟨_, _, _, _, a4⟩, _, _, z4⟩ := HI1.out.ca
      obtain ⟨_, _, _, _, f4⟩ := rp_cells HBx.out
      have HN : Hid (Ai w (W1.setCell ⟨ab, 4, none⟩ (.int .i64 (wrap64 (ct + rct)))) b2 ab t ⟨n, l, s, x, q, 3, key, en0, bg, ma, so, sl, sc, ro, rl, rc, ak, some ⟨pb, 0, none⟩, pl, pc⟩ xs true none 0 0 (wrap64 (ct + rct)) ∧ wrap64 (ct + rct) = ansC 3 (xs.take (i + 1))) := ⟨HI1.out.put HX.out (Fr.set _ _ _ (by simp)) (by rw [row_put17 _ HI1.out.ra]; rfl), by rw [HTk.out, HI.out.2]; simp [ansC]⟩
      clear HI1 HBx HF1 HRx HTk HBl HI
      go_wp2
      go_roundw
      case rel => exact ⟨i + 1, _, rfl, by simp, by omega, HN⟩
      case measure => simp [RowKit.intOf]; omega
    · have hge : ¬ ((i : Int) < (pl : Int)) := by omega
      have HTk : Hid (xs.take i = xs) := List.take_of_length_le (by have := HPl.out; omega)
      obtain ⟨⟨a0, a1, a2, a3, a4⟩, _⟩ := HI.out.1.ca
      obtain ⟨⟨e0, e1, e2, e3, e4⟩, z0, z1, z2, z3, z4⟩ := HI.out.1.cb
      obtain ⟨o1, o2, o3⟩ := HI.out.1.out
      have HO : Hid (_ ∧ _ ∧ _) := ⟨o1, o2, o3⟩
      have hne1 := HI.out.1.ne
      have hne2 := fun e => hne1 (Eq.symm e)
      simp only at a1
      clear o1 o2 o3 d5
      have HE : Hid (ct = ansC 3 xs) := by have h := HI.out.2; rw [HTk.out] at h; exact h
      clear HI HTk
      go_wp2
      refine bodyPost_ret (results_ctt17 rfl _ _ _ b2 _ rfl (load_ans HO.out.1)) rfl ?_
      refine ⟨none, 0, none, 0, ?_, RrE.nil _ _, ⟨RrH.nil _ _, by simp [ansH]⟩, HO.out.2.2⟩
      rw [← HE.out]
      rfl
end Go.Proofs.Ytpdkdgmaofhlkaa
