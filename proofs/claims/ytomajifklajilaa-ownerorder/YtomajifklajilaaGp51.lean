/- Texts of this claim laid together, one behind the other: contracts and plain lemmas; conditions as each names them. -/
import Derived.Test.YtomajifklajilaaGp49
import Derived.Test.YtomajifklajilaaGp50
/- The walk of OwnerOrder: what was taken and not yet served, as numbers in a row of the law's own. Conditions as each names them. -/
namespace Go.Proofs.Ytomajifklajilaa
open Go.ChangeShapes Go.WideShapes Go.ChangeAt Go.RowKit Go.Lib Go.Maps
set_option linter.unusedVariables false
set_option linter.unusedSimpArgs false
theorem Try.undIsE15 : Try.prog.underlying 28 = some (.slice (Try.prog.elem 28)) := by kernel_rfl
theorem Try.elemIs15 : Try.prog.elem 28 = 3 := by kernel_rfl
theorem Try.sizeOfI15 (w : World) : (Go.sizeOf 3).run Try.prog w = .ok 1 w := by kernel_rfl
def cutQ (lo : Option Addr) (c : Nat) : Option Addr := if c = 1 then lo else lo.map fun a => a.add 1
theorem slI_1 (b off N rc : Nat) (h0 : 0 < N) (h1 : N ≤ rc) (w : World) : (Instr.sliceAt 28 (.slice (some ⟨b, off, none⟩) N rc) (some (.int .i64 1)) none none).run Try.prog w = .ok (.slice (cutQ (some ⟨b, off, none⟩) rc) (N - 1) (rc - 1)) w := by
  have e := run_slice_l w 28 (some (⟨b, off, none⟩ : Addr)) N rc Try.undIsE15 .i64 1 (by omega) (by omega)
  rw [run_sliceAt_slice w 28 _ _ _ _ Try.undIsE15, e, Try.elemIs15, Try.sizeOfI15]
  by_cases hc : rc = 1
  · subst hc
    simp [Result.andThen, sliced, cutQ]
  · have : ¬ rc ≤ 1 := by omega
    have h2 : ¬ rc - 1 = 0 := by omega
    simp [Result.andThen, sliced, cutQ, hc, h2]
theorem QR.cut {w : World} {lo : Option Addr} {n c : Nat} {x : Int} {xs : List Int} (h : QR w lo n c (x :: xs)) : QR w (cutQ lo c) (n - 1) (c - 1) xs ∧ qb (cutQ lo c) = qb lo := by
  have hl := h.len
  have hf := h.fit
  simp only [List.length_cons] at hl
  rcases h.row with ⟨_, h0⟩ | ⟨b, off, cur, rfl, hb, hoc, hc⟩
  · omega
  · by_cases h1 : c = 1
    · subst h1
      have : xs = [] := List.eq_nil_of_length_eq_zero (by omega)
      subst this
      refine ⟨⟨by simp; omega, by omega, .inr ⟨b, off, cur, by simp [cutQ], hb, by omega, fun i hi => by omega⟩⟩, by simp [cutQ]⟩
    · refine ⟨⟨by omega, by omega, .inr ⟨b, off + 1, cur, by simp [cutQ, h1, Addr.add_lit], hb, by omega, fun i hi => ?_⟩⟩, by simp [cutQ, h1, qb, Addr.add_lit]⟩
      have := hc (i + 1) (by omega)
      rw [show off + 1 + i = off + (i + 1) by omega, this]
      rfl
theorem QR.move {w w' : World} {lo : Option Addr} {n c : Nat} {xs : List Int} (h : QR w lo n c xs) (hk : ∀ (j : Nat) (cs : Array Value), w.heap[j]? = some (.cells cs 3 (0, 0)) → w'.heap[j]? = some (.cells cs 3 (0, 0))) : QR w' lo n c xs := by
  refine ⟨h.len, h.fit, ?_⟩
  rcases h.row with h | ⟨b, off, cur, rfl, hb, h⟩
  · exact .inl h
  · exact .inr ⟨b, off, cur, rfl, hk _ _ hb, h⟩
theorem QR.blk {w : World} {lo : Option Addr} {n c : Nat} {xs : List Int} (h : QR w lo n c xs) {k : Nat} (hk : qb lo = some k) : ∃ cur, w.heap[k]? = some (.cells cur 3 (0, 0)) := by
  rcases h.row with ⟨rfl, _⟩ | ⟨b, off, cur, rfl, hb, _⟩
  · cases hk
  · cases hk; exact ⟨cur, hb⟩
/-- What stands between two rounds. -/
structure Ro (w W : World) (ob sb b n g C : Nat) (lo : Option Addr) (m c : Nat) (rs : List Rq) : Prop where
  o : ∃ pb M, OwS w (qb lo) W ob sb b n g pb C M rs
  q : QR W lo m c (rs.map Rq.f)
  nw : ∀ k, qb lo = some k → w.heap.size ≤ k
section
variable {w W W' : World} {ob sb b n g C : Nat} {lo : Option Addr} {m c : Nat} {rs : List Rq}
theorem Ro.fr (h : Ro w W ob sb b n g C lo m c rs) : Fr [] w W := by
  obtain ⟨pb, M, h⟩ := h.o
  exact h.fr
theorem Ro.same (h : Ro w W ob sb b n g C lo m c rs) (hf : Fr [] W W') : Ro w W' ob sb b n g C lo m c rs := by
  obtain ⟨pb, M, h1⟩ := h.o
  exact ⟨⟨pb, M, h1.same hf⟩, h.q.keep hf (by simp), h.nw⟩
theorem Ro.lt (h : Ro w W ob sb b n g C lo m c rs) : ∀ k, qb lo = some k → k < W.heap.size := fun k e => by
  obtain ⟨cur, hc⟩ := h.q.blk e
  exact lt_of_block hc
theorem Ro.len (h : Ro w W ob sb b n g C lo m c rs) : m = rs.length ∧ rs.length ≤ C := by
  obtain ⟨pb, M, h1⟩ := h.o
  have := h.q.len
  simp at this
  exact ⟨this, h1.few.1⟩
theorem ro_idle (h : Ro w W ob sb b n g C lo m c []) : Calls Try.prog 8 #[.pointer (some ⟨ob, 0, none⟩)] W fun e w' => e = .returned (.tuple #[.agg #[.int .i64 0, .bool false, .slice none 0 0, .slice none 0 0, .int .i64 0], .int .i64 9]) ∧ Ro w w' ob sb b n g C lo m c [] := by
  obtain ⟨pb, M, h1⟩ := h.o
  refine (os_idle h1).mono ?_
  rintro e w' ⟨rfl, _, hF⟩
  exact ⟨rfl, h.same hF⟩
theorem ro_serve {r : Rq} (h : Ro w W ob sb b n g C lo m c (r :: rs)) (hn : n < 3518437208882) : Calls Try.prog 8 #[.pointer (some ⟨ob, 0, none⟩)] W fun e w' => ∃ ok eo el ec ho hl hc cc, e = .returned (.tuple #[.agg #[.int .i64 r.f, .bool ok, .slice eo el ec, .slice ho hl hc, .int .i64 cc], .int .i64 0]) ∧ Ro w w' ob sb b (n + 1) g C (cutQ lo c) (m - 1) (c - 1) rs ∧ QR w' lo m c ((r :: rs).map Rq.f) := by
  obtain ⟨pb, M, h1⟩ := h.o
  refine (os_serve h1 hn).mono ?_
  rintro e w' ⟨ok, eo, el, ec, ho, hl, hc, cc, M', rfl, h2, hF, _⟩
  have hq := h.q.move (fun j cs hj => hF.keep h1.sh.mb hj (by decide) (by decide) (by decide))
  obtain ⟨q1, q2⟩ := QR.cut (x := r.f) (xs := rs.map Rq.f) hq
  exact ⟨ok, eo, el, ec, ho, hl, hc, cc, rfl, ⟨⟨pb, M', by rw [q2]; exact h2⟩, q1, by rw [q2]; exact h.nw⟩, hq⟩
theorem ro_ask (h : Ro w W ob sb b n g C lo m c rs) (x : Rv) (ns : List Int) (hR : RqB W x ns) : Calls Try.prog 9 #[.pointer (some ⟨ob, 0, none⟩), x.v] W fun e w' => ∃ (c1 : Int),
    (e = .returned (.tuple #[.bool false, .int .i64 c1]) ∧ Ro w w' ob sb b n g C lo m c rs) ∨
    (e = .returned (.tuple #[.bool true, .int .i64 c1]) ∧ rs.length < C ∧ QR w' lo m c (rs.map Rq.f) ∧ (∃ pb M, OwS w (qb lo) w' ob sb b n g pb C M (rs ++ [x.q ns]))) := by
  obtain ⟨pb, M, h1⟩ := h.o
  refine (os_ask h1 h.lt x ns hR).mono ?_
  rintro e w' (⟨_, rfl, _, hF⟩ | ⟨_, _, rfl, _, hF⟩ | ⟨_, hl, rfl, pb', h2, hF⟩)
  · exact ⟨1, Or.inl ⟨rfl, h.same hF⟩⟩
  · exact ⟨0, Or.inl ⟨rfl, h.same hF⟩⟩
  · exact ⟨0, Or.inr ⟨rfl, hl, h.q.move (fun j cs hj => hF.keep h1.sh.mb hj (by decide) (by decide) (by decide)), pb', M, h2⟩⟩
end
set_option maxHeartbeats 16000000 in
set_option maxRecDepth 100000 in
theorem order_walk (q : Int) (ao : Option Addr) (L cap : Nat) (os : List As) (w : World) (hA : ARs w ao os) (hL : L = os.length) :
    Calls Try.prog 3 #[.int .i64 q, .slice ao L cap] w fun e w' => e = .returned (.bool true) ∧ Fr [] w w' := by
  by_cases hq : 1 ≤ q ∧ q ≤ 16
  · obtain ⟨hq1, hq2⟩ := hq
    have HN : Hid (Calls _ _ _ _ _) := onew_any 0 q none 0 0 [] w ⟨by decide, by decide, hq1, hq2⟩ (hrs_nil w) rfl
    have HA : Hid (∀ W, Fr [] w W → ARs W ao os) := fun W hf => hA.keep hf
    have HL : Hid (L = os.length) := hL
    obtain ⟨C, hC⟩ : ∃ C : Nat, q = (C : Int) := ⟨q.toNat, by omega⟩
    have hLm : L ≤ 140737488355328 := by have := hA.few; omega
    subst hC
    have hC16 : C ≤ 16 := by omega
    clear hA hL
    go_enter Try.func3, Try.ntmps3
    go_wp2_with fail
    refine Calls.mono HN.out ?_
    rintro e w1 (⟨h, _⟩ | ⟨_, ob, sb, b, g, rfl, hO⟩)
    · exact absurd lo_nil h
    have HR1 : Hid (Ro w w1 ob sb b 0 g C none 0 0 []) := ⟨⟨none, _, hO⟩, ⟨rfl, Nat.le_refl _, .inl ⟨rfl, rfl⟩⟩, fun k e => by cases e⟩
    clear hO HN
    go_wp2_with fail
    go_loopw [7, 8] (fun tt ii wr => ∃ (lo : Option Addr) (m c i n : Nat) (rs : List Rq), tt = .slice lo m c ∧ ii = .int .i64 i ∧ i ≤ L ∧ i ≤ 200 ∧ n ≤ i ∧ Hid (Ro w wr ob sb b n g C lo m c rs)) (fun _ ii _ => 200 - (RowKit.intOf ii).toNat)
    case atStart => exact ⟨none, 0, 0, 0, 0, [], rfl, rfl, Nat.zero_le _, Nat.zero_le _, Nat.le_refl _, HR1⟩
    case round =>
      obtain ⟨lo, m, c, i, n, rs, rfl, rfl, hiL, hi2, hni, HR⟩ := hrel
      by_cases hi : i < L
      · by_cases hj : i < 200
        · have hi' : i < os.length := by rw [← HL.out]; exact hi
          have hAr := HA.out _ HR.out.fr
          obtain ⟨ab, off, rfl, hab, hat⟩ := hAr.lies (by omega)
          have hx := hat i hi'
          have HX : Hid (∀ W, Fr [] w W → W.cell? ⟨ab, off + i * 10 + 2, none⟩ = (os.getD i As.zero).c[2]?) := fun W hf => by
            obtain ⟨ab', off', e, _, h2⟩ := (HA.out W hf).lies (by omega)
            cases e
            exact h2 i hi' 2 (by omega)
          have HB : Hid (RqB wr (os.getD i As.zero).r (os.getD i As.zero).ns) := hAr.each _ (agetD_mem os i hi')
          obtain ⟨a, ha⟩ : ∃ a, a = os.getD i As.zero := ⟨_, rfl⟩
          rw [← ha] at hx HB HX
          obtain ⟨s, ⟨xk, xf, xn, xa, xb, xd, xc, xe, xo, xl, xm⟩, ns⟩ := a
          have a0 := hx 0 (by omega)
          have a1 := hx 1 (by omega)
          have a2 := hx 2 (by omega)
          have a3 := hx 3 (by omega)
          have a4 := hx 4 (by omega)
          have a5 := hx 5 (by omega)
          have a6 := hx 6 (by omega)
          have a7 := hx 7 (by omega)
          have a8 := hx 8 (by omega)
          have a9 := hx 9 (by omega)
          simp only [As.c, Rv.cs, List.getElem?_cons_zero, List.getElem?_cons_succ, Nat.add_zero] at HX a0 a1 a2 a3 a4 a5 a6 a7 a8 a9
          clear hx hat ha hAr
          cases s with
          | true =>
            cases rs with
            | nil =>
              have HS : Hid (Calls _ _ _ _ _) := ro_idle HR.out
              obtain ⟨rfl, _⟩ := HR.out.len
              clear a1 a2 a3 a4 a5 a6 a7 a8 a9
              go_wp2_with fail
              refine Calls.mono HS.out ?_
              rintro e w2 ⟨rfl, hR2⟩
              have HR2 : Hid (Ro w (w2.alloc (.cells #[.int .i64 0, .bool false, .slice none 0 0, .slice none 0 0, .int .i64 0] 39)) ob sb b n g C lo 0 c []) := hR2.same (Fr.alloc _ _ _)
              clear hR2 HS
              go_wp2_with fail
              go_roundw
              case rel => exact ⟨lo, _, c, i + 1, n, [], rfl, by simp, by omega, by omega, by omega, HR2⟩
              case measure => simp [RowKit.intOf]; omega
            | cons r rs =>
              have HS : Hid (Calls _ _ _ _ _) := ro_serve HR.out (by omega)
              obtain ⟨hm, hmC⟩ := HR.out.len
              simp only [List.length_cons] at hm hmC
              have hm00 : 0 < m := by omega
              obtain ⟨tb, toff, rfl, _⟩ := HR.out.q.at_ (i := 0) (by omega)
              have hcm : m ≤ c := HR.out.q.fit
              have hm0 : ¬ m = 0 := by omega
              have hsl := slI_1 tb toff m c (by omega) hcm
              clear a1 a2 a3 a4 a5 a6 a7 a8 a9
              go_wp2_with fail
              refine Calls.mono HS.out ?_
              rintro e w2 ⟨ok, eo, el, ec, ho, hl, hc, cc, rfl, hR2, hQ2⟩
              have HR2 : Hid (Ro w (w2.alloc (.cells #[.int .i64 r.f, .bool ok, .slice eo el ec, .slice ho hl hc, .int .i64 cc] 39)) ob sb b (n + 1) g C (cutQ (some ⟨tb, toff, none⟩) c) (m - 1) (c - 1) rs) := hR2.same (Fr.alloc _ _ _)
              obtain ⟨tb', toff', e, ct⟩ := hQ2.at_ (i := 0) (by omega)
              cases e
              simp only [List.map_cons, List.getD_cons_zero, Nat.add_zero] at ct
              have ct2 := Lib.cell?_alloc_some (.cells #[.int .i64 r.f, .bool ok, .slice eo el ec, .slice ho hl hc, .int .i64 cc] 39) ct
              have hm1 : rs.length = m - 1 := by omega
              have HM1 : Hid (rs.length = m - 1) := hm1
              clear hR2 HS hQ2 ct hm hm1
              go_wp2_with fail
              go_quiet (fail)
              go_wp2_with fail
              go_roundw
              case rel => exact ⟨_, _, _, i + 1, n + 1, rs, rfl, by simp, by omega, by omega, by omega, (by
                have h5 := HR2.out.same (Fr.drewN [] _ nq)
                have e5 : cutQ (some ⟨tb, toff, none⟩) c = if c = 1 then some ⟨tb, toff, none⟩ else some ⟨tb, toff + 1, none⟩ := by simp [cutQ, Addr.add_lit]
                rw [e5, ← HM1.out] at h5
                exact h5)⟩
              case measure => simp [RowKit.intOf]; omega
          | false =>
            have HS : Hid (Calls Try.prog 9 #[.pointer (some ⟨ob, 0, none⟩), .agg #[.int .u8 xk, .int .i64 xf, .int .i64 xn, .string xa, .string xb, .bool xd, .string xc, .string xe, .slice xo xl xm]] wr fun e w' => ∃ (c1 : Int),
                (e = .returned (.tuple #[.bool false, .int .i64 c1]) ∧ Ro w w' ob sb b n g C lo m c rs) ∨
                (e = .returned (.tuple #[.bool true, .int .i64 c1]) ∧ rs.length < C ∧ QR w' lo m c (rs.map Rq.f) ∧ (∃ pb M, OwS w (qb lo) w' ob sb b n g pb C M (rs ++ [⟨xk, xf, xn, xa, xb, xd, xc, xe, ns⟩])))) := ro_ask HR.out ⟨xk, xf, xn, xa, xb, xd, xc, xe, xo, xl, xm⟩ ns HB.out
            have HM : Hid (m = rs.length) := HR.out.len.1
            have hmC : m ≤ C := by have := HR.out.len; omega
            have HNw : Hid (∀ k, qb lo = some k → w.heap.size ≤ k) := HR.out.nw
            go_wp2_with fail
            refine Calls.mono HS.out ?_
            rintro e w2 ⟨c1, ⟨rfl, hR2⟩ | ⟨rfl, hl0, hQ2, hO2⟩⟩
            · have HR2 : Hid (Ro w w2 ob sb b n g C lo m c rs) := hR2
              clear hR2 HS a0 a1 a2 a3 a4 a5 a6 a7 a8 a9 HX
              go_wp2_with fail
              go_roundw
              case rel => exact ⟨lo, m, c, i + 1, n, rs, rfl, by simp, by omega, by omega, by omega, HR2⟩
              case measure => simp [RowKit.intOf]; omega
            · have HQ2 : Hid (QR w2 lo m c (rs.map Rq.f) ∧ (∃ pb M, OwS w (qb lo) w2 ob sb b n g pb C M (rs ++ [⟨xk, xf, xn, xa, xb, xd, xc, xe, ns⟩]))) := ⟨hQ2, hO2⟩
              have hl : m < C := by have := HM.out; omega
              clear hl0
              have b2 : w2.cell? ⟨ab, off + i * 10 + 2, none⟩ = some (.int .i64 xf) := by
                obtain ⟨pb, M, h⟩ := hO2
                exact HX.out _ h.fr
              clear hQ2 hO2 HS a0 a1 a2 a3 a4 a5 a6 a7 a8 a9 HX
              go_wp2_with (first
                | (at_builtin; refine wpList_appQ w2 rfl (.tmp 81) (.tmp 88) rfl lo m c (rs.map Rq.f) xf rfl HQ2.out.1 (by omega) rfl ?_; intro lo' c' w3 hq3 hf3 hb3; go_frame)
                | fail)
              have HR3 : Hid (Ro w w3 ob sb b n g C lo' (m + 1) c' (rs ++ [⟨xk, xf, xn, xa, xb, xd, xc, xe, ns⟩])) := by
                obtain ⟨q2, pb, M, h2⟩ := HQ2.out
                refine ⟨⟨pb, M, h2.row (fun k e => ⟨HNw.out k e, q2.blk e⟩) hf3 (fun k e => ?_)⟩, by simpa using hq3, fun k e => ?_⟩
                · rcases hb3 with r | ⟨k', r, hk⟩
                  · exact Or.inl r
                  · rw [r] at e; cases e; exact Or.inr hk
                · rcases hb3 with r | ⟨k', r, hk⟩
                  · exact HNw.out k (by rw [← r]; exact e)
                  · rw [r] at e; cases e
                    have := h2.fr.size
                    omega
              clear hq3 hf3 hb3 HQ2
              have hg1 : ¬ (C : Int) < (m : Int) + 1 := by omega
              go_wp2_with fail
              go_roundw
              case rel => exact ⟨lo', m + 1, c', i + 1, n, _, rfl, by simp, by omega, by omega, by omega, HR3⟩
              case measure => simp [RowKit.intOf]; omega
        · obtain ⟨hm, hmC0⟩ := HR.out.len
          have hmC : m ≤ C := by omega
          obtain ⟨pb, M, hO⟩ := HR.out.o
          have HLe : Hid (Calls _ _ _ _ _) := os_len hO m hm.symm
          have HRo : Hid (∀ W, Fr [] wr W → Calls _ _ _ _ _) := fun W hf => os_room (hO.same hf) (C - m) (by rw [hm])
          clear hm hmC0
          have HF : Hid (Fr [] w wr) := HR.out.fr
          have hcm : ((C - m : Nat) : Int) = (C : Int) - (m : Int) := by omega
          clear hO HR
          go_wp2_with fail
          refine Calls.mono HLe.out ?_
          rintro e w2 ⟨rfl, rfl⟩
          go_wp2_with fail
          refine Calls.mono (HRo.out _ (Fr.refl _ _)) ?_
          rintro e w3 ⟨rfl, hF3⟩
          rw [hcm]
          go_wp2_with fail
          refine (lives_any _).mono ?_
          rintro e w4 ⟨rfl, hF4⟩
          go_wp2
          go_ret
          exact ⟨rfl, HF.out.then (hF3.then hF4)⟩
      · obtain ⟨hm, hmC0⟩ := HR.out.len
        have hmC : m ≤ C := by omega
        obtain ⟨pb, M, hO⟩ := HR.out.o
        have HLe : Hid (Calls _ _ _ _ _) := os_len hO m hm.symm
        have HRo : Hid (∀ W, Fr [] wr W → Calls _ _ _ _ _) := fun W hf => os_room (hO.same hf) (C - m) (by rw [hm])
        clear hm hmC0
        have HF : Hid (Fr [] w wr) := HR.out.fr
        have hcm : ((C - m : Nat) : Int) = (C : Int) - (m : Int) := by omega
        clear hO HR
        go_wp2_with fail
        refine Calls.mono HLe.out ?_
        rintro e w2 ⟨rfl, rfl⟩
        go_wp2_with fail
        refine Calls.mono (HRo.out _ (Fr.refl _ _)) ?_
        rintro e w3 ⟨rfl, hF3⟩
        rw [hcm]
        go_wp2_with fail
        refine (lives_any _).mono ?_
        rintro e w4 ⟨rfl, hF4⟩
        go_wp2
        go_ret
        exact ⟨rfl, HF.out.then (hF3.then hF4)⟩
  · have HN : Hid (Calls _ _ _ _ _) := onew_no 0 q none 0 0 w (fun h => hq ⟨h.2.2.1, h.2.2.2⟩)
    clear hA hL
    by_cases h1 : q < 1
    · clear hq
      go_enter Try.func3, Try.ntmps3
      go_wp2_with fail
      refine Calls.mono HN.out ?_
      rintro e w1 ⟨rfl, rfl⟩
      go_wp2_with fail
      refine (lives_any _).mono ?_
      rintro e w4 ⟨rfl, hF4⟩
      go_wp2
      go_ret
      exact ⟨rfl, hF4⟩
    · have h2 : 16 < q := by omega
      clear hq
      go_enter Try.func3, Try.ntmps3
      go_wp2_with fail
      refine Calls.mono HN.out ?_
      rintro e w1 ⟨rfl, rfl⟩
      go_wp2_with fail
      refine (lives_any _).mono ?_
      rintro e w4 ⟨rfl, hF4⟩
      go_wp2
      go_ret
      exact ⟨rfl, hF4⟩
end Go.Proofs.Ytomajifklajilaa
