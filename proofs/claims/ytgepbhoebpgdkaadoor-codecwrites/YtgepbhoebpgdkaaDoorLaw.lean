/- The walk of the law CodecWrites. Conditions: a script that came in, of a size within the statement's own bound. -/
import Derived.Test.YtgepbhoebpgdkaaDoorLaw0
namespace Go.Proofs.YtgepbhoebpgdkaaDoor
open Go.ChangeShapes Go.WideShapes Go.ChangeAt Go.RowKit Go.Lib

structure LV (w0 : World) (g : Nat) (v : Value) (xs : List Nat) (wv : Value) (ys : List Nat) (z bk : Nat) (rv : Value) (hs : List HB) (ob : Nat) (k n wd : Int) (tx : ByteArray) (ms : Int) (w : World) : Prop where
  li : LI w0 g v xs wv ys z bk rv hs w
  var : w.heap[ob]? = some (.cells #[.int .u8 k, .int .u64 n, .int .i64 wd, .string tx, .int .i64 ms] 44 (0, 0))
section
variable {w0 w w' : World} {g : Nat} {v : Value} {xs : List Nat} {wv : Value} {ys : List Nat} {z bk : Nat} {rv : Value} {hs : List HB} {ob : Nat} {k n wd : Int} {tx : ByteArray} {ms : Int}
theorem LV.c0 (h : LV w0 g v xs wv ys z bk rv hs ob k n wd tx ms w) : w.cell? ⟨ob, 0, none⟩ = some (.int .u8 k) := by rw [cell_of_row _ _ _ _ _ _ h.var]; rfl
theorem LV.c1 (h : LV w0 g v xs wv ys z bk rv hs ob k n wd tx ms w) : w.cell? ⟨ob, 1, none⟩ = some (.int .u64 n) := by rw [cell_of_row _ _ _ _ _ _ h.var]; rfl
theorem LV.c2 (h : LV w0 g v xs wv ys z bk rv hs ob k n wd tx ms w) : w.cell? ⟨ob, 2, none⟩ = some (.int .i64 wd) := by rw [cell_of_row _ _ _ _ _ _ h.var]; rfl
theorem LV.c3 (h : LV w0 g v xs wv ys z bk rv hs ob k n wd tx ms w) : w.cell? ⟨ob, 3, none⟩ = some (.string tx) := by rw [cell_of_row _ _ _ _ _ _ h.var]; rfl
theorem LV.want {wv' : Value} {ys' : List Nat} (h : LV w0 g v xs wv ys z bk rv hs ob k n wd tx ms w) (q : WnTo w wv w' wv' ys') : LV w0 g v xs wv' ys' z bk rv hs ob k n wd tx ms w' :=
  ⟨h.li.want q, q.fr.keep h.var (own_not h.li.wvt h.var (by decide))⟩
theorem LV.wrote {v' : Value} {xs' : List Nat} (h : LV w0 g v xs wv ys z bk rv hs ob k n wd tx ms w) (hW : Wr w' g v' xs') (hF : Fr (Wr.own g v) w w') (hM : Moved w.heap.size v v') : LV w0 g v' xs' wv ys z bk rv hs ob k n wd tx ms w' := by
  refine ⟨h.li.wrote hW hF hM, hF.keep h.var ?_⟩
  intro hm
  rcases List.mem_cons.1 hm with hm | hm
  · exact ne_types h.var h.li.wr.box (by decide) hm
  · exact own_not h.li.vt h.var (by decide) hm
end
theorem w64_bd (n : Int) : -9223372036854775808 ≤ wrap64 n ∧ wrap64 n ≤ 9223372036854775807 := by unfold wrap64; omega
theorem lim_le (N X : Nat) (h : 2 ^ (8 * (X : Int).toNat) ≤ N) : 2 ^ (8 * X) ≤ N := by rw [Int.toNat_natCast] at h; exact h
theorem lim_lt (N X : Nat) (hN : N < 2^64) (h8 : X ≤ 8) (h : 2 ^ (8 * (X : Int).toNat) ≤ N) : X < 8 := by
  rcases Nat.lt_or_ge X 8 with hx | hx
  · exact hx
  · obtain rfl : X = 8 := by omega
    have := lim_le N 8 h
    simp at this
    omega
theorem exp_eq (X : Nat) : (8 * (X : Int)).toNat = 8 * X := by omega
theorem lim_ne (N X : Nat) (h : 2 ^ (8 * (X : Int).toNat) ≤ N) : (N : Int) / 2 ^ (8 * (X : Int)).toNat ≠ 0 := by
  have h := lim_le N X h
  rw [exp_eq]
  have h2 : 0 < N / 2 ^ (8 * X) := Nat.div_pos h (Nat.two_pow_pos _)
  have e : (N : Int) / 2 ^ (8 * X) = ((N / 2 ^ (8 * X) : Nat) : Int) := by simp
  rw [e]
  omega
theorem fit_eq (N X : Nat) (h : N < 2 ^ (8 * (X : Int).toNat)) : (N : Int) / 2 ^ (8 * (X : Int)).toNat = 0 := by
  rw [Int.toNat_natCast] at h
  rw [exp_eq]
  have e : (N : Int) / 2 ^ (8 * X) = ((N / 2 ^ (8 * X) : Nat) : Int) := by simp
  rw [e, Nat.div_eq_of_lt h]
  rfl

theorem total_ge (os : List OpV) : 10 * os.length ≤ total os := by
  induction os with
  | nil => simp
  | cons a r ih => simp only [List.length_cons, total]; omega

/-- What Done answers: the bytes, in memory of their own. -/
theorem done_any (g : Nat) (v : Value) (xs : List Nat) (w : World) (h : Wr w g v xs) (hlen : xs.length < 2^40) :
    Calls Tryd.prog 15 #[.pointer (some ⟨g, 0, none⟩)] w fun e w' => ∃ ao n cap, e = .returned (.slice ao n cap) ∧ n = xs.length ∧ Wn w' (.slice ao n cap) xs ∧ (∀ k, (Value.slice ao n cap).ownBlock = some k → w.heap.size ≤ k) ∧ Fr [] w w' := by
  by_cases hx : 0 < xs.length
  · refine (done_some g v xs w h hx (by omega)).mono ?_
    rintro e w' ⟨rfl, hrow, hf⟩
    refine ⟨_, _, _, rfl, rfl, ⟨by rw [bts_length]; omega, .inr ⟨w.heap.size, xs.length, (bts xs).toArray, rfl, Nat.zero_le _, hrow, Nat.le_refl _, by unfold maxLen; omega, by simp [bts_length], ?_⟩⟩, ?_, hf⟩
    · rw [List.take_of_length_le (by simp [bts_length])]
    · intro k hk
      simp [Value.ownBlock] at hk
      omega
  · have : xs = [] := List.eq_nil_of_length_eq_zero (by omega)
    subst this
    refine (done_none g v w h).mono ?_
    rintro e w' ⟨rfl, rfl⟩
    exact ⟨none, 0, 0, rfl, rfl, World.ownsRow_nil _ _ _ _, fun k hk => by simp [Value.ownBlock] at hk, Fr.refl _ _⟩

set_option maxHeartbeats 4000000 in
set_option maxRecDepth 100000 in
theorem walk_big (so : Option Addr) (M sc : Nat) (os : List OpV) (w : World) (hs : SArg w so M sc os) (hT : 1048576 < total os) :
    Calls Tryd.prog 3 #[.slice so M sc] w fun e w' => e = .returned (.bool true) ∧ Fr [] w w' := by
  have E : decide (1048576 < total os) = true := by simp [hT]
  go_enter Tryd.func3, Tryd.ntmps3
  go_wp2_with fail
  refine (script_any so M sc os w hs).mono ?_
  rintro e w' ⟨rfl, rfl⟩
  rw [E]
  go_wp2_with fail
  go_ret
  exact ⟨rfl, Fr.refl _ _⟩

set_option maxHeartbeats 4000000 in
set_option maxRecDepth 100000 in
theorem walk (so : Option Addr) (M sc : Nat) (os : List OpV) (w : World) (hs : SArg w so M sc os) (hT : total os ≤ 1048576) :
    Calls Tryd.prog 3 #[.slice so M sc] w fun e w' => e = .returned (.bool true) ∧ Fr [] w w' := by
  have E : decide (1048576 < total os) = false := by simp; omega
  have HL : Hid (M = os.length) := hs.len
  have hMm := hs.most
  have HS : Hid (SArg w so M sc os) := hs
  go_enter Tryd.func3, Tryd.ntmps3
  go_wp2_with fail
  refine (script_any so M sc os w hs).mono ?_
  rintro e w' ⟨rfl, rfl⟩
  rw [E]
  go_wp2_with fail
  refine (newWriter_wr w w (Fr.refl _ _)).mono ?_
  rintro e w1 ⟨g, rfl, hg1, hWB, hF1⟩
  go_wp2_with fail
  obtain ⟨z, hz⟩ : ∃ z, z = w1.heap.size := ⟨_, rfl⟩
  obtain ⟨bk, hbk⟩ : ∃ bk, bk = w1.heap.size + 1 := ⟨_, rfl⟩
  obtain ⟨wl, hwl⟩ : ∃ wl, wl = (w1.alloc (Obj.cells #[Value.bool false, Value.slice none 0 0] 28)).alloc (Obj.cells #[Value.int IntKind.i64 0, Value.slice none 0 0, Value.slice none 0 0, Value.slice none 0 0, Value.slice none 0 0, Value.slice none 0 0, Value.slice none 0 0, Value.slice none 0 0, Value.slice none 0 0, Value.slice none 0 0, Value.slice none 0 0, Value.slice none 0 0] 41) := ⟨_, rfl⟩
  rw [← hwl, ← hbk, ← hz]
  have HI0 : Hid (LI w g (.slice none 0 0) [] (.slice none 0 0) [] z bk (.slice none 0 0) [] wl) := by
    have hfl : Fr [] w1 wl := by rw [hwl]; exact (Fr.alloc [] _ _).then (Fr.alloc [] _ _)
    have hs1 := hF1.size
    refine ⟨hWB.wr.keep hfl (by simp) (by simp), World.ownsRow_nil _ _ _ _, ?_, ⟨?_, World.ownsRow_nil _ _ _ _, by simp⟩, by simp, ?_, ?_, ?_, hF1.then hfl, hg1, by omega, by omega, ?_, ?_, ?_, ?_, ?_, ?_, ?_, ?_⟩
    · rw [hwl, hz]; exact heap_alloc2_old w1 _ _
    · rw [hwl, hbk]; exact heap_alloc2_new w1 _ _
    all_goals first | (intro k hk; simp [Value.ownBlock] at hk) | (intro j b hb; simp at hb) | (intro i j a b ha; simp at ha) | skip
    have := hWB.wr.lt
    omega
  clear hwl hbk hz hWB hF1 hg1 E hs
  go_loopw [6, 8] (fun bb ii wr => ∃ (i : Nat) (v : Value) (xs : List Nat) (wao : Option Addr) (wn wcap : Nat) (rv : Value) (hs : List HB), bb = .slice wao wn wcap ∧ ii = .int .i64 i ∧ i ≤ M ∧ hs.length ≤ i ∧ Hid (xs.length ≤ total (os.take i)) ∧ Hid (LI w g v xs (.slice wao wn wcap) xs z bk rv hs wr)) (fun _ ii _ => M - (intOf ii).toNat)
  case atStart => exact ⟨0, _, [], none, 0, 0, _, [], rfl, rfl, Nat.zero_le _, by simp, by simp [Hid], HI0⟩
  case round =>
    clear HI0
    obtain ⟨i, v, xs, wao, wn, wcap, rv, hs, rfl, rfl, hiM, hhi, HTx, HLI⟩ := hrel
    have hlen9 : xs.length < 2^39 := by
      have := HTx.out
      have := total_take_le os i
      omega
    have hlen : xs.length < 2^40 := by omega
    by_cases hi : i < M
    · have hsr := HS.out.keep HLI.out.fr
      obtain ⟨b, off, e, _, hc⟩ := hsr.lies (by omega)
      subst e
      have hO := hc i hi
      have hok := hsr.each _ (getD_mem os i (by rw [← HL.out]; exact hi))
      have HTS : Hid (total (os.take (i + 1)) = total (os.take i) + 10 + (os.getD i OpV.zero).text.size) := by
        show _ = _
        rw [take_snoc os i (by rw [← HL.out]; exact hi), total_snoc]
      obtain ⟨⟨k, n, wd, tx, ms⟩, hov⟩ : ∃ o, o = os.getD i OpV.zero := ⟨_, rfl⟩
      rw [← hov] at hO hok HTS
      clear hov hc hsr
      obtain ⟨N, hN⟩ := Int.eq_ofNat_of_zero_le hok.n0
      simp only at hN
      subst hN
      have hN64 : N < 2^64 := by have := hok.n1; simp only at this; omega
      have htx : tx.size < 2^39 := by
        have h1 := HTS.out
        have h2 := total_take_le os (i + 1)
        simp only at h1
        omega
      have hM2 : M ≤ 104858 := by
        have h1 := total_ge os
        rw [← HL.out] at h1
        omega
      have q0 := hO.c0
      have q1 := hO.c1
      have q2 := hO.c2
      have q3 := hO.c3
      have q4 := hO.c4
      have hwd0 := hok.w0
      have hwd1 := hok.w1
      simp only at q0 q1 q2 q3 q4 hwd0 hwd1
      clear hO hok
      obtain ⟨ob, hob⟩ : ∃ ob, ob = wr.heap.size := ⟨_, rfl⟩
      obtain ⟨wo, hwo⟩ : ∃ wo, wo = wr.alloc (Obj.cells #[.int .u8 k, .int .u64 (N : Int), .int .i64 wd, .string tx, .int .i64 ms] 44) := ⟨_, rfl⟩
      have HV : Hid (LV w g v xs (.slice wao wn wcap) xs z bk rv hs ob k (N : Int) wd tx ms wo) := by
        refine ⟨HLI.out.quiet (by rw [hwo]; exact Fr.alloc [] _ _), ?_⟩
        rw [hwo, hob]
        exact heap_alloc_new wr _
      go_upto_region 12 with fail
      rw [← hwo, ← hob]
      clear hwo hob q0 q1 q2 q3 q4
      have o0 := HV.out.c0
      have o1 := HV.out.c1
      have o2 := HV.out.c2
      have o3 := HV.out.c3
      by_cases hk1 : k = 1
      · have hk1b : (k == 1) = true := by rw [beq_iff_eq]; exact hk1
        clear hk1
        by_cases harg : wd < 1 ∨ 8 < wd
        · go_wp2_with fail
          refine (refFixed_arg wao wn wcap (N : Int) wd wo harg).mono ?_
          rintro e _ ⟨rfl, rfl⟩
          go_wp2_with fail
          refine (fixed_arg g v xs (N : Int) wd wo HV.out.li.wr harg).mono ?_
          rintro e _ ⟨rfl, rfl⟩
          obtain ⟨wx, hwx⟩ : ∃ wx, wx = wo := ⟨_, rfl⟩
          obtain ⟨v2, hv2⟩ : ∃ v2, v2 = v := ⟨_, rfl⟩
          obtain ⟨wao2, hwao2⟩ : ∃ x, x = wao := ⟨_, rfl⟩
          obtain ⟨wn2, hwn2⟩ : ∃ x, x = wn := ⟨_, rfl⟩
          obtain ⟨wcap2, hwcap2⟩ : ∃ x, x = wcap := ⟨_, rfl⟩
          have HX : Hid (LV w g v2 xs (.slice wao2 wn2 wcap2) xs z bk rv hs ob k (N : Int) wd tx ms wx) := by rw [hwx, hv2, hwao2, hwn2, hwcap2]; exact HV
          rw [← hwx, ← hwao2, ← hwn2, ← hwcap2]
          clear hwx hv2 hwao2 hwn2 hwcap2
          have o1 := HX.out.c1
          have o2 := HX.out.c2
          go_wp2_with fail
          refine (wFixed_gone (.pointer none) (N : Int) wd wx (Or.inl rfl)).mono ?_
          rintro e _ ⟨rfl, rfl⟩
          go_wp2_with fail
          refine (wFixed_gone (.pointer (some ⟨z, 0, none⟩)) (N : Int) wd wx HX.out.li.gone).mono ?_
          rintro e _ ⟨rfl, rfl⟩
          obtain ⟨xs2, HXS⟩ : ∃ xs2, Hid (xs2 = xs) := ⟨_, rfl⟩
          have HT2 : Hid (xs2.length ≤ total (os.take (i + 1))) := by
            show _ ≤ _
            rw [HXS.out, HTS.out]
            have := HTx.out
            omega
          have hlen2 : xs2.length < 2^40 := by
            have := HT2.out
            have := total_take_le os (i + 1)
            omega
          rw [← HXS.out] at HX
          clear o1 o2 harg
          by_cases h30 : i < 30
          · go_wp2_with fail
            refine (done_any g v2 xs2 wx HX.out.li.wr hlen2).mono ?_
            rintro e wd ⟨dao, dn, dcap, rfl, hdn, hdW, hdN, hdF⟩
            have HLd : Hid (LI w g v2 xs2 (.slice wao2 wn2 wcap2) xs2 z bk rv hs wd) := HX.out.li.quiet hdF
            have HLo : Hid (Lo w wd (.slice dao dn dcap) xs2 v2 (.slice wao2 wn2 wcap2) hs) := Lo.of_new HX.out.li hdF hdW hlen2 hdN
            clear hdn hdW hdN hdF
            go_wp2_with fail
            refine (bytes_any bk rv hs dao dn dcap wd HLd.out.book (by omega)).mono ?_
            rintro e we ⟨rfl, rv', hB, hF, hM⟩
            have HLe : Hid (LI w g v2 xs2 (.slice wao2 wn2 wcap2) xs2 z bk rv' (hs ++ [⟨.slice dao dn dcap, .slice none 0 0, hs.length + 1⟩]) we) := HLd.out.told HLo.out hB hF hM
            clear hB hF hM
            go_wp2_with fail
            go_roundw
            case rel => exact ⟨i + 1, v2, xs2, wao2, wn2, wcap2, rv', _, rfl, by simp, by omega, by simp; omega, HT2, HLe⟩
            case measure => simp [intOf]; omega
          · have h30' : 30 ≤ i := by omega
            have HLe : Hid (LI w g v2 xs2 (.slice wao2 wn2 wcap2) xs2 z bk rv hs wx) := HX.out.li
            go_wp2_with fail
            go_roundw
            case rel => exact ⟨i + 1, v2, xs2, wao2, wn2, wcap2, rv, hs, rfl, by simp, by omega, by omega, HT2, HLe⟩
            case measure => simp [intOf]; omega
        · by_cases hlim : 2 ^ (8 * wd.toNat) ≤ N
          · go_wp2_with fail
            obtain ⟨X, rfl⟩ := Int.eq_ofNat_of_zero_le (show 0 ≤ wd by omega)
            refine (refFixed_limit wao wn wcap N X wo (by omega) (lim_lt N X hN64 (by omega) hlim) (lim_le N X hlim)).mono ?_
            rintro e _ ⟨rfl, rfl⟩
            go_wp2_with fail
            refine (fixed_limit g v xs (N : Int) (X : Int) wo HV.out.li.wr (by omega) (by omega) (by omega) (by omega) (lim_ne N X hlim)).mono ?_
            rintro e _ ⟨rfl, rfl⟩
            obtain ⟨wx, hwx⟩ : ∃ wx, wx = wo := ⟨_, rfl⟩
            obtain ⟨v2, hv2⟩ : ∃ v2, v2 = v := ⟨_, rfl⟩
            obtain ⟨wao2, hwao2⟩ : ∃ x, x = wao := ⟨_, rfl⟩
            obtain ⟨wn2, hwn2⟩ : ∃ x, x = wn := ⟨_, rfl⟩
            obtain ⟨wcap2, hwcap2⟩ : ∃ x, x = wcap := ⟨_, rfl⟩
            have HX : Hid (LV w g v2 xs (.slice wao2 wn2 wcap2) xs z bk rv hs ob k (N : Int) (X : Int) tx ms wx) := by rw [hwx, hv2, hwao2, hwn2, hwcap2]; exact HV
            rw [← hwx, ← hwao2, ← hwn2, ← hwcap2]
            clear hwx hv2 hwao2 hwn2 hwcap2
            have o1 := HX.out.c1
            have o2 := HX.out.c2
            go_wp2_with fail
            refine (wFixed_gone (.pointer none) (N : Int) (X : Int) wx (Or.inl rfl)).mono ?_
            rintro e _ ⟨rfl, rfl⟩
            go_wp2_with fail
            refine (wFixed_gone (.pointer (some ⟨z, 0, none⟩)) (N : Int) (X : Int) wx HX.out.li.gone).mono ?_
            rintro e _ ⟨rfl, rfl⟩
            obtain ⟨xs2, HXS⟩ : ∃ xs2, Hid (xs2 = xs) := ⟨_, rfl⟩
            have HT2 : Hid (xs2.length ≤ total (os.take (i + 1))) := by
              show _ ≤ _
              rw [HXS.out, HTS.out]
              have := HTx.out
              omega
            have hlen2 : xs2.length < 2^40 := by
              have := HT2.out
              have := total_take_le os (i + 1)
              omega
            rw [← HXS.out] at HX
            clear o1 o2 hlim harg
            by_cases h30 : i < 30
            · go_wp2_with fail
              refine (done_any g v2 xs2 wx HX.out.li.wr hlen2).mono ?_
              rintro e wd ⟨dao, dn, dcap, rfl, hdn, hdW, hdN, hdF⟩
              have HLd : Hid (LI w g v2 xs2 (.slice wao2 wn2 wcap2) xs2 z bk rv hs wd) := HX.out.li.quiet hdF
              have HLo : Hid (Lo w wd (.slice dao dn dcap) xs2 v2 (.slice wao2 wn2 wcap2) hs) := Lo.of_new HX.out.li hdF hdW hlen2 hdN
              clear hdn hdW hdN hdF
              go_wp2_with fail
              refine (bytes_any bk rv hs dao dn dcap wd HLd.out.book (by omega)).mono ?_
              rintro e we ⟨rfl, rv', hB, hF, hM⟩
              have HLe : Hid (LI w g v2 xs2 (.slice wao2 wn2 wcap2) xs2 z bk rv' (hs ++ [⟨.slice dao dn dcap, .slice none 0 0, hs.length + 1⟩]) we) := HLd.out.told HLo.out hB hF hM
              clear hB hF hM
              go_wp2_with fail
              go_roundw
              case rel => exact ⟨i + 1, v2, xs2, wao2, wn2, wcap2, rv', _, rfl, by simp, by omega, by simp; omega, HT2, HLe⟩
              case measure => simp [intOf]; omega
            · have h30' : 30 ≤ i := by omega
              have HLe : Hid (LI w g v2 xs2 (.slice wao2 wn2 wcap2) xs2 z bk rv hs wx) := HX.out.li
              go_wp2_with fail
              go_roundw
              case rel => exact ⟨i + 1, v2, xs2, wao2, wn2, wcap2, rv, hs, rfl, by simp, by omega, by omega, HT2, HLe⟩
              case measure => simp [intOf]; omega
          · have hfit : N < 2 ^ (8 * wd.toNat) := by omega
            clear hlim
            go_wp2_with fail
            obtain ⟨X, rfl⟩ := Int.eq_ofNat_of_zero_le (show 0 ≤ wd by omega)
            refine (refFixed_loop wao wn wcap xs N X wo HV.out.li.wn (by omega) (by omega) (fun _ => hfit) hN64 hlen).mono ?_
            rintro e wx1 ⟨wao2, wn2, wcap2, rfl, hW1⟩
            have HX1 : Hid (LV w g v xs (.slice wao2 wn2 wcap2) (xs ++ leB X N) z bk rv hs ob k (N : Int) (X : Int) tx ms wx1) := HV.out.want hW1
            have o1 := HX1.out.c1
            have o2 := HX1.out.c2
            clear hW1
            go_wp2_with fail
            refine (fixed_any g v xs (N : Int) (X : Int) wx1 HX1.out.li.wr (by omega) (by omega) (by omega) (by omega) (fit_eq N X hfit) hlen).mono ?_
            rintro e wx ⟨rfl, v2, hWr, hFr, hMv⟩
            have HX : Hid (LV w g v2 (xs ++ leB X N) (.slice wao2 wn2 wcap2) (xs ++ leB X N) z bk rv hs ob k (N : Int) (X : Int) tx ms wx) := by
              rw [Int.toNat_natCast, Int.toNat_natCast] at hWr
              exact HX1.out.wrote hWr hFr hMv
            have o1 := HX.out.c1
            have o2 := HX.out.c2
            clear hWr hFr hMv
            go_wp2_with fail
            refine (wFixed_gone (.pointer none) (N : Int) (X : Int) wx (Or.inl rfl)).mono ?_
            rintro e _ ⟨rfl, rfl⟩
            go_wp2_with fail
            refine (wFixed_gone (.pointer (some ⟨z, 0, none⟩)) (N : Int) (X : Int) wx HX.out.li.gone).mono ?_
            rintro e _ ⟨rfl, rfl⟩
            obtain ⟨xs2, HXS⟩ : ∃ xs2, Hid (xs2 = xs ++ leB X N) := ⟨_, rfl⟩
            have HT2 : Hid (xs2.length ≤ total (os.take (i + 1))) := by
              show _ ≤ _
              rw [HXS.out, HTS.out]
              have := HTx.out
              rw [List.length_append, leB_length]
              omega
            have hlen2 : xs2.length < 2^40 := by
              have := HT2.out
              have := total_take_le os (i + 1)
              omega
            rw [← HXS.out] at HX
            clear o1 o2 hfit harg
            by_cases h30 : i < 30
            · go_wp2_with fail
              refine (done_any g v2 xs2 wx HX.out.li.wr hlen2).mono ?_
              rintro e wd ⟨dao, dn, dcap, rfl, hdn, hdW, hdN, hdF⟩
              have HLd : Hid (LI w g v2 xs2 (.slice wao2 wn2 wcap2) xs2 z bk rv hs wd) := HX.out.li.quiet hdF
              have HLo : Hid (Lo w wd (.slice dao dn dcap) xs2 v2 (.slice wao2 wn2 wcap2) hs) := Lo.of_new HX.out.li hdF hdW hlen2 hdN
              clear hdn hdW hdN hdF
              go_wp2_with fail
              refine (bytes_any bk rv hs dao dn dcap wd HLd.out.book (by omega)).mono ?_
              rintro e we ⟨rfl, rv', hB, hF, hM⟩
              have HLe : Hid (LI w g v2 xs2 (.slice wao2 wn2 wcap2) xs2 z bk rv' (hs ++ [⟨.slice dao dn dcap, .slice none 0 0, hs.length + 1⟩]) we) := HLd.out.told HLo.out hB hF hM
              clear hB hF hM
              go_wp2_with fail
              go_roundw
              case rel => exact ⟨i + 1, v2, xs2, wao2, wn2, wcap2, rv', _, rfl, by simp, by omega, by simp; omega, HT2, HLe⟩
              case measure => simp [intOf]; omega
            · have h30' : 30 ≤ i := by omega
              have HLe : Hid (LI w g v2 xs2 (.slice wao2 wn2 wcap2) xs2 z bk rv hs wx) := HX.out.li
              go_wp2_with fail
              go_roundw
              case rel => exact ⟨i + 1, v2, xs2, wao2, wn2, wcap2, rv, hs, rfl, by simp, by omega, by omega, HT2, HLe⟩
              case measure => simp [intOf]; omega
      · have hk1b : (k == 1) = false := by rw [beq_eq_false_iff_ne]; exact hk1
        by_cases hk3 : k = 3
        · have hk3b : (k == 3) = true := by rw [beq_iff_eq]; exact hk3
          clear hk1 hk3
          go_wp2_with fail
          refine (refInt_any (.slice wao wn wcap) xs (wrap64 (N : Int)) wo HV.out.li.wn (w64_bd _).1 (w64_bd _).2 hlen).mono ?_
          rintro e wx1 ⟨wao2, wn2, wcap2, rfl, hW1⟩
          have HX1 : Hid (LV w g v xs (.slice wao2 wn2 wcap2) (xs ++ enc (zig (wrap64 (N : Int))).toNat) z bk rv hs ob k (N : Int) wd tx ms wx1) := HV.out.want hW1
          have o1 := HX1.out.c1
          clear hW1
          go_wp2_with fail
          refine (int_any g v xs (wrap64 (N : Int)) wx1 HX1.out.li.wr (w64_bd _).1 (w64_bd _).2 hlen).mono ?_
          rintro e wx ⟨rfl, v2, hWr, hFr, hMv⟩
          have HX : Hid (LV w g v2 (xs ++ enc (zig (wrap64 (N : Int))).toNat) (.slice wao2 wn2 wcap2) (xs ++ enc (zig (wrap64 (N : Int))).toNat) z bk rv hs ob k (N : Int) wd tx ms wx) := HX1.out.wrote hWr hFr hMv
          have o1 := HX.out.c1
          clear hWr hFr hMv
          go_wp2_with fail
          refine (wInt_gone (.pointer none) (wrap64 (N : Int)) wx (Or.inl rfl) (w64_bd _).1 (w64_bd _).2).mono ?_
          rintro e _ ⟨rfl, rfl⟩
          go_wp2_with fail
          refine (wInt_gone (.pointer (some ⟨z, 0, none⟩)) 1 wx HX.out.li.gone (by omega) (by omega)).mono ?_
          rintro e _ ⟨rfl, rfl⟩
          obtain ⟨xs2, HXS⟩ : ∃ xs2, Hid (xs2 = xs ++ enc (zig (wrap64 (N : Int))).toNat) := ⟨_, rfl⟩
          have HT2 : Hid (xs2.length ≤ total (os.take (i + 1))) := by
            show _ ≤ _
            rw [HXS.out, HTS.out]
            have := HTx.out
            have := enc_length (zig (wrap64 (N : Int))).toNat
            rw [List.length_append]
            omega
          have hlen2 : xs2.length < 2^40 := by
            have := HT2.out
            have := total_take_le os (i + 1)
            omega
          rw [← HXS.out] at HX
          clear o1
          by_cases h30 : i < 30
          · go_wp2_with fail
            refine (done_any g v2 xs2 wx HX.out.li.wr hlen2).mono ?_
            rintro e wd ⟨dao, dn, dcap, rfl, hdn, hdW, hdN, hdF⟩
            have HLd : Hid (LI w g v2 xs2 (.slice wao2 wn2 wcap2) xs2 z bk rv hs wd) := HX.out.li.quiet hdF
            have HLo : Hid (Lo w wd (.slice dao dn dcap) xs2 v2 (.slice wao2 wn2 wcap2) hs) := Lo.of_new HX.out.li hdF hdW hlen2 hdN
            clear hdn hdW hdN hdF
            go_wp2_with fail
            refine (bytes_any bk rv hs dao dn dcap wd HLd.out.book (by omega)).mono ?_
            rintro e we ⟨rfl, rv', hB, hF, hM⟩
            have HLe : Hid (LI w g v2 xs2 (.slice wao2 wn2 wcap2) xs2 z bk rv' (hs ++ [⟨.slice dao dn dcap, .slice none 0 0, hs.length + 1⟩]) we) := HLd.out.told HLo.out hB hF hM
            clear hB hF hM
            go_wp2_with fail
            go_roundw
            case rel => exact ⟨i + 1, v2, xs2, wao2, wn2, wcap2, rv', _, rfl, by simp, by omega, by simp; omega, HT2, HLe⟩
            case measure => simp [intOf]; omega
          · have h30' : 30 ≤ i := by omega
            have HLe : Hid (LI w g v2 xs2 (.slice wao2 wn2 wcap2) xs2 z bk rv hs wx) := HX.out.li
            go_wp2_with fail
            go_roundw
            case rel => exact ⟨i + 1, v2, xs2, wao2, wn2, wcap2, rv, hs, rfl, by simp, by omega, by omega, HT2, HLe⟩
            case measure => simp [intOf]; omega
        · have hk3b : (k == 3) = false := by rw [beq_eq_false_iff_ne]; exact hk3
          by_cases hk4 : k = 4
          · have hk4b : (k == 4) = true := by rw [beq_iff_eq]; exact hk4
            clear hk1 hk3 hk4
            go_wp2_with fail
            refine (refText_any (.slice wao wn wcap) xs tx wo HV.out.li.wn (by omega) htx).mono ?_
            rintro e wx1 ⟨wao2, wn2, wcap2, rfl, hW1⟩
            have HX1 : Hid (LV w g v xs (.slice wao2 wn2 wcap2) (xs ++ (enc tx.size ++ strNs tx)) z bk rv hs ob k (N : Int) wd tx ms wx1) := HV.out.want hW1
            have o3 := HX1.out.c3
            clear hW1
            go_wp2_with fail
            refine (text_any g v xs tx wx1 HX1.out.li.wr hlen (by omega)).mono ?_
            rintro e wx ⟨rfl, v2, hWr, hFr, hMv⟩
            have HX : Hid (LV w g v2 (xs ++ (enc tx.size ++ strNs tx)) (.slice wao2 wn2 wcap2) (xs ++ (enc tx.size ++ strNs tx)) z bk rv hs ob k (N : Int) wd tx ms wx) := HX1.out.wrote hWr hFr hMv
            have o3 := HX.out.c3
            clear hWr hFr hMv
            go_wp2_with fail
            refine (wText_gone (.pointer none) tx wx (Or.inl rfl)).mono ?_
            rintro e _ ⟨rfl, rfl⟩
            go_wp2_with fail
            refine (wText_gone (.pointer (some ⟨z, 0, none⟩)) ⟨#[120]⟩ wx HX.out.li.gone).mono ?_
            rintro e _ ⟨rfl, rfl⟩
            obtain ⟨xs2, HXS⟩ : ∃ xs2, Hid (xs2 = xs ++ (enc tx.size ++ strNs tx)) := ⟨_, rfl⟩
            have HT2 : Hid (xs2.length ≤ total (os.take (i + 1))) := by
              show _ ≤ _
              rw [HXS.out, HTS.out]
              have := HTx.out
              have := enc_length tx.size
              rw [List.length_append, List.length_append, strNs_length]
              omega
            have hlen2 : xs2.length < 2^40 := by
              have := HT2.out
              have := total_take_le os (i + 1)
              omega
            rw [← HXS.out] at HX
            clear o3
            by_cases h30 : i < 30
            · go_wp2_with fail
              refine (done_any g v2 xs2 wx HX.out.li.wr hlen2).mono ?_
              rintro e wd ⟨dao, dn, dcap, rfl, hdn, hdW, hdN, hdF⟩
              have HLd : Hid (LI w g v2 xs2 (.slice wao2 wn2 wcap2) xs2 z bk rv hs wd) := HX.out.li.quiet hdF
              have HLo : Hid (Lo w wd (.slice dao dn dcap) xs2 v2 (.slice wao2 wn2 wcap2) hs) := Lo.of_new HX.out.li hdF hdW hlen2 hdN
              clear hdn hdW hdN hdF
              go_wp2_with fail
              refine (bytes_any bk rv hs dao dn dcap wd HLd.out.book (by omega)).mono ?_
              rintro e we ⟨rfl, rv', hB, hF, hM⟩
              have HLe : Hid (LI w g v2 xs2 (.slice wao2 wn2 wcap2) xs2 z bk rv' (hs ++ [⟨.slice dao dn dcap, .slice none 0 0, hs.length + 1⟩]) we) := HLd.out.told HLo.out hB hF hM
              clear hB hF hM
              go_wp2_with fail
              go_roundw
              case rel => exact ⟨i + 1, v2, xs2, wao2, wn2, wcap2, rv', _, rfl, by simp, by omega, by simp; omega, HT2, HLe⟩
              case measure => simp [intOf]; omega
            · have h30' : 30 ≤ i := by omega
              have HLe : Hid (LI w g v2 xs2 (.slice wao2 wn2 wcap2) xs2 z bk rv hs wx) := HX.out.li
              go_wp2_with fail
              go_roundw
              case rel => exact ⟨i + 1, v2, xs2, wao2, wn2, wcap2, rv, hs, rfl, by simp, by omega, by omega, HT2, HLe⟩
              case measure => simp [intOf]; omega
          · have hk4b : (k == 4) = false := by rw [beq_eq_false_iff_ne]; exact hk4
            clear hk1 hk3 hk4
            go_wp2_with fail
            refine (refVar_any (.slice wao wn wcap) xs N wo HV.out.li.wn (by omega) hlen).mono ?_
            rintro e wx1 ⟨wao2, wn2, wcap2, rfl, hW1⟩
            have HX1 : Hid (LV w g v xs (.slice wao2 wn2 wcap2) (xs ++ enc N) z bk rv hs ob k (N : Int) wd tx ms wx1) := HV.out.want hW1
            have o1 := HX1.out.c1
            clear hW1
            go_wp2_with fail
            refine (var_any g v xs (N : Int) wx1 HX1.out.li.wr (by omega) (by omega) hlen).mono ?_
            rintro e wx ⟨rfl, v2, hWr, hFr, hMv⟩
            have HX : Hid (LV w g v2 (xs ++ enc N) (.slice wao2 wn2 wcap2) (xs ++ enc N) z bk rv hs ob k (N : Int) wd tx ms wx) := by
              rw [Int.toNat_natCast] at hWr
              exact HX1.out.wrote hWr hFr hMv
            have o1 := HX.out.c1
            clear hWr hFr hMv
            go_wp2_with fail
            refine (wVar_gone (.pointer none) (N : Int) wx (Or.inl rfl)).mono ?_
            rintro e _ ⟨rfl, rfl⟩
            go_wp2_with fail
            refine (wVar_gone (.pointer (some ⟨z, 0, none⟩)) 1 wx HX.out.li.gone).mono ?_
            rintro e _ ⟨rfl, rfl⟩
            obtain ⟨xs2, HXS⟩ : ∃ xs2, Hid (xs2 = xs ++ enc N) := ⟨_, rfl⟩
            have HT2 : Hid (xs2.length ≤ total (os.take (i + 1))) := by
              show _ ≤ _
              rw [HXS.out, HTS.out]
              have := HTx.out
              have := enc_length N
              rw [List.length_append]
              omega
            have hlen2 : xs2.length < 2^40 := by
              have := HT2.out
              have := total_take_le os (i + 1)
              omega
            rw [← HXS.out] at HX
            clear o1
            by_cases h30 : i < 30
            · go_wp2_with fail
              refine (done_any g v2 xs2 wx HX.out.li.wr hlen2).mono ?_
              rintro e wd ⟨dao, dn, dcap, rfl, hdn, hdW, hdN, hdF⟩
              have HLd : Hid (LI w g v2 xs2 (.slice wao2 wn2 wcap2) xs2 z bk rv hs wd) := HX.out.li.quiet hdF
              have HLo : Hid (Lo w wd (.slice dao dn dcap) xs2 v2 (.slice wao2 wn2 wcap2) hs) := Lo.of_new HX.out.li hdF hdW hlen2 hdN
              clear hdn hdW hdN hdF
              go_wp2_with fail
              refine (bytes_any bk rv hs dao dn dcap wd HLd.out.book (by omega)).mono ?_
              rintro e we ⟨rfl, rv', hB, hF, hM⟩
              have HLe : Hid (LI w g v2 xs2 (.slice wao2 wn2 wcap2) xs2 z bk rv' (hs ++ [⟨.slice dao dn dcap, .slice none 0 0, hs.length + 1⟩]) we) := HLd.out.told HLo.out hB hF hM
              clear hB hF hM
              go_wp2_with fail
              go_roundw
              case rel => exact ⟨i + 1, v2, xs2, wao2, wn2, wcap2, rv', _, rfl, by simp, by omega, by simp; omega, HT2, HLe⟩
              case measure => simp [intOf]; omega
            · have h30' : 30 ≤ i := by omega
              have HLe : Hid (LI w g v2 xs2 (.slice wao2 wn2 wcap2) xs2 z bk rv hs wx) := HX.out.li
              go_wp2_with fail
              go_roundw
              case rel => exact ⟨i + 1, v2, xs2, wao2, wn2, wcap2, rv, hs, rfl, by simp, by omega, by omega, HT2, HLe⟩
              case measure => simp [intOf]; omega
    · have hM2 : M ≤ 104858 := by
        have h1 := total_ge os
        rw [← HL.out] at h1
        omega
      have hiM2 : i = M := by omega
      have hfew : hs.length ≤ 104858 := by omega
      clear hiM2
      have HWN : Hid (wn = xs.length) := by
        show _ = _
        obtain ⟨_, _, e⟩ := HLI.out.wn.slice
        cases e
        rfl
      go_wp2_with fail
      refine (done_any g v xs wr HLI.out.wr hlen).mono ?_
      rintro e wa ⟨ao1, n1, cap1, rfl, hn1, hW1, hN1, hFa⟩
      have HLa : Hid (LI w g v xs (.slice wao wn wcap) xs z bk rv hs wa) := HLI.out.quiet hFa
      have HO1 : Hid (Lo w wa (.slice ao1 n1 cap1) xs v (.slice wao wn wcap) hs) := Lo.of_new HLI.out hFa hW1 hlen hN1
      have HE1 : Hid (n1 = xs.length) := hn1
      clear hn1 hW1 hN1 hFa
      go_wp2_with fail
      refine (done_any g v xs wa HLa.out.wr hlen).mono ?_
      rintro e wb ⟨ao2, n2, cap2, rfl, hn2, hW2, hN2, hFb⟩
      have HLb : Hid (LI w g v xs (.slice wao wn wcap) xs z bk rv hs wb) := HLa.out.quiet hFb
      have HO1b : Hid (Lo w wb (.slice ao1 n1 cap1) xs v (.slice wao wn wcap) hs) := HO1.out.keep hFb (by simp)
      have HO2 : Hid (Lo w wb (.slice ao2 n2 cap2) xs v (.slice wao wn wcap) hs) := Lo.of_new HLa.out hFb hW2 hlen hN2
      have HE2 : Hid (n2 = xs.length) := hn2
      have H12 : Hid (∀ k, (Value.slice ao2 n2 cap2).ownBlock = some k → (Value.slice ao1 n1 cap1).ownBlock ≠ some k) := by
        intro k hk hk'
        obtain ⟨cs, hc⟩ := own_type HO1.out.own k hk'
        have := lt_of_block hc
        have := hN2 k hk
        omega
      clear hn2 hW2 hN2 hFb HO1
      go_wp2_with fail
      refine (same_yes ao1 wao n1 wn cap1 wcap xs xs wb (HO1b.out.own.rs (by omega)) (HLb.out.wn.rs (by omega)) HE1.out HWN.out rfl).mono ?_
      rintro e wc ⟨rfl, q, hwc⟩
      have HFc : Hid (Fr [] wb wc) := by rw [hwc]; exact Fr.drewN [] _ _
      clear hwc
      go_wp2_with fail
      refine (same_yes ao2 wao n2 wn cap2 wcap xs xs wc ((HO2.out.keep HFc.out (by simp)).own.rs (by omega)) ((HLb.out.quiet HFc.out).wn.rs (by omega)) HE2.out HWN.out rfl).mono ?_
      rintro e wd ⟨rfl, q2, hwd⟩
      have HFd : Hid (Fr [] wb wd) := by rw [hwd]; exact HFc.out.then (Fr.drewN [] _ _)
      clear hwd
      have HLd : Hid (LI w g v xs (.slice wao wn wcap) xs z bk rv hs wd) := HLb.out.quiet HFd.out
      have HO1d : Hid (Lo w wd (.slice ao1 n1 cap1) xs v (.slice wao wn wcap) hs) := HO1b.out.keep HFd.out (by simp)
      have HO2d : Hid (Lo w wd (.slice ao2 n2 cap2) xs v (.slice wao wn wcap) hs) := HO2.out.keep HFd.out (by simp)
      go_wp2_with fail
      refine (wDone_gone (.pointer none) wd (Or.inl rfl)).mono ?_
      rintro e _ ⟨rfl, rfl⟩
      go_wp2_with fail
      refine (wDone_gone (.pointer (some ⟨z, 0, none⟩)) wd HLd.out.gone).mono ?_
      rintro e _ ⟨rfl, rfl⟩
      go_wp2_with fail
      refine (bytes_any bk rv hs ao1 n1 cap1 wd HLd.out.book (by omega)).mono ?_
      rintro e we ⟨rfl, rv1, hB, hF, hM⟩
      have HO2e : Hid (Lo w we (.slice ao2 n2 cap2) xs v (.slice wao wn wcap) (hs ++ [⟨.slice ao1 n1 cap1, .slice none 0 0, hs.length + 1⟩])) := by
        have h1 := HO2d.out.keep hF (by
          intro k hk hm
          obtain ⟨cs, hc⟩ := own_type HO2d.out.own k hk
          rcases List.mem_cons.1 hm with hm | hm
          · exact (HLd.out.book.apart hc).1 hm
          · exact (HLd.out.book.apart hc).2 (by simpa using hm))
        refine { h1 with nhs := ?_ }
        intro j b hb k hk hk'
        by_cases hj : j < hs.length
        · rw [List.getElem?_append_left hj] at hb
          exact h1.nhs j b hb k hk hk'
        · rw [List.getElem?_append_right (by omega)] at hb
          have hb' := List.mem_of_getElem? hb
          simp at hb'
          subst hb'
          exact H12.out k hk hk'
      have HLe : Hid (LI w g v xs (.slice wao wn wcap) xs z bk rv1 (hs ++ [⟨.slice ao1 n1 cap1, .slice none 0 0, hs.length + 1⟩]) we) := HLd.out.told HO1d.out hB hF hM
      clear hB hF hM
      obtain ⟨hs1, HHS⟩ : ∃ hs1 : List HB, Hid (hs1 = hs ++ [(⟨.slice ao1 n1 cap1, .slice none 0 0, hs.length + 1⟩ : HB)]) := ⟨_, rfl⟩
      have hfew1 : hs1.length ≤ 104859 := by rw [HHS.out]; simp; omega
      rw [← HHS.out] at HLe HO2e
      go_wp2_with fail
      refine (bytes_any bk rv1 hs1 ao2 n2 cap2 we HLe.out.book (by omega)).mono ?_
      rintro e wf ⟨rfl, rv2, hB, hF, hM⟩
      obtain ⟨hs2, HHS2⟩ : ∃ hs2 : List HB, Hid (hs2 = hs1 ++ [(⟨.slice ao2 n2 cap2, .slice none 0 0, hs1.length + 1⟩ : HB)]) := ⟨_, rfl⟩
      have HLf : Hid (LI w g v xs (.slice wao wn wcap) xs z bk rv2 hs2 wf) := by rw [HHS2.out]; exact HLe.out.told HO2e.out hB hF hM
      clear hB hF hM
      go_wp2_with fail
      refine (apart_any bk rv2 hs2 wf HLf.out.book HLf.out.p0 HLf.out.alone HLf.out.num HLf.out.fresh).mono ?_
      rintro e wg ⟨rfl, hFg⟩
      have hlb : ∀ {u : Value}, (∀ k, u.ownBlock = some k → ∃ cs, wf.heap[k]? = some (.cells cs 5 (0, 0))) → (∀ (j : Nat) (h : HB), hs2[j]? = some h → ∀ k, h.l.ownBlock = some k → u.ownBlock ≠ some k) → ∀ k, u.ownBlock = some k → k ∉ rv2.ownBlock.toList ++ lbs hs2 := by
        intro u hu hul k hk hm
        rcases List.mem_append.1 hm with hm | hm
        · obtain ⟨cs, hc⟩ := hu k hk
          exact (HLf.out.book.apart hc).2 (by simpa using hm)
        · obtain ⟨b, hb, hbk⟩ := mem_lbs.1 hm
          obtain ⟨j, hj⟩ := List.getElem?_of_mem hb
          exact hul j b hj k hbk hk
      have HWg : Hid (Wr wg g v xs) := by
        refine HLf.out.wr.keep hFg ?_ (hlb HLf.out.vt HLf.out.vl)
        intro hm
        rcases List.mem_append.1 hm with hm | hm
        · exact own_not (own_type HLf.out.book.row) HLf.out.wr.box (by decide) hm
        · obtain ⟨b, hb, hbk⟩ := mem_lbs.1 hm
          obtain ⟨j, hj⟩ := List.getElem?_of_mem hb
          exact own_not (HLf.out.p0 j b hj).type HLf.out.wr.box (by decide) (by simpa using hbk)
      have HNg : Hid (Wn wg (.slice wao wn wcap) xs) := HLf.out.wn.keep hFg (hlb HLf.out.wvt HLf.out.wvl)
      have HFw : Hid (Fr [] w wg) := by
        refine HLf.out.fr.on hFg ?_
        intro x hx
        rcases List.mem_append.1 hx with hm | hm
        · exact HLf.out.newrv x (by simpa using hm)
        · obtain ⟨b, hb, hbk⟩ := mem_lbs.1 hm
          obtain ⟨j, hj⟩ := List.getElem?_of_mem hb
          exact HLf.out.newl j b hj x hbk
      clear hFg hlb
      go_wp2_with fail
      refine (done_any g v xs wg HWg.out hlen).mono ?_
      rintro e wh ⟨ao3, n3, cap3, rfl, hn3, hW3, _, hFh⟩
      have HE3 : Hid (n3 = xs.length) := hn3
      have HW3 : Hid (Wn wh (.slice ao3 n3 cap3) xs) := hW3
      have HNh : Hid (Wn wh (.slice wao wn wcap) xs) := HNg.out.keep hFh (by simp)
      have HFh : Hid (Fr [] w wh) := HFw.out.then hFh
      clear hn3 hW3 hFh
      go_wp2_with fail
      refine (same_yes ao3 wao n3 wn cap3 wcap xs xs wh (HW3.out.rs (by omega)) (HNh.out.rs (by omega)) HE3.out HWN.out rfl).mono ?_
      rintro e wi ⟨rfl, q3, hwi⟩
      have HFi : Hid (Fr [] w wi) := by rw [hwi]; exact HFh.out.then (Fr.drewN [] _ _)
      clear hwi
      go_wp2_with fail
      go_ret
      exact ⟨rfl, HFi.out⟩
end Go.Proofs.YtgepbhoebpgdkaaDoor
