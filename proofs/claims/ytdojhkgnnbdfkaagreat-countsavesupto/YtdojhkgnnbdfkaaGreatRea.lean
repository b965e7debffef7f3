/- What the codec's reader takes: contracts of Var, Int, Fixed, Text. Conditions: the reader's bytes are fewer than 2^41. -/
import Derived.Test.YtdojhkgnnbdfkaaGreatSame
import Derived.Laws.BytesString
namespace Go.Proofs.YtdojhkgnnbdfkaaGreat
open Go.ChangeShapes Go.WideShapes Go.ChangeAt Go.RowKit Go.Lib

set_option maxHeartbeats 1000000 in
theorem rVar_any (g r : Nat) (xs : List Nat) (er : Nat) (ao : Option Addr) (cap : Nat) (w : World) (h : Rd w g r xs er ao cap) :
    Calls Tryz.prog 118 #[.pointer (some ⟨g, 0, none⟩)] w fun e w' => e = .returned (.int .u64 ((rdBy (shortF 0 0) 0 xs er).1 : Nat)) ∧ ∃ ao' cap', Rd w' g r (rdBy (shortF 0 0) 0 xs er).2.1 (rdBy (shortF 0 0) 0 xs er).2.2 ao' cap' ∧ Fr [g] w w' := by
  have hA : Ans 126 #[.slice ao xs.length cap] w (.tuple #[.int .u64 ((shortF 0 0 xs).1 : Nat), .int .i64 ((shortF 0 0 xs).2.1 : Nat), .int .i64 ((shortF 0 0 xs).2.2 : Nat)]) := by
    refine (cVar_any r ao _ cap xs w h.sl rfl).mono ?_
    rintro e w' ⟨rfl, rfl⟩
    exact ⟨rfl, 0, rfl⟩
  obtain ⟨f, hf⟩ : ∃ f, f = shortF 0 0 := ⟨_, rfl⟩
  rw [← hf] at hA ⊢
  have hsz : (f xs).2.2 = 0 → 0 < xs.length ∧ (f xs).2.1 ≤ xs.length := by
    intro h0
    rw [hf] at h0 ⊢
    have := shortF_size xs 0 0 h0
    omega
  clear hf
  go_enter Tryz.func118, Tryz.ntmps118
  go_wp2_with fail
  refine (takeVar_rd f g r xs er ao cap w h hsz (fun _ => hA)).mono ?_
  rintro e w' ⟨rfl, R⟩
  go_wp2
  go_ret
  exact ⟨rfl, R⟩

theorem intF_size (xs : List Nat) (h : (intF xs).2.2 = 0) : 0 < xs.length ∧ (intF xs).2.1 ≤ xs.length := by
  have := shortF_size xs 0 0 h
  simp only [intF]
  omega
theorem Tryz.undB : Tryz.prog.underlying 5 = some (.int .u8) := by kernel_rfl
theorem conv_eq (w : World) (r off n c : Nat) (ys : List Nat) (hn : ys.length = n) (hc : ∀ j, j < n → w.cell? ⟨r, off + j, none⟩ = some (.int .u8 ((ys.getD j 0 : Nat) : Int))) :
    Sem.run Tryz.prog (convert 76 9 (.slice (some ⟨r, off, none⟩) n c)) w = .ok (.string (toBA ys)) w := by
  rw [run_convert_bytes_string w 76 9 5 _ _ _ Tryz.undBs Tryz.undB Tryz.undStr]
  have hl := run_loadCells_list (P := Tryz.prog) w ⟨r, off, none⟩ (bts ys) (by
    intro j u hj
    have hj' : j < ys.length := by have := (List.getElem?_eq_some_iff.1 hj).1; rwa [bts_length] at this
    rw [bts_get ys j hj'] at hj
    rw [show (⟨r, off, none⟩ : Addr).add j = ⟨r, off + j, none⟩ from by simp [Addr.add], hc j (by omega)]
    exact hj)
  rw [bts_length, hn] at hl
  have e : bts ys = (ys.map (fun (x : Nat) => (x : Int))).map (Value.int .u8) := by simp [bts]
  rw [e] at hl
  rw [run_bytesToString w ⟨r, off, none⟩ n c _ hl, toBA_fold]

set_option maxHeartbeats 4000000 in
set_option maxRecDepth 100000 in
theorem cText_any (r b : Nat) (ao : Option Addr) (L cap : Nat) (xs : List Nat) (most : Int) (w : World) (h : Sl w r ao xs) (hL : L = xs.length) (hcap : L ≤ cap) (hm0 : -9223372036854775808 ≤ most) (hm1 : most ≤ 9223372036854775807) (hb : w.cell? ⟨b, 0, none⟩ = some (.int .i64 most)) :
    Ans 134 #[.slice ao L cap, .pointer (some ⟨b, 0, none⟩)] w (.tuple #[.string (textF most xs).1, .int .i64 ((textF most xs).2.1 : Nat), .int .i64 ((textF most xs).2.2 : Nat)]) := by
  have HL : Hid (L = xs.length) := hL
  have hv := shortF_val xs 0 0 (by omega) (by omega) h.low
  have hLl := h.len
  rw [← hL] at hLl
  have hsz := shortF_size xs 0 0
  show Calls _ _ _ _ _
  have hS := short_sl r ao L cap xs w h hL
  obtain ⟨S, hSS⟩ : ∃ S, S = shortF 0 0 xs := ⟨_, rfl⟩
  obtain ⟨T, hTT⟩ : ∃ T, T = textF most xs := ⟨_, rfl⟩
  have hT2 := hTT
  unfold textF at hT2
  rw [← hSS] at hS hv hT2 hsz
  rw [← hTT]
  have HT : Hid (T = _) := hT2
  have HS : Ans 127 #[.slice ao L cap] w (.tuple #[.int .u64 (S.1 : Nat), .int .i64 (S.2.1 : Nat), .int .i64 (S.2.2 : Nat)]) := by
    refine hS.mono ?_
    rintro e w' ⟨rfl, rfl⟩
    exact ⟨rfl, 0, rfl⟩
  clear hS hSS hL hTT hT2
  obtain ⟨s1, s2, s3⟩ := S
  simp only at hv HT HS hsz
  by_cases hmost : most < 0
  · have HR : Hid (T = (⟨#[]⟩, 0, 1)) := by have := HT.out; rw [if_pos hmost] at this; exact this
    clear HT
    go_enter Tryz.func134, Tryz.ntmps134
    go_wp2
    go_ret3
    rw [HR.out]
    exact ⟨rfl, 0, rfl⟩
  · have hmost' : 0 ≤ most := by omega
    by_cases hs3 : s3 = 0
    · subst hs3
      have hsz' := hsz rfl
      rw [← HL.out] at hsz'
      by_cases hlim : most < (s1 : Int)
      · have HR : Hid (T = (⟨#[]⟩, 0, 3)) := by have := HT.out; rw [if_neg hmost, if_neg (by simp), if_pos hlim] at this; exact this
        clear HT hmost
        go_enter Tryz.func134, Tryz.ntmps134
        go_wp2_with fail
        refine HS.calls.mono ?_
        rintro e w' ⟨rfl, q, rfl⟩
        go_wp2
        go_ret3
        rw [HR.out]
        exact ⟨rfl, _, rfl⟩
      · by_cases hsh : L - s2 < s1
        · have HR : Hid (T = (⟨#[]⟩, 0, 5)) := by have := HT.out; rw [if_neg hmost, if_neg (by simp), if_neg hlim, if_pos (by rw [← HL.out]; exact hsh)] at this; exact this
          have hlim' : (s1 : Int) ≤ most := by omega
          have hsh' : (L : Int) - s2 < s1 := by omega
          clear HT hmost hlim
          go_enter Tryz.func134, Tryz.ntmps134
          go_wp2_with fail
          refine HS.calls.mono ?_
          rintro e w' ⟨rfl, q, rfl⟩
          go_wp2
          go_ret3
          rw [HR.out]
          exact ⟨rfl, _, rfl⟩
        · have HR : Hid (T = (toBA ((xs.drop s2).take s1), s2 + s1, 0)) := by have := HT.out; rw [if_neg hmost, if_neg (by simp), if_neg hlim, if_neg (by rw [← HL.out]; exact hsh)] at this; exact this
          have hlim' : (s1 : Int) ≤ most := by omega
          have hsh' : (s1 : Int) ≤ (L : Int) - s2 := by omega
          have hs12 : (s2 : Int) + s1 ≤ L := by omega
          obtain ⟨off, rfl, hc⟩ := h.lies (by rw [← HL.out]; omega)
          clear HT hmost hlim
          by_cases hcs : cap = s2
          · subst hcs
            obtain rfl : s1 = 0 := by omega
            have heq : ∀ q, Sem.run Tryz.prog (convert 76 9 (.slice (some ⟨r, off, none⟩) 0 0)) (w.drewN q) = .ok (.string (toBA [])) (w.drewN q) := fun q => conv_eq (w.drewN q) r off 0 0 [] rfl (by omega)
            rw [List.take_zero] at HR
            obtain ⟨tb, htb⟩ : ∃ tb, tb = toBA [] := ⟨_, rfl⟩
            rw [← htb] at heq HR
            clear htb
            go_enter Tryz.func134, Tryz.ntmps134
            go_wp2_with fail
            refine HS.calls.mono ?_
            rintro e w' ⟨rfl, q, rfl⟩
            go_wp2
            go_ret3
            rw [HR.out]
            exact ⟨rfl, _, rfl⟩
          · have heq : ∀ q, Sem.run Tryz.prog (convert 76 9 (.slice (some ⟨r, off + s2, none⟩) s1 (cap - s2))) (w.drewN q) = .ok (.string (toBA ((xs.drop s2).take s1))) (w.drewN q) := fun q => conv_eq (w.drewN q) r (off + s2) s1 _ _ (by rw [List.length_take, List.length_drop, ← HL.out]; omega) (by
              intro j hj
              have := hc (s2 + j) (by rw [← HL.out]; omega)
              rw [Nat.add_assoc]
              refine this.trans ?_
              simp [List.getD, hj, List.getElem?_drop])
            obtain ⟨tb, htb⟩ : ∃ tb, tb = toBA ((xs.drop s2).take s1) := ⟨_, rfl⟩
            rw [← htb] at heq HR
            clear htb hc
            go_enter Tryz.func134, Tryz.ntmps134
            go_wp2_with fail
            refine HS.calls.mono ?_
            rintro e w' ⟨rfl, q, rfl⟩
            go_wp2
            go_ret3
            rw [HR.out]
            exact ⟨rfl, _, rfl⟩
    · have hs3b : ((s3 : Int) != 0) = true := by rw [bne_iff_ne]; omega
      have HR : Hid (T = (⟨#[]⟩, 0, s3)) := by have := HT.out; rw [if_neg hmost, if_pos hs3] at this; exact this
      clear HT hs3 hmost
      go_enter Tryz.func134, Tryz.ntmps134
      go_wp2_with fail
      refine HS.calls.mono ?_
      rintro e w' ⟨rfl, q, rfl⟩
      go_wp2
      go_ret3
      rw [HR.out]
      exact ⟨rfl, _, rfl⟩
theorem textF_size (most : Int) (xs : List Nat) (h : (textF most xs).2.2 = 0) : 0 < xs.length ∧ (textF most xs).2.1 ≤ xs.length := by
  unfold textF at h ⊢
  split at h
  · simp at h
  · rename_i h1
    rw [if_neg h1]
    split at h
    · rename_i h2; exact absurd h h2
    · rename_i h2
      rw [if_neg h2]
      split at h
      · simp at h
      · rename_i h3
        rw [if_neg h3]
        split at h
        · simp at h
        · rename_i h4
          rw [if_neg h4]
          have := shortF_size xs 0 0 (by simpa using h2)
          simp only
          omega
set_option maxHeartbeats 1000000 in
theorem rText_any (g r : Nat) (xs : List Nat) (er : Nat) (ao : Option Addr) (cap : Nat) (most : Int) (w : World) (h : Rd w g r xs er ao cap) (hm0 : -9223372036854775808 ≤ most) (hm1 : most ≤ 9223372036854775807) :
    Calls Tryz.prog 130 #[.pointer (some ⟨g, 0, none⟩), .int .i64 most] w fun e w' => e = .returned (.string (rdBy (textF most) ⟨#[]⟩ xs er).1) ∧ ∃ ao' cap', Rd w' g r (rdBy (textF most) ⟨#[]⟩ xs er).2.1 (rdBy (textF most) ⟨#[]⟩ xs er).2.2 ao' cap' ∧ Fr [g] w w' := by
  have hF := Fr.alloc [] w (.cells #[.int .i64 most] 3)
  have h' := h.keep hF (by simp) (by simp)
  have hb : (w.alloc (.cells #[.int .i64 most] 3)).cell? ⟨w.heap.size, 0, none⟩ = some (.int .i64 most) := cell_of_row _ _ _ _ _ _ (heap_alloc_new w _)
  have hA := cText_any r w.heap.size ao _ cap xs most _ h'.sl rfl h'.cap hm0 hm1 hb
  have hsz := textF_size most xs
  obtain ⟨f, hf⟩ : ∃ f, f = textF most := ⟨_, rfl⟩
  rw [← hf] at hA hsz ⊢
  clear hf hb
  go_enter Tryz.func130, Tryz.ntmps130
  go_wp2_with fail
  refine (takeText_rd f g r _ xs er ao cap _ h' hsz (fun _ => hA)).mono ?_
  rintro e w' ⟨rfl, ao', cap', R1, R2⟩
  go_wp2
  go_ret
  exact ⟨rfl, ao', cap', R1, (Fr.alloc [g] w _).then R2⟩
set_option maxHeartbeats 4000000 in
set_option maxRecDepth 100000 in
theorem cFixed_any (r b : Nat) (ao : Option Addr) (L cap : Nat) (xs : List Nat) (width : Int) (w : World) (h : Sl w r ao xs) (hL : L = xs.length) (hcap : L ≤ cap) (hb : w.cell? ⟨b, 0, none⟩ = some (.int .i64 width)) :
    Ans 135 #[.slice ao L cap, .pointer (some ⟨b, 0, none⟩)] w (.tuple #[.int .u64 ((fixF width xs).1 : Nat), .int .i64 ((fixF width xs).2.1 : Nat), .int .i64 ((fixF width xs).2.2 : Nat)]) := by
  have HL : Hid (L = xs.length) := hL
  have hLl := h.len
  rw [← hL] at hLl
  show Calls _ _ _ _ _
  obtain ⟨T, hTT⟩ : ∃ T, T = fixF width xs := ⟨_, rfl⟩
  rw [← hTT]
  have hT2 := hTT
  unfold fixF at hT2
  rw [← hL] at hT2
  have HT : Hid (T = _) := hT2
  clear hL hTT hT2
  by_cases hw : width < 1 ∨ 8 < width
  · have HR : Hid (T = (0, 0, 1)) := by have := HT.out; rw [if_pos hw] at this; exact this
    clear HT
    go_enter Tryz.func135, Tryz.ntmps135
    go_wp2_with fail
    refine (wide_no width _ hw).mono ?_
    rintro e w' ⟨rfl, rfl⟩
    go_wp2
    go_ret3
    rw [HR.out]
    exact ⟨rfl, 0, rfl⟩
  · have hw1 : 1 ≤ width := by omega
    have hw8 : width ≤ 8 := by omega
    by_cases hs : (L : Int) < width
    · have HR : Hid (T = (0, 0, 5)) := by have := HT.out; rw [if_neg hw, if_pos hs] at this; exact this
      clear HT hw
      go_enter Tryz.func135, Tryz.ntmps135
      go_wp2_with fail
      refine (wide_yes width _ hw1 hw8).mono ?_
      rintro e w' ⟨rfl, rfl⟩
      go_wp2
      go_ret3
      rw [HR.out]
      exact ⟨rfl, 0, rfl⟩
    · obtain ⟨X, rfl⟩ := Int.eq_ofNat_of_zero_le (show 0 ≤ width by omega)
      have HR : Hid (T = (leN (xs.take X), X, 0)) := by have := HT.out; rw [if_neg hw, if_neg hs, Int.toNat_natCast] at this; exact this
      have hs' : (X : Int) ≤ L := by omega
      have hXL : X ≤ L := by omega
      have hX8 : X ≤ 8 := by omega
      obtain ⟨off, rfl, hc⟩ := h.lies (by rw [← HL.out]; omega)
      rw [← HL.out] at hc
      clear HT hw hs
      go_enter Tryz.func135, Tryz.ntmps135
      go_wp2_with fail
      refine (wide_yes _ _ hw1 hw8).mono ?_
      rintro e w' ⟨rfl, rfl⟩
      go_wp2_with fail
      go_loop [6, 20] (fun vv ii => ∃ (n i : Nat), vv = .int .u64 n ∧ ii = .int .i64 i ∧ i ≤ X ∧ n < 256 ^ i ∧ Hid (n = leN (xs.take i))) (fun _ ii => X - (intOf ii).toNat)
      case atStart => exact ⟨0, 0, rfl, rfl, Nat.zero_le _, by omega, rfl⟩
      case round =>
        obtain ⟨n, i, rfl, rfl, hiX, hn, E⟩ := hrel
        by_cases hi : i < X
        · have hcx := hc i (by omega)
          obtain ⟨x, hx⟩ : ∃ x, x = xs.getD i 0 := ⟨_, rfl⟩
          rw [← hx] at hcx
          have hget : xs[i]? = some x := by rw [hx, List.getD, List.getElem?_eq_getElem (by rw [← HL.out]; omega)]; rfl
          have hx256 : x < 256 := h.low x (List.mem_of_getElem? hget)
          have hg := byt n x i hn (by omega) hx256
          have HG : Hid (_ = _) := hg.1
          have HB : Hid (n + x * 256 ^ i < 256 ^ (i + 1)) := hg.2
          have HE : Hid (n + x * 256 ^ i = leN (xs.take (i + 1))) := by
            show _ = _
            have e : xs.take (i + 1) = xs.take i ++ [x] := by rw [List.take_add_one, hget]; rfl
            rw [e, leN_snoc, ← E.out, List.length_take, ← HL.out, Nat.min_eq_left (by omega)]
          clear hg hget hx hc
          go_wp2
          go_round
          case rel => exact ⟨_, i + 1, congrArg (Value.int .u64) HG.out, by simp, by omega, HB.out, HE⟩
          case measure => simp [intOf]; omega
        · have hiX' : i = X := by omega
          have HV : Hid (n = leN (xs.take X)) := by rw [← hiX']; exact E
          clear hiX'
          go_wp2
          go_quiet (fail)
          go_wp2
          go_ret3
          rw [HR.out, HV.out]
          exact ⟨rfl, _, rfl⟩
theorem fixF_size (width : Int) (xs : List Nat) (h : (fixF width xs).2.2 = 0) : 0 < xs.length ∧ (fixF width xs).2.1 ≤ xs.length := by
  unfold fixF at h ⊢
  split at h
  · simp at h
  · rename_i h1
    rw [if_neg h1]
    split at h
    · simp at h
    · rename_i h2
      rw [if_neg h2]
      simp only
      omega
set_option maxHeartbeats 1000000 in
theorem rFixed_any (g r : Nat) (xs : List Nat) (er : Nat) (ao : Option Addr) (cap : Nat) (width : Int) (w : World) (h : Rd w g r xs er ao cap) :
    Calls Tryz.prog 132 #[.pointer (some ⟨g, 0, none⟩), .int .i64 width] w fun e w' => e = .returned (.int .u64 ((rdBy (fixF width) 0 xs er).1 : Nat)) ∧ ∃ ao' cap', Rd w' g r (rdBy (fixF width) 0 xs er).2.1 (rdBy (fixF width) 0 xs er).2.2 ao' cap' ∧ Fr [g] w w' := by
  have hF := Fr.alloc [] w (.cells #[.int .i64 width] 3)
  have h' := h.keep hF (by simp) (by simp)
  have hb : (w.alloc (.cells #[.int .i64 width] 3)).cell? ⟨w.heap.size, 0, none⟩ = some (.int .i64 width) := cell_of_row _ _ _ _ _ _ (heap_alloc_new w _)
  have hA := cFixed_any r w.heap.size ao _ cap xs width _ h'.sl rfl h'.cap hb
  have hsz := fixF_size width xs
  obtain ⟨f, hf⟩ : ∃ f, f = fixF width := ⟨_, rfl⟩
  rw [← hf] at hA hsz ⊢
  clear hf hb
  go_enter Tryz.func132, Tryz.ntmps132
  go_wp2_with fail
  refine (takeFixed_rd f g r _ xs er ao cap _ h' hsz (fun _ => hA)).mono ?_
  rintro e w' ⟨rfl, ao', cap', R1, R2⟩
  go_wp2
  go_ret
  exact ⟨rfl, ao', cap', R1, (Fr.alloc [g] w _).then R2⟩
end Go.Proofs.YtdojhkgnnbdfkaaGreat
