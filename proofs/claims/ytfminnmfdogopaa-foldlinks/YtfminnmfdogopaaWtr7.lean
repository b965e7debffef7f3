/- Who wrote a key last: fold's Writer and the document's. Conditions as each names them. -/
import Derived.Test.YtfminnmfdogopaaRg7
import Derived.Test.YtfminnmfdogopaaRefCh
namespace Go.Proofs.Ytfminnmfdogopaa
open Go.ChangeShapes Go.WideShapes Go.ChangeAt Go.RowKit Go.Lib Go.Maps Go.Sort
set_option linter.unusedVariables false
set_option linter.unusedSimpArgs false

/-- What Writer tells. -/
def WTold (l : List Tx) (n : Int) (key : ByteArray) (v : Int) (c : Nat) : Prop :=
  (Bad 1 l c ∧ c ≠ 0 ∧ v = 0) ∨ (okL 1 l ∧ ¬ (1 ≤ n ∧ n ≤ (l.length : Int) + 1) ∧ c = 1 ∧ v = 0) ∨ (okL 1 l ∧ (1 ≤ n ∧ n ≤ (l.length : Int) + 1) ∧ okK key = false ∧ c = 1 ∧ v = 0) ∨
  (okL 1 l ∧ (1 ≤ n ∧ n ≤ (l.length : Int) + 1) ∧ okK key = true ∧ c = 0 ∧ Prv l 1 n.toNat key v)
theorem WTold.ex (l : List Tx) (n : Int) (key : ByteArray) : ∃ v c, WTold l n key v c := by
  obtain ⟨c, hc⟩ := Bad.ex l 1
  by_cases h0 : c = 0
  · have hok := hc.ok.1 h0
    by_cases hb : 1 ≤ n ∧ n ≤ (l.length : Int) + 1
    · cases hk : okK key with
      | false => exact ⟨0, 1, Or.inr (Or.inr (Or.inl ⟨hok, hb, hk, rfl, rfl⟩))⟩
      | true =>
        have h1 := (wall_spec (Pk := fun _ => true) hok (i := 1) (by omega) (n.toNat - 1) (by omega)).1 key rfl
        rw [show 1 + (n.toNat - 1) = n.toNat by omega] at h1
        exact ⟨_, 0, Or.inr (Or.inr (Or.inr ⟨hok, hb, hk, rfl, h1⟩))⟩
    · exact ⟨0, 1, Or.inr (Or.inl ⟨hok, hb, rfl, rfl⟩)⟩
  · exact ⟨0, c, Or.inl ⟨hc, h0, rfl⟩⟩
set_option maxHeartbeats 8000000 in
set_option maxRecDepth 100000 in
theorem fWriter_main (ao : Option Addr) (L cap K : Nat) (key : ByteArray) (v : Int) (ts : List Tm) (w : World) (hT : TRs w ao ts) (hLe : L = ts.length) (hcap : L ≤ cap) (hok : okL 1 (txs ts)) (hKL : K ≤ L) (hk : okK key = true) (hP : Prv (txs ts) 1 (K + 1) key v) :
    Calls Try.prog 15 #[.slice ao L cap, .int .i64 ((K + 1 : Nat) : Int), .string key] w fun e w' => e = .returned (.tuple #[.int .i64 v, .int .i64 0]) ∧ Fr [] w w' := by
  have HL : Hid (L = ts.length) := hLe
  have HK : Hid (okL 1 (txs ts)) := hok
  have hL2 : L ≤ 65536 := by have := okL_few hok; rw [txs_length] at this; omega
  have HI : Hid (∀ W, Fr [] w W → TRs W ao ts) := fun W hf => hT.keep hf
  have hkl : key.size ≤ 64 := ((okK_iff key).1 hk).2
  have hks : key.size ≤ maxLen := by unfold maxLen; omega
  have hsl := sliceAt_any ao L cap K hcap hKL
  have hsl2 : ∀ W, (Instr.slice 22 (.slice ao L cap) none (some (.int .i64 (K : Int))) none).run Try.prog W = .ok (.slice ao K cap) W := fun W => by
    rw [← run_sliceAt_slice W 22 _ _ _ _ Try.undTsE]; exact hsl W
  have HWv : Hid (wall (fun s => s.toList == key.toList) (fun _ _ => 0) (txs (ts.take K)) key 0 = v) := by
    have h1 := (wall_spec (Pk := fun s => s.toList == key.toList) hok (i := 1) (by omega) K (by rw [txs_length, ← hLe]; omega)).1 key (by simp)
    rw [show 1 + K = K + 1 by omega] at h1
    have e : part (txs ts) 1 K = txs (ts.take K) := by unfold part txs; rw [List.map_take]; rfl
    rw [e] at h1
    exact Prv.one (by omega) h1 hP
  have HOn : Hid (∀ W, Calls Try.prog 29 #[.string key] W fun e w' => ∃ b, e = .returned (.func (Fn.func 53) #[] #[.pointer (some ⟨b, 0, none⟩)]) ∧ SBox w' b key ∧ Fr [] W w') := fun W => by
    refine (only_any key W).mono ?_
    rintro e w' ⟨b, rfl, h1, _, h3⟩
    exact ⟨b, rfl, h1, h3⟩
  have HWr : Hid (∀ W kb, Fr [] w W → SBox W kb key → Calls Try.prog 42 #[.slice ao K cap, .func (Fn.func 53) #[] #[.pointer (some ⟨kb, 0, none⟩)]] W fun e w' => ∃ b, e = .returned (.map (some b)) ∧ (Instr.lookup 81 (.map (some b)) (.agg #[.string key, .int .i64 0]) false).run Try.prog w' = .ok (.int .i64 v) w' ∧ Fr [] W w') := fun W kb hf h1 => by
    refine (writersO_any ao K cap (ts.take K) kb key W ((HI.out W hf).take K) (by rw [List.length_take, ← HL.out]; omega) h1 ?_ (by omega)).mono ?_
    · intro t hm
      have hm2 : t ∈ ts := List.mem_of_mem_take hm
      have ho' : okT t.n t.ws := okL_mem HK.out t.tx (List.mem_map.2 ⟨t, hm2, rfl⟩)
      have ha := (HI.out W hf).each t hm2
      exact ⟨by have := ho'.1; omega, ho'.2.1, by rw [ha.len]; exact ho'.2.2.1, fun x hx => (ho'.2.2.2 x hx).2.1⟩
    · rintro e w' ⟨b, rfl, hb, hM, h3⟩
      refine ⟨b, rfl, ?_, h3⟩
      have := hM.look key 0 hks (wf_i64' (by omega) (by omega))
      rw [HWv.out] at this
      exact this
  clear hLe hok hP hT hks
  go_enter Try.func15, Try.ntmps15
  go_wp2_with fail
  refine (fcheck_any _ L cap 0 ts _ (HI.out _ (Fr.refl _ _)) HL.out (okL_bad HK.out)).mono ?_
  rintro e w1 ⟨rfl, hF1⟩
  have hb1 : ¬ ((K : Int) + 1 < 1) := by omega
  have hb2 : ¬ ((L : Int) + 1 < (K : Int) + 1) := by omega
  go_wp2_with fail
  refine (mayBe_any key true _ hk.symm).mono ?_
  rintro e w2 ⟨rfl, hF2⟩
  have hG2 := hF1.then hF2
  clear hF1 hF2
  go_upto_region 6 with fail
  have hwK : IntKind.i64.wrap (K : Int) = (K : Int) := by simp [IntKind.wrap, IntKind.bits, IntKind.signed]; omega
  go_region_held3 (fun W => True) (trivial)
    (first
    | (go_at_call 42; with_reducible refine Calls.mono (HWr.out _ kb hG3 hs1) ?_; rintro e w4 ⟨b, rfl, hlk, hF4⟩; have hG4 := hG3.then hF4)
    | (go_at_call 29; with_reducible refine Calls.mono (HOn.out _) ?_; rintro e w3 ⟨kb, rfl, hs1, hF3⟩; have hG3 := (hG2.then (Fr.drew [] _)).then hF3))
  go_wp2
  go_ret2
  exact ⟨rfl, hG4⟩
set_option maxHeartbeats 4000000 in
set_option maxRecDepth 100000 in
theorem fWriter_any (ao : Option Addr) (L cap : Nat) (n : Int) (key : ByteArray) (v : Int) (c : Nat) (ts : List Tm) (w : World) (hT : TRs w ao ts) (hLe : L = ts.length) (hcap : L ≤ cap) (hn0 : -9223372036854775808 ≤ n) (hn1 : n ≤ 9223372036854775807) (h : WTold (txs ts) n key v c) :
    Calls Try.prog 15 #[.slice ao L cap, .int .i64 n, .string key] w fun e w' => e = .returned (.tuple #[.int .i64 v, .int .i64 (c : Int)]) ∧ Fr [] w w' := by
  have HL : Hid (L = ts.length) := hLe
  rcases h with ⟨hb, h0, rfl⟩ | ⟨hok, hb, rfl, rfl⟩ | ⟨hok, hb, hk, rfl, rfl⟩ | ⟨hok, hb, hk, rfl, hP⟩
  · have HB : Hid (Bad 1 (txs ts) c) := hb
    have hcb : ((c : Int) != 0) = true := by rw [bne_iff_ne]; omega
    clear hb h0 hLe
    go_enter Try.func15, Try.ntmps15
    go_wp2_with fail
    refine (fcheck_any ao L cap c ts _ hT HL.out HB.out).mono ?_
    rintro e w1 ⟨rfl, hF1⟩
    go_wp2
    go_ret2
    exact ⟨rfl, hF1⟩
  · have HK : Hid (okL 1 (txs ts)) := hok
    have hL2 : L ≤ 65536 := by have := okL_few hok; rw [txs_length] at this; omega
    rw [txs_length, ← hLe] at hb
    clear hok hLe
    by_cases h1 : n < 1
    · have h1' : decide (n < 1) = true := by simpa using h1
      go_enter Try.func15, Try.ntmps15
      go_wp2_with fail
      refine (fcheck_any ao L cap 0 ts _ hT HL.out (okL_bad HK.out)).mono ?_
      rintro e w1 ⟨rfl, hF1⟩
      go_wp2
      go_ret2
      exact ⟨rfl, hF1⟩
    · have h3 : (L : Int) + 1 < n := by
        by_cases h3 : (L : Int) + 1 < n
        · exact h3
        · exact absurd ⟨by omega, by omega⟩ hb
      go_enter Try.func15, Try.ntmps15
      go_wp2_with fail
      refine (fcheck_any ao L cap 0 ts _ hT HL.out (okL_bad HK.out)).mono ?_
      rintro e w1 ⟨rfl, hF1⟩
      go_wp2
      go_ret2
      exact ⟨rfl, hF1⟩
  · have HK : Hid (okL 1 (txs ts)) := hok
    have hL2 : L ≤ 65536 := by have := okL_few hok; rw [txs_length] at this; omega
    rw [txs_length, ← hLe] at hb
    have hb1 : ¬ (n < 1) := by omega
    have hb2 : ¬ ((L : Int) + 1 < n) := by omega
    clear hok hLe hb
    go_enter Try.func15, Try.ntmps15
    go_wp2_with fail
    refine (fcheck_any ao L cap 0 ts _ hT HL.out (okL_bad HK.out)).mono ?_
    rintro e w1 ⟨rfl, hF1⟩
    go_wp2_with fail
    refine (mayBe_any key false _ hk.symm).mono ?_
    rintro e w2 ⟨rfl, hF2⟩
    go_wp2
    go_ret2
    exact ⟨rfl, hF1.then hF2⟩
  · obtain ⟨K, rfl⟩ : ∃ K : Nat, n = ((K + 1 : Nat) : Int) := ⟨n.toNat - 1, by omega⟩
    rw [Int.toNat_natCast] at hP
    exact fWriter_main ao L cap K key v ts w hT hLe hcap hok (by rw [txs_length] at hb; omega) hk hP
set_option maxHeartbeats 8000000 in
set_option maxRecDepth 100000 in
theorem zWriter_main (ao : Option Addr) (L cap K : Nat) (key : ByteArray) (v : Int) (ts : List Tm) (w : World) (hT : TRs w ao ts) (hLe : L = ts.length) (hok : okL 1 (txs ts)) (hKL : K ≤ L) (hks : key.size ≤ 140737488355328) (hk : okK key = true) (hP : Prv (txs ts) 1 (K + 1) key v) :
    Calls Try.prog 16 #[.slice ao L cap, .int .i64 ((K + 1 : Nat) : Int), .string key] w fun e w' => e = .returned (.tuple #[.int .i64 v, .int .i64 0]) ∧ Fr [] w w' := by
  have HL : Hid (L = ts.length) := hLe
  have HK : Hid (okL 1 (txs ts)) := hok
  have HP : Hid (Prv (txs ts) 1 (K + 1) key v) := hP
  have hL2 : L ≤ 65536 := by have := okL_few hok; rw [txs_length] at this; omega
  have HI : Hid (∀ W, Fr [] w W → TRs W ao ts) := fun W hf => hT.keep hf
  have HKy : Hid (1 ≤ key.size ∧ key.size ≤ 64) := (okK_iff key).1 hk
  have hb1 : ¬ ((K : Int) + 1 < 1) := by omega
  have hb2 : ¬ ((L : Int) + 1 < (K : Int) + 1) := by omega
  clear hLe hok hP hT hk
  go_enter Try.func16, Try.ntmps16
  go_wp2_with fail
  refine (zcheck_any _ L cap 0 ts _ (HI.out _ (Fr.refl _ _)) HL.out (okL_bad HK.out)).mono ?_
  rintro e w1 ⟨rfl, hF1⟩
  go_wp2_with fail
  refine (xKey_any key true _ hks (by simpa using HKy.out)).mono ?_
  rintro e w2 ⟨rfl, rfl⟩
  go_wp2_with fail
  have hq1 : decide ((K : Int) + 1 < 1) = false := by simp; omega
  have hq2 : decide (L < K) = false := by simp; omega
  simp only [hq1, hq2, Bool.or_false, Bool.false_or]
  go_loopw [9] (fun nn wr => ∃ (n : Nat), nn = .int .i64 n ∧ n ≤ K ∧ Hid (∀ m, n < m → m < K + 1 → ¬ Wrt (txs ts) m key) ∧ Fr [] w wr) (fun nn _ => (intOf nn).toNat)
  case atStart => exact ⟨K, by simp, Nat.le_refl _, fun m h1 h2 => by omega, hF1⟩
  case round =>
    obtain ⟨n, rfl, hnK, HE, hFr⟩ := hrel
    by_cases hn : 1 ≤ n
    · obtain ⟨i, rfl⟩ : ∃ i, n = i + 1 := ⟨n - 1, by omega⟩
      have hi' : i < ts.length := by rw [← HL.out]; omega
      obtain ⟨bb, off, rfl, hbl, hc⟩ := (HI.out _ hFr).lies (by omega)
      have hx := hc i hi'
      have hat := (HI.out _ hFr).each _ (tgetD_mem ts i hi')
      obtain ⟨x, hxx⟩ : ∃ x, x = ts.getD i Tm.zero := ⟨_, rfl⟩
      rw [← hxx] at hx hat
      have HX : Hid ((txs ts).getD (i + 1 - 1) Tx.zero = x.tx) := by
        show _ = _
        rw [hxx]
        simp [txs, List.getD, hi']
      clear hxx hc
      obtain ⟨n1, xo, M, cm, ws⟩ := x
      obtain ⟨c0, c1⟩ := hx
      simp only at c0 c1
      have hat1 : TArg wr n1 xo M cm ws := hat
      have HW : Hid (Wrt (txs ts) (i + 1) key ↔ ∃ y ∈ ws, y.key = key) := by
        show _ ↔ _
        unfold Wrt
        rw [HX.out]
        exact Iff.rfl
      obtain ⟨B, HB⟩ : ∃ B : Bool, Hid (B = true ↔ ∃ y ∈ ws, y.key = key) := by
        by_cases h : ∃ y ∈ ws, y.key = key
        · exact ⟨true, ⟨fun _ => h, fun _ => rfl⟩⟩
        · exact ⟨false, ⟨fun h2 => absurd h2 (by simp), fun h2 => absurd h2 h⟩⟩
      have HC : Hid _ := zwrites_any n1 xo M cm ws key B wr hat1.rs hat1.len HB.out
      have hid : ((i + 1 : Nat) : Int) - 1 = (i : Int) := by omega
      clear hat hat1 HX
      cases B with
      | true =>
        have hv : v = ((i + 1 : Nat) : Int) := Prv.one (by omega) HP.out (Or.inr ⟨i + 1, rfl, by omega, by omega, HW.out.2 (HB.out.1 rfl), HE.out⟩)
        subst hv
        go_wp2_with fail
        refine Calls.mono HC.out ?_
        rintro e w3 ⟨rfl, hF3⟩
        have hG3 := hFr.then hF3
        clear HC hF3
        go_wp2
        go_ret2
        exact ⟨by simp, hG3⟩
      | false =>
        have HE2 : Hid (∀ m, i < m → m < K + 1 → ¬ Wrt (txs ts) m key) := by
          intro m h1 h2
          by_cases e : m = i + 1
          · subst e
            intro hw
            have := HB.out.2 (HW.out.1 hw)
            cases this
          · exact HE.out m (by omega) h2
        go_wp2_with fail
        refine Calls.mono HC.out ?_
        rintro e w3 ⟨rfl, hF3⟩
        have hG3 := hFr.then hF3
        clear HC hF3
        go_wp2
        go_roundw
        case rel => exact ⟨i, by simp, by omega, HE2, hG3⟩
        case measure => simp [intOf]
    · obtain rfl : n = 0 := by omega
      have hv : v = 0 := Prv.one (by omega) HP.out (Or.inl ⟨rfl, fun m h1 h2 => HE.out m (by omega) h2⟩)
      subst hv
      go_wp2
      go_ret2
      exact ⟨rfl, hFr⟩
set_option maxHeartbeats 4000000 in
set_option maxRecDepth 100000 in
theorem zWriter_any (ao : Option Addr) (L cap : Nat) (n : Int) (key : ByteArray) (v : Int) (c : Nat) (ts : List Tm) (w : World) (hT : TRs w ao ts) (hLe : L = ts.length) (hks : key.size ≤ 140737488355328) (hn0 : -9223372036854775808 ≤ n) (hn1 : n ≤ 9223372036854775807) (h : WTold (txs ts) n key v c) :
    Calls Try.prog 16 #[.slice ao L cap, .int .i64 n, .string key] w fun e w' => e = .returned (.tuple #[.int .i64 v, .int .i64 (c : Int)]) ∧ Fr [] w w' := by
  have HL : Hid (L = ts.length) := hLe
  rcases h with ⟨hb, h0, rfl⟩ | ⟨hok, hb, rfl, rfl⟩ | ⟨hok, hb, hk, rfl, rfl⟩ | ⟨hok, hb, hk, rfl, hP⟩
  · have HB : Hid (Bad 1 (txs ts) c) := hb
    have hcb : ((c : Int) != 0) = true := by rw [bne_iff_ne]; omega
    clear hb h0 hLe
    go_enter Try.func16, Try.ntmps16
    go_wp2_with fail
    refine (zcheck_any ao L cap c ts _ hT HL.out HB.out).mono ?_
    rintro e w1 ⟨rfl, hF1⟩
    go_wp2
    go_ret2
    exact ⟨rfl, hF1⟩
  · have HK : Hid (okL 1 (txs ts)) := hok
    have hL2 : L ≤ 65536 := by have := okL_few hok; rw [txs_length] at this; omega
    rw [txs_length, ← hLe] at hb
    clear hok hLe
    by_cases h1 : n < 1
    · have h1' : decide (n < 1) = true := by simpa using h1
      go_enter Try.func16, Try.ntmps16
      go_wp2_with fail
      refine (zcheck_any ao L cap 0 ts _ hT HL.out (okL_bad HK.out)).mono ?_
      rintro e w1 ⟨rfl, hF1⟩
      go_wp2
      go_ret2
      exact ⟨rfl, hF1⟩
    · have h3 : (L : Int) + 1 < n := by
        by_cases h3 : (L : Int) + 1 < n
        · exact h3
        · exact absurd ⟨by omega, by omega⟩ hb
      go_enter Try.func16, Try.ntmps16
      go_wp2_with fail
      refine (zcheck_any ao L cap 0 ts _ hT HL.out (okL_bad HK.out)).mono ?_
      rintro e w1 ⟨rfl, hF1⟩
      go_wp2
      go_ret2
      exact ⟨rfl, hF1⟩
  · have HK : Hid (okL 1 (txs ts)) := hok
    have hL2 : L ≤ 65536 := by have := okL_few hok; rw [txs_length] at this; omega
    rw [txs_length, ← hLe] at hb
    have hb1 : ¬ (n < 1) := by omega
    have hb2 : ¬ ((L : Int) + 1 < n) := by omega
    have HKy : Hid (false = true ↔ 1 ≤ key.size ∧ key.size ≤ 64) := by show _ ↔ _; rw [← okK_iff, hk]
    clear hok hLe hb
    go_enter Try.func16, Try.ntmps16
    go_wp2_with fail
    refine (zcheck_any ao L cap 0 ts _ hT HL.out (okL_bad HK.out)).mono ?_
    rintro e w1 ⟨rfl, hF1⟩
    go_wp2_with fail
    refine (xKey_any key false _ hks HKy.out).mono ?_
    rintro e w2 ⟨rfl, rfl⟩
    go_wp2
    go_ret2
    exact ⟨rfl, hF1⟩
  · obtain ⟨K, rfl⟩ : ∃ K : Nat, n = ((K + 1 : Nat) : Int) := ⟨n.toNat - 1, by omega⟩
    rw [Int.toNat_natCast] at hP
    exact zWriter_main ao L cap K key v ts w hT hLe hok (by rw [txs_length] at hb; omega) hks hk hP
end Go.Proofs.Ytfminnmfdogopaa
