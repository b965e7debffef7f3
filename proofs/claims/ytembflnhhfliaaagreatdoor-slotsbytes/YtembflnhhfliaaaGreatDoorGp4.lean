/- Contracts and plain lemmas of this claim. -/
import Derived.Test.YtembflnhhfliaaaGreatDoorGp3
import Derived.Laws.BytesString
import Derived.ShutString
import Derived.ChangeOld
import Derived.Below
import Derived.Laws.BitsAllLaws
set_option maxHeartbeats 4000000
set_option maxRecDepth 100000
namespace Go.Proofs.YtembflnhhfliaaaGreatDoor
open Go.ChangeShapes Go.WideShapes Go.ChangeAt Go.RowKit Go.Lib
structure Rs (w : World) (ao : Option Addr) (xs : List Nat) : Prop where
  lies : 0 < xs.length -> ∃ b off, ao = some ⟨b, off, none⟩ /\ ∀ j, j < xs.length -> w.cell? ⟨b, off + j, none⟩ = some (.int .u8 ((xs.getD j 0 : Nat) : Int))
  len : xs.length < 2^41
theorem Sl.rs {w : World} {r : Nat} {ao : Option Addr} {xs : List Nat} (h : Sl w r ao xs) : Rs w ao xs := ⟨fun h0 => ⟨r, h.lies h0⟩, h.len⟩
theorem Rs.of_row {w : World} {b : Nat} {xs : List Nat} (h : w.heap[b]? = some (.cells (bts xs).toArray 5 (0, 0))) (hl : xs.length < 2^41) : Rs w (some ⟨b, 0, none⟩) xs :=
  ⟨fun _ => ⟨b, 0, rfl, fun j hj => by rw [cell_of_row _ _ _ _ _ _ h, Nat.zero_add]; simpa using zch xs j hj⟩, hl⟩
theorem Rs.nil (w : World) (ao : Option Addr) : Rs w ao [] := ⟨fun h => by simp at h, by simp⟩
theorem Rs.take {w : World} {ao : Option Addr} {xs : List Nat} (h : Rs w ao xs) (k : Nat) : Rs w ao (xs.take k) := by
  refine ⟨fun h0 => ?_, by have := h.len; rw [List.length_take]; omega⟩
  rw [List.length_take] at h0
  obtain ⟨b, off, e, hc⟩ := h.lies (by omega)
  refine ⟨b, off, e, fun j hj => ?_⟩
  rw [List.length_take] at hj
  rw [hc j (by omega)]
  simp [List.getD, show j < k by omega]
theorem Rs.drewN {w : World} {ao : Option Addr} {xs : List Nat} (h : Rs w ao xs) (q : Nat) : Rs (w.drewN q) ao xs := ⟨h.lies, h.len⟩
theorem Rs.keep {S : List Nat} {w w' : World} {b off : Nat} {xs : List Nat} (h : Rs w (some ⟨b, off, none⟩) xs) (hf : Fr S w w') (hb : b ∉ S) : Rs w' (some ⟨b, off, none⟩) xs := by
  refine ⟨fun h0 => ?_, h.len⟩
  obtain ⟨b', off', e, hc⟩ := h.lies h0
  cases e
  refine ⟨b, off, rfl, fun j hj => ?_⟩
  have hlt := World.block_lt_of_cell? w _ (hc j hj)
  exact (World.cell?_of_block (hf.block b hlt hb)).trans (hc j hj)
theorem zta (xs ys : List Nat) (hl : xs.length = ys.length) (h : ∀ j, j < xs.length -> xs.getD j 0 = ys.getD j 0) : xs = ys := by
  apply List.ext_getElem hl
  intro i h1 h2
  have := h i h1
  simpa [List.getD, h1, h2] using this
theorem zvl (a b : Option Addr) (L M ca cb : Nat) (xs ys : List Nat) (w : World) (ha : Rs w a xs) (hb : Rs w b ys) (hL : L = xs.length) (hM : M = ys.length) :
    Calls Tryz.prog 38 #[.slice a L ca, .slice b M cb] w fun e w' => e = .returned (.bool (decide (xs = ys))) /\ ∃ q, w' = w.drewN q := by
  obtain ⟨R, hR⟩ : ∃ R, R = decide (xs = ys) := ⟨_, rfl⟩
  rw [<- hR]
  have HR : Hid (R = decide (xs = ys)) := hR
  have HL : Hid (L = xs.length) := hL
  have HM : Hid (M = ys.length) := hM
  have hLl : L < 2^41 := by have := ha.len; omega
  have hMl : M < 2^41 := by have := hb.len; omega
  clear hR hL hM
  by_cases hLM : L = M
  · subst hLM
    have hne : ((L : Int) != L) = false := by simp
    by_cases h0 : 0 < L
    · obtain ⟨ba, oa, rfl, hca⟩ := ha.lies (by rw [<- HL.out]; exact h0)
      obtain ⟨bb, ob, rfl, hcb⟩ := hb.lies (by rw [<- HM.out]; exact h0)
      rw [<- HL.out] at hca
      rw [<- HM.out] at hcb
      go_enter Tryz.func38, Tryz.ntmps38
      go_wp2_with fail
      go_loopw [5] (fun ii wr => ∃ (i q : Nat), ii = .int .i64 i /\ i <= L /\ Hid (∀ j, j < i -> xs.getD j 0 = ys.getD j 0) /\ wr = w.drewN q) (fun ii _ => L - (RowKit.intOf ii).toNat)
      case atStart => exact ⟨0, 0, rfl, Nat.zero_le _, fun j hj => by omega, rfl⟩
      case round =>
        obtain ⟨i, q, rfl, hiL, HE, rfl⟩ := hrel
        by_cases hi : i < L
        · have hx := hca i hi
          have hy := hcb i hi
          obtain ⟨x, hxx⟩ : ∃ x, x = xs.getD i 0 := ⟨_, rfl⟩
          obtain ⟨y, hyy⟩ : ∃ y, y = ys.getD i 0 := ⟨_, rfl⟩
          rw [<- hxx] at hx
          rw [<- hyy] at hy
          have HX : Hid (x = xs.getD i 0) := hxx
          have HY : Hid (y = ys.getD i 0) := hyy
          clear hxx hyy hca hcb
          by_cases hxy : x = y
          · subst hxy
            have hb1 : ((x : Int) != x) = false := by simp
            have HE2 : Hid (∀ j, j < i + 1 -> xs.getD j 0 = ys.getD j 0) := by
              intro j hj
              by_cases hji : j = i
              · subst hji; exact HX.out.symm.trans HY.out
              · exact HE.out j (by omega)
            go_wp2_with fail
            go_quiet (fail)
            go_wp2
            go_roundw
            case rel => exact ⟨i + 1, _, by simp, by omega, HE2, rfl⟩
            case measure => simp [RowKit.intOf]; omega
          · have hb1 : ((x : Int) != y) = true := by rw [bne_iff_ne]; omega
            have HR' : Hid (R = false) := by
              show R = false
              rw [HR.out, decide_eq_false_iff_not]
              intro h
              exact hxy (by rw [HX.out, HY.out, h])
            clear hxy
            go_wp2_with fail
            go_quiet (fail)
            go_wp2
            go_ret
            rw [HR'.out]
            exact ⟨rfl, q + nq, by simp⟩
        · have HR' : Hid (R = true) := by
            show R = true
            rw [HR.out, decide_eq_true_eq]
            exact zta xs ys (HL.out.symm.trans HM.out) (fun j hj => HE.out j (by rw [<- HL.out] at hj; omega))
          go_wp2
          go_ret
          rw [HR'.out]
          exact ⟨rfl, _, rfl⟩
    · obtain rfl : L = 0 := by omega
      have HR' : Hid (R = true) := by
        show R = true
        rw [HR.out, decide_eq_true_eq, List.eq_nil_of_length_eq_zero HL.out.symm, List.eq_nil_of_length_eq_zero HM.out.symm]
      go_enter Tryz.func38, Tryz.ntmps38
      go_wp2_with fail
      refine wp_loop_rounds 1 ?_
      rw [rounds_succ]
      go_wp2
      go_ret
      rw [HR'.out]
      exact ⟨rfl, 0, rfl⟩
  · have hne : ((L : Int) != M) = true := by rw [bne_iff_ne]; omega
    have HR' : Hid (R = false) := by
      show R = false
      rw [HR.out, decide_eq_false_iff_not]
      intro h
      exact hLM (by rw [HL.out, HM.out, h])
    clear hLM
    go_enter Tryz.func38, Tryz.ntmps38
    go_wp2
    go_ret
    rw [HR'.out]
    exact ⟨rfl, 0, rfl⟩
theorem zvm (a b : Option Addr) (L M ca cb : Nat) (xs ys : List Nat) (w : World) (ha : Rs w a xs) (hb : Rs w b ys) (hL : L = xs.length) (hM : M = ys.length) (heq : xs = ys) :
    Calls Tryz.prog 38 #[.slice a L ca, .slice b M cb] w fun e w' => e = .returned (.bool true) /\ ∃ q, w' = w.drewN q := by
  refine (zvl a b L M ca cb xs ys w ha hb hL hM).mono ?_
  rintro e w' ⟨rfl, R⟩
  exact ⟨by simp [heq], R⟩
theorem zvn (g r : Nat) (xs : List Nat) (er : Nat) (ao : Option Addr) (cap : Nat) (w : World) (h : Rd w g r xs er ao cap) :
    Calls Tryz.prog 189 #[.pointer (some ⟨g, 0, none⟩)] w fun e w' => e = .returned (.int .u64 ((rdBy (zaa 0 0) 0 xs er).1 : Nat)) /\ ∃ ao' cap', Rd w' g r (rdBy (zaa 0 0) 0 xs er).2.1 (rdBy (zaa 0 0) 0 xs er).2.2 ao' cap' /\ Fr [g] w w' := by
  have hA : Ans 203 #[.slice ao xs.length cap] w (.tuple #[.int .u64 ((zaa 0 0 xs).1 : Nat), .int .i64 ((zaa 0 0 xs).2.1 : Nat), .int .i64 ((zaa 0 0 xs).2.2 : Nat)]) := by
    refine (zvk r ao _ cap xs w h.sl rfl).mono ?_
    rintro e w' ⟨rfl, rfl⟩
    exact ⟨rfl, 0, rfl⟩
  obtain ⟨f, hf⟩ : ∃ f, f = zaa 0 0 := ⟨_, rfl⟩
  rw [<- hf] at hA ⊢
  have hsz : (f xs).2.2 = 0 -> 0 < xs.length /\ (f xs).2.1 <= xs.length := by
    intro h0
    rw [hf] at h0 ⊢
    have := zbs xs 0 0 h0
    omega
  clear hf
  go_enter Tryz.func189, Tryz.ntmps189
  go_wp2_with fail
  refine (zqq f g r xs er ao cap w h hsz (fun _ => hA)).mono ?_
  rintro e w' ⟨rfl, R⟩
  go_wp2
  go_ret
  exact ⟨rfl, R⟩
theorem Tryz.undB : Tryz.prog.underlying 5 = some (.int .u8) := by kernel_rfl
theorem zhx (w : World) (r off n c : Nat) (ys : List Nat) (hn : ys.length = n) (hc : ∀ j, j < n -> w.cell? ⟨r, off + j, none⟩ = some (.int .u8 ((ys.getD j 0 : Nat) : Int))) :
    Sem.run Tryz.prog (convert 58 9 (.slice (some ⟨r, off, none⟩) n c)) w = .ok (.string (toBA ys)) w := by
  rw [run_convert_bytes_string w 58 9 5 _ _ _ Tryz.undBs Tryz.undB Tryz.undStr]
  have hl := run_loadCells_list (P := Tryz.prog) w ⟨r, off, none⟩ (bts ys) (by
    intro j u hj
    have hj' : j < ys.length := by have := (List.getElem?_eq_some_iff.1 hj).1; rwa [zac] at this
    rw [zch ys j hj'] at hj
    rw [show (⟨r, off, none⟩ : Addr).add j = ⟨r, off + j, none⟩ from by simp [Addr.add], hc j (by omega)]
    exact hj)
  rw [zac, hn] at hl
  have e : bts ys = (ys.map (fun (x : Nat) => (x : Int))).map (Value.int .u8) := by simp [bts]
  rw [e] at hl
  rw [run_bytesToString w ⟨r, off, none⟩ n c _ hl, zsv]
theorem ztb (r b : Nat) (ao : Option Addr) (L cap : Nat) (xs : List Nat) (most : Int) (w : World) (h : Sl w r ao xs) (hL : L = xs.length) (hcap : L <= cap) (hm0 : -9223372036854775808 <= most) (hm1 : most <= 9223372036854775807) (hb : w.cell? ⟨b, 0, none⟩ = some (.int .i64 most)) :
    Ans 213 #[.slice ao L cap, .pointer (some ⟨b, 0, none⟩)] w (.tuple #[.string (zao most xs).1, .int .i64 ((zao most xs).2.1 : Nat), .int .i64 ((zao most xs).2.2 : Nat)]) := by
  have HL : Hid (L = xs.length) := hL
  have hv := zjf xs 0 0 (by omega) (by omega) h.low
  have hLl := h.len
  rw [<- hL] at hLl
  have hsz := zbs xs 0 0
  show Calls _ _ _ _ _
  have hS := zmr r ao L cap xs w h hL
  obtain ⟨S, hSS⟩ : ∃ S, S = zaa 0 0 xs := ⟨_, rfl⟩
  obtain ⟨T, hTT⟩ : ∃ T, T = zao most xs := ⟨_, rfl⟩
  have hT2 := hTT
  unfold zao at hT2
  rw [<- hSS] at hS hv hT2 hsz
  rw [<- hTT]
  have HT : Hid (T = _) := hT2
  have HS : Ans 204 #[.slice ao L cap] w (.tuple #[.int .u64 (S.1 : Nat), .int .i64 (S.2.1 : Nat), .int .i64 (S.2.2 : Nat)]) := by
    refine hS.mono ?_
    rintro e w' ⟨rfl, rfl⟩
    exact ⟨rfl, 0, rfl⟩
  clear hS hSS hL hTT hT2
  obtain ⟨s1, s2, s3⟩ := S
  simp only at hv HT HS hsz
  by_cases hmost : most < 0
  · have HR : Hid (T = (⟨#[]⟩, 0, 1)) := by have := HT.out; rw [if_pos hmost] at this; exact this
    clear HT
    go_enter Tryz.func213, Tryz.ntmps213
    go_wp2
    go_ret3
    rw [HR.out]
    exact ⟨rfl, 0, rfl⟩
  · have hmost' : 0 <= most := by omega
    by_cases hs3 : s3 = 0
    · subst hs3
      have hsz' := hsz rfl
      rw [<- HL.out] at hsz'
      by_cases hlim : most < (s1 : Int)
      · have HR : Hid (T = (⟨#[]⟩, 0, 3)) := by have := HT.out; rw [if_neg hmost, if_neg (by simp), if_pos hlim] at this; exact this
        clear HT hmost
        go_enter Tryz.func213, Tryz.ntmps213
        go_wp2_with fail
        refine HS.calls.mono ?_
        rintro e w' ⟨rfl, q, rfl⟩
        go_wp2
        go_ret3
        rw [HR.out]
        exact ⟨rfl, _, rfl⟩
      · by_cases hsh : L - s2 < s1
        · have HR : Hid (T = (⟨#[]⟩, 0, 5)) := by have := HT.out; rw [if_neg hmost, if_neg (by simp), if_neg hlim, if_pos (by rw [<- HL.out]; exact hsh)] at this; exact this
          have hlim' : (s1 : Int) <= most := by omega
          have hsh' : (L : Int) - s2 < s1 := by omega
          clear HT hmost hlim
          go_enter Tryz.func213, Tryz.ntmps213
          go_wp2_with fail
          refine HS.calls.mono ?_
          rintro e w' ⟨rfl, q, rfl⟩
          go_wp2
          go_ret3
          rw [HR.out]
          exact ⟨rfl, _, rfl⟩
        · have HR : Hid (T = (toBA ((xs.drop s2).take s1), s2 + s1, 0)) := by have := HT.out; rw [if_neg hmost, if_neg (by simp), if_neg hlim, if_neg (by rw [<- HL.out]; exact hsh)] at this; exact this
          have hlim' : (s1 : Int) <= most := by omega
          have hsh' : (s1 : Int) <= (L : Int) - s2 := by omega
          have hs12 : (s2 : Int) + s1 <= L := by omega
          obtain ⟨off, rfl, hc⟩ := h.lies (by rw [<- HL.out]; omega)
          clear HT hmost hlim
          by_cases hcs : cap = s2
          · subst hcs
            obtain rfl : s1 = 0 := by omega
            have heq : ∀ q, Sem.run Tryz.prog (convert 58 9 (.slice (some ⟨r, off, none⟩) 0 0)) (w.drewN q) = .ok (.string (toBA [])) (w.drewN q) := fun q => zhx (w.drewN q) r off 0 0 [] rfl (by omega)
            rw [List.take_zero] at HR
            obtain ⟨tb, htb⟩ : ∃ tb, tb = toBA [] := ⟨_, rfl⟩
            rw [<- htb] at heq HR
            clear htb
            go_enter Tryz.func213, Tryz.ntmps213
            go_wp2_with fail
            refine HS.calls.mono ?_
            rintro e w' ⟨rfl, q, rfl⟩
            go_wp2
            go_ret3
            rw [HR.out]
            exact ⟨rfl, _, rfl⟩
          · have heq : ∀ q, Sem.run Tryz.prog (convert 58 9 (.slice (some ⟨r, off + s2, none⟩) s1 (cap - s2))) (w.drewN q) = .ok (.string (toBA ((xs.drop s2).take s1))) (w.drewN q) := fun q => zhx (w.drewN q) r (off + s2) s1 _ _ (by rw [List.length_take, List.length_drop, <- HL.out]; omega) (by
              intro j hj
              have := hc (s2 + j) (by rw [<- HL.out]; omega)
              rw [Nat.add_assoc]
              refine this.trans ?_
              simp [List.getD, hj, List.getElem?_drop])
            obtain ⟨tb, htb⟩ : ∃ tb, tb = toBA ((xs.drop s2).take s1) := ⟨_, rfl⟩
            rw [<- htb] at heq HR
            clear htb hc
            go_enter Tryz.func213, Tryz.ntmps213
            go_wp2_with fail
            refine HS.calls.mono ?_
            rintro e w' ⟨rfl, q, rfl⟩
            go_wp2
            go_ret3
            rw [HR.out]
            exact ⟨rfl, _, rfl⟩
    · have hs3b : ((s3 : Int) != 0) = true := by rw [bne_iff_ne]; omega
      have HR : Hid (T = (⟨#[]⟩, 0, s3)) := by have := HT.out; rw [if_neg hmost, if_pos hs3] at this; exact this
      clear HT hs3 hmost
      go_enter Tryz.func213, Tryz.ntmps213
      go_wp2_with fail
      refine HS.calls.mono ?_
      rintro e w' ⟨rfl, q, rfl⟩
      go_wp2
      go_ret3
      rw [HR.out]
      exact ⟨rfl, _, rfl⟩
theorem zji (most : Int) (xs : List Nat) (h : (zao most xs).2.2 = 0) : 0 < xs.length /\ (zao most xs).2.1 <= xs.length := by
  unfold zao at h ⊢
  split at h
  · simp at h
  · rename_i h1
    rw [if_neg h1]
    split at h
    · rename_i h2; exact absurd h h2
    · rename_i h2
      rw [if_neg h2]
      split at h
      · simp at h
      · rename_i h3
        rw [if_neg h3]
        split at h
        · simp at h
        · rename_i h4
          rw [if_neg h4]
          have := zbs xs 0 0 (by simpa using h2)
          simp only
          omega
theorem ztc (g r : Nat) (xs : List Nat) (er : Nat) (ao : Option Addr) (cap : Nat) (most : Int) (w : World) (h : Rd w g r xs er ao cap) (hm0 : -9223372036854775808 <= most) (hm1 : most <= 9223372036854775807) :
    Calls Tryz.prog 207 #[.pointer (some ⟨g, 0, none⟩), .int .i64 most] w fun e w' => e = .returned (.string (rdBy (zao most) ⟨#[]⟩ xs er).1) /\ ∃ ao' cap', Rd w' g r (rdBy (zao most) ⟨#[]⟩ xs er).2.1 (rdBy (zao most) ⟨#[]⟩ xs er).2.2 ao' cap' /\ Fr [g] w w' := by
  have hF := Fr.alloc [] w (.cells #[.int .i64 most] 3)
  have h' := h.keep hF (by simp) (by simp)
  have hb : (w.alloc (.cells #[.int .i64 most] 3)).cell? ⟨w.heap.size, 0, none⟩ = some (.int .i64 most) := cell_of_row _ _ _ _ _ _ (heap_alloc_new w _)
  have hA := ztb r w.heap.size ao _ cap xs most _ h'.sl rfl h'.cap hm0 hm1 hb
  have hsz := zji most xs
  obtain ⟨f, hf⟩ : ∃ f, f = zao most := ⟨_, rfl⟩
  rw [<- hf] at hA hsz ⊢
  clear hf hb
  go_enter Tryz.func207, Tryz.ntmps207
  go_wp2_with fail
  refine (zos f g r _ xs er ao cap _ h' hsz (fun _ => hA)).mono ?_
  rintro e w' ⟨rfl, ao', cap', R1, R2⟩
  go_wp2
  go_ret
  exact ⟨rfl, ao', cap', R1, (Fr.alloc [g] w _).then R2⟩
theorem zqr (r b : Nat) (ao : Option Addr) (L cap : Nat) (xs : List Nat) (width : Int) (w : World) (h : Sl w r ao xs) (hL : L = xs.length) (hcap : L <= cap) (hb : w.cell? ⟨b, 0, none⟩ = some (.int .i64 width)) :
    Ans 214 #[.slice ao L cap, .pointer (some ⟨b, 0, none⟩)] w (.tuple #[.int .u64 ((fixF width xs).1 : Nat), .int .i64 ((fixF width xs).2.1 : Nat), .int .i64 ((fixF width xs).2.2 : Nat)]) := by
  have HL : Hid (L = xs.length) := hL
  have hLl := h.len
  rw [<- hL] at hLl
  show Calls _ _ _ _ _
  obtain ⟨T, hTT⟩ : ∃ T, T = fixF width xs := ⟨_, rfl⟩
  rw [<- hTT]
  have hT2 := hTT
  unfold fixF at hT2
  rw [<- hL] at hT2
  have HT : Hid (T = _) := hT2
  clear hL hTT hT2
  by_cases hw : width < 1 \/ 8 < width
  · have HR : Hid (T = (0, 0, 1)) := by have := HT.out; rw [if_pos hw] at this; exact this
    clear HT
    go_enter Tryz.func214, Tryz.ntmps214
    go_wp2_with fail
    refine (zxt width _ hw).mono ?_
    rintro e w' ⟨rfl, rfl⟩
    go_wp2
    go_ret3
    rw [HR.out]
    exact ⟨rfl, 0, rfl⟩
  · have hw1 : 1 <= width := by omega
    have hw8 : width <= 8 := by omega
    by_cases hs : (L : Int) < width
    · have HR : Hid (T = (0, 0, 5)) := by have := HT.out; rw [if_neg hw, if_pos hs] at this; exact this
      clear HT hw
      go_enter Tryz.func214, Tryz.ntmps214
      go_wp2_with fail
      refine (ziv width _ hw1 hw8).mono ?_
      rintro e w' ⟨rfl, rfl⟩
      go_wp2
      go_ret3
      rw [HR.out]
      exact ⟨rfl, 0, rfl⟩
    · obtain ⟨X, rfl⟩ := Int.eq_ofNat_of_zero_le (show 0 <= width by omega)
      have HR : Hid (T = (leN (xs.take X), X, 0)) := by have := HT.out; rw [if_neg hw, if_neg hs, Int.toNat_natCast] at this; exact this
      have hs' : (X : Int) <= L := by omega
      have hXL : X <= L := by omega
      have hX8 : X <= 8 := by omega
      obtain ⟨off, rfl, hc⟩ := h.lies (by rw [<- HL.out]; omega)
      rw [<- HL.out] at hc
      clear HT hw hs
      go_enter Tryz.func214, Tryz.ntmps214
      go_wp2_with fail
      refine (ziv _ _ hw1 hw8).mono ?_
      rintro e w' ⟨rfl, rfl⟩
      go_wp2_with fail
      go_loop [6, 20] (fun vv ii => ∃ (n i : Nat), vv = .int .u64 n /\ ii = .int .i64 i /\ i <= X /\ n < 256 ^ i /\ Hid (n = leN (xs.take i))) (fun _ ii => X - (RowKit.intOf ii).toNat)
      case atStart => exact ⟨0, 0, rfl, rfl, Nat.zero_le _, by omega, rfl⟩
      case round =>
        obtain ⟨n, i, rfl, rfl, hiX, hn, E⟩ := hrel
        by_cases hi : i < X
        · have hcx := hc i (by omega)
          obtain ⟨x, hx⟩ : ∃ x, x = xs.getD i 0 := ⟨_, rfl⟩
          rw [<- hx] at hcx
          have hget : xs[i]? = some x := by rw [hx, List.getD, List.getElem?_eq_getElem (by rw [<- HL.out]; omega)]; rfl
          have hx256 : x < 256 := h.low x (List.mem_of_getElem? hget)
          have hg := byt n x i hn (by omega) hx256
          have HG : Hid (_ = _) := hg.1
          have HB : Hid (n + x * 256 ^ i < 256 ^ (i + 1)) := hg.2
          have HE : Hid (n + x * 256 ^ i = leN (xs.take (i + 1))) := by
            show _ = _
            have e : xs.take (i + 1) = xs.take i ++ [x] := by rw [List.take_add_one, hget]; rfl
            rw [e, zmo, <- E.out, List.length_take, <- HL.out, Nat.min_eq_left (by omega)]
          clear hg hget hx hc
          go_wp2
          go_round
          case rel => exact ⟨_, i + 1, congrArg (Value.int .u64) HG.out, by simp, by omega, HB.out, HE⟩
          case measure => simp [RowKit.intOf]; omega
        · have hiX' : i = X := by omega
          have HV : Hid (n = leN (xs.take X)) := by rw [<- hiX']; exact E
          clear hiX'
          go_wp2
          go_quiet (fail)
          go_wp2
          go_ret3
          rw [HR.out, HV.out]
          exact ⟨rfl, _, rfl⟩
theorem ztd (width : Int) (xs : List Nat) (h : (fixF width xs).2.2 = 0) : 0 < xs.length /\ (fixF width xs).2.1 <= xs.length := by
  unfold fixF at h ⊢
  split at h
  · simp at h
  · rename_i h1
    rw [if_neg h1]
    split at h
    · simp at h
    · rename_i h2
      rw [if_neg h2]
      simp only
      omega
theorem zqs (g r : Nat) (xs : List Nat) (er : Nat) (ao : Option Addr) (cap : Nat) (width : Int) (w : World) (h : Rd w g r xs er ao cap) :
    Calls Tryz.prog 209 #[.pointer (some ⟨g, 0, none⟩), .int .i64 width] w fun e w' => e = .returned (.int .u64 ((rdBy (fixF width) 0 xs er).1 : Nat)) /\ ∃ ao' cap', Rd w' g r (rdBy (fixF width) 0 xs er).2.1 (rdBy (fixF width) 0 xs er).2.2 ao' cap' /\ Fr [g] w w' := by
  have hF := Fr.alloc [] w (.cells #[.int .i64 width] 3)
  have h' := h.keep hF (by simp) (by simp)
  have hb : (w.alloc (.cells #[.int .i64 width] 3)).cell? ⟨w.heap.size, 0, none⟩ = some (.int .i64 width) := cell_of_row _ _ _ _ _ _ (heap_alloc_new w _)
  have hA := zqr r w.heap.size ao _ cap xs width _ h'.sl rfl h'.cap hb
  have hsz := ztd width xs
  obtain ⟨f, hf⟩ : ∃ f, f = fixF width := ⟨_, rfl⟩
  rw [<- hf] at hA hsz ⊢
  clear hf hb
  go_enter Tryz.func209, Tryz.ntmps209
  go_wp2_with fail
  refine (zmt f g r _ xs er ao cap _ h' hsz (fun _ => hA)).mono ?_
  rintro e w' ⟨rfl, ao', cap', R1, R2⟩
  go_wp2
  go_ret
  exact ⟨rfl, ao', cap', R1, (Fr.alloc [g] w _).then R2⟩
theorem zvo (f x : Nat) (h : x < 128) : encF f x = [x] := by
  cases f with
  | zero => simp [encF, Nat.mod_eq_of_lt h]
  | succ f => simp [encF, h]
theorem zte (f x : Nat) (h : 128 <= x) : encF (f + 1) x = (128 + x % 128) :: encF f (x / 128) := by
  simp only [encF]
  rw [if_neg (by omega)]
theorem zqt : ∀ (xs : List Nat) (i n : Nat), i <= 9 -> (∀ x ∈ xs, x < 256) -> (zaa i n xs).2.2 = 0 ->
    ∃ v, (zaa i n xs).1 = n + 128 ^ i * v /\ encF (9 - i) v = xs.take ((zaa i n xs).2.1 - i) /\ (0 < i -> 0 < v) := by
  intro xs
  induction xs with
  | nil => intro i n _ _ h; simp [zaa] at h
  | cons x r ih =>
    intro i n hi hb h
    have hx := hb x (by simp)
    have hsz := zbs (x :: r) i n h
    rw [zcr] at h hsz ⊢
    split at h
    · simp at h
    · rename_i h1
      rw [if_neg h1] at hsz ⊢
      split at h
      · rename_i h2
        rw [if_pos h2]
        refine ⟨x, by rw [Nat.mul_comm], ?_, by omega⟩
        rw [zvo _ _ h2]
        simp
      · rename_i h2
        rw [if_neg h2] at hsz ⊢
        have hi8 : i <= 8 := by omega
        obtain ⟨v, e1, e2, e3⟩ := ih (i + 1) (n + x % 128 * 128 ^ i) (by omega) (fun y hy => hb y (by simp [hy])) h
        have hv := e3 (by omega)
        have hs2 := zbs r _ _ h
        refine ⟨x % 128 + 128 * v, ?_, ?_, by omega⟩
        · rw [e1, Nat.pow_succ, Nat.mul_add, Nat.mul_comm (128 ^ i) (x % 128), Nat.mul_assoc]
          omega
        · rw [show 9 - i = (9 - (i + 1)) + 1 by omega, zte _ _ (by omega)]
          rw [show (x % 128 + 128 * v) / 128 = v by omega, e2, show 128 + (x % 128 + 128 * v) % 128 = x by omega]
          rw [show (zaa (i + 1) (n + x % 128 * 128 ^ i) r).2.1 - i = ((zaa (i + 1) (n + x % 128 * 128 ^ i) r).2.1 - (i + 1)) + 1 by omega, List.take_succ_cons]
theorem zlf (xs : List Nat) (hb : ∀ x ∈ xs, x < 256) (h : (zaa 0 0 xs).2.2 = 0) : enc (zaa 0 0 xs).1 = xs.take (zaa 0 0 xs).2.1 := by
  obtain ⟨v, e1, e2, _⟩ := zqt xs 0 0 (by omega) hb h
  have : (zaa 0 0 xs).1 = v := by rw [e1]; simp
  rw [this]
  simpa [enc] using e2
theorem ztf (L : Nat) (xs : List Nat) (hb : ∀ x ∈ xs, x < 256) (h : (zao (L : Int) xs).2.2 = 0) :
    enc (zao (L : Int) xs).1.size ++ zbf (zao (L : Int) xs).1 = xs.take (zao (L : Int) xs).2.1 := by
  unfold zao at h ⊢
  rw [if_neg (by omega)] at h ⊢
  split at h
  · rename_i h2; exact absurd h h2
  · rename_i h2
    rw [if_neg h2]
    split at h
    · simp at h
    · rename_i h3
      rw [if_neg h3]
      split at h
      · simp at h
      · rename_i h4
        rw [if_neg h4]
        have h2' : (zaa 0 0 xs).2.2 = 0 := by simpa using h2
        have hs := zbs xs 0 0 h2'
        have he := zlf xs hb h2'
        simp only
        have hl : ((xs.drop (zaa 0 0 xs).2.1).take (zaa 0 0 xs).1).length = (zaa 0 0 xs).1 := by rw [List.length_take, List.length_drop]; omega
        rw [zle, hl, zqm _ (fun x hx => hb x (List.mem_of_mem_drop (List.mem_of_mem_take hx))), he, List.take_add]
structure BArg (w : World) (ao : Option Addr) (L cap : Nat) (xs : List Nat) : Prop where
  len : L = xs.length
  low : ∀ x ∈ xs, x < 256
  fits : L <= cap
  most : L <= 9223372036854775807
  lies : 0 < L -> ∃ b off, ao = some ⟨b, off, none⟩ /\ b < w.heap.size /\ ∀ j, j < L -> w.cell? ⟨b, off + j, none⟩ = some (.int .u8 ((xs.getD j 0 : Nat) : Int))
theorem BArg.keep {w w' : World} {ao : Option Addr} {L cap : Nat} {xs : List Nat} (h : BArg w ao L cap xs) (hf : Fr [] w w') : BArg w' ao L cap xs := by
  refine ⟨h.len, h.low, h.fits, h.most, fun h0 => ?_⟩
  obtain ⟨b, off, e, hb, hc⟩ := h.lies h0
  exact ⟨b, off, e, Nat.lt_of_lt_of_le hb hf.size, fun j hj => (World.cell?_of_block (hf.block b hb (by simp))).trans (hc j hj)⟩
theorem BArg.rs {w : World} {ao : Option Addr} {L cap : Nat} {xs : List Nat} (h : BArg w ao L cap xs) (hl : L < 2^41) : Rs w ao xs := by
  refine ⟨fun h0 => ?_, by rw [<- h.len]; exact hl⟩
  rw [<- h.len] at h0 ⊢
  obtain ⟨b, off, e, _, hc⟩ := h.lies h0
  exact ⟨b, off, e, hc⟩
theorem BArg.src {w : World} {ao : Option Addr} {L cap : Nat} {xs : List Nat} (h : BArg w ao L cap xs) : 0 < L -> ∃ a, ao = some a /\ ∀ j u, (bts xs)[j]? = some u -> w.cell? (a.add j) = some u := by
  intro h0
  obtain ⟨b, off, e, _, hc⟩ := h.lies h0
  refine ⟨_, e, fun j u hj => ?_⟩
  have hj' : j < xs.length := by have := (List.getElem?_eq_some_iff.1 hj).1; rwa [zac] at this
  rw [zch xs j hj'] at hj
  rw [show (⟨b, off, none⟩ : Addr).add j = ⟨b, off + j, none⟩ from by simp [Addr.add], hc j (by rw [h.len]; exact hj')]
  exact hj
def zqu (k : IntKind) (w : World) (a : Option Addr) (len cap : Nat) (zs : List Int) : Prop :=
  (a = none /\ len = 0 /\ cap = 0 /\ zs = []) \/
  ∃ x, a = some x /\ len <= cap /\ cap <= maxLen /\ zs.length = cap /\ (∀ i, i < zs.length -> w.cell? (x.add i) = some (.int k (zs.getD i 0))) /\ ∀ n ∈ zs, (Lit.int k n).wf = true
theorem BArg.of_row {w : World} {a : Option Addr} {len cap : Nat} {zs : List Int} (h : zqu .u8 w a len cap zs) : ∃ xs, BArg w a len cap xs := by
  rcases h with ⟨rfl, rfl, rfl, rfl⟩ | ⟨x, rfl, hl, hm, hz, hc, hw⟩
  · exact ⟨[], rfl, by simp, Nat.le_refl _, by omega, fun h => by omega⟩
  · have hbd : ∀ n ∈ zs, 0 <= n /\ n <= 255 := fun n hn => bounds_u8 (hw n hn)
    refine ⟨(zs.take len).map Int.toNat, ?_, ?_, hl, by simp only [maxLen] at hm; omega, ?_⟩
    · simp [hz]; omega
    · intro y hy
      obtain ⟨n, hn, rfl⟩ := List.mem_map.1 hy
      have := hbd n (List.mem_of_mem_take hn)
      omega
    · intro h0
      obtain ⟨b, off, spot⟩ := x
      have hspot : spot = none := by simpa [Addr.add] using World.cell?_spot (hc 0 (by omega))
      subst hspot
      refine ⟨b, off, rfl, ?_, fun j hj => ?_⟩
      · have := World.block_lt_of_cell? w _ (hc 0 (by omega))
        simpa [Addr.add] using this
      · have h1 := hc j (by omega)
        rw [show (⟨b, off, none⟩ : Addr).add j = ⟨b, off + j, none⟩ from by simp [Addr.add]] at h1
        rw [h1]
        have hjz : j < zs.length := by omega
        have hg : zs.getD j 0 = zs[j] := by simp [List.getD, hjz]
        have hb := hbd zs[j] (List.getElem_mem _)
        have e : ((zs.take len).map Int.toNat).getD j 0 = (zs[j]).toNat := by simp [List.getD, hj, hjz]
        rw [hg, e]
        congr 2
        omega
theorem zlg (xs : List Nat) (i x : Nat) (h : i < xs.length) (hx : x = xs.getD i 0) : xs.take (i + 1) = xs.take i ++ [x] := by
  have hget : xs[i]? = some x := by rw [hx, List.getD, List.getElem?_eq_getElem h]; rfl
  rw [List.take_add_one, hget]
  rfl
end Go.Proofs.YtembflnhhfliaaaGreatDoor
