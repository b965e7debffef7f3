/- For every list of parts and every two marks the law ShardReads returns true, and the list reads as it did. No conditions. -/
import Derived.Test.YtkplammapbiebaaHw9
namespace Go.Proofs.Ytkplammapbiebaa.shardReads
open Go.ChangeShapes Go.WideShapes Go.ChangeAt Go.RowKit Go.Lib Go.Maps
set_option linter.unusedVariables false
set_option linter.unusedSimpArgs false

theorem at_all (M : ByteArray → List Vn) (m : Int) (s : ByteArray) : atMark M ⟨#[]⟩ ⟨#[]⟩ m s = valAt (M s) m := by
  unfold atMark
  rw [if_pos (inS_all2 s)]
theorem ent_at {M : ByteArray → List Vn} {m : Int} {bs : List Pr} (h : Is (atMark M ⟨#[]⟩ ⟨#[]⟩ m) bs) (i : Nat) (hi : i < bs.length) : valAt (M (bs.getD i e0).1) m = some (bs.getD i e0).2 := by
  rw [← at_all]
  exact (h.mem _).1 (by simp [List.getD, hi])
theorem ent_ne {M : ByteArray → List Vn} {m : Int} {s v : ByteArray} (h : valAt (M s) m = some v) : M s ≠ [] := fun e => by rw [e, valAt_nil] at h; cases h
theorem found_iff {M : ByteArray → List Vn} {m : Int} {bs : List Pr} (h : Is (atMark M ⟨#[]⟩ ⟨#[]⟩ m) bs) (key : ByteArray) : (∃ l, l < bs.length ∧ (bs.getD l e0).1 = key) ↔ (valAt (M key) m).isSome = true := by
  constructor
  · rintro ⟨l, hl, e⟩
    have := ent_at h l hl
    rw [e] at this
    rw [this]
    rfl
  · intro hs
    obtain ⟨v, hv⟩ := Option.isSome_iff_exists.1 hs
    have hm : (key, v) ∈ bs := (h.mem (key, v)).2 (by rw [at_all]; exact hv)
    obtain ⟨l, hl, e⟩ := List.mem_iff_getElem.1 hm
    exact ⟨l, hl, by simp [List.getD, hl, e]⟩
theorem ers_keepS {w0 w w' : World} {b : Nat} {ro : Option Addr} {bs : List Pr} (h : ERs w ro bs) (hf : FrS w0 b w w') (hb : ∃ es c, w.heap[b]? = some (.map es c)) : ERs w' ro bs :=
  ⟨h.few, fun h0 => by obtain ⟨g, cur, e, hg, ht⟩ := h.lies h0; exact ⟨g, cur, e, hf.keep hg hb (by decide), ht⟩⟩
theorem low_snoc (vs : List Vn) (k : Int) (i : Nat) (h : i < vs.length) : ((vs.take (i + 1)).filter fun v => decide (v.num ≤ k)).length = ((vs.take i).filter fun v => decide (v.num ≤ k)).length + if (vs.getD i Vn.zero).num ≤ k then 1 else 0 := by
  rw [vtake_snoc vs i h, List.filter_append, List.length_append]
  congr 1
  obtain ⟨x, hx⟩ : ∃ x, x = vs.getD i Vn.zero := ⟨_, rfl⟩
  rw [← hx]
  by_cases hk : x.num ≤ k <;> simp [hk]
theorem low_le (vs : List Vn) (k : Int) (i : Nat) : ((vs.take i).filter fun v => decide (v.num ≤ k)).length ≤ i := by
  have := List.length_filter_le (fun v : Vn => decide (v.num ≤ k)) (vs.take i)
  simp only [List.length_take] at this
  omega
set_option maxHeartbeats 32000000 in
set_option maxRecDepth 100000 in
theorem walk (ao : Option Addr) (L cap : Nat) (ps : List Pt) (k : Nat) (hk : k < 256) (a : Nat) (ha : a < 256) (w : World) (hP : PRs w ao ps) (hL : L = ps.length) :
    Calls Try.prog 4 #[.slice ao L cap, .int .u8 (k : Int), .int .u8 (a : Int)] w fun e w' => e = .returned (.bool true) ∧ Fr [] w w' := by
  have HL : Hid (L = ps.length) := hL
  have HP : Hid (∀ W, Fr [] w W → PRs W ao ps) := fun W hf => hP.keep hf
  have hLL : L ≤ 4398046511104 := by have := hP.few; omega
  clear hP hL
  go_enter Try.func4, Try.ntmps4
  go_wp2_with fail
  refine (alive9_any _).mono ?_
  rintro e w1 ⟨rfl, hF1⟩
  have HZ : Hid (Calls _ _ _ _ _) := size9_any ao L cap ps w1 (HP.out _ hF1) HL.out
  have HF1 : Hid (Fr [] w w1) := hF1
  clear hF1
  go_wp2_with fail
  refine Calls.mono HZ.out ?_
  rintro e w2 ⟨N0, rfl, hN0, hF2⟩
  have HF2 : Hid (Fr [] w w2) := HF1.out.then hF2
  clear HZ hF2 HF1
  go_wp2_with fail
  refine (beyond_any w2.heap.size N0 _ (by omega) (by simp)).mono ?_
  rintro e w3 ⟨rfl, rfl⟩
  obtain ⟨w3, HW3⟩ : ∃ w3, Hid (w2.alloc (.cells #[.int .i64 (N0 : Int)] 3) = w3) := ⟨_, rfl⟩
  rw [HW3.out]
  have HF3 : Hid (Fr [] w w3) := by rw [← HW3.out]; exact HF2.out.then (Fr.alloc [] _ _)
  clear HW3 HF2
  obtain ⟨Bq, hBq⟩ : ∃ Bq, Bq = decide (1048576 < N0) := ⟨_, rfl⟩
  rw [← hBq]
  clear hBq
  cases Bq with
  | true =>
    go_wp2_with fail
    refine (alive9_any _).mono ?_
    rintro e w4 ⟨rfl, hF4⟩
    go_wp2
    go_ret
    exact ⟨rfl, HF3.out.then hF4⟩
  | false =>
    have HFi : Hid (Calls _ _ _ _ _) := filled_any ao L cap ps w3 (HP.out _ HF3.out) HL.out
    go_wp2_with fail
    refine Calls.mono HFi.out ?_
    rintro e w4 ⟨sb, b, M, ri, Ni, rci, ins, rfl, hFil⟩
    have HS : Hid (∀ W, Fr [] w4 W → Sh w3 W sb b 200 M) := fun W hf => hFil.sh.keep hf
    have HF4 : Hid (Fr [] w w4) := HF3.out.then hFil.fr
    have hNi : Ni ≤ 200 := by
      have h1 := hFil.goes.len
      have h2 := hFil.row.len
      simp only [List.length_take] at h1
      omega
    have HIn : Hid (Ni = ins.length ∧ HoldsP M ins ∧ (∀ p ∈ ins, okP p) ∧ ∀ k, okV (M k)) := ⟨hFil.row.len, hFil.holds, hFil.goes.ok, hFil.sh.ok⟩
    have HR : Hid (∀ W, Fr [] w4 W → PRs W ri ins) := fun W hf => (hFil.row.keep hf).rs (by have := hFil.row.len; omega) (fun x hx => okP_each (hFil.goes.ok x hx))
    have HDis : Hid (DisP ins) := hFil.goes.dis
    have HW4 : Hid (Fr [] w3 w4) := hFil.fr
    have HF3b : Hid (Fr [] w w3) := HF3
    clear hFil HFi HF3 HP
    obtain ⟨mm, hmx, hkm, ham⟩ : ∃ mm : Nat, max (k : Int) (a : Int) = (mm : Int) ∧ k ≤ mm ∧ a ≤ mm := ⟨max k a, by omega, by omega, by omega⟩
    have hmm : mm < 256 ∧ (mm : Int) < 256 := by omega
    have HDi : Hid (DisP ins) := HDis.out
    have HC1 : Hid (Calls _ _ _ _ _) := hScan_any ⟨#[]⟩ ⟨#[]⟩ (mm : Int) w4 (HS.out _ (Fr.refl _ _)) (by omega)
    go_wp2_with fail
    refine Calls.mono HC1.out ?_
    rintro e w5 ⟨rb, Nb, rcb, bs, rfl, hEb, hNb, hIb, hF5⟩
    have HEb : Hid (∀ W, Fr [] w5 W → ERs W rb bs) := fun W hf => (ers_of hEb.row hEb.len (by have := hEb.len; omega)).keep hf
    have HIb : Hid (Is (atMark M ⟨#[]⟩ ⟨#[]⟩ (mm : Int)) bs ∧ Nb = bs.length) := ⟨hIb, hEb.len⟩
    have HF5 : Hid (Fr [] w4 w5) := hF5
    clear HC1 hEb hIb hF5 hkm
    go_wp2_with fail
    -- each key reads as its newest write
    go_loopw [11] (fun ii wr => ∃ (i : Nat), ii = .int .i64 i ∧ i ≤ Ni ∧ Hid (Fr [] w5 wr)) (fun ii _ => Ni - (RowKit.intOf ii).toNat)
    case atStart => exact ⟨0, rfl, Nat.zero_le _, Fr.refl _ _⟩
    case round =>
      obtain ⟨i, rfl, hiN, HF⟩ := hrel
      by_cases hi : i < Ni
      · have hi' : i < ins.length := by rw [← HIn.out.1]; exact hi
        have HCk : Hid (∀ W, Fr [] w5 W → ∃ pb off, ri = some ⟨pb, off, none⟩ ∧ W.cell? ⟨pb, off + i * 4 + 1, none⟩ = some (.string (ins.getD i Pt.zero).key)) := fun W hf => by
          obtain ⟨pb, off, e, _, hat⟩ := (HR.out W (HF5.out.then hf)).lies (by omega)
          exact ⟨pb, off, e, (hat i hi').c1⟩
        have hkz : (ins.getD i Pt.zero).key.size ≤ 64 := (HIn.out.2.2.1 _ (pgetD_mem ins i hi')).1.2
        obtain ⟨key, hkey⟩ : ∃ key, key = (ins.getD i Pt.zero).key := ⟨_, rfl⟩
        rw [← hkey] at hkz HCk
        clear hkey
        obtain ⟨pb, off, rfl, c1⟩ := HCk.out _ HF.out
        have HG1 : Hid (Calls _ _ _ _ _) := hget_any key (mm : Int) wr (HS.out _ (HF5.out.then HF.out)) (by omega)
        go_wp2_with fail
        refine Calls.mono HG1.out ?_
        rintro e w6 ⟨rfl, hF6⟩
        obtain ⟨pb', off', e, c1'⟩ := HCk.out _ (HF.out.then hF6)
        cases e
        have HNw : Hid (Calls Try.prog 17 #[.slice (some ⟨pb, off, none⟩) Ni rci, .string key, .int .i64 (mm : Int)] w6 fun e w' => ∃ val, e = .returned (.tuple #[.string val, .bool (valAt (M key) (mm : Int)).isSome]) ∧ ((valAt (M key) (mm : Int)).isSome = true → val = (valAt (M key) (mm : Int)).getD noS) ∧ Fr [] w6 w') := by
          refine (newest_any (some ⟨pb, off, none⟩) Ni rci ins key (mm : Int) w6 (HR.out w6 (HF5.out.then (HF.out.then hF6))) HIn.out.1 HIn.out.2.2.1 hNi).mono ?_
          rintro e w' ⟨best, val, ok, rfl, hW, hF'⟩
          rw [HIn.out.1] at hW
          obtain ⟨h1, h2⟩ := hW.told HIn.out.2.1 HIn.out.2.2.2
          subst h1
          exact ⟨val, rfl, h2, hF'⟩
        have HF6 : Hid (Fr [] w5 w6) := HF.out.then hF6
        clear HG1 hF6 HF
        obtain ⟨gv, hgv⟩ : ∃ gv, gv = (valAt (M key) (mm : Int)).getD noS := ⟨_, rfl⟩
        obtain ⟨gb, hgb⟩ : ∃ gb, gb = (valAt (M key) (mm : Int)).isSome := ⟨_, rfl⟩
        rw [← hgv, ← hgb] at HNw ⊢
        clear hgv hgb
        go_wp2_with fail
        refine Calls.mono HNw.out ?_
        rintro e w7 ⟨val, rfl, hval, hF7⟩
        have HF7 : Hid (Fr [] w5 w7) := HF6.out.then hF7
        clear HNw hF7 HF6
        cases gb with
        | true =>
          obtain rfl := hval rfl
          clear hval
          go_wp2_with fail
          go_roundw
          case rel => exact ⟨i + 1, by simp, by omega, HF7⟩
          case measure => simp [RowKit.intOf]; omega
        | false =>
          clear hval
          go_wp2_with fail
          go_roundw
          case rel => exact ⟨i + 1, by simp, by omega, HF7⟩
          case measure => simp [RowKit.intOf]; omega
      · -- Scan has what Get has, rising
        have HFa : Hid (Fr [] w5 wr) := HF
        clear HF
        go_wp2_with fail
        go_loopw [16] (fun ii wr => ∃ (i : Nat), ii = .int .i64 i ∧ i ≤ Nb ∧ Hid (Fr [] w5 wr)) (fun ii _ => Nb - (RowKit.intOf ii).toNat)
        case atStart => exact ⟨0, rfl, Nat.zero_le _, HFa⟩
        case round =>
          clear HFa
          obtain ⟨i, rfl, hiN, HF⟩ := hrel
          by_cases hi : i < Nb
          · have hi' : i < bs.length := by rw [← HIb.out.2]; exact hi
            have hv := ent_at HIb.out.1 i hi'
            obtain ⟨g, rfl, c0, c1⟩ := (HEb.out _ HF.out).at i hi'
            have HCe : Hid (∀ W, Fr [] w5 W → W.cell? ⟨g, i * 2, none⟩ = some (.string (bs.getD i e0).1) ∧ W.cell? ⟨g, i * 2 + 1, none⟩ = some (.string (bs.getD i e0).2)) := fun W hf => by
              obtain ⟨g', e, r0, r1⟩ := (HEb.out W hf).at i hi'
              cases e
              exact ⟨r0, r1⟩
            have HLo : Hid (∀ i', i = i' + 1 → (∀ W, Fr [] w5 W → W.cell? ⟨g, i' * 2, none⟩ = some (.string (bs.getD i' e0).1)) ∧ Op.bytesLess (bs.getD i' e0).1.toList (bs.getD i e0).1.toList = true) := fun i' e => ⟨fun W hf => by
              obtain ⟨g', e2, r0, _⟩ := (HEb.out W hf).at i' (by omega)
              cases e2
              exact r0, inc_getD HIb.out.1.inc (by omega) hi'⟩
            obtain ⟨x, hx⟩ : ∃ x, x = bs.getD i e0 := ⟨_, rfl⟩
            rw [← hx] at c0 c1 HCe HLo hv
            clear hx
            obtain ⟨xk, xv⟩ := x
            simp only at c0 c1 HCe HLo hv
            have hok := (HS.out _ (HF5.out.then HF.out)).keyok (ent_ne hv)
            have HG1 : Hid (Calls Try.prog 16 #[.pointer (some ⟨sb, 0, none⟩), .string xk, .int .i64 (mm : Int)] wr fun e w' => e = .returned (.tuple #[.string xv, .bool true]) ∧ Fr [] wr w') := by
              have := hget_any xk (mm : Int) wr (HS.out _ (HF5.out.then HF.out)) (by have := hok.2; omega)
              rw [hv] at this
              exact this
            clear hv hok
            go_wp2_with fail
            refine Calls.mono HG1.out ?_
            rintro e w6 ⟨rfl, hF6⟩
            have HF6 : Hid (Fr [] w5 w6) := HF.out.then hF6
            clear HG1 hF6 HF c0 c1
            obtain ⟨c0, c1⟩ := HCe.out _ HF6.out
            by_cases hz : i = 0
            · subst hz
              have hd0 : decide ((0 : Int) < ((0 : Nat) : Int)) = false := by simp
              clear HLo
              go_wp2_with fail
              go_quiet (fail)
              go_wp2_with fail
              go_roundw
              case rel => exact ⟨0 + 1, by simp, by omega, HF6.out.then (Fr.drewN _ _ _)⟩
              case measure => simp [RowKit.intOf]; omega
            · obtain ⟨i', hi1⟩ : ∃ i', Hid (i = i' + 1) := ⟨i - 1, (show i = i - 1 + 1 by omega)⟩
              obtain ⟨hc, hless⟩ := HLo.out i' hi1.out
              have c2 := hc _ HF6.out
              have hii : (i : Int) - 1 = (i' : Int) := by have := hi1.out; omega
              have hib : i' < Nb := by have := hi1.out; omega
              have hd0 : decide ((0 : Int) < (i : Int)) = true := by simp; omega
              have hd1 : decide (0 < i) = true := by simp; omega
              obtain ⟨yk, hyk⟩ : ∃ yk, yk = (bs.getD i' e0).1 := ⟨_, rfl⟩
              rw [← hyk] at c2 hless
              clear hyk hc HLo
              go_wp2_with fail
              go_quiet (fail)
              go_wp2_with fail
              go_roundw
              case rel => exact ⟨i + 1, by simp, by omega, HF6.out.then (Fr.drewN _ _ _)⟩
              case measure => simp [RowKit.intOf]; omega
          · -- Scan has just the keys that have a value
            have HFa : Hid (Fr [] w5 wr) := HF
            clear HF
            go_wp2_with fail
            go_loopw [19] (fun ii wr => ∃ (i : Nat), ii = .int .i64 i ∧ i ≤ Ni ∧ Hid (Fr [] w5 wr)) (fun ii _ => Ni - (RowKit.intOf ii).toNat)
            case atStart => exact ⟨0, rfl, Nat.zero_le _, HFa⟩
            case round =>
              clear HFa
              obtain ⟨i, rfl, hiN, HF⟩ := hrel
              by_cases hi : i < Ni
              · have hi' : i < ins.length := by rw [← HIn.out.1]; exact hi
                obtain ⟨pb, off, rfl, _, _⟩ := (HR.out wr (HF5.out.then HF.out)).lies (by omega)
                have HCk : Hid (∀ W, Fr [] w5 W → W.cell? ⟨pb, off + i * 4 + 1, none⟩ = some (.string (ins.getD i Pt.zero).key)) := fun W hf => by
                  obtain ⟨pb', off', e, _, hat⟩ := (HR.out W (HF5.out.then hf)).lies (by omega)
                  cases e
                  exact (hat i hi').c1
                have hkz : (ins.getD i Pt.zero).key.size ≤ 64 := (HIn.out.2.2.1 _ (pgetD_mem ins i hi')).1.2
                obtain ⟨key, hkey⟩ : ∃ key, key = (ins.getD i Pt.zero).key := ⟨_, rfl⟩
                rw [← hkey] at hkz HCk
                clear hkey
                have c1 := HCk.out _ HF.out
                have HG1 : Hid (Calls _ _ _ _ _) := hget_any key (mm : Int) wr (HS.out _ (HF5.out.then HF.out)) (by omega)
                have HFo : Hid ((∃ l, l < bs.length ∧ (bs.getD l e0).1 = key) ↔ (valAt (M key) (mm : Int)).isSome = true) := found_iff HIb.out.1 key
                go_wp2_with fail
                refine Calls.mono HG1.out ?_
                rintro e w6 ⟨rfl, hF6⟩
                have HF6 : Hid (Fr [] w5 w6) := HF.out.then hF6
                clear HG1 hF6 HF c1
                obtain ⟨gv, hgv⟩ : ∃ gv, gv = (valAt (M key) (mm : Int)).getD noS := ⟨_, rfl⟩
                obtain ⟨gb, hgb⟩ : ∃ gb, gb = (valAt (M key) (mm : Int)).isSome := ⟨_, rfl⟩
                rw [← hgb] at HFo
                rw [← hgv, ← hgb]
                clear hgv hgb
                go_wp2_with fail
                go_loopw [22, 23] (fun ff jj wr => ∃ (fb : Bool) (j : Nat), ff = .bool fb ∧ jj = .int .i64 j ∧ j ≤ Nb ∧ Hid (fb = true ↔ ∃ l, l < j ∧ (bs.getD l e0).1 = key) ∧ Hid (Fr [] w5 wr)) (fun _ jj _ => Nb - (RowKit.intOf jj).toNat)
                case atStart => exact ⟨false, 0, rfl, rfl, Nat.zero_le _, ⟨fun h => (by cases h), fun ⟨l, hl, _⟩ => by omega⟩, HF6⟩
                case round =>
                  clear HF6
                  obtain ⟨fb, j, rfl, rfl, hjN, HM, HF6⟩ := hrel
                  by_cases hj : j < Nb
                  · have hj' : j < bs.length := by rw [← HIb.out.2]; exact hj
                    obtain ⟨g, rfl, c0, _⟩ := (HEb.out _ HF6.out).at j hj'
                    have c1 := HCk.out _ HF6.out
                    obtain ⟨xk, hxk⟩ : ∃ xk, xk = (bs.getD j e0).1 := ⟨_, rfl⟩
                    rw [← hxk] at c0
                    obtain ⟨t1, ht1⟩ : ∃ t, (xk.toList == key.toList) = t := ⟨_, rfl⟩
                    have HMs : Hid ((fb || t1) = true ↔ ∃ l, l < j + 1 ∧ (bs.getD l e0).1 = key) := by
                      have h1 : t1 = true ↔ xk = key := by rw [← ht1, beq_iff_eq, tl_inj]
                      show _ ↔ _
                      rw [Bool.or_eq_true, HM.out, h1, hxk]
                      constructor
                      · rintro (⟨l, hl, e⟩ | e)
                        · exact ⟨l, by omega, e⟩
                        · exact ⟨j, by omega, e⟩
                      · rintro ⟨l, hl, e⟩
                        by_cases hlj : l < j
                        · exact Or.inl ⟨l, hlj, e⟩
                        · obtain rfl : l = j := by omega
                          exact Or.inr e
                    clear HM hxk
                    have hway : fb = true ∨ (fb = false ∧ t1 = false) ∨ (fb = false ∧ t1 = true) := by cases fb <;> cases t1 <;> simp
                    rcases hway with rfl | ⟨rfl, rfl⟩ | ⟨rfl, rfl⟩
                    · go_wp2_with fail
                      go_quiet (fail)
                      go_wp2_with fail
                      go_roundw
                      case rel => exact ⟨true, j + 1, rfl, by simp, by omega, (by simpa using HMs), HF6.out.then (Fr.drewN _ _ _)⟩
                      case measure => simp [RowKit.intOf]; omega
                    · go_wp2_with fail
                      go_quiet (fail)
                      go_wp2_with fail
                      go_roundw
                      case rel => exact ⟨false, j + 1, rfl, by simp, by omega, (by simpa using HMs), HF6.out.then (Fr.drewN _ _ _)⟩
                      case measure => simp [RowKit.intOf]; omega
                    · go_wp2_with fail
                      go_quiet (fail)
                      go_wp2_with fail
                      go_roundw
                      case rel => exact ⟨true, j + 1, rfl, by simp, by omega, (by simpa using HMs), HF6.out.then (Fr.drewN _ _ _)⟩
                      case measure => simp [RowKit.intOf]; omega
                  · have hfb : fb = gb := by
                      have h1 := HM.out
                      have h2 := HFo.out
                      rw [← HIb.out.2] at h2
                      have hjb : j = Nb := by omega
                      rw [hjb, h2] at h1
                      cases fb <;> cases gb <;> simp at h1 <;> rfl
                    subst hfb
                    clear HM HFo
                    go_wp2_with fail
                    go_roundw
                    case rel => exact ⟨i + 1, by simp, by omega, HF6⟩
                    case measure => simp [RowKit.intOf]; omega
              · -- Collect
                have HFa : Hid (Fr [] w5 wr) := HF
                have HZ1 : Hid (Calls Try.prog 13 #[.pointer (some ⟨sb, 0, none⟩)] wr fun e w' => e = .returned (.int .i64 (Ni : Int)) ∧ SzT M Ni ∧ Fr [] wr w') := by
                  refine (hsize_any wr (HS.out _ (HF5.out.then HF.out)) (by omega)).mono ?_
                  rintro e w' ⟨S, rfl, hS, hF'⟩
                  obtain rfl : S = Ni := by rw [hS.holds HIn.out.2.1 HIn.out.2.2.2 HDi.out, HIn.out.1]
                  exact ⟨rfl, hS, hF'⟩
                clear HF
                go_wp2_with fail
                refine Calls.mono HZ1.out ?_
                rintro e w6 ⟨rfl, hSz, hF6⟩
                have HSz : Hid (SzT M Ni) := hSz
                have HF6 : Hid (Fr [] w5 w6) := HFa.out.then hF6
                clear HZ1 hSz hF6 HFa
                have HCo : Hid (Calls _ _ _ _ _) := hcollect_any (a : Int) w6 (HS.out _ (HF5.out.then HF6.out)) (HW4.out.then (HF5.out.then HF6.out)).size (by omega)
                go_wp2_with fail
                refine Calls.mono HCo.out ?_
                rintro e w7 ⟨Sg, rfl, hGo, hSg, hS7, hF7⟩
                have HE7 : Hid (∀ W, Fr [] w7 W → ERs W rb bs) := fun W hf => (ers_keepS (HEb.out _ HF6.out) hF7 (HS.out _ (HF5.out.then HF6.out)).mb).keep hf
                have HS7 : Hid (∀ W, Fr [] w7 W → Sh w3 W sb b 200 (fun s => colV (M s) (a : Int))) := fun W hf => hS7.keep hf
                have HF7 : Hid (Fr [] w w7) := HF3b.out.then (hF7.below (HS.out _ (HF5.out.then HF6.out)).bn (HW4.out.then (HF5.out.then HF6.out)))
                have HGo : Hid (GoT M (a : Int) Sg) := hGo
                clear HCo hGo hS7 hF7 HF6 HEb HR HF5 HS HW4 HF3b
                have HAl : Hid (Calls _ _ _ _ _) := hall_any w7 (HS7.out _ (Fr.refl _ _)) (by omega)
                go_wp2_with fail
                refine Calls.mono HAl.out ?_
                rintro e w8 ⟨rd, Nd, cd, hs, rfl, hO8, hNd, hPk, hF8⟩
                have hLo : LoOk hs := hPk.ok (fun s hs => (HS7.out w7 (Fr.refl _ _)).keyok hs) (fun s => colV_ok (HIn.out.2.2.2 s) _)
                have HHr : Hid (∀ W, Fr [] w8 W → HRs W rd hs) := fun W hf => (hO8.rs hLo (by omega)).keep hf
                have HPk : Hid (PkT (fun s => colV (M s) (a : Int)) (fun s => colV (M s) (a : Int)) hs ∧ Nd = hs.length) := ⟨hPk, hO8.len⟩
                have HF8 : Hid (Fr [] w7 w8) := hF8
                clear HAl hO8 hPk hLo hF8
                go_wp2_with fail
                go_loopw [27] (fun ii wr => ∃ (i : Nat), ii = .int .i64 i ∧ i ≤ Nd ∧ Hid (Fr [] w8 wr)) (fun ii _ => Nd - (RowKit.intOf ii).toNat)
                case atStart => exact ⟨0, rfl, Nat.zero_le _, Fr.refl _ _⟩
                case round =>
                  obtain ⟨i, rfl, hiN, HF⟩ := hrel
                  by_cases hi : i < Nd
                  · have hi' : i < hs.length := by rw [← HPk.out.2]; exact hi
                    obtain ⟨g, goff, rfl, _, _⟩ := (HHr.out wr HF.out).lies (by omega)
                    have HD : Hid (∀ W, Fr [] w8 W → W.cell? ⟨g, goff + i * 2 + 1, none⟩ = some (.slice (hs.getD i Hd.zero).vo (hs.getD i Hd.zero).L (hs.getD i Hd.zero).cap)) := fun W hf => by
                      obtain ⟨g', goff', e, _, hat⟩ := (HHr.out W hf).lies (by omega)
                      cases e
                      exact (hat i hi').2
                    have HEa : Hid (∀ W, Fr [] w8 W → HEach W (hs.getD i Hd.zero)) := fun W hf => (HHr.out W hf).each _ (hgetD_mem hs i hi')
                    have hpk := HPk.out.1.is _ (hgetD_mem hs i hi')
                    have HLw : Hid (((hs.getD i Hd.zero).vs.filter fun v => decide (v.num ≤ (a : Int))).length ≤ 1 ∧ (hs.getD i Hd.zero).vs ≠ []) := ⟨by rw [hpk.1]; exact colV_low (HIn.out.2.2.2 _) _, by rw [hpk.1]; exact hpk.2.1⟩
                    obtain ⟨hx, hhx⟩ : ∃ hx, hx = hs.getD i Hd.zero := ⟨_, rfl⟩
                    rw [← hhx] at HD HEa HLw
                    clear hpk hhx
                    obtain ⟨hkey, vo, Lv, cv, vs⟩ := hx
                    simp only at HD HLw
                    have HLe : Hid (Lv = vs.length) := (HEa.out _ HF.out).len
                    have hLv : Lv ≤ 4398046511104 := by have h1 := (HEa.out _ HF.out).len; have h2 := (HEa.out _ HF.out).rs.few; simp only at h1 h2; omega
                    go_wp2_with fail
                    go_loopw [28, 29] (fun ll jj wr => ∃ (lo j : Nat), ll = .int .i64 lo ∧ jj = .int .i64 j ∧ j ≤ Lv ∧ lo ≤ j ∧ Hid (lo = ((vs.take j).filter fun v => decide (v.num ≤ (a : Int))).length) ∧ Hid (Fr [] w8 wr)) (fun _ jj _ => Lv - (RowKit.intOf jj).toNat)
                    case atStart => exact ⟨0, 0, rfl, rfl, Nat.zero_le _, Nat.le_refl _, rfl, HF⟩
                    case round =>
                      clear HF
                      obtain ⟨lo, j, rfl, rfl, hjN, hlj, HQ, HF⟩ := hrel
                      have d1 := HD.out _ HF.out
                      by_cases hj : j < Lv
                      · have hj' : j < vs.length := by rw [← HLe.out]; exact hj
                        obtain ⟨vb, voff, hvo, _, hvat⟩ := (HEa.out _ HF.out).rs.lies (by simp only; omega)
                        simp only at hvo hvat
                        subst hvo
                        have c0 := (hvat j hj').c0
                        have hsn := low_snoc vs (a : Int) j hj'
                        obtain ⟨xn, hxn⟩ : ∃ xn, xn = (vs.getD j Vn.zero).num := ⟨_, rfl⟩
                        rw [← hxn] at c0 hsn
                        clear hvat hxn
                        by_cases hle : xn ≤ (a : Int)
                        · have HQ2 : Hid (lo + 1 = ((vs.take (j + 1)).filter fun v => decide (v.num ≤ (a : Int))).length) := by
                            show _ = _
                            rw [hsn, if_pos hle, ← HQ.out]
                          clear hsn HQ
                          go_wp2_with fail
                          go_roundw
                          case rel => exact ⟨lo + 1, j + 1, by simp, by simp, by omega, by omega, HQ2, HF⟩
                          case measure => simp [RowKit.intOf]; omega
                        · have HQ2 : Hid (lo = ((vs.take (j + 1)).filter fun v => decide (v.num ≤ (a : Int))).length) := by
                            show _ = _
                            rw [hsn, if_neg hle, ← HQ.out]
                            rfl
                          clear hsn HQ
                          go_wp2_with fail
                          go_roundw
                          case rel => exact ⟨lo, j + 1, rfl, by simp, by omega, by omega, HQ2, HF⟩
                          case measure => simp [RowKit.intOf]; omega
                      · have hlo : lo ≤ 1 := by
                          have h1 := HQ.out
                          rw [List.take_of_length_le (by have := HLe.out; omega)] at h1
                          rw [h1]
                          exact HLw.out.1
                        have hLv0 : Lv ≠ 0 := fun e => HLw.out.2 (List.eq_nil_of_length_eq_zero (by have := HLe.out; omega))
                        have hd1 : decide ((1 : Int) < (lo : Int)) = false := by simp; omega
                        have hd2 : decide (1 < lo) = false := by simp; omega
                        have hd3 : ((Lv : Int) == 0) = false := by simp; omega
                        clear HQ
                        go_wp2_with fail
                        go_roundw
                        case rel => exact ⟨i + 1, by simp, by omega, HF⟩
                        case measure => simp [RowKit.intOf]; omega
                  · -- the end
                    have HFb : Hid (Fr [] w7 wr) := HF8.out.then HF.out
                    have HZ2 : Hid (Calls Try.prog 13 #[.pointer (some ⟨sb, 0, none⟩)] wr fun e w' => ∃ S2 : Nat, e = .returned (.int .i64 (S2 : Int)) ∧ S2 + Sg = Ni ∧ Fr [] wr w') := by
                      refine (hsize_any wr (HS7.out _ HFb.out) (by omega)).mono ?_
                      rintro e w' ⟨S, rfl, hS, hF'⟩
                      exact ⟨S, rfl, HGo.out.size HSz.out hS, hF'⟩
                    clear HF HF8
                    go_wp2_with fail
                    refine Calls.mono HZ2.out ?_
                    rintro e w9 ⟨S2, rfl, hSS, hF9⟩
                    have hsub : (Ni : Int) - (Sg : Int) = (S2 : Int) := by omega
                    have hS2 : S2 ≤ 200 := by omega
                    have HF9 : Hid (Fr [] w7 w9) := HFb.out.then hF9
                    have HC2 : Hid (Calls _ _ _ _ _) := hScan_any ⟨#[]⟩ ⟨#[]⟩ (mm : Int) w9 (HS7.out _ HF9.out) (by omega)
                    clear HZ2 hSS hF9 HFb
                    go_wp2_with fail
                    refine Calls.mono HC2.out ?_
                    rintro e w10 ⟨r2, N2, rc2, q2, rfl, hE2, hN2, hI2, hF10⟩
                    have hqq : q2 = bs := by
                      refine hI2.unique (HIb.out.1.cong fun s => ?_)
                      rw [at_all, at_all]
                      exact (colV_val (HIn.out.2.2.2 s) (by omega)).symm
                    subst hqq
                    obtain rfl : N2 = Nb := by rw [hE2.len, HIb.out.2]
                    have HSe : Hid (Calls _ _ _ _ _) := sameEntries_any r2 rb N2 rc2 rcb q2 w10 (ers_of hE2.row hE2.len (by have := hE2.len; omega)) (HE7.out _ (HF9.out.then hF10)) hE2.len
                    have HF10 : Hid (Fr [] w7 w10) := HF9.out.then hF10
                    clear HC2 hE2 hI2 hF10
                    go_wp2_with fail
                    refine Calls.mono HSe.out ?_
                    rintro e w11 ⟨rfl, hF11⟩
                    go_wp2
                    go_ret
                    exact ⟨rfl, HF7.out.then (HF10.out.then hF11)⟩

theorem own : ownKnob Try.prog.godebug = none := by kernel_rfl
theorem laidOut : laidOutB Try.prog = true := by kernel_rfl
set_option maxHeartbeats 4000000 in
set_option maxRecDepth 100000 in
theorem lifted (os : Os) (started : os.Started) (H : Type) (enc : TypeId × Value → H) :
    ReturnsInHanded {} Try.checked os 4 .any (Rows.shardReadsSpec.pre6 enc Try.prog Try.f4 Rows.shardReadsRow.domain false) (Rows.shardReadsSpec.post enc Try.prog Try.f4 false true false false) := by
  refine returnsInHanded_of_change_sized (C := Try.checked) own started (by kernel_rfl) Try.func4
    (ChangeSpec.witness6 (enc := enc) (C := Try.checked) false ⟨#[], #[.slice none 0 0, .int .u8 0, .int .u8 0], []⟩ 8 (by kernel_rfl) (by kernel_rfl) (by kernel_rfl) (by kernel_rfl)) ?_
  intro W base args ds gs before hval0 hW hcnd hsz0 _
  have hval : ∀ (j : Nat) t v, Try.f4.params[j]? = some t → args[j]? = some v → Value.okWide Try.prog W .any base t v := hval0
  have hsz : (DataW.weightsEach Try.prog (Try.f4.params.toList ++ Rows.shardReadsSpec.plain.varTypes Try.prog) (ds ++ gs)).all (· ≤ reachBytes) = true := hsz0
  have hW' := hW
  obtain ⟨p, q, hA0, hV, rfl, hfz, hnd⟩ := hW
  have hA : DataW.TrodAll enc Try.prog W 0 (fun _ => true) true Try.f4.params.toList args.toList ds p := hA0
  rw [Try.params4] at hA hval hsz
  obtain ⟨v0, vs0, d0, ds0, p0, q0, hargs, rfl, rfl, h0, r0⟩ := trodAll_cons hA
  obtain ⟨v1, vs1, d1, ds1, p1, q1, rfl, rfl, rfl, h1, r1⟩ := trodAll_cons r0
  obtain ⟨v2, vs2, d2, ds2, p2, q2, rfl, rfl, rfl, h2, r2⟩ := trodAll_cons r1
  obtain ⟨rfl, rfl, rfl⟩ := trodAll_nil r2
  obtain rfl : args = #[v0, v1, v2] := by cases args; simp_all
  obtain ⟨rfl, rfl⟩ := trodVars_none hV
  have k0 := h0
  have lt0 : ∀ x ∈ p0, x.block < W.heap.size := by obtain ⟨m, hm⟩ := k0; exact DataW.trod_lt m _ _ _ hm
  obtain ⟨a0, len0, cap0, xs0, rfl, hB0, hL0, hC0⟩ : ∃ ao L cap xs, v0 = .slice ao L cap ∧ PRs W ao xs ∧ L = xs.length ∧ L ≤ cap := by
    obtain ⟨fuel, hf⟩ := h0
    obtain ⟨ao, L, cap, rfl⟩ := okWide_slice Try.undParts' (hval 0 22 v0 rfl rfl)
    exact ps_open hf (fun n hn => of_decide_eq_true (List.all_eq_true.1 hsz n (DataW.weights_mem_each (j := 0) (t := 22) rfl rfl n hn)))
  obtain ⟨n1, rfl, rfl, rfl, w1⟩ := open_int Try.underlying5 (hval 1 5 v1 rfl rfl) h1
  have b1 := bounds_u8 w1
  obtain ⟨m1, rfl⟩ : ∃ m : Nat, n1 = (m : Int) := ⟨n1.toNat, by omega⟩
  obtain ⟨n2, rfl, rfl, rfl, w2⟩ := open_int Try.underlying5 (hval 2 5 v2 rfl rfl) h2
  have b2 := bounds_u8 w2
  obtain ⟨m2, rfl⟩ : ∃ m : Nat, n2 = (m : Int) := ⟨n2.toNat, by omega⟩
  clear hA0 hval0
  refine (walk a0 len0 cap0 xs0 m1 (by omega) m2 (by omega) W hB0 hL0).mono fun e W' ⟨he, hf⟩ => ?_
  subst he
  have bel : Below W.heap.size W W' := hf.below (Nat.le_refl _) (by simp)
  exact ⟨_, rfl, _, _, _, [], _, [], hW', trodAll_mk1 (shut_bool Try.underlying4 _), (trodAll_cons_mk (Below.trod laidOut (by kernel_rfl) (of_decide_eq_true (by kernel_rfl)) k0 bel lt0) (trodAll_cons_mk (shut_int Try.underlying5 w1) (trodAll_cons_mk (shut_int Try.underlying5 w2) trodAll_mk0))), rfl, bel.frame _, fun h => by cases h⟩

theorem over : Rows.shardReadsRow.holds Try.pinned (OpenSpec.ofChange Rows.shardReadsSpec) :=
  OpenClaim.holds_of_wide 4 Try.f4 rfl rfl rfl rfl rfl rfl rfl ⟨rfl, rfl, rfl, rfl, rfl⟩ rfl rfl rfl rfl rfl (by kernel_rfl) Try.func4 (by kernel_rfl)
    (of_decide_eq_true (by kernel_rfl)) (by unfold Func.isWrapper; first | (rw [if_pos (by decide +kernel)]; kernel_rfl) | (rw [if_neg (by decide +kernel)]; exact ⟨rfl, rfl⟩))
    (fun os started H enc _ => lifted os started H enc)
end Go.Proofs.Ytkplammapbiebaa.shardReads
namespace Go.Proofs.Ytkplammapbiebaa
theorem shardreads_holds : Rows.ShardReadsSaid := shardReads.over
#print axioms shardreads_holds
end Go.Proofs.Ytkplammapbiebaa
