/- math/bits.TrailingZeros64, and a gate's Beyond. Conditions: the table of the library lies as its variable lays it; how the gate lies in memory. -/
import Derived.Test.YtleklocdejldnaaDoorGi12
import Derived.Test.YtleklocdejldnaaDoorIr12
namespace Go.Proofs.YtleklocdejldnaaDoor
open Go.ChangeShapes Go.WideShapes Go.ChangeAt Go.RowKit Go.Lib Go.Maps
set_option linter.unusedVariables false
set_option linter.unusedSimpArgs false

/-- The library's table lies in its variable. -/
def Tz (w : World) : Prop := ∀ j, j < 64 → w.cell? ⟨0, j, none⟩ = some (.int .u8 ((Lib.deBruijn64tab.getD j 0 : Nat) : Int))
theorem Tz.lt {w : World} (h : Tz w) : 0 < w.heap.size := World.block_lt_of_cell? w _ (h 0 (by decide))
theorem Tz.keep {S : List Nat} {w w' : World} (h : Tz w) (hf : Fr S w w') (hn : 0 ∉ S) : Tz w' := fun j hj => (World.cell?_of_block (hf.block 0 h.lt hn)).trans (h j hj)
theorem tz_key (x a : Nat) (hx : x < 18446744073709551616) (hx0 : x ≠ 0) (hlow : x &&& (18446744073709551616 - x) = a) :
    IntKind.u64.wrap (bits BinOp.and IntKind.u64 (x : Int) (IntKind.u64.wrap (-(x : Int))) * 285870213051353865) / 288230376151711744 = ((a * 285870213051353865 % 18446744073709551616 / 288230376151711744 : Nat) : Int) := by
  have e1 : IntKind.u64.wrap (-(x : Int)) = ((18446744073709551616 - x : Nat) : Int) := by rw [IntKind.wrap_u64]; omega
  rw [e1, bits_and_u64_nat x _ hx (by omega), hlow, IntKind.wrap_u64]
  omega
set_option maxHeartbeats 1000000 in
theorem tz_any (x : Nat) (h0 : x ≠ 0) (hx : x < 18446744073709551616) (w : World) (hT : Tz w) :
    Calls Tryd.prog 27 #[.int .u64 x] w fun e w' => e = .returned (.int .i64 ((Lib.ctz 64 x : Nat) : Int)) ∧ w = w' := by
  obtain ⟨hlow, hk⟩ := Lib.lowest_bit 64 x h0 hx
  obtain ⟨hi, htab⟩ := Lib.deBruijn64_at _ hk
  have hcell := hT _ hi
  rw [htab] at hcell
  have key := tz_key x _ hx h0 hlow
  have hx0 : ((x : Int) == 0) = false := by simp; omega
  obtain ⟨idx, hidx⟩ : ∃ idx : Nat, idx = (2 ^ Lib.ctz 64 x * 285870213051353865 % 18446744073709551616 / 288230376151711744 : Nat) := ⟨_, rfl⟩
  rw [← hidx] at key hcell hi
  obtain ⟨k, hkk⟩ : ∃ k, k = Lib.ctz 64 x := ⟨_, rfl⟩
  rw [← hkk] at hk hcell ⊢
  clear hlow htab hidx hkk hT
  go_enter Tryd.func27, Tryd.ntmps27
  go_wp2_with (simp only [key])
  go_ret
  exact ⟨rfl, rfl⟩
theorem word_bit {ws : List Nat} {xs : List Int} (h : Wds ws xs) (hg : ∀ x ∈ xs, 1 ≤ x ∧ x ≤ 65536) (i b : Nat) (hi : i < 1024) (hb : b < 64) : (ws.getD i 0).testBit b = true ↔ ((64 * i + b + 1 : Nat) : Int) ∈ xs := by
  have := h.bits ((64 * i + b + 1 : Nat) : Int) (by omega) (by omega)
  rw [← this]
  unfold bitAt
  have e1 : wdOf ((64 * i + b + 1 : Nat) : Int) = i := by unfold wdOf; omega
  have e2 : btOf ((64 * i + b + 1 : Nat) : Int) = b := by unfold btOf; omega
  rw [e1, e2]
set_option maxHeartbeats 8000000 in
set_option maxRecDepth 100000 in
theorem abeyond_any {g : Nat} {m : Int} {ws : List Nat} {xs : List Int} (w : World) (h : GM w g m ws) (hx : Wds ws xs) (hg : Gt m xs) (hT : Tz w) :
    Calls Tryd.prog 12 #[.pointer (some ⟨g, 0, none⟩)] w fun e w' => ∃ o N c, e = .returned (.slice o N c) ∧ IOw w.heap.size w' o N c xs ∧ Fr [] w w' := by
  have HT : Hid (Calls _ _ _ _ _) := athere_any w h
  have HTz : Hid (∀ W, Fr [] w W → Tz W) := fun W hf => hT.keep hf (by simp)
  have c1 := h.c1
  have HC : Hid (∀ W i, Fr [] w W → i < 1024 → W.cell? ⟨g, 2 + i, none⟩ = some (.int .u64 ((ws.getD i 0 : Nat) : Int))) := fun W i hf hi => (h.keep hf (by simp)).cw i (by rw [hx.len]; exact hi)
  have HX : Hid (∀ i, ws.getD i 0 < 18446744073709551616) := fun i => hx.at i
  have HG : Hid (Gt m xs) := hg
  have hpos : ∀ x ∈ xs, 1 ≤ x ∧ x ≤ 65536 := fun x hx => by have := hg.bey x hx; have := hg.low; omega
  have HB : Hid (∀ i b, i < 1024 → b < 64 → ((ws.getD i 0).testBit b = true ↔ ((64 * i + b + 1 : Nat) : Int) ∈ xs)) := fun i b hi hb => word_bit hx hpos i b hi hb
  have HP : Hid (∀ x ∈ xs, 1 ≤ x ∧ x ≤ 65536) := hpos
  have hm0 := hg.low
  have hm1 := hg.top
  clear h hx hg hT hpos
  go_enter Tryd.func12, Tryd.ntmps12
  go_wp2_with fail
  refine Calls.mono HT.out ?_
  rintro e w1 ⟨rfl, rfl⟩
  go_wp2_with fail
  go_loopw [3, 4] (fun ll ii wr => ∃ (i N : Nat) (so : Option Addr) (sc : Nat), ll = .slice so N sc ∧ ii = .int .i64 i ∧ i ≤ 1024 ∧ Hid (IOw w.heap.size wr so N sc (upTo xs (64 * (i : Int)))) ∧ Hid (Fr [] w wr)) (fun _ ii _ => 1024 - (RowKit.intOf ii).toNat)
  case atStart =>
    refine ⟨(m / 64).toNat, 0, none, 0, rfl, ?_, by omega, ?_, Fr.refl _ _⟩
    · congr 1; omega
    · show IOw _ _ _ _ _ _
      rw [upTo_none (fun x hx => by have := HG.out.bey x hx; omega)]
      exact IOw.nil _ _
  case round =>
    obtain ⟨i, N, so, sc, rfl, rfl, hi1, HO, HF⟩ := hrel
    by_cases hi : i < 1024
    · have hc := HC.out _ i HF.out hi
      have hX0 := HX.out i
      have HBi : Hid (∀ b, b < 64 → ((ws.getD i 0).testBit b = true ↔ ((64 * i + b + 1 : Nat) : Int) ∈ xs)) := fun b hb => HB.out i b hi hb
      obtain ⟨V, hV⟩ : ∃ V, V = ws.getD i 0 := ⟨_, rfl⟩
      rw [← hV] at hc hX0 HBi
      clear hV
      obtain ⟨wo, hwo⟩ : ∃ wo, wo = wr := ⟨_, rfl⟩
      rw [← hwo] at HO HF hc ⊢
      clear hwo
      have hdd : decide ((i : Int) < 1024) = true := by simp; omega
      go_wp2_with fail
      clear hdd
      go_loopw [3, 5] (fun ll xx wr => ∃ (X k N : Nat) (so : Option Addr) (sc : Nat), ll = .slice so N sc ∧ xx = .int .u64 X ∧ X < 18446744073709551616 ∧ k ≤ 64 ∧ Hid (∀ b, X.testBit b = (decide (k ≤ b) && V.testBit b)) ∧ Hid (IOw w.heap.size wr so N sc (upTo xs (64 * (i : Int) + k))) ∧ Hid (Fr [] w wr)) (fun _ xx _ => (RowKit.intOf xx).toNat)
      case atStart => exact ⟨V, 0, N, so, sc, rfl, rfl, hX0, Nat.zero_le _, (fun b => by simp : ∀ b, _), (by show IOw _ _ _ _ _ _; simpa using HO.out), HF⟩
      case round =>
        clear HO HF
        obtain ⟨X, k, N, so, sc, rfl, rfl, hX, hk, HBX, HO, HF⟩ := hrel
        by_cases hz : X = 0
        · have hq : ((X : Int) != 0) = false := by simp [hz]
          have HS : Hid (upTo xs (64 * ((i + 1 : Nat) : Int)) = upTo xs (64 * (i : Int) + k)) := by
            refine upTo_same (by omega) (fun x hx h1 h2 => ?_)
            have hb := HBX.out (x.toNat - 1 - 64 * i)
            rw [hz, (HBi.out (x.toNat - 1 - 64 * i) (by omega)).2 (by rw [show ((64 * i + (x.toNat - 1 - 64 * i) + 1 : Nat) : Int) = x by omega]; exact hx)] at hb
            have : k ≤ x.toNat - 1 - 64 * i := by omega
            simp [this] at hb
          clear hz
          go_wp2
          go_roundw
          case rel => exact ⟨i + 1, N, so, sc, rfl, by simp, by omega, (by show IOw _ _ _ _ _ _; rw [HS.out]; exact HO.out), HF⟩
          case measure => simp [RowKit.intOf]; omega
        · have hq : ((X : Int) != 0) = true := by simp; omega
          obtain ⟨l1, l2, l3, l4, l5⟩ := low_bit X hz hX
          have HZ : Hid (Calls _ _ _ _ _) := tz_any X hz hX wr (HTz.out _ HF.out)
          obtain ⟨c, hcc⟩ : ∃ c, c = Lib.ctz 64 X := ⟨_, rfl⟩
          rw [← hcc] at l1 l2 l3 l4 HZ
          obtain ⟨Y, hY⟩ : ∃ Y : Nat, Y = X &&& (X - 1) := ⟨_, rfl⟩
          rw [← hY] at l4 l5
          have hand : bits .and .u64 (X : Int) ((X : Int) - 1) = (Y : Int) := by
            rw [show (X : Int) - 1 = ((X - 1 : Nat) : Int) by omega, hY]
            exact u64_and_nat X (X - 1) hX (by omega)
          have hX1 : 1 ≤ X := by omega
          have hkc : k ≤ c := by
            have := HBX.out c
            rw [l2] at this
            apply Nat.le_of_not_lt
            intro hlt
            have : ¬ k ≤ c := by omega
            simp_all
          have hVc : V.testBit c = true := by
            have := HBX.out c
            rw [l2] at this
            simp_all
          have HS : Hid (upTo xs (64 * (i : Int) + ((c + 1 : Nat) : Int)) = upTo xs (64 * (i : Int) + k) ++ [(i : Int) * 64 + (c : Int) + 1]) := by
            refine upTo_snoc HG.out.ris (a := 64 * (i : Int) + k) (z := (i : Int) * 64 + (c : Int) + 1) ?_ (by omega) (by omega) (fun x hx h1 h2 => ?_)
            · have := (HBi.out c l1).1 hVc
              rw [show (i : Int) * 64 + (c : Int) + 1 = ((64 * i + c + 1 : Nat) : Int) by omega]
              exact this
            · apply Classical.byContradiction
              intro hne
              have hb := HBX.out (x.toNat - 1 - 64 * i)
              rw [l3 _ (by omega), (HBi.out (x.toNat - 1 - 64 * i) (by omega)).2 (by rw [show ((64 * i + (x.toNat - 1 - 64 * i) + 1 : Nat) : Int) = x by omega]; exact hx)] at hb
              have : k ≤ x.toNat - 1 - 64 * i := by omega
              simp [this] at hb
          have HBY : Hid (∀ b, Y.testBit b = (decide (c + 1 ≤ b) && V.testBit b)) := by
            intro b
            rw [l4, HBX.out]
            by_cases h1 : c < b
            · have h2 : k ≤ b := by omega
              have h3 : c + 1 ≤ b := h1
              simp [h1, h2, h3]
            · have h3 : ¬ c + 1 ≤ b := h1
              simp [h1, h3]
          have hN : N ≤ 65536 := by
            rw [HO.out.len]
            exact Nat.le_trans (List.length_filter_le _ _) HG.out.few
          have HO2 : Hid (∀ W, Fr [] wr W → IOw w.heap.size W so N sc (upTo xs (64 * (i : Int) + k))) := fun W hf => HO.out.keep hf
          have HB2 : Hid (∀ W W', Fr [] wr W → Fr (Value.slice so N sc).ownBlock.toList W W' → Fr [] w W') := fun W W' h1 h2 => HO.out.on (Nat.le_refl _) HF.out h1 h2
          have hsz := HF.out.size
          have HL5 : Hid (Y < X) := l5
          clear hcc hY l2 l3 l4 l5 hz hVc
          go_wp2_with (first
            | (go_at_call 27; refine Calls.mono HZ.out ?_; rintro e w5 ⟨rfl, rfl⟩)
            | (at_builtin; refine wpList_appI w.heap.size _ rfl (.tmp 30) (.tmp 37) rfl so N sc _ rfl (HO2.out _ (Fr.alloc [] _ _)) ⟨wr.heap.size, 0, none⟩ 1 ((i : Int) * 64 + (c : Int) + 1) rfl ?c1 ?c2 ?c3 ?_))
          case c1 => exact cell_new1 _ _ _
          case c2 => omega
          case c3 => simp; omega
          intro o' c' w6 hO6 hF6 hm6
          have HO6 : Hid (IOw w.heap.size w6 o' (N + 1) c' (upTo xs (64 * (i : Int) + ((c + 1 : Nat) : Int)))) := by show IOw _ _ _ _ _ _; rw [HS.out]; exact hO6
          have HF6 : Hid (Fr [] w w6) := HB2.out _ _ (Fr.alloc [] _ _) hF6
          clear hO6 hF6 hm6 HO HO2 HF HB2 HZ HS
          go_wp2
          go_roundw
          case rel => exact ⟨Y, c + 1, N + 1, o', c', rfl, rfl, by have := HL5.out; omega, by omega, HBY, HO6, HF6⟩
          case measure => simp [RowKit.intOf]; exact HL5.out
    · have HE : Hid (upTo xs (64 * (i : Int)) = xs) := upTo_all (fun x hx => by have := HP.out x hx; omega)
      go_wp2
      go_ret
      exact ⟨so, N, sc, rfl, by rw [← HE.out]; exact HO.out, HF.out⟩
end Go.Proofs.YtleklocdejldnaaDoor
