/- A saver's calls: there, Left, slotBeside, the raw writes, Step. Conditions as each names them. -/
import Derived.Test.YtdojhkgnnbdfkaaGreatSd19
import Derived.Test.YtdojhkgnnbdfkaaGreatAp
namespace Go.Proofs.YtdojhkgnnbdfkaaGreat
open BigFrame Go.ChangeShapes Go.WideShapes Go.ChangeAt Go.RowKit Go.Lib Go.Maps
set_option linter.unusedVariables false
set_option linter.unusedSimpArgs false

set_option maxHeartbeats 800000 in
theorem sthere_any {w : World} {sb : Nat} (h : w.cell? ⟨sb, 0, none⟩ = some (.bool true)) : Calls Tryz.prog 55 #[.pointer (some ⟨sb, 0, none⟩)] w fun e w' => e = .returned (.bool true) ∧ w = w' := by
  go_enter Tryz.func55, Tryz.ntmps55
  go_wp2
  go_ret
  exact ⟨rfl, rfl⟩
set_option maxHeartbeats 800000 in
theorem sthere_no (w : World) : Calls Tryz.prog 55 #[.pointer none] w fun e w' => e = .returned (.bool false) ∧ w = w' := by
  go_enter Tryz.func55, Tryz.ntmps55
  go_wp2
  go_ret
  exact ⟨rfl, rfl⟩
set_option maxHeartbeats 800000 in
theorem sthere_zero {w : World} {sb : Nat} (h : w.cell? ⟨sb, 0, none⟩ = some (.bool false)) : Calls Tryz.prog 55 #[.pointer (some ⟨sb, 0, none⟩)] w fun e w' => e = .returned (.bool false) ∧ w = w' := by
  go_enter Tryz.func55, Tryz.ntmps55
  go_wp2
  go_ret
  exact ⟨rfl, rfl⟩
set_option maxHeartbeats 800000 in
theorem sleft_any {w : World} {sb d fb ab : Nat} {fo : Option Addr} {fc ac slot : Nat} {zs : List Nat} {k n : Nat} (h : SaM w sb d fb ab fo fc ac slot zs k) (hn : n = nB zs.length + 1 - k) : Calls Tryz.prog 30 #[.pointer (some ⟨sb, 0, none⟩)] w fun e w' => e = .returned (.int .i64 (n : Int)) ∧ w = w' := by
  have c1 := h.c1
  rw [← hn] at c1
  have HT : Hid (Calls _ _ _ _ _) := sthere_any h.c0
  clear h hn
  go_enter Tryz.func30, Tryz.ntmps30
  go_wp2_with fail
  refine Calls.mono HT.out ?_
  rintro e w1 ⟨rfl, rfl⟩
  clear HT
  go_wp2
  go_ret
  exact ⟨rfl, rfl⟩
set_option maxHeartbeats 800000 in
theorem sleft_no (w : World) : Calls Tryz.prog 30 #[.pointer none] w fun e w' => e = .returned (.int .i64 0) ∧ w = w' := by
  have HT : Hid (Calls _ _ _ _ _) := sthere_no w
  go_enter Tryz.func30, Tryz.ntmps30
  go_wp2_with fail
  refine Calls.mono HT.out ?_
  rintro e w1 ⟨rfl, rfl⟩
  go_wp2
  go_ret
  exact ⟨rfl, rfl⟩
set_option maxHeartbeats 800000 in
theorem sleft_zero {w : World} {sb : Nat} (h : w.cell? ⟨sb, 0, none⟩ = some (.bool false)) : Calls Tryz.prog 30 #[.pointer (some ⟨sb, 0, none⟩)] w fun e w' => e = .returned (.int .i64 0) ∧ w = w' := by
  have HT : Hid (Calls _ _ _ _ _) := sthere_zero h
  clear h
  go_enter Tryz.func30, Tryz.ntmps30
  go_wp2_with fail
  refine Calls.mono HT.out ?_
  rintro e w1 ⟨rfl, rfl⟩
  go_wp2
  go_ret
  exact ⟨rfl, rfl⟩
/-- The slot beside the newest one. -/
def besN (i : Nat) (ok : Bool) : Nat := if ok then 1 - i else 0
set_option maxHeartbeats 800000 in
theorem beside_any (i : Nat) (ok : Bool) (w : World) (hi : i ≤ 1) : Calls Tryz.prog 54 #[.int .i64 (i : Int), .bool ok] w fun e w' => e = .returned (.int .i64 (besN i ok : Int)) ∧ w = w' := by
  cases ok with
  | false =>
    go_enter Tryz.func54, Tryz.ntmps54
    go_wp2
    go_ret
    exact ⟨rfl, rfl⟩
  | true =>
    have e1 : ((besN i true : Nat) : Int) = 1 - (i : Int) := by simp [besN]; omega
    rw [e1]
    go_enter Tryz.func54, Tryz.ntmps54
    go_wp2
    go_ret
    exact ⟨rfl, rfl⟩
theorem Tryz.infoFn0 : (Tryz.prog.info? 135).map (fun i => (i.zero, i.size, i.bytes)) = some (some .nilFunc, 1, 8) := by kernel_rfl
theorem Tryz.undFns : Tryz.prog.underlying 108 = some (.slice 135) := by kernel_rfl
set_option maxHeartbeats 4000000 in
set_option maxRecDepth 100000 in
theorem raws_any (d slot ab n ac : Nat) (w : World) (hn : n ≤ 16777216) (hac : n ≤ ac) (hs : slot ≤ 1) :
    Calls Tryz.prog 53 #[.pointer (some ⟨d, 0, none⟩), .int .i64 (slot : Int), .slice (some ⟨ab, 0, none⟩) n ac] w fun e w' => ∃ fb fc, e = .returned (.slice (some ⟨fb, 0, none⟩) (nB n + 1) fc) ∧ w'.ownsRow w.heap.size 135 1 (.slice (some ⟨fb, 0, none⟩) (nB n + 1) fc) (nB n + 1) (rawsV d slot ab ac n (nB n)) ∧ Fr [] w w' := by
  obtain ⟨i0, hi, hz0, hz1, hz2⟩ := info_parts Tryz.infoFn0
  obtain ⟨w1, HW1⟩ : ∃ w1, Hid (w.alloc (.cells #[clearV d slot] 135) = w1) := ⟨_, rfl⟩
  have hF1 : Fr [] w w1 := by rw [← HW1.out]; exact Fr.alloc [] w _
  obtain ⟨R, hR⟩ : ∃ R, R = w.heap.size := ⟨_, rfl⟩
  have hO1 : w1.ownsRow 0 135 1 (.slice (some ⟨R, 0, none⟩) (0 + 1) 1) (0 + 1) (rawsV d slot ab ac n 0) := by
    refine ⟨by simp [rawsV], .inr ⟨R, 1, #[clearV d slot], rfl, by omega, ?_, by omega, by unfold maxLen; omega, by simp, by simp [rawsV]⟩⟩
    rw [← HW1.out, hR]
    exact heap_alloc_new w _
  have HO1 : Hid (w1.ownsRow 0 135 1 (.slice (some ⟨R, 0, none⟩) (0 + 1) 1) (0 + 1) (rawsV d slot ab ac n 0) ∧ w.heap.size ≤ R ∧ Fr [] w w1) := ⟨hO1, by omega, hF1⟩
  clear hO1 hF1
  go_enter Tryz.func53, Tryz.ntmps53
  go_upto_region 2 with fail
  rw [show w.alloc (.cells #[Value.func (Fn.func 80) #[.agg #[.pointer (some ⟨d, 0, none⟩), .int .i64 (slot : Int), .int .i64 0, .slice none 0 0]] #[]] 135) = w1 from HW1.out]
  rw [← hR]
  clear HW1 hR
  go_wp2_with fail
  go_loopw [7, 8] (fun ll aa wr => ∃ (k a fb fc : Nat), ll = .slice (some ⟨fb, 0, none⟩) (k + 1) fc ∧ aa = .int .i64 (a : Int) ∧ a ≤ n + 63 ∧ Hid (a = 64 * k ∧ k ≤ nB n) ∧ Hid (wr.ownsRow 0 135 1 (.slice (some ⟨fb, 0, none⟩) (k + 1) fc) (k + 1) (rawsV d slot ab ac n k) ∧ w.heap.size ≤ fb ∧ Fr [] w wr)) (fun _ aa _ => n + 64 - (RowKit.intOf aa).toNat)
  case atStart => exact ⟨0, 0, R, 1, rfl, rfl, by omega, ⟨rfl, Nat.zero_le _⟩, HO1⟩
  case round =>
    clear HO1
    obtain ⟨k, a, fb, fc, rfl, rfl, hau, HK, HO⟩ := hrel
    by_cases ha : a < n
    · have hlt : (a : Int) < n := by omega
      have hk1 : k < nB n := nB_le (by have := HK.out.1; omega)
      have hkb : k ≤ 262144 := by have := nB_few hn; omega
      obtain ⟨en, HEn⟩ : ∃ en, Hid (en = min (a + 64) n) := ⟨_, rfl⟩
      have hen : a < en ∧ en ≤ a + 64 ∧ en ≤ n := by have := HEn.out; omega
      obtain ⟨h1, h2, h3⟩ := hen
      have hsl : ∀ W : World, (Instr.sliceAt 76 (.slice (some ⟨ab, 0, none⟩) n ac) (some (.int .i64 (a : Int))) (some (.int .i64 (en : Int))) none).run Tryz.prog W = .ok (.slice (some ⟨ab, a, none⟩) (en - a) (ac - a)) W := fun W => by
        rw [slB_lh (some ⟨ab, 0, none⟩) n ac a en (by omega) (by omega) W]
        unfold fromB
        rw [if_neg (by omega)]
        simp [Addr.add_lit]
      obtain ⟨V, HV⟩ : ∃ V, Hid (V = Value.func (Fn.func 81) #[.agg #[.pointer (some ⟨d, 0, none⟩), .int .i64 (slot : Int), .int .i64 (a : Int), .slice (some ⟨ab, a, none⟩) (en - a) (ac - a)]] #[]) := ⟨_, rfl⟩
      have HVp : Hid (pieceV d slot ab ac n k = V) := by
        show _ = _
        rw [HV.out, HEn.out, HK.out.1]
        rfl
      have hV1 : V.oneCell' = true := by rw [HV.out]; rfl
      have HOa : Hid ((wr.alloc (Obj.cells #[V] 135)).ownsRow 0 135 1 (.slice (some ⟨fb, 0, none⟩) (k + 1) fc) (k + 1) (rawsV d slot ab ac n k)) := owns_keep HO.out.1 (Fr.alloc [] _ _) (by simp)
      have hnew : (wr.alloc (Obj.cells #[V] 135)).heap[wr.heap.size]? = some (Obj.cells #[V] 135) := heap_alloc_new wr _
      have HNw : Hid (∀ (j : Nat) u, [V][j]? = some u → (wr.alloc (Obj.cells #[V] 135)).cell? ((⟨wr.heap.size, 0, none⟩ : Addr).add j) = some u) := by
        intro j u hj
        rw [show (⟨wr.heap.size, 0, none⟩ : Addr).add j = ⟨wr.heap.size, j, none⟩ from by rw [Addr.add_lit, Nat.zero_add], cell_of_row _ _ _ _ _ _ hnew]
        simpa using hj
      have HNx : Hid (∀ g' c' w', w'.ownsRow 0 135 1 (.slice (some ⟨g', 0, none⟩) (k + 1 + 1) c') (k + 1 + 1) (rawsV d slot ab ac n k ++ [V]) → Went (wr.alloc (Obj.cells #[V] 135)) (.slice (some ⟨fb, 0, none⟩) (k + 1) fc) g' w' → Hid (w'.ownsRow 0 135 1 (.slice (some ⟨g', 0, none⟩) (k + 1 + 1) c') (k + 1 + 1) (rawsV d slot ab ac n (k + 1)) ∧ w.heap.size ≤ g' ∧ Fr [] w w')) := fun g' c' w' hO hW => by
        have hFa : Fr [] w (wr.alloc (Obj.cells #[V] 135)) := HO.out.2.2.then (Fr.alloc [] _ _)
        refine ⟨by rw [rawsV_succ, HVp.out]; exact hO, ?_, ?_⟩
        · rcases hW with ⟨hv, _⟩ | ⟨hv, _⟩
          · simp [Value.ownBlock] at hv
            have := HO.out.2.1
            omega
          · have := hFa.size
            omega
        · exact hFa.on hW.fr (fun j hj => by simp [Value.ownBlock] at hj; have := HO.out.2.1; omega)
      clear hnew
      have hmin : min ((a : Int) + 64) (n : Int) = (en : Int) := by have := HEn.out; omega
      go_upto_region 6 with fail
      clear hmin
      go_wp2_with (at_builtin; go_loud (rw [← HV.out]; refine wpList_app _ rfl (.tmp 26) (.tmp 36) 108 rfl 135 i0 .nilFunc 1 8 Tryz.undFns hi hz0 hz1 hz2 rfl (by omega) _ _ _ rfl HOa.out ⟨wr.heap.size, 0, none⟩ 1 [V] rfl rfl HNw.out (by simpa using hV1) (by omega) (by simp only [maxLen]; omega) ?_))
      intro g' c' w' hO2 hW2
      have HR := HNx.out g' c' w' hO2 hW2
      have HK2 : Hid (a + 64 = 64 * (k + 1) ∧ k + 1 ≤ nB n) := ⟨by have := HK.out.1; omega, by omega⟩
      clear hO2 hW2 HNx HOa HNw HK hsl
      go_wp2_with fail
      go_roundw
      case rel => exact ⟨k + 1, a + 64, g', c', rfl, by simp, by omega, HK2, HR⟩
      case measure => simp [RowKit.intOf]; omega
    · have hlt : ¬ (a : Int) < n := by omega
      have hkk : k = nB n := by have := nB_ge (n := n) (k := k) (by have := HK.out.1; omega); have := HK.out.2; omega
      have HR : Hid (wr.ownsRow w.heap.size 135 1 (.slice (some ⟨fb, 0, none⟩) (nB n + 1) fc) (nB n + 1) (rawsV d slot ab ac n (nB n)) ∧ Fr [] w wr) := by
        rw [← hkk]
        refine ⟨⟨HO.out.1.1, ?_⟩, HO.out.2.2⟩
        rcases HO.out.1.2 with ⟨hh, _⟩ | ⟨g, cap, cur, hh, _, hr⟩
        · cases hh
        · cases hh
          exact .inr ⟨fb, fc, cur, rfl, HO.out.2.1, hr⟩
      have HKk : Hid (k = nB n) := hkk
      clear hkk
      go_wp2
      go_ret
      rw [HKk.out]
      exact ⟨fb, fc, rfl, HR.out⟩
end Go.Proofs.YtdojhkgnnbdfkaaGreat
