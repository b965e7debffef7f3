/- Texts of this claim laid together, one behind the other: contracts and plain lemmas; conditions as each names them. -/
import Derived.Test.YtdojhkgnnbdfkaaGreatGp39
import Derived.Test.YtdojhkgnnbdfkaaGreatGp18
/- Savers: how they lie in memory, what their steps do. Plain lemmas. -/
namespace Go.Proofs.YtdojhkgnnbdfkaaGreat
open BigFrame Go.ChangeShapes Go.WideShapes Go.ChangeAt Go.RowKit Go.Lib Go.Maps
set_option linter.unusedVariables false
set_option linter.unusedSimpArgs false

/-- How many raw writes of bytes there are. -/
def nB (n : Nat) : Nat := (n + 63) / 64
/-- The bytes of the k-th block. -/
def chunk (zs : List Nat) (k : Nat) : List Nat := (zs.drop (64 * k)).take (min (64 * k + 64) zs.length - 64 * k)
theorem nB_lt {n k : Nat} (h : k < nB n) : 64 * k < n := by unfold nB at h; omega
theorem nB_le {n k : Nat} (h : 64 * k < n) : k < nB n := by unfold nB; omega
theorem nB_ge {n k : Nat} (h : n ≤ 64 * k) : nB n ≤ k := by unfold nB; omega
theorem nB_few {n : Nat} (h : n ≤ 16777216) : nB n ≤ 262144 := by unfold nB; omega
theorem chunk_le (zs : List Nat) (k : Nat) : (chunk zs k).length ≤ 64 := by simp [chunk]; omega
/-- The raw write of the k-th block, as a method's value. -/
def pieceV (d slot b cap n k : Nat) : Value := .func (.func 81) #[.agg #[.pointer (some ⟨d, 0, none⟩), .int .i64 (slot : Int), .int .i64 ((64 * k : Nat) : Int), .slice (some ⟨b, 64 * k, none⟩) (min (64 * k + 64) n - 64 * k) (cap - 64 * k)]] #[]
def clearV (d slot : Nat) : Value := .func (.func 80) #[.agg #[.pointer (some ⟨d, 0, none⟩), .int .i64 (slot : Int), .int .i64 0, .slice none 0 0]] #[]
/-- All raw writes, in order. -/
def rawsV (d slot b cap n m : Nat) : List Value := clearV d slot :: (List.range m).map (pieceV d slot b cap n)
theorem rawsV_length (d slot b cap n m : Nat) : (rawsV d slot b cap n m).length = m + 1 := by simp [rawsV]
theorem rawsV_succ (d slot b cap n m : Nat) : rawsV d slot b cap n (m + 1) = rawsV d slot b cap n m ++ [pieceV d slot b cap n m] := by simp [rawsV, List.range_succ]
theorem rawsV_zero (d slot b cap n m : Nat) : (rawsV d slot b cap n m)[0]? = some (clearV d slot) := by simp [rawsV]
theorem rawsV_get (d slot b cap n m k : Nat) (h : k < m) : (rawsV d slot b cap n m)[k + 1]? = some (pieceV d slot b cap n k) := by simp [rawsV, h]
/-- The program's saver of such bytes for a slot, of whose raw writes k are done. -/
structure SaM (w : World) (sb d fb ab : Nat) (fo : Option Addr) (fc ac slot : Nat) (zs : List Nat) (k : Nat) : Prop where
  box : w.heap[sb]? = some (.cells #[.bool true, .slice fo (nB zs.length + 1 - k) fc] 112 (0, 0))
  kle : k ≤ nB zs.length + 1
  row : ∃ cs : Array Value, w.heap[fb]? = some (.cells cs 135 (0, 0)) ∧ ∀ (j : Nat) (v : Value), (rawsV d slot ab ac zs.length (nB zs.length))[j]? = some v → cs[j]? = some v
  at_ : k ≤ nB zs.length → fo = some ⟨fb, k, none⟩
  cap : nB zs.length + 1 - k ≤ fc
  byt : w.ownsRow 0 5 1 (.slice (some ⟨ab, 0, none⟩) zs.length ac) zs.length (bts zs)
  low : ∀ x ∈ zs, x < 256
  few : zs.length ≤ 16777216
  sl : slot ≤ 1
theorem SaM.keep {S : List Nat} {w w' : World} {sb d fb ab : Nat} {fo : Option Addr} {fc ac slot : Nat} {zs : List Nat} {k : Nat} (h : SaM w sb d fb ab fo fc ac slot zs k) (hf : Fr S w w') (h1 : sb ∉ S) (h2 : fb ∉ S) (h3 : ab ∉ S) : SaM w' sb d fb ab fo fc ac slot zs k := by
  obtain ⟨cs, hb, hc⟩ := h.row
  exact ⟨hf.keep h.box h1, h.kle, ⟨cs, hf.keep hb h2, hc⟩, h.at_, h.cap, owns_keep h.byt hf (fun q hq => by simp [Value.ownBlock] at hq; subst hq; exact h3), h.low, h.few, h.sl⟩
theorem SaM.blocks {w : World} {sb d fb ab : Nat} {fo : Option Addr} {fc ac slot : Nat} {zs : List Nat} {k : Nat} (h : SaM w sb d fb ab fo fc ac slot zs k) : sb < w.heap.size ∧ fb < w.heap.size ∧ ab < w.heap.size ∧ sb ≠ fb ∧ sb ≠ ab ∧ fb ≠ ab := by
  obtain ⟨cs, hb, _⟩ := h.row
  obtain ⟨ca, ha⟩ := own_type h.byt ab rfl
  refine ⟨lt_of_block h.box, lt_of_block hb, lt_of_block ha, ?_, ?_, ?_⟩
  · rintro rfl; rw [h.box] at hb; simp at hb
  · rintro rfl; rw [h.box] at ha; simp at ha
  · rintro rfl; rw [hb] at ha; simp at ha
theorem SaM.c0 {w : World} {sb d fb ab : Nat} {fo : Option Addr} {fc ac slot : Nat} {zs : List Nat} {k : Nat} (h : SaM w sb d fb ab fo fc ac slot zs k) : w.cell? ⟨sb, 0, none⟩ = some (.bool true) := by rw [cell_of_row _ _ _ _ _ _ h.box]; rfl
theorem SaM.c1 {w : World} {sb d fb ab : Nat} {fo : Option Addr} {fc ac slot : Nat} {zs : List Nat} {k : Nat} (h : SaM w sb d fb ab fo fc ac slot zs k) : w.cell? ⟨sb, 1, none⟩ = some (.slice fo (nB zs.length + 1 - k) fc) := by rw [cell_of_row _ _ _ _ _ _ h.box]; rfl
theorem SaM.f1 {w : World} {sb d fb ab : Nat} {fo : Option Addr} {fc ac slot : Nat} {zs : List Nat} {k : Nat} (h : SaM w sb d fb ab fo fc ac slot zs k) : w.frozen? ⟨sb, 1, none⟩ = false := by simp [World.frozen?, h.box]
theorem SaM.raw {w : World} {sb d fb ab : Nat} {fo : Option Addr} {fc ac slot : Nat} {zs : List Nat} {k : Nat} (h : SaM w sb d fb ab fo fc ac slot zs k) (hk : k ≤ nB zs.length) : fo = some ⟨fb, k, none⟩ ∧ w.cell? ⟨fb, k, none⟩ = (rawsV d slot ab ac zs.length (nB zs.length))[k]? := by
  obtain ⟨cs, hb, hc⟩ := h.row
  refine ⟨h.at_ hk, ?_⟩
  have hl : k < (rawsV d slot ab ac zs.length (nB zs.length)).length := by rw [rawsV_length]; omega
  rw [cell_of_row _ _ _ _ _ _ hb, List.getElem?_eq_getElem hl, hc k _ (List.getElem?_eq_getElem hl)]
theorem SaM.step {w : World} {sb d fb ab : Nat} {fo : Option Addr} {fc ac slot : Nat} {zs : List Nat} {k : Nat} (h : SaM w sb d fb ab fo fc ac slot zs k) (hk : k ≤ nB zs.length) : SaM (w.setCell ⟨sb, 1, none⟩ (.slice (fromB fo fc 1) (nB zs.length + 1 - k - 1) (fc - 1))) sb d fb ab (fromB fo fc 1) (fc - 1) ac slot zs (k + 1) ∧ Fr [sb] w (w.setCell ⟨sb, 1, none⟩ (.slice (fromB fo fc 1) (nB zs.length + 1 - k - 1) (fc - 1))) := by
  have hf : Fr [sb] w (w.setCell ⟨sb, 1, none⟩ (.slice (fromB fo fc 1) (nB zs.length + 1 - k - 1) (fc - 1))) := Fr.set _ _ _ (by simp)
  obtain ⟨_, _, _, n1, n2, _⟩ := h.blocks
  obtain ⟨cs, hb, hc⟩ := h.row
  have hcap := h.cap
  refine ⟨⟨?_, by omega, ⟨cs, hf.keep hb (by simp; omega), hc⟩, fun hk1 => ?_, by omega, owns_keep h.byt hf (fun q hq => by simp [Value.ownBlock] at hq; subst hq; simp; omega), h.low, h.few, h.sl⟩, hf⟩
  · rw [row_setCell _ h.box, show nB zs.length + 1 - k - 1 = nB zs.length + 1 - (k + 1) by omega]
    rfl
  · rw [h.at_ hk]
    unfold fromB
    rw [if_neg (by omega)]
    simp [Addr.add]
theorem SaM.chunk {w : World} {sb d fb ab : Nat} {fo : Option Addr} {fc ac slot : Nat} {zs : List Nat} {k : Nat} (h : SaM w sb d fb ab fo fc ac slot zs k) (q : Nat) (hq : q < nB zs.length) : BArg w (some ⟨ab, 64 * q, none⟩) (min (64 * q + 64) zs.length - 64 * q) (ac - 64 * q) (chunk zs q) := by
  have hA : BArg w (some ⟨ab, 0, none⟩) zs.length ac zs := own_arg h.byt h.low (by have := h.few; omega)
  have h1 := nB_lt hq
  have h2 := hA.cut (64 * q) (min (64 * q + 64) zs.length) (by omega) (by omega)
  have h3 := hA.fits
  rw [show fromB (some ⟨ab, 0, none⟩) ac (64 * q) = some ⟨ab, 64 * q, none⟩ from by unfold fromB; rw [if_neg (by omega)]; simp [Addr.add_lit]] at h2
  exact h2
/-- What a step of a saver does. -/
inductive StepR (t : Sk) (slot : Nat) (zs : List Nat) (k : Nat) : Int → Sk → Nat → Prop
  | idle (h : k = nB zs.length + 1) : StepR t slot zs k 9 t k
  | clear (h : k = 0) {E : Int} {t' : Sk} (hc : Cleared t (slot : Int) E t') (he : E = 0) : StepR t slot zs k E t' (k + 1)
  | clearNo (h : k = 0) {E : Int} {t' : Sk} (hc : Cleared t (slot : Int) E t') (he : E ≠ 0) : StepR t slot zs k E t' k
  | write (q : Nat) (h : k = q + 1) (hq : q < nB zs.length) {E : Int} {t' : Sk} (hc : Wrote t (slot : Int) ((64 * q : Nat) : Int) (chunk zs q) E t') (he : E = 0) : StepR t slot zs k E t' (k + 1)
  | writeNo (q : Nat) (h : k = q + 1) (hq : q < nB zs.length) {E : Int} {t' : Sk} (hc : Wrote t (slot : Int) ((64 * q : Nat) : Int) (chunk zs q) E t') (he : E ≠ 0) : StepR t slot zs k E t' k
theorem StepR.some (t : Sk) (slot : Nat) (zs : List Nat) (k : Nat) (hk : k ≤ nB zs.length + 1) : ∃ E t' k', StepR t slot zs k E t' k' := by
  by_cases h1 : k = nB zs.length + 1
  · exact ⟨_, _, _, .idle h1⟩
  · by_cases h0 : k = 0
    · obtain ⟨E, t', hc⟩ := Cleared.some t (slot : Int)
      by_cases he : E = 0
      · exact ⟨_, _, _, .clear h0 hc he⟩
      · exact ⟨_, _, _, .clearNo h0 hc he⟩
    · obtain ⟨q, rfl⟩ : ∃ q, k = q + 1 := ⟨k - 1, by omega⟩
      obtain ⟨E, t', hc⟩ := Wrote.some t (slot : Int) ((64 * q : Nat) : Int) (chunk zs q)
      by_cases he : E = 0
      · exact ⟨_, _, _, .write q rfl (by omega) hc he⟩
      · exact ⟨_, _, _, .writeNo q rfl (by omega) hc he⟩
theorem StepR.n {t t' : Sk} {slot : Nat} {zs : List Nat} {k k' : Nat} {E : Int} (h : StepR t slot zs k E t' k') : t'.n ≤ t.n + 1 := by
  cases h with
  | idle _ => omega
  | clear _ hc _ => exact hc.n
  | clearNo _ hc _ => exact hc.n
  | write _ _ _ hc _ => exact hc.n
  | writeNo _ _ _ hc _ => exact hc.n
end Go.Proofs.YtdojhkgnnbdfkaaGreat
/- A saver's calls: there, Left, slotBeside, the raw writes, Step. Conditions as each names them. -/
namespace Go.Proofs.YtdojhkgnnbdfkaaGreat
open BigFrame Go.ChangeShapes Go.WideShapes Go.ChangeAt Go.RowKit Go.Lib Go.Maps
set_option linter.unusedVariables false
set_option linter.unusedSimpArgs false

set_option maxHeartbeats 800000 in
theorem sthere_any {w : World} {sb : Nat} (h : w.cell? ⟨sb, 0, none⟩ = some (.bool true)) : Calls Tryz.prog 55 #[.pointer (some ⟨sb, 0, none⟩)] w fun e w' => e = .returned (.bool true) ∧ w = w' := by
  go_enter Tryz.func55, Tryz.ntmps55
  go_wp2
  go_ret
  exact ⟨rfl, rfl⟩
set_option maxHeartbeats 800000 in
theorem sthere_no (w : World) : Calls Tryz.prog 55 #[.pointer none] w fun e w' => e = .returned (.bool false) ∧ w = w' := by
  go_enter Tryz.func55, Tryz.ntmps55
  go_wp2
  go_ret
  exact ⟨rfl, rfl⟩
set_option maxHeartbeats 800000 in
theorem sthere_zero {w : World} {sb : Nat} (h : w.cell? ⟨sb, 0, none⟩ = some (.bool false)) : Calls Tryz.prog 55 #[.pointer (some ⟨sb, 0, none⟩)] w fun e w' => e = .returned (.bool false) ∧ w = w' := by
  go_enter Tryz.func55, Tryz.ntmps55
  go_wp2
  go_ret
  exact ⟨rfl, rfl⟩
set_option maxHeartbeats 800000 in
theorem sleft_any {w : World} {sb d fb ab : Nat} {fo : Option Addr} {fc ac slot : Nat} {zs : List Nat} {k n : Nat} (h : SaM w sb d fb ab fo fc ac slot zs k) (hn : n = nB zs.length + 1 - k) : Calls Tryz.prog 30 #[.pointer (some ⟨sb, 0, none⟩)] w fun e w' => e = .returned (.int .i64 (n : Int)) ∧ w = w' := by
  have c1 := h.c1
  rw [← hn] at c1
  have HT : Hid (Calls _ _ _ _ _) := sthere_any h.c0
  clear h hn
  go_enter Tryz.func30, Tryz.ntmps30
  go_wp2_with fail
  refine Calls.mono HT.out ?_
  rintro e w1 ⟨rfl, rfl⟩
  clear HT
  go_wp2
  go_ret
  exact ⟨rfl, rfl⟩
set_option maxHeartbeats 800000 in
theorem sleft_no (w : World) : Calls Tryz.prog 30 #[.pointer none] w fun e w' => e = .returned (.int .i64 0) ∧ w = w' := by
  have HT : Hid (Calls _ _ _ _ _) := sthere_no w
  go_enter Tryz.func30, Tryz.ntmps30
  go_wp2_with fail
  refine Calls.mono HT.out ?_
  rintro e w1 ⟨rfl, rfl⟩
  go_wp2
  go_ret
  exact ⟨rfl, rfl⟩
set_option maxHeartbeats 800000 in
theorem sleft_zero {w : World} {sb : Nat} (h : w.cell? ⟨sb, 0, none⟩ = some (.bool false)) : Calls Tryz.prog 30 #[.pointer (some ⟨sb, 0, none⟩)] w fun e w' => e = .returned (.int .i64 0) ∧ w = w' := by
  have HT : Hid (Calls _ _ _ _ _) := sthere_zero h
  clear h
  go_enter Tryz.func30, Tryz.ntmps30
  go_wp2_with fail
  refine Calls.mono HT.out ?_
  rintro e w1 ⟨rfl, rfl⟩
  go_wp2
  go_ret
  exact ⟨rfl, rfl⟩
/-- The slot beside the newest one. -/
def besN (i : Nat) (ok : Bool) : Nat := if ok then 1 - i else 0
set_option maxHeartbeats 800000 in
theorem beside_any (i : Nat) (ok : Bool) (w : World) (hi : i ≤ 1) : Calls Tryz.prog 54 #[.int .i64 (i : Int), .bool ok] w fun e w' => e = .returned (.int .i64 (besN i ok : Int)) ∧ w = w' := by
  cases ok with
  | false =>
    go_enter Tryz.func54, Tryz.ntmps54
    go_wp2
    go_ret
    exact ⟨rfl, rfl⟩
  | true =>
    have e1 : ((besN i true : Nat) : Int) = 1 - (i : Int) := by simp [besN]; omega
    rw [e1]
    go_enter Tryz.func54, Tryz.ntmps54
    go_wp2
    go_ret
    exact ⟨rfl, rfl⟩
theorem Tryz.infoFn0 : (Tryz.prog.info? 135).map (fun i => (i.zero, i.size, i.bytes)) = some (some .nilFunc, 1, 8) := by kernel_rfl
theorem Tryz.undFns : Tryz.prog.underlying 108 = some (.slice 135) := by kernel_rfl
set_option maxHeartbeats 4000000 in
set_option maxRecDepth 100000 in
theorem raws_any (d slot ab n ac : Nat) (w : World) (hn : n ≤ 16777216) (hac : n ≤ ac) (hs : slot ≤ 1) :
    Calls Tryz.prog 53 #[.pointer (some ⟨d, 0, none⟩), .int .i64 (slot : Int), .slice (some ⟨ab, 0, none⟩) n ac] w fun e w' => ∃ fb fc, e = .returned (.slice (some ⟨fb, 0, none⟩) (nB n + 1) fc) ∧ w'.ownsRow w.heap.size 135 1 (.slice (some ⟨fb, 0, none⟩) (nB n + 1) fc) (nB n + 1) (rawsV d slot ab ac n (nB n)) ∧ Fr [] w w' := by
  obtain ⟨i0, hi, hz0, hz1, hz2⟩ := info_parts Tryz.infoFn0
  obtain ⟨w1, HW1⟩ : ∃ w1, Hid (w.alloc (.cells #[clearV d slot] 135) = w1) := ⟨_, rfl⟩
  have hF1 : Fr [] w w1 := by rw [← HW1.out]; exact Fr.alloc [] w _
  obtain ⟨R, hR⟩ : ∃ R, R = w.heap.size := ⟨_, rfl⟩
  have hO1 : w1.ownsRow 0 135 1 (.slice (some ⟨R, 0, none⟩) (0 + 1) 1) (0 + 1) (rawsV d slot ab ac n 0) := by
    refine ⟨by simp [rawsV], .inr ⟨R, 1, #[clearV d slot], rfl, by omega, ?_, by omega, by unfold maxLen; omega, by simp, by simp [rawsV]⟩⟩
    rw [← HW1.out, hR]
    exact heap_alloc_new w _
  have HO1 : Hid (w1.ownsRow 0 135 1 (.slice (some ⟨R, 0, none⟩) (0 + 1) 1) (0 + 1) (rawsV d slot ab ac n 0) ∧ w.heap.size ≤ R ∧ Fr [] w w1) := ⟨hO1, by omega, hF1⟩
  clear hO1 hF1
  go_enter Tryz.func53, Tryz.ntmps53
  go_upto_region 2 with fail
  rw [show w.alloc (.cells #[Value.func (Fn.func 80) #[.agg #[.pointer (some ⟨d, 0, none⟩), .int .i64 (slot : Int), .int .i64 0, .slice none 0 0]] #[]] 135) = w1 from HW1.out]
  rw [← hR]
  clear HW1 hR
  go_wp2_with fail
  go_loopw [7, 8] (fun ll aa wr => ∃ (k a fb fc : Nat), ll = .slice (some ⟨fb, 0, none⟩) (k + 1) fc ∧ aa = .int .i64 (a : Int) ∧ a ≤ n + 63 ∧ Hid (a = 64 * k ∧ k ≤ nB n) ∧ Hid (wr.ownsRow 0 135 1 (.slice (some ⟨fb, 0, none⟩) (k + 1) fc) (k + 1) (rawsV d slot ab ac n k) ∧ w.heap.size ≤ fb ∧ Fr [] w wr)) (fun _ aa _ => n + 64 - (RowKit.intOf aa).toNat)
  case atStart => exact ⟨0, 0, R, 1, rfl, rfl, by omega, ⟨rfl, Nat.zero_le _⟩, HO1⟩
  case round =>
    clear HO1
    obtain ⟨k, a, fb, fc, rfl, rfl, hau, HK, HO⟩ := hrel
    by_cases ha : a < n
    · have hlt : (a : Int) < n := by omega
      have hk1 : k < nB n := nB_le (by have := HK.out.1; omega)
      have hkb : k ≤ 262144 := by have := nB_few hn; omega
      obtain ⟨en, HEn⟩ : ∃ en, Hid (en = min (a + 64) n) := ⟨_, rfl⟩
      have hen : a < en ∧ en ≤ a + 64 ∧ en ≤ n := by have := HEn.out; omega
      obtain ⟨h1, h2, h3⟩ := hen
      have hsl : ∀ W : World, (Instr.sliceAt 76 (.slice (some ⟨ab, 0, none⟩) n ac) (some (.int .i64 (a : Int))) (some (.int .i64 (en : Int))) none).run Tryz.prog W = .ok (.slice (some ⟨ab, a, none⟩) (en - a) (ac - a)) W := fun W => by
        rw [slB_lh (some ⟨ab, 0, none⟩) n ac a en (by omega) (by omega) W]
        unfold fromB
        rw [if_neg (by omega)]
        simp [Addr.add_lit]
      obtain ⟨V, HV⟩ : ∃ V, Hid (V = Value.func (Fn.func 81) #[.agg #[.pointer (some ⟨d, 0, none⟩), .int .i64 (slot : Int), .int .i64 (a : Int), .slice (some ⟨ab, a, none⟩) (en - a) (ac - a)]] #[]) := ⟨_, rfl⟩
      have HVp : Hid (pieceV d slot ab ac n k = V) := by
        show _ = _
        rw [HV.out, HEn.out, HK.out.1]
        rfl
      have hV1 : V.oneCell' = true := by rw [HV.out]; rfl
      have HOa : Hid ((wr.alloc (Obj.cells #[V] 135)).ownsRow 0 135 1 (.slice (some ⟨fb, 0, none⟩) (k + 1) fc) (k + 1) (rawsV d slot ab ac n k)) := owns_keep HO.out.1 (Fr.alloc [] _ _) (by simp)
      have hnew : (wr.alloc (Obj.cells #[V] 135)).heap[wr.heap.size]? = some (Obj.cells #[V] 135) := heap_alloc_new wr _
      have HNw : Hid (∀ (j : Nat) u, [V][j]? = some u → (wr.alloc (Obj.cells #[V] 135)).cell? ((⟨wr.heap.size, 0, none⟩ : Addr).add j) = some u) := by
        intro j u hj
        rw [show (⟨wr.heap.size, 0, none⟩ : Addr).add j = ⟨wr.heap.size, j, none⟩ from by rw [Addr.add_lit, Nat.zero_add], cell_of_row _ _ _ _ _ _ hnew]
        simpa using hj
      have HNx : Hid (∀ g' c' w', w'.ownsRow 0 135 1 (.slice (some ⟨g', 0, none⟩) (k + 1 + 1) c') (k + 1 + 1) (rawsV d slot ab ac n k ++ [V]) → Went (wr.alloc (Obj.cells #[V] 135)) (.slice (some ⟨fb, 0, none⟩) (k + 1) fc) g' w' → Hid (w'.ownsRow 0 135 1 (.slice (some ⟨g', 0, none⟩) (k + 1 + 1) c') (k + 1 + 1) (rawsV d slot ab ac n (k + 1)) ∧ w.heap.size ≤ g' ∧ Fr [] w w')) := fun g' c' w' hO hW => by
        have hFa : Fr [] w (wr.alloc (Obj.cells #[V] 135)) := HO.out.2.2.then (Fr.alloc [] _ _)
        refine ⟨by rw [rawsV_succ, HVp.out]; exact hO, ?_, ?_⟩
        · rcases hW with ⟨hv, _⟩ | ⟨hv, _⟩
          · simp [Value.ownBlock] at hv
            have := HO.out.2.1
            omega
          · have := hFa.size
            omega
        · exact hFa.on hW.fr (fun j hj => by simp [Value.ownBlock] at hj; have := HO.out.2.1; omega)
      clear hnew
      have hmin : min ((a : Int) + 64) (n : Int) = (en : Int) := by have := HEn.out; omega
      go_upto_region 6 with fail
      clear hmin
      go_wp2_with (at_builtin; go_loud (rw [← HV.out]; refine wpList_app _ rfl (.tmp 26) (.tmp 36) 108 rfl 135 i0 .nilFunc 1 8 Tryz.undFns hi hz0 hz1 hz2 rfl (by omega) _ _ _ rfl HOa.out ⟨wr.heap.size, 0, none⟩ 1 [V] rfl rfl HNw.out (by simpa using hV1) (by omega) (by simp only [maxLen]; omega) ?_))
      intro g' c' w' hO2 hW2
      have HR := HNx.out g' c' w' hO2 hW2
      have HK2 : Hid (a + 64 = 64 * (k + 1) ∧ k + 1 ≤ nB n) := ⟨by have := HK.out.1; omega, by omega⟩
      clear hO2 hW2 HNx HOa HNw HK hsl
      go_wp2_with fail
      go_roundw
      case rel => exact ⟨k + 1, a + 64, g', c', rfl, by simp, by omega, HK2, HR⟩
      case measure => simp [RowKit.intOf]; omega
    · have hlt : ¬ (a : Int) < n := by omega
      have hkk : k = nB n := by have := nB_ge (n := n) (k := k) (by have := HK.out.1; omega); have := HK.out.2; omega
      have HR : Hid (wr.ownsRow w.heap.size 135 1 (.slice (some ⟨fb, 0, none⟩) (nB n + 1) fc) (nB n + 1) (rawsV d slot ab ac n (nB n)) ∧ Fr [] w wr) := by
        rw [← hkk]
        refine ⟨⟨HO.out.1.1, ?_⟩, HO.out.2.2⟩
        rcases HO.out.1.2 with ⟨hh, _⟩ | ⟨g, cap, cur, hh, _, hr⟩
        · cases hh
        · cases hh
          exact .inr ⟨fb, fc, cur, rfl, HO.out.2.1, hr⟩
      have HKk : Hid (k = nB n) := hkk
      clear hkk
      go_wp2
      go_ret
      rw [HKk.out]
      exact ⟨fb, fc, rfl, HR.out⟩
end Go.Proofs.YtdojhkgnnbdfkaaGreat
/- A saver's Step: contracts. Conditions: a disk that is there, apart from the saver; fewer than 2^40 raw writes. -/
namespace Go.Proofs.YtdojhkgnnbdfkaaGreat
open BigFrame Go.ChangeShapes Go.WideShapes Go.ChangeAt Go.RowKit Go.Lib Go.Maps
set_option linter.unusedVariables false
set_option linter.unusedSimpArgs false

set_option maxHeartbeats 1000000 in
theorem pclear_any {w0 w : World} {d slot : Nat} {S : List Nat} {t t' : Sk} {E : Int} (h : LD w0 w d S t) (hn : t.n < 2^40) (hc : Cleared t (slot : Int) E t') :
    Calls Tryz.prog 80 #[.agg #[.pointer (some ⟨d, 0, none⟩), .int .i64 (slot : Int), .int .i64 0, .slice none 0 0]] w fun e w' => e = .returned (.int .i64 E) ∧ ∃ S', LD w0 w' d S' t' ∧ To S S' w w' := by
  obtain ⟨w1, HW1⟩ : ∃ w1, Hid (w.alloc (.cells #[.pointer (some ⟨d, 0, none⟩), .int .i64 (slot : Int), .int .i64 0, .slice none 0 0] 137) = w1) := ⟨_, rfl⟩
  have hF1 : Fr [] w w1 := by rw [← HW1.out]; exact Fr.alloc [] w _
  have hb1 : w1.heap[w.heap.size]? = some (.cells #[.pointer (some ⟨d, 0, none⟩), .int .i64 (slot : Int), .int .i64 0, .slice none 0 0] 137 (0, 0)) := by rw [← HW1.out]; exact heap_alloc_new w _
  obtain ⟨R, hR⟩ : ∃ R, R = w.heap.size := ⟨_, rfl⟩
  have c0 : w1.cell? ⟨R, 0, none⟩ = some (.pointer (some ⟨d, 0, none⟩)) := by rw [hR, cell_of_row _ _ _ _ _ _ hb1]; rfl
  have c1 : w1.cell? ⟨R, 1, none⟩ = some (.int .i64 (slot : Int)) := by rw [hR, cell_of_row _ _ _ _ _ _ hb1]; rfl
  have HC : Hid (Calls _ _ _ _ _) := ld_clear (h.quiet hF1) hn hc
  have HF : Hid (Fr [] w w1) := hF1
  clear h hc hb1 hF1
  go_enter Tryz.func80, Tryz.ntmps80
  go_upto_region 1 with fail
  rw [HW1.out, ← hR]
  clear HW1 hR
  go_wp2_with fail
  refine Calls.mono HC.out ?_
  rintro e w2 ⟨rfl, S', hL, hT⟩
  have HR : Hid (∃ S', LD w0 w2 d S' t' ∧ To S S' w w2) := ⟨S', hL, (To.quiet HF.out).then hT⟩
  clear hL hT HC
  go_wp2
  go_ret
  exact ⟨rfl, HR.out⟩
set_option maxHeartbeats 1000000 in
theorem pwrite_any {w0 w : World} {d slot a : Nat} {S : List Nat} {t t' : Sk} {E : Int} {bo : Option Addr} {M cb : Nat} {ys : List Nat} (h : LD w0 w d S t) (hn : t.n < 2^40) (ha : a ≤ 9223372036854775807) (hB : BArg w bo M cb ys) (hap : 0 < M → ∀ a, bo = some a → a.block ∉ S) (hc : Wrote t (slot : Int) (a : Int) ys E t') :
    Calls Tryz.prog 81 #[.agg #[.pointer (some ⟨d, 0, none⟩), .int .i64 (slot : Int), .int .i64 (a : Int), .slice bo M cb]] w fun e w' => e = .returned (.int .i64 E) ∧ ∃ S', LD w0 w' d S' t' ∧ To S S' w w' := by
  obtain ⟨w1, HW1⟩ : ∃ w1, Hid (w.alloc (.cells #[.pointer (some ⟨d, 0, none⟩), .int .i64 (slot : Int), .int .i64 (a : Int), .slice bo M cb] 137) = w1) := ⟨_, rfl⟩
  have hF1 : Fr [] w w1 := by rw [← HW1.out]; exact Fr.alloc [] w _
  have hb1 : w1.heap[w.heap.size]? = some (.cells #[.pointer (some ⟨d, 0, none⟩), .int .i64 (slot : Int), .int .i64 (a : Int), .slice bo M cb] 137 (0, 0)) := by rw [← HW1.out]; exact heap_alloc_new w _
  obtain ⟨R, hR⟩ : ∃ R, R = w.heap.size := ⟨_, rfl⟩
  have c0 : w1.cell? ⟨R, 0, none⟩ = some (.pointer (some ⟨d, 0, none⟩)) := by rw [hR, cell_of_row _ _ _ _ _ _ hb1]; rfl
  have c1 : w1.cell? ⟨R, 1, none⟩ = some (.int .i64 (slot : Int)) := by rw [hR, cell_of_row _ _ _ _ _ _ hb1]; rfl
  have c2 : w1.cell? ⟨R, 2, none⟩ = some (.int .i64 (a : Int)) := by rw [hR, cell_of_row _ _ _ _ _ _ hb1]; rfl
  have c3 : w1.cell? ⟨R, 3, none⟩ = some (.slice bo M cb) := by rw [hR, cell_of_row _ _ _ _ _ _ hb1]; rfl
  have HC : Hid (Calls _ _ _ _ _) := ld_write (h.quiet hF1) hn (by omega) (hB.keep hF1) hap hc
  have HF : Hid (Fr [] w w1) := hF1
  clear h hc hb1 hF1 hB hap
  go_enter Tryz.func81, Tryz.ntmps81
  go_upto_region 1 with fail
  rw [HW1.out, ← hR]
  clear HW1 hR
  go_wp2_with fail
  refine Calls.mono HC.out ?_
  rintro e w2 ⟨rfl, S', hL, hT⟩
  have HR : Hid (∃ S', LD w0 w2 d S' t' ∧ To S S' w w2) := ⟨S', hL, (To.quiet HF.out).then hT⟩
  clear hL hT HC
  go_wp2
  go_ret
  exact ⟨rfl, HR.out⟩
/-- What is left behind a step. -/
def StP (w0 w : World) (d sb fb ab ac slot : Nat) (S : List Nat) (zs : List Nat) (E : Int) (t' : Sk) (k' : Nat) (e : Ending) (w' : World) : Prop := e = .returned (.int .i64 E) ∧ ∃ S' fo' fc', LD w0 w' d S' t' ∧ SaM w' sb d fb ab fo' fc' ac slot zs k' ∧ (∀ q ∈ S', q ∈ S ∨ w.heap.size ≤ q) ∧ Fr (sb :: S) w w'
end Go.Proofs.YtdojhkgnnbdfkaaGreat
