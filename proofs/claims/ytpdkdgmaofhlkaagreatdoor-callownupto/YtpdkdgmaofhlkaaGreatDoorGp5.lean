/- Texts of this claim laid together, one behind the other: contracts and plain lemmas; conditions as each names them. -/
import Derived.Test.YtpdkdgmaofhlkaaGreatDoorGp4
import Derived.Laws.Rows
import Derived.Laws.ResultCell
import Derived.Deep.RegionHeld3
import Derived.Deep.Cut
/- A task of the program as it lies in memory; there, New, mayBeBeyond, Mark. Conditions as each names them. -/
namespace Go.Proofs.YtpdkdgmaofhlkaaGreatDoor
open Go.ChangeShapes Go.WideShapes Go.ChangeAt Go.RowKit Go.Lib
set_option linter.unusedVariables false
set_option linter.unusedSimpArgs false

structure Tk where
  n : Int
  l : Int
  s : Int
  x : Int
  q : Int
  k : Int
  key : ByteArray
  en : ByteArray
  bg : Bool
  ma : Int
  r : Rv
  ak : Nat
  rp : Nat
  ev : Value
  hv : Value
  ct : Int
def Tk.row (T : Tk) : Array Value := #[.int .i64 T.n, .int .i64 T.l, .int .i64 T.s, .int .i64 T.x, .int .i64 T.q, .int .u8 T.k, .string T.key, .string T.en, .bool T.bg, .int .i64 T.ma, .int .u8 T.r.k, .int .i64 T.r.f, .int .i64 T.r.n, .string ⟨#[]⟩, .string ⟨#[]⟩, .bool false, .string T.r.key, .string T.r.en, .slice T.r.bo T.r.bl T.r.bc, .int .i64 (T.ak : Int), .int .i64 (T.rp : Int), T.ev, T.hv, .int .i64 T.ct]
/-- The task lies in block t. -/
def TkM (w : World) (t : Nat) (T : Tk) : Prop := w.heap[t]? = some (.cells T.row 82 (0, 0))
theorem TkM.lt {w : World} {t : Nat} {T : Tk} (h : TkM w t T) : t < w.heap.size := lt_of_block h
theorem TkM.keep {S : List Nat} {w w' : World} {t : Nat} {T : Tk} (h : TkM w t T) (hf : Fr S w w') (hn : t ∉ S) : TkM w' t T := hf.keep h hn
theorem TkM.c0 {w : World} {t : Nat} {T : Tk} (h : TkM w t T) : w.cell? ⟨t, 0, none⟩ = some (.int .i64 T.n) := by rw [cell_of_row _ _ _ _ _ _ h]; rfl
theorem TkM.c1 {w : World} {t : Nat} {T : Tk} (h : TkM w t T) : w.cell? ⟨t, 1, none⟩ = some (.int .i64 T.l) := by rw [cell_of_row _ _ _ _ _ _ h]; rfl
theorem TkM.c2 {w : World} {t : Nat} {T : Tk} (h : TkM w t T) : w.cell? ⟨t, 2, none⟩ = some (.int .i64 T.s) := by rw [cell_of_row _ _ _ _ _ _ h]; rfl
theorem TkM.c3 {w : World} {t : Nat} {T : Tk} (h : TkM w t T) : w.cell? ⟨t, 3, none⟩ = some (.int .i64 T.x) := by rw [cell_of_row _ _ _ _ _ _ h]; rfl
theorem TkM.c4 {w : World} {t : Nat} {T : Tk} (h : TkM w t T) : w.cell? ⟨t, 4, none⟩ = some (.int .i64 T.q) := by rw [cell_of_row _ _ _ _ _ _ h]; rfl
theorem TkM.c5 {w : World} {t : Nat} {T : Tk} (h : TkM w t T) : w.cell? ⟨t, 5, none⟩ = some (.int .u8 T.k) := by rw [cell_of_row _ _ _ _ _ _ h]; rfl
theorem TkM.c6 {w : World} {t : Nat} {T : Tk} (h : TkM w t T) : w.cell? ⟨t, 6, none⟩ = some (.string T.key) := by rw [cell_of_row _ _ _ _ _ _ h]; rfl
theorem TkM.c7 {w : World} {t : Nat} {T : Tk} (h : TkM w t T) : w.cell? ⟨t, 7, none⟩ = some (.string T.en) := by rw [cell_of_row _ _ _ _ _ _ h]; rfl
theorem TkM.c8 {w : World} {t : Nat} {T : Tk} (h : TkM w t T) : w.cell? ⟨t, 8, none⟩ = some (.bool T.bg) := by rw [cell_of_row _ _ _ _ _ _ h]; rfl
theorem TkM.c9 {w : World} {t : Nat} {T : Tk} (h : TkM w t T) : w.cell? ⟨t, 9, none⟩ = some (.int .i64 T.ma) := by rw [cell_of_row _ _ _ _ _ _ h]; rfl
theorem TkM.c10 {w : World} {t : Nat} {T : Tk} (h : TkM w t T) : w.cell? ⟨t, 10, none⟩ = some (.int .u8 T.r.k) := by rw [cell_of_row _ _ _ _ _ _ h]; rfl
theorem TkM.c11 {w : World} {t : Nat} {T : Tk} (h : TkM w t T) : w.cell? ⟨t, 11, none⟩ = some (.int .i64 T.r.f) := by rw [cell_of_row _ _ _ _ _ _ h]; rfl
theorem TkM.c12 {w : World} {t : Nat} {T : Tk} (h : TkM w t T) : w.cell? ⟨t, 12, none⟩ = some (.int .i64 T.r.n) := by rw [cell_of_row _ _ _ _ _ _ h]; rfl
theorem TkM.c13 {w : World} {t : Nat} {T : Tk} (h : TkM w t T) : w.cell? ⟨t, 13, none⟩ = some (.string ⟨#[]⟩) := by rw [cell_of_row _ _ _ _ _ _ h]; rfl
theorem TkM.c14 {w : World} {t : Nat} {T : Tk} (h : TkM w t T) : w.cell? ⟨t, 14, none⟩ = some (.string ⟨#[]⟩) := by rw [cell_of_row _ _ _ _ _ _ h]; rfl
theorem TkM.c15 {w : World} {t : Nat} {T : Tk} (h : TkM w t T) : w.cell? ⟨t, 15, none⟩ = some (.bool false) := by rw [cell_of_row _ _ _ _ _ _ h]; rfl
theorem TkM.c16 {w : World} {t : Nat} {T : Tk} (h : TkM w t T) : w.cell? ⟨t, 16, none⟩ = some (.string T.r.key) := by rw [cell_of_row _ _ _ _ _ _ h]; rfl
theorem TkM.c17 {w : World} {t : Nat} {T : Tk} (h : TkM w t T) : w.cell? ⟨t, 17, none⟩ = some (.string T.r.en) := by rw [cell_of_row _ _ _ _ _ _ h]; rfl
theorem TkM.c18 {w : World} {t : Nat} {T : Tk} (h : TkM w t T) : w.cell? ⟨t, 18, none⟩ = some (.slice T.r.bo T.r.bl T.r.bc) := by rw [cell_of_row _ _ _ _ _ _ h]; rfl
theorem TkM.c19 {w : World} {t : Nat} {T : Tk} (h : TkM w t T) : w.cell? ⟨t, 19, none⟩ = some (.int .i64 (T.ak : Int)) := by rw [cell_of_row _ _ _ _ _ _ h]; rfl
theorem TkM.c20 {w : World} {t : Nat} {T : Tk} (h : TkM w t T) : w.cell? ⟨t, 20, none⟩ = some (.int .i64 (T.rp : Int)) := by rw [cell_of_row _ _ _ _ _ _ h]; rfl
theorem TkM.c21 {w : World} {t : Nat} {T : Tk} (h : TkM w t T) : w.cell? ⟨t, 21, none⟩ = some (T.ev) := by rw [cell_of_row _ _ _ _ _ _ h]; rfl
theorem TkM.c22 {w : World} {t : Nat} {T : Tk} (h : TkM w t T) : w.cell? ⟨t, 22, none⟩ = some (T.hv) := by rw [cell_of_row _ _ _ _ _ _ h]; rfl
theorem TkM.c23 {w : World} {t : Nat} {T : Tk} (h : TkM w t T) : w.cell? ⟨t, 23, none⟩ = some (.int .i64 T.ct) := by rw [cell_of_row _ _ _ _ _ _ h]; rfl
theorem TkM.fz {w : World} {t : Nat} {T : Tk} (h : TkM w t T) (j : Nat) : w.frozen? ⟨t, j, none⟩ = false := by unfold TkM at h; simp [World.frozen?, h]
/-- A task that New has just made. -/
def Tk.new (n l s x q k : Int) (key en : ByteArray) : Tk := ⟨n, l, s, x, q, k, key, en, false, 0, Rv.zero, 0, 0, .slice none 0 0, .slice none 0 0, 0⟩
/-- A task that is not there: none, or a struct that New did not make. -/
def Tk.none : Tk := Tk.new 0 0 0 0 0 0 ⟨#[]⟩ ⟨#[]⟩
def NoT (p : Value) (w : World) : Prop := p = .pointer none ∨ ∃ t, p = .pointer (some ⟨t, 0, none⟩) ∧ TkM w t Tk.none
theorem NoT.keep {p : Value} {w w' : World} (h : NoT p w) (hf : Fr [] w w') : NoT p w' := by
  rcases h with h | ⟨t, e, ht⟩
  · exact Or.inl h
  · exact Or.inr ⟨t, e, ht.keep hf (by simp)⟩
theorem qthere_any {w : World} {t : Nat} {T : Tk} (h : TkM w t T) (hn : T.n < 0) : Calls Tryz.prog 18 #[.pointer (some ⟨t, 0, none⟩)] w fun e w' => e = .returned (.bool true) ∧ w = w' := by
  have c0 := h.c0
  clear h
  obtain ⟨n, hnn⟩ : ∃ n, n = T.n := ⟨_, rfl⟩
  rw [← hnn] at c0 hn
  clear hnn
  go_enter Tryz.func18, Tryz.ntmps18
  go_wp2
  go_ret
  exact ⟨rfl, rfl⟩
theorem qthere_no {p : Value} {w : World} (h : NoT p w) : Calls Tryz.prog 18 #[p] w fun e w' => e = .returned (.bool false) ∧ w = w' := by
  rcases h with rfl | ⟨t, rfl, ht⟩
  · go_enter Tryz.func18, Tryz.ntmps18
    go_wp2
    go_ret
    exact ⟨rfl, rfl⟩
  · have c0 : w.cell? ⟨t, 0, none⟩ = some (.int .i64 0) := ht.c0
    clear ht
    go_enter Tryz.func18, Tryz.ntmps18
    go_wp2
    go_ret
    exact ⟨rfl, rfl⟩
/-- What New answers besides. -/
def newE (n l s x q k : Int) (key en : ByteArray) : Int := if 0 ≤ n then 1 else if ¬ Cf.may ⟨l, s, x, q⟩ then 7 else ckE k key en
set_option maxHeartbeats 4000000 in
set_option maxRecDepth 100000 in
theorem qnew_no (n l s x q k : Int) (key en : ByteArray) (w : World) (hk : 0 ≤ k ∧ k ≤ 255) (he : newE n l s x q k key en ≠ 0) :
    Calls Tryz.prog 4 #[.int .i64 n, .agg #[.int .i64 l, .int .i64 s, .int .i64 x, .int .i64 q], .agg #[.int .u8 k, .string key, .string en]] w fun e w' => e = .returned (.tuple #[.pointer none, .int .i64 (newE n l s x q k key en)]) ∧ Fr [] w w' := by
  have HC := fun w => check_cells l s x q w
  have HK := fun w => qcheck_any k key en w hk
  have HF0 : Hid (Fr [] w ((w.alloc (.cells #[.int .i64 l, .int .i64 s, .int .i64 x, .int .i64 q] 23)).alloc (.cells #[.int .u8 k, .string key, .string en] 26))) := (Fr.alloc _ _ _).then (Fr.alloc _ _ _)
  by_cases hn : 0 ≤ n
  · have E : newE n l s x q k key en = 1 := if_pos hn
    rw [E]
    clear E he HC HK
    go_enter Tryz.func4, Tryz.ntmps4
    go_wp2
    refine bodyPost_ret (results_tmp2 rfl _ _ _) rfl ?_
    exact ⟨rfl, HF0.out⟩
  · by_cases hm : Cf.may ⟨l, s, x, q⟩
    · have E : newE n l s x q k key en = ckE k key en := by unfold newE; rw [if_neg hn, if_neg (not_not_intro hm)]
      have hc : ¬ okC k key en := fun h => he (by rw [E]; exact if_pos h)
      have E1 : ckE k key en = 1 := if_neg hc
      have E2 : Cf.err ⟨l, s, x, q⟩ = 0 := if_pos hm
      rw [E, E1]
      rw [E1] at HK
      rw [E2] at HC
      clear E E1 E2 he hm hc
      go_enter Tryz.func4, Tryz.ntmps4
      go_wp2_with fail
      refine (HC _).mono ?_
      rintro e w1 ⟨rfl, hf1⟩
      have HF : Hid (Fr [] w w1) := HF0.out.then hf1
      have c0 : w1.cell? ⟨w.heap.size + 1, 0, none⟩ = some (.int .u8 k) := by rw [World.cell?_of_block (hf1.block _ (by simp) (by simp))]; simp [World.cell?_alloc_at]
      have c1 : w1.cell? ⟨w.heap.size + 1, 1, none⟩ = some (.string key) := by rw [World.cell?_of_block (hf1.block _ (by simp) (by simp))]; simp [World.cell?_alloc_at]
      have c2 : w1.cell? ⟨w.heap.size + 1, 2, none⟩ = some (.string en) := by rw [World.cell?_of_block (hf1.block _ (by simp) (by simp))]; simp [World.cell?_alloc_at]
      clear hf1 HF0
      go_wp2_with fail
      refine (HK _).mono ?_
      rintro e w2 ⟨rfl, hf2⟩
      have HF2 : Hid (Fr [] w w2) := HF.out.then hf2
      clear hf2 HF
      go_wp2
      refine bodyPost_ret (results_tmp2 rfl _ _ _) rfl ?_
      exact ⟨rfl, HF2.out⟩
    · have E : newE n l s x q k key en = 7 := by unfold newE; rw [if_neg hn, if_pos hm]
      have E2 : Cf.err ⟨l, s, x, q⟩ = 7 := if_neg hm
      rw [E]
      rw [E2] at HC
      clear E E2 he hm HK
      go_enter Tryz.func4, Tryz.ntmps4
      go_wp2_with fail
      refine (HC _).mono ?_
      rintro e w1 ⟨rfl, hf1⟩
      have HF : Hid (Fr [] w w1) := HF0.out.then hf1
      clear hf1 HF0
      go_wp2
      refine bodyPost_ret (results_tmp2 rfl _ _ _) rfl ?_
      exact ⟨rfl, HF.out⟩
set_option maxHeartbeats 4000000 in
set_option maxRecDepth 100000 in
theorem qnew_any (n l s x q k : Int) (key en : ByteArray) (w : World) (hk : 0 ≤ k ∧ k ≤ 255) (he : newE n l s x q k key en = 0) :
    Calls Tryz.prog 4 #[.int .i64 n, .agg #[.int .i64 l, .int .i64 s, .int .i64 x, .int .i64 q], .agg #[.int .u8 k, .string key, .string en]] w fun e w' => ∃ t, e = .returned (.tuple #[.pointer (some ⟨t, 0, none⟩), .int .i64 0]) ∧ w.heap.size ≤ t ∧ TkM w' t (Tk.new n l s x q k key en) ∧ Fr [] w w' := by
  have HC := fun w => check_cells l s x q w
  have HK := fun w => qcheck_any k key en w hk
  have HF0 : Hid (Fr [] w ((w.alloc (.cells #[.int .i64 l, .int .i64 s, .int .i64 x, .int .i64 q] 23)).alloc (.cells #[.int .u8 k, .string key, .string en] 26))) := (Fr.alloc _ _ _).then (Fr.alloc _ _ _)
  unfold newE at he
  have hn : ¬ 0 ≤ n := fun h => by rw [if_pos h] at he; cases he
  rw [if_neg hn] at he
  have hm : Cf.may ⟨l, s, x, q⟩ := by
    by_cases h : Cf.may ⟨l, s, x, q⟩
    · exact h
    · rw [if_pos h] at he; cases he
  rw [if_neg (not_not_intro hm)] at he
  have E2 : Cf.err ⟨l, s, x, q⟩ = 0 := if_pos hm
  rw [he] at HK
  rw [E2] at HC
  clear E2 he hm
  go_enter Tryz.func4, Tryz.ntmps4
  go_wp2_with fail
  refine (HC _).mono ?_
  rintro e w1 ⟨rfl, hf1⟩
  have HF : Hid (Fr [] w w1) := HF0.out.then hf1
  have HB : Hid (w.heap.size + 2 ≤ w1.heap.size) := by have := hf1.size; simp at this; exact this
  have c0 : w1.cell? ⟨w.heap.size + 1, 0, none⟩ = some (.int .u8 k) := by rw [World.cell?_of_block (hf1.block _ (by simp) (by simp))]; simp [World.cell?_alloc_at]
  have c1 : w1.cell? ⟨w.heap.size + 1, 1, none⟩ = some (.string key) := by rw [World.cell?_of_block (hf1.block _ (by simp) (by simp))]; simp [World.cell?_alloc_at]
  have c2 : w1.cell? ⟨w.heap.size + 1, 2, none⟩ = some (.string en) := by rw [World.cell?_of_block (hf1.block _ (by simp) (by simp))]; simp [World.cell?_alloc_at]
  have d0 : w1.cell? ⟨w.heap.size, 0, none⟩ = some (.int .i64 l) := by rw [World.cell?_of_block (hf1.block w.heap.size (by simp; omega) (by simp)), World.cell?_of_block (w := w.alloc _) (Below.heap_alloc _ _ _ (by simp))]; simp [World.cell?_alloc_at]
  have d1 : w1.cell? ⟨w.heap.size, 1, none⟩ = some (.int .i64 s) := by rw [World.cell?_of_block (hf1.block w.heap.size (by simp; omega) (by simp)), World.cell?_of_block (w := w.alloc _) (Below.heap_alloc _ _ _ (by simp))]; simp [World.cell?_alloc_at]
  have d2 : w1.cell? ⟨w.heap.size, 2, none⟩ = some (.int .i64 x) := by rw [World.cell?_of_block (hf1.block w.heap.size (by simp; omega) (by simp)), World.cell?_of_block (w := w.alloc _) (Below.heap_alloc _ _ _ (by simp))]; simp [World.cell?_alloc_at]
  have d3 : w1.cell? ⟨w.heap.size, 3, none⟩ = some (.int .i64 q) := by rw [World.cell?_of_block (hf1.block w.heap.size (by simp; omega) (by simp)), World.cell?_of_block (w := w.alloc _) (Below.heap_alloc _ _ _ (by simp))]; simp [World.cell?_alloc_at]
  have HQ : Hid (∀ W, Fr [] w1 W → ∀ j, W.cell? ⟨w.heap.size, j, none⟩ = w1.cell? ⟨w.heap.size, j, none⟩ ∧ W.cell? ⟨w.heap.size + 1, j, none⟩ = w1.cell? ⟨w.heap.size + 1, j, none⟩) := fun W hW j => ⟨World.cell?_of_block (hW.block w.heap.size (by have := HB.out; omega) (by simp)), World.cell?_of_block (hW.block (w.heap.size + 1) (by have := HB.out; omega) (by simp))⟩
  clear hf1 HF0
  go_wp2_with fail
  refine (HK _).mono ?_
  rintro e w2 ⟨rfl, hf2⟩
  have HF2 : Hid (Fr [] w w2) := HF.out.then hf2
  have k0 := ((HQ.out w2 hf2 0).2).trans c0
  have k1 := ((HQ.out w2 hf2 1).2).trans c1
  have k2 := ((HQ.out w2 hf2 2).2).trans c2
  have l0 := ((HQ.out w2 hf2 0).1).trans d0
  have l1 := ((HQ.out w2 hf2 1).1).trans d1
  have l2 := ((HQ.out w2 hf2 2).1).trans d2
  have l3 := ((HQ.out w2 hf2 3).1).trans d3
  clear hf2 HF c0 c1 c2 d0 d1 d2 d3 HQ
  go_wp2
  refine bodyPost_ret (results_tmp2 rfl _ _ _) rfl ?_
  refine ⟨w2.heap.size, rfl, HF2.out.size, ?_, HF2.out.then (Fr.alloc _ _ _)⟩
  exact heap_alloc_new w2 _
/-- Numbers that rise, each above one, at most 65536. -/
def Ab : Int → List Int → Prop
  | _, [] => True
  | a, n :: ns => a < n ∧ n ≤ 65536 ∧ Ab n ns
theorem drop_getD17 (ns : List Int) (i : Nat) (h : i < ns.length) : ns.drop i = ns.getD i 0 :: ns.drop (i + 1) := by
  rw [List.drop_eq_getElem_cons h]
  simp [List.getD, h]
theorem Ab.few : ∀ {ns : List Int} {a : Int}, 0 ≤ a → Ab a ns → (ns.length : Int) + a ≤ 65536 ∨ ns = []
  | [], a, _, _ => Or.inr rfl
  | n :: ns, a, ha, h => by
    rcases Ab.few (by have := h.1; omega) h.2.2 with e | e
    · left
      have := h.1
      simp only [List.length_cons]
      omega
    · left
      subst e
      have := h.1
      have := h.2.1
      simp
      omega
theorem Ab.short {ns : List Int} {a : Int} (ha : 0 ≤ a) (h : Ab a ns) : ns.length ≤ 65536 := by
  rcases Ab.few ha h with e | e
  · omega
  · subst e; simp
set_option maxHeartbeats 4000000 in
set_option maxRecDepth 100000 in
theorem qmayb_any (m : Int) (ao : Option Addr) (L cap : Nat) (ns : List Int) (B : Bool) (w : World) (hm : 0 ≤ m ∧ m ≤ 65536) (hI : IRs w ao ns) (hL : L = ns.length) (hB : B = true ↔ Ab (m + 1) ns) :
    Calls Tryz.prog 19 #[.int .i64 m, .slice ao L cap] w fun e w' => e = .returned (.bool B) ∧ w = w' := by
  have HL : Hid (L = ns.length) := hL
  have HB : Hid (B = true ↔ Ab (m + 1) ns) := hB
  have hf : L ≤ 17592186044416 := by have := hI.few; omega
  have HI : Hid (∀ i, i < L → ∃ b off, ao = some ⟨b, off, none⟩ ∧ w.cell? ⟨b, off + i, none⟩ = some (.int .i64 (ns.getD i 0))) := fun i hi => by
    obtain ⟨b, off, e, _, hc⟩ := hI.lies (by have := HL.out; omega)
    exact ⟨b, off, e, hc i (by have := HL.out; omega)⟩
  have HW : Hid (w = w) := rfl
  clear hB hI hL
  go_enter Tryz.func19, Tryz.ntmps19
  go_wp2_with fail
  go_loopw [12, 5] (fun ii s5 wr => ∃ (i : Nat) (lo : Int), ii = .int .i64 i ∧ s5 = .int .i64 lo ∧ i ≤ L ∧ 1 ≤ lo ∧ lo ≤ 65538 ∧ w = wr ∧ Hid (B = true ↔ Ab (lo - 1) (ns.drop i))) (fun ii _ _ => L - (RowKit.intOf ii).toNat)
  case atStart => exact ⟨0, m + 2, rfl, by first | rfl | simp, Nat.zero_le _, by omega, by omega, rfl, by show _ ↔ _; rw [List.drop_zero, show m + 2 - 1 = m + 1 by omega]; exact HB.out⟩
  case round =>
    obtain ⟨i, lo, rfl, rfl, hiL, hlo, hlo2, rfl, HA⟩ := hrel
    by_cases hi : i < L
    · obtain ⟨b, off, rfl, hc⟩ := HI.out i hi
      obtain ⟨x, hx⟩ : ∃ x, x = ns.getD i 0 := ⟨_, rfl⟩
      rw [← hx] at hc
      have HA2 : Hid (B = true ↔ lo - 1 < x ∧ x ≤ 65536 ∧ Ab x (ns.drop (i + 1))) := by
        have h := HA.out
        rw [drop_getD17 ns i (by have := HL.out; omega), ← hx] at h
        exact h
      clear hx HA
      by_cases h1 : x < lo
      · have hB0 : B = false := by
          cases B with
          | false => rfl
          | true => have := HA2.out.1 rfl; omega
        subst hB0
        clear HA2 HB
        go_wp2
        go_ret
        exact ⟨rfl, rfl⟩
      · by_cases h2 : 65536 < x
        · have hB0 : B = false := by
            cases B with
            | false => rfl
            | true => have := HA2.out.1 rfl; omega
          subst hB0
          clear HA2 HB
          go_wp2
          go_ret
          exact ⟨rfl, rfl⟩
        · have HA3 : Hid (B = true ↔ Ab (x + 1 - 1) (ns.drop (i + 1))) := by
            show _ ↔ _
            rw [show x + 1 - 1 = x by omega]
            exact ⟨fun h => (HA2.out.1 h).2.2, fun h => HA2.out.2 ⟨by omega, by omega, h⟩⟩
          clear HA2
          go_wp2
          go_roundw
          case rel => exact ⟨i + 1, x + 1, by simp, by first | rfl | simp, by omega, by omega, by omega, (by first | trivial | rfl), HA3⟩
          case measure => simp [RowKit.intOf]; omega
    · have hN : B = true := by
        refine HA.out.2 ?_
        rw [List.drop_of_length_le (by have := HL.out; omega)]
        trivial
      subst hN
      clear HA HB
      go_wp2
      go_ret
      exact ⟨rfl, rfl⟩
end Go.Proofs.YtpdkdgmaofhlkaaGreatDoor
/- What a task asks: request; Begin. Conditions as each names them. -/
namespace Go.Proofs.YtpdkdgmaofhlkaaGreatDoor
open Go.ChangeShapes Go.WideShapes Go.ChangeAt Go.RowKit Go.Lib
set_option linter.unusedVariables false
set_option linter.unusedSimpArgs false

theorem results_c_row {fn : Func} {p : Tmp} {ty : TypeId} (h : fn.results = #[.cell p ty]) (tmps : Array Value) (P : Program) (w : World) (g : Nat) (v : Value) (hp : tmps.getD p undef = .pointer (some ⟨g, 0, none⟩)) (hld : (loadVar ty ⟨g, 0, none⟩).run P w = .ok v w) :
    (results fn tmps).run P w = .ok v w := by
  simp only [results, h]
  simp [Sem.run_bind, Result.andThen, ← Array.getD_eq_getD_getElem?, hp, asAddr, hld]
def Rv.a (x : Rv) : Array Value := #[.int .u8 x.k, .int .i64 x.f, .int .i64 x.n, .string ⟨#[]⟩, .string ⟨#[]⟩, .bool false, .string x.key, .string x.en, .slice x.bo x.bl x.bc]
theorem load_req {w : World} {g : Nat} (x : Rv) (h : w.heap[g]? = some (.cells x.a 64 (0, 0))) : (loadVar 64 ⟨g, 0, none⟩).run Tryz.prog w = .ok x.v w :=
  run_loadVar_row (P := Tryz.prog) _ g _ 64 _ _ (.struct (Tryz.prog.fieldsOf 64)) h (by kernel_rfl) rfl (by kernel_rfl)
theorem wpList_storeRow {w : World} {ops : Array Oper} {rest : List Oper} {o : Oper} {a : Act} {Q : Exit → Act → World → Prop} (hgd : o.guard = none) (ty : TypeId) (x y : Operand) (ho : o.op = .store ty x y)
    (g : Nat) (cells : Array Value) (hx : a.eval x = .pointer (some ⟨g, 0, none⟩)) (hy : a.eval y = .agg cells)
    (t : TypeId) (old : Array Value) (hg : w.heap[g]? = some (.cells old t (0, 0))) (hi : (Tryz.prog.info? ty).map (·.size) = some cells.size)
    (hold : old.size = cells.size) (h1 : cells.all (·.oneCell') = true)
    (h : ∀ w', Hid (w'.heap[g]? = some (.cells cells t (0, 0))) → Fr [g] w w' → wpList Tryz.prog ops Q rest (a.put o.dst undef) w') : wpList Tryz.prog ops Q (o :: rest) a w :=
  wpList_store_row hgd ty x y ho g cells hx hy t old hg hi hold h1 (h _ (setRow_heap w g _ _ t _ hg) (Fr.setRow _ _ _))
theorem heap_at1 (w : World) (o p : Obj) : ((w.alloc o).alloc p).heap[w.heap.size + 1]? = some p := by
  have := heap_alloc_new (w.alloc o) p
  rwa [World.size_alloc] at this
theorem heap_at2 (w : World) (o p q : Obj) : (((w.alloc o).alloc p).alloc q).heap[w.heap.size + 2]? = some q := by
  have := heap_alloc_new ((w.alloc o).alloc p) q
  rwa [World.size_alloc, World.size_alloc] at this
set_option maxHeartbeats 4000000 in
set_option maxRecDepth 100000 in
theorem qreq1 (n ma le : Int) (key en : ByteArray) (v : Value) (w : World) :
    Calls Tryz.prog 20 #[.int .i64 n, .agg #[.int .u8 1, .string key, .string en], .int .i64 ma, .int .i64 le, v] w fun e w' => e = .returned (Rv.v ⟨2, n, ma, key, en, none, 0, 0⟩) ∧ Fr [] w w' := by
  go_enter Tryz.func20, Tryz.ntmps20
  go_wp2
  refine bodyPost_ret (results_c_row rfl _ _ _ (w.heap.size + 1) _ rfl (load_req ⟨2, n, ma, key, en, none, 0, 0⟩ ?_)) rfl ?_
  · exact (Below.heap_alloc _ _ _ (by simp)).trans (heap_at1 _ _ _)
  · exact ⟨rfl, ((Fr.alloc [] _ _).then (Fr.alloc [] _ _)).then (Fr.alloc [] _ _)⟩
set_option maxHeartbeats 4000000 in
set_option maxRecDepth 100000 in
theorem qreq2 (n ma le : Int) (key en : ByteArray) (v : Value) (w : World) :
    Calls Tryz.prog 20 #[.int .i64 n, .agg #[.int .u8 2, .string key, .string en], .int .i64 ma, .int .i64 le, v] w fun e w' => e = .returned (Rv.v ⟨3, n, ma, key, en, none, 0, 0⟩) ∧ Fr [] w w' := by
  go_enter Tryz.func20, Tryz.ntmps20
  go_wp2
  refine bodyPost_ret (results_c_row rfl _ _ _ (w.heap.size + 1) _ rfl (load_req ⟨3, n, ma, key, en, none, 0, 0⟩ ?_)) rfl ?_
  · exact (Below.heap_alloc _ _ _ (by simp)).trans (heap_at1 _ _ _)
  · exact ⟨rfl, ((Fr.alloc [] _ _).then (Fr.alloc [] _ _)).then (Fr.alloc [] _ _)⟩
set_option maxHeartbeats 4000000 in
set_option maxRecDepth 100000 in
theorem qreq3 (n ma le : Int) (key en : ByteArray) (v : Value) (w : World) :
    Calls Tryz.prog 20 #[.int .i64 n, .agg #[.int .u8 3, .string key, .string en], .int .i64 ma, .int .i64 le, v] w fun e w' => e = .returned (Rv.v ⟨4, n, le, key, en, none, 0, 0⟩) ∧ Fr [] w w' := by
  go_enter Tryz.func20, Tryz.ntmps20
  go_wp2
  refine bodyPost_ret (results_c_row rfl _ _ _ (w.heap.size + 1) _ rfl (load_req ⟨4, n, le, key, en, none, 0, 0⟩ ?_)) rfl ?_
  · exact (Below.heap_alloc _ _ _ (by simp)).trans (heap_at1 _ _ _)
  · exact ⟨rfl, ((Fr.alloc [] _ _).then (Fr.alloc [] _ _)).then (Fr.alloc [] _ _)⟩
theorem owns_keep17 {S : List Nat} {w w' : World} {base : Nat} {e : TypeId} {size : Nat} {v : Value} {n : Nat} {xs : List Value} (h : w.ownsRow base e size v n xs) (hf : Fr S w w') (hn : ∀ k, v.ownBlock = some k → k ∉ S) : w'.ownsRow base e size v n xs := by
  refine ⟨h.1, ?_⟩
  rcases h.2 with hh | ⟨g, cap, cur, rfl, hb, hgg, rest⟩
  · exact .inl hh
  · exact .inr ⟨g, cap, cur, rfl, hb, hf.keep hgg (hn g rfl), rest⟩
theorem owns_cells17 {w : World} {base : Nat} {e : TypeId} {size n : Nat} {v : Value} {xs : List Value} (h : w.ownsRow base e size v n xs) {k : Nat} (hk : v.ownBlock = some k) : base ≤ k ∧ ∃ cur, w.heap[k]? = some (.cells cur e (0, 0)) := by
  rcases h.2 with ⟨rfl, _⟩ | ⟨g, cap, cur, rfl, hb, hg, hr⟩
  · simp [Value.ownBlock] at hk
  · simp [Value.ownBlock] at hk
    subst hk
    exact ⟨hb, cur, hg⟩
theorem owns_less17 {w : World} {base base' : Nat} {e : TypeId} {size n : Nat} {v : Value} {xs : List Value} (h : w.ownsRow base e size v n xs) (hb : base' ≤ base) : w.ownsRow base' e size v n xs := by
  refine ⟨h.1, ?_⟩
  rcases h.2 with hh | ⟨g, cap, cur, rfl, hb', hgg, rest⟩
  · exact .inl hh
  · exact .inr ⟨g, cap, cur, rfl, by omega, hgg, rest⟩
theorem irs_owns17 {w : World} {base L rc : Nat} {ro : Option Addr} {ns : List Int} (h : w.ownsRow base 3 1 (.slice ro L rc) L (intsC ns)) (hf : ns.length ≤ 17592186044416) : IRs w ro ns := by
  have hl := h.1
  rw [intsC_length] at hl
  rcases h.2 with ⟨hv, h0⟩ | ⟨g, cap', cur, hv, hbase, hg, h1, h2, h3, ht⟩
  · have : ns = [] := List.eq_nil_of_length_eq_zero (by omega)
    subst this
    exact ⟨fun h => by simp at h, by simp⟩
  · cases hv
    refine ⟨fun h0 => ⟨g, 0, rfl, lt_of_block hg, fun i hi => ?_⟩, hf⟩
    rw [cell_of_row _ _ _ _ _ _ hg, Nat.zero_add, ← Array.getElem?_toList, ← intsC_get ns i hi, ← ht, List.getElem?_take_of_lt (by omega)]
theorem rv_one (r : Rv) : r.a.all (·.oneCell') = true := by simp [Rv.a, Value.oneCell']
theorem row_put17 {w : World} {b j : Nat} {cs : Array Value} {t : TypeId} (x : Value) (h : w.heap[b]? = some (.cells cs t (0, 0))) : (w.setCell ⟨b, j, none⟩ x).heap[b]? = some (.cells (cs.setIfInBounds j x) t (0, 0)) := by
  obtain ⟨hlt, hk⟩ := Array.getElem?_eq_some_iff.1 h
  show (w.heap.modify b _)[b]? = _
  rw [Array.getElem?_modify, if_pos rfl, h]
  rfl
set_option maxHeartbeats 4000000 in
set_option maxRecDepth 100000 in
theorem qreq4 (n ma le : Int) (key en : ByteArray) (ao : Option Addr) (L cap : Nat) (ns : List Int) (w : World) (hI : IRs w ao ns) (hL : L = ns.length) (hc : L ≤ 131072) :
    Calls Tryz.prog 20 #[.int .i64 n, .agg #[.int .u8 4, .string key, .string en], .int .i64 ma, .int .i64 le, .slice ao L cap] w fun e w' => ∃ ro rc, e = .returned (Rv.v ⟨5, n, ma, key, en, ro, L, rc⟩) ∧ IRs w' ro ns ∧ w'.ownsRow w.heap.size 3 1 (.slice ro L rc) L (intsC ns) ∧ Fr [] w w' := by
  have HC : Hid (∀ W, Fr [] w W → Calls Tryz.prog 25 #[.slice ao L cap] W fun e w' => ∃ ro rc, e = .returned (.slice ro L rc) ∧ IRs w' ro ns ∧ w'.ownsRow W.heap.size 3 1 (.slice ro L rc) L (intsC ns) ∧ Fr [] W w') := fun W hW => cloneI_any ao L cap ns W (hI.keep hW) hL hc
  clear hI hL hc
  go_enter Tryz.func20, Tryz.ntmps20
  go_wp2_with fail
  refine (HC.out _ (((Fr.alloc [] _ _).then (Fr.alloc [] _ _)).then (Fr.alloc [] _ _))).mono ?_
  rintro e w1 ⟨ro, rc, rfl, hI1, hown, hf1⟩
  have HI1 : Hid (IRs w1 ro ns ∧ w1.ownsRow (w.heap.size + 3) 3 1 (.slice ro L rc) L (intsC ns)) := ⟨hI1, owns_less17 hown (by simp)⟩
  have HF1 : Hid (Fr [] w w1) := (((Fr.alloc [] _ _).then (Fr.alloc [] _ _)).then (Fr.alloc [] _ _)).then hf1
  have hr1 : w1.heap[w.heap.size + 1]? = some (.cells Rv.zero.a 64 (0, 0)) := hf1.keep ((Below.heap_alloc _ _ _ (by simp)).trans (heap_at1 _ _ _)) (by simp)
  have hr2 : w1.heap[w.heap.size + 2]? = some (.cells (Rv.a ⟨0, n, ma, key, en, none, 0, 0⟩) 64 (0, 0)) := hf1.keep (heap_at2 _ _ _ _) (by simp)
  have c0 : w1.cell? ⟨w.heap.size + 1 + 1, 0, none⟩ = some (.int .u8 0) := by rw [cell_of_row _ _ _ _ _ _ hr2]; rfl
  have c8 : w1.cell? ⟨w.heap.size + 1 + 1, 8, none⟩ = some (.slice none 0 0) := by rw [cell_of_row _ _ _ _ _ _ hr2]; rfl
  have hz : ∀ j, w1.frozen? ⟨w.heap.size + 1 + 1, j, none⟩ = false := fun j => by simp [World.frozen?, hr2]
  have z0 := hz 0
  have z8 := hz 8
  have hrow : ((w1.setCell ⟨w.heap.size + 1 + 1, 0, none⟩ (.int .u8 5)).setCell ⟨w.heap.size + 1 + 1, 8, none⟩ (.slice ro L rc)).heap[w.heap.size + 2]? = some (.cells (Rv.a ⟨5, n, ma, key, en, ro, L, rc⟩) 64 (0, 0)) := row_put17 _ (row_put17 _ hr2)
  have hfs : Fr [w.heap.size + 2] w1 ((w1.setCell ⟨w.heap.size + 1 + 1, 0, none⟩ (.int .u8 5)).setCell ⟨w.heap.size + 1 + 1, 8, none⟩ (.slice ro L rc)) := (Fr.set _ _ _ (by simp)).then (Fr.set _ _ _ (by simp))
  have hr1' := hfs.keep hr1 (by simp)
  clear hf1 hI1 hown hz hr1 hr2
  go_upto_region 11 with fail
  generalize ((w1.setCell ⟨w.heap.size + 1 + 1, 0, none⟩ (.int .u8 5)).setCell ⟨w.heap.size + 1 + 1, 8, none⟩ (.slice ro L rc)) = w2 at hrow hfs hr1' ⊢
  have HFS : Hid (Fr [w.heap.size + 2] w1 w2) := hfs
  have d0 : w2.cell? ⟨w.heap.size + 1 + 1, 0, none⟩ = some (.int .u8 5) := by rw [cell_of_row _ _ _ _ _ _ hrow]; rfl
  have d1 : w2.cell? ⟨w.heap.size + 1 + 1, 1, none⟩ = some (.int .i64 n) := by rw [cell_of_row _ _ _ _ _ _ hrow]; rfl
  have d2 : w2.cell? ⟨w.heap.size + 1 + 1, 2, none⟩ = some (.int .i64 ma) := by rw [cell_of_row _ _ _ _ _ _ hrow]; rfl
  have d3 : w2.cell? ⟨w.heap.size + 1 + 1, 3, none⟩ = some (.string ⟨#[]⟩) := by rw [cell_of_row _ _ _ _ _ _ hrow]; rfl
  have d4 : w2.cell? ⟨w.heap.size + 1 + 1, 4, none⟩ = some (.string ⟨#[]⟩) := by rw [cell_of_row _ _ _ _ _ _ hrow]; rfl
  have d5 : w2.cell? ⟨w.heap.size + 1 + 1, 5, none⟩ = some (.bool false) := by rw [cell_of_row _ _ _ _ _ _ hrow]; rfl
  have d6 : w2.cell? ⟨w.heap.size + 1 + 1, 6, none⟩ = some (.string key) := by rw [cell_of_row _ _ _ _ _ _ hrow]; rfl
  have d7 : w2.cell? ⟨w.heap.size + 1 + 1, 7, none⟩ = some (.string en) := by rw [cell_of_row _ _ _ _ _ _ hrow]; rfl
  have d8 : w2.cell? ⟨w.heap.size + 1 + 1, 8, none⟩ = some (.slice ro L rc) := by rw [cell_of_row _ _ _ _ _ _ hrow]; rfl
  have HR1 : Hid (w2.heap[w.heap.size + 1]? = some (.cells Rv.zero.a 64 (0, 0))) := hr1'
  clear hfs hr1' hrow c0 c8 z0 z8
  go_wp2_with (refine wpList_storeRow rfl 64 _ _ rfl (w.heap.size + 1) (Rv.a ⟨5, n, ma, key, en, ro, L, rc⟩) rfl rfl 64 _ HR1.out (by kernel_rfl) rfl (rv_one _) ?_; intro w3 hw3 hf3)
  refine bodyPost_ret (results_c_row rfl _ _ _ (w.heap.size + 1) _ rfl (load_req ⟨5, n, ma, key, en, ro, L, rc⟩ hw3.out)) rfl ?_
  have hF : Fr [w.heap.size + 1, w.heap.size + 2] w1 w3 := HFS.out.trans hf3 (fun x hx _ => by simp at hx; simp [hx]) (fun x hx _ => by simp at hx; simp [hx])
  have ho := HI1.out.2
  have hb : ∀ k, (Value.slice ro L rc).ownBlock = some k → k ∉ [w.heap.size + 1, w.heap.size + 2] := fun k hk hm => by
    have := (owns_cells17 ho hk).1
    simp at hm
    omega
  have ho3 := owns_less17 (owns_keep17 ho hF hb) (show w.heap.size ≤ w.heap.size + 3 by omega)
  have hF3 : Fr [] w w3 := HF1.out.on hF (fun x hx => by simp at hx; omega)
  exact ⟨ro, rc, rfl, irs_owns17 ho3 HI1.out.1.few, ho3, hF3⟩
end Go.Proofs.YtpdkdgmaofhlkaaGreatDoor
