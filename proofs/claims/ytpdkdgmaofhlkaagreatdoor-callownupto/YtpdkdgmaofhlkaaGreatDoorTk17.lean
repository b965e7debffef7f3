/- A task of the program as it lies in memory; there, New, mayBeBeyond, Mark. Conditions as each names them. -/
import Derived.Test.YtpdkdgmaofhlkaaGreatDoorSq17
namespace Go.Proofs.YtpdkdgmaofhlkaaGreatDoor
open Go.ChangeShapes Go.WideShapes Go.ChangeAt Go.RowKit Go.Lib
set_option linter.unusedVariables false
set_option linter.unusedSimpArgs false

structure Tk where
  n : Int
  l : Int
  s : Int
  x : Int
  q : Int
  k : Int
  key : ByteArray
  en : ByteArray
  bg : Bool
  ma : Int
  r : Rv
  ak : Nat
  rp : Nat
  ev : Value
  hv : Value
  ct : Int
def Tk.row (T : Tk) : Array Value := #[.int .i64 T.n, .int .i64 T.l, .int .i64 T.s, .int .i64 T.x, .int .i64 T.q, .int .u8 T.k, .string T.key, .string T.en, .bool T.bg, .int .i64 T.ma, .int .u8 T.r.k, .int .i64 T.r.f, .int .i64 T.r.n, .string ⟨#[]⟩, .string ⟨#[]⟩, .bool false, .string T.r.key, .string T.r.en, .slice T.r.bo T.r.bl T.r.bc, .int .i64 (T.ak : Int), .int .i64 (T.rp : Int), T.ev, T.hv, .int .i64 T.ct]
/-- The task lies in block t. -/
def TkM (w : World) (t : Nat) (T : Tk) : Prop := w.heap[t]? = some (.cells T.row 82 (0, 0))
theorem TkM.lt {w : World} {t : Nat} {T : Tk} (h : TkM w t T) : t < w.heap.size := lt_of_block h
theorem TkM.keep {S : List Nat} {w w' : World} {t : Nat} {T : Tk} (h : TkM w t T) (hf : Fr S w w') (hn : t ∉ S) : TkM w' t T := hf.keep h hn
theorem TkM.c0 {w : World} {t : Nat} {T : Tk} (h : TkM w t T) : w.cell? ⟨t, 0, none⟩ = some (.int .i64 T.n) := by rw [cell_of_row _ _ _ _ _ _ h]; rfl
theorem TkM.c1 {w : World} {t : Nat} {T : Tk} (h : TkM w t T) : w.cell? ⟨t, 1, none⟩ = some (.int .i64 T.l) := by rw [cell_of_row _ _ _ _ _ _ h]; rfl
theorem TkM.c2 {w : World} {t : Nat} {T : Tk} (h : TkM w t T) : w.cell? ⟨t, 2, none⟩ = some (.int .i64 T.s) := by rw [cell_of_row _ _ _ _ _ _ h]; rfl
theorem TkM.c3 {w : World} {t : Nat} {T : Tk} (h : TkM w t T) : w.cell? ⟨t, 3, none⟩ = some (.int .i64 T.x) := by rw [cell_of_row _ _ _ _ _ _ h]; rfl
theorem TkM.c4 {w : World} {t : Nat} {T : Tk} (h : TkM w t T) : w.cell? ⟨t, 4, none⟩ = some (.int .i64 T.q) := by rw [cell_of_row _ _ _ _ _ _ h]; rfl
theorem TkM.c5 {w : World} {t : Nat} {T : Tk} (h : TkM w t T) : w.cell? ⟨t, 5, none⟩ = some (.int .u8 T.k) := by rw [cell_of_row _ _ _ _ _ _ h]; rfl
theorem TkM.c6 {w : World} {t : Nat} {T : Tk} (h : TkM w t T) : w.cell? ⟨t, 6, none⟩ = some (.string T.key) := by rw [cell_of_row _ _ _ _ _ _ h]; rfl
theorem TkM.c7 {w : World} {t : Nat} {T : Tk} (h : TkM w t T) : w.cell? ⟨t, 7, none⟩ = some (.string T.en) := by rw [cell_of_row _ _ _ _ _ _ h]; rfl
theorem TkM.c8 {w : World} {t : Nat} {T : Tk} (h : TkM w t T) : w.cell? ⟨t, 8, none⟩ = some (.bool T.bg) := by rw [cell_of_row _ _ _ _ _ _ h]; rfl
theorem TkM.c9 {w : World} {t : Nat} {T : Tk} (h : TkM w t T) : w.cell? ⟨t, 9, none⟩ = some (.int .i64 T.ma) := by rw [cell_of_row _ _ _ _ _ _ h]; rfl
theorem TkM.c10 {w : World} {t : Nat} {T : Tk} (h : TkM w t T) : w.cell? ⟨t, 10, none⟩ = some (.int .u8 T.r.k) := by rw [cell_of_row _ _ _ _ _ _ h]; rfl
theorem TkM.c11 {w : World} {t : Nat} {T : Tk} (h : TkM w t T) : w.cell? ⟨t, 11, none⟩ = some (.int .i64 T.r.f) := by rw [cell_of_row _ _ _ _ _ _ h]; rfl
theorem TkM.c12 {w : World} {t : Nat} {T : Tk} (h : TkM w t T) : w.cell? ⟨t, 12, none⟩ = some (.int .i64 T.r.n) := by rw [cell_of_row _ _ _ _ _ _ h]; rfl
theorem TkM.c13 {w : World} {t : Nat} {T : Tk} (h : TkM w t T) : w.cell? ⟨t, 13, none⟩ = some (.string ⟨#[]⟩) := by rw [cell_of_row _ _ _ _ _ _ h]; rfl
theorem TkM.c14 {w : World} {t : Nat} {T : Tk} (h : TkM w t T) : w.cell? ⟨t, 14, none⟩ = some (.string ⟨#[]⟩) := by rw [cell_of_row _ _ _ _ _ _ h]; rfl
theorem TkM.c15 {w : World} {t : Nat} {T : Tk} (h : TkM w t T) : w.cell? ⟨t, 15, none⟩ = some (.bool false) := by rw [cell_of_row _ _ _ _ _ _ h]; rfl
theorem TkM.c16 {w : World} {t : Nat} {T : Tk} (h : TkM w t T) : w.cell? ⟨t, 16, none⟩ = some (.string T.r.key) := by rw [cell_of_row _ _ _ _ _ _ h]; rfl
theorem TkM.c17 {w : World} {t : Nat} {T : Tk} (h : TkM w t T) : w.cell? ⟨t, 17, none⟩ = some (.string T.r.en) := by rw [cell_of_row _ _ _ _ _ _ h]; rfl
theorem TkM.c18 {w : World} {t : Nat} {T : Tk} (h : TkM w t T) : w.cell? ⟨t, 18, none⟩ = some (.slice T.r.bo T.r.bl T.r.bc) := by rw [cell_of_row _ _ _ _ _ _ h]; rfl
theorem TkM.c19 {w : World} {t : Nat} {T : Tk} (h : TkM w t T) : w.cell? ⟨t, 19, none⟩ = some (.int .i64 (T.ak : Int)) := by rw [cell_of_row _ _ _ _ _ _ h]; rfl
theorem TkM.c20 {w : World} {t : Nat} {T : Tk} (h : TkM w t T) : w.cell? ⟨t, 20, none⟩ = some (.int .i64 (T.rp : Int)) := by rw [cell_of_row _ _ _ _ _ _ h]; rfl
theorem TkM.c21 {w : World} {t : Nat} {T : Tk} (h : TkM w t T) : w.cell? ⟨t, 21, none⟩ = some (T.ev) := by rw [cell_of_row _ _ _ _ _ _ h]; rfl
theorem TkM.c22 {w : World} {t : Nat} {T : Tk} (h : TkM w t T) : w.cell? ⟨t, 22, none⟩ = some (T.hv) := by rw [cell_of_row _ _ _ _ _ _ h]; rfl
theorem TkM.c23 {w : World} {t : Nat} {T : Tk} (h : TkM w t T) : w.cell? ⟨t, 23, none⟩ = some (.int .i64 T.ct) := by rw [cell_of_row _ _ _ _ _ _ h]; rfl
theorem TkM.fz {w : World} {t : Nat} {T : Tk} (h : TkM w t T) (j : Nat) : w.frozen? ⟨t, j, none⟩ = false := by unfold TkM at h; simp [World.frozen?, h]
/-- A task that New has just made. -/
def Tk.new (n l s x q k : Int) (key en : ByteArray) : Tk := ⟨n, l, s, x, q, k, key, en, false, 0, Rv.zero, 0, 0, .slice none 0 0, .slice none 0 0, 0⟩
/-- A task that is not there: none, or a struct that New did not make. -/
def Tk.none : Tk := Tk.new 0 0 0 0 0 0 ⟨#[]⟩ ⟨#[]⟩
def NoT (p : Value) (w : World) : Prop := p = .pointer none ∨ ∃ t, p = .pointer (some ⟨t, 0, none⟩) ∧ TkM w t Tk.none
theorem NoT.keep {p : Value} {w w' : World} (h : NoT p w) (hf : Fr [] w w') : NoT p w' := by
  rcases h with h | ⟨t, e, ht⟩
  · exact Or.inl h
  · exact Or.inr ⟨t, e, ht.keep hf (by simp)⟩
theorem qthere_any {w : World} {t : Nat} {T : Tk} (h : TkM w t T) (hn : T.n < 0) : Calls Tryz.prog 18 #[.pointer (some ⟨t, 0, none⟩)] w fun e w' => e = .returned (.bool true) ∧ w = w' := by
  have c0 := h.c0
  clear h
  obtain ⟨n, hnn⟩ : ∃ n, n = T.n := ⟨_, rfl⟩
  rw [← hnn] at c0 hn
  clear hnn
  go_enter Tryz.func18, Tryz.ntmps18
  go_wp2
  go_ret
  exact ⟨rfl, rfl⟩
theorem qthere_no {p : Value} {w : World} (h : NoT p w) : Calls Tryz.prog 18 #[p] w fun e w' => e = .returned (.bool false) ∧ w = w' := by
  rcases h with rfl | ⟨t, rfl, ht⟩
  · go_enter Tryz.func18, Tryz.ntmps18
    go_wp2
    go_ret
    exact ⟨rfl, rfl⟩
  · have c0 : w.cell? ⟨t, 0, none⟩ = some (.int .i64 0) := ht.c0
    clear ht
    go_enter Tryz.func18, Tryz.ntmps18
    go_wp2
    go_ret
    exact ⟨rfl, rfl⟩
/-- What New answers besides. -/
def newE (n l s x q k : Int) (key en : ByteArray) : Int := if 0 ≤ n then 1 else if ¬ Cf.may ⟨l, s, x, q⟩ then 7 else ckE k key en
set_option maxHeartbeats 4000000 in
set_option maxRecDepth 100000 in
theorem qnew_no (n l s x q k : Int) (key en : ByteArray) (w : World) (hk : 0 ≤ k ∧ k ≤ 255) (he : newE n l s x q k key en ≠ 0) :
    Calls Tryz.prog 4 #[.int .i64 n, .agg #[.int .i64 l, .int .i64 s, .int .i64 x, .int .i64 q], .agg #[.int .u8 k, .string key, .string en]] w fun e w' => e = .returned (.tuple #[.pointer none, .int .i64 (newE n l s x q k key en)]) ∧ Fr [] w w' := by
  have HC := fun w => check_cells l s x q w
  have HK := fun w => qcheck_any k key en w hk
  have HF0 : Hid (Fr [] w ((w.alloc (.cells #[.int .i64 l, .int .i64 s, .int .i64 x, .int .i64 q] 23)).alloc (.cells #[.int .u8 k, .string key, .string en] 26))) := (Fr.alloc _ _ _).then (Fr.alloc _ _ _)
  by_cases hn : 0 ≤ n
  · have E : newE n l s x q k key en = 1 := if_pos hn
    rw [E]
    clear E he HC HK
    go_enter Tryz.func4, Tryz.ntmps4
    go_wp2
    refine bodyPost_ret (results_tmp2 rfl _ _ _) rfl ?_
    exact ⟨rfl, HF0.out⟩
  · by_cases hm : Cf.may ⟨l, s, x, q⟩
    · have E : newE n l s x q k key en = ckE k key en := by unfold newE; rw [if_neg hn, if_neg (not_not_intro hm)]
      have hc : ¬ okC k key en := fun h => he (by rw [E]; exact if_pos h)
      have E1 : ckE k key en = 1 := if_neg hc
      have E2 : Cf.err ⟨l, s, x, q⟩ = 0 := if_pos hm
      rw [E, E1]
      rw [E1] at HK
      rw [E2] at HC
      clear E E1 E2 he hm hc
      go_enter Tryz.func4, Tryz.ntmps4
      go_wp2_with fail
      refine (HC _).mono ?_
      rintro e w1 ⟨rfl, hf1⟩
      have HF : Hid (Fr [] w w1) := HF0.out.then hf1
      have c0 : w1.cell? ⟨w.heap.size + 1, 0, none⟩ = some (.int .u8 k) := by rw [World.cell?_of_block (hf1.block _ (by simp) (by simp))]; simp [World.cell?_alloc_at]
      have c1 : w1.cell? ⟨w.heap.size + 1, 1, none⟩ = some (.string key) := by rw [World.cell?_of_block (hf1.block _ (by simp) (by simp))]; simp [World.cell?_alloc_at]
      have c2 : w1.cell? ⟨w.heap.size + 1, 2, none⟩ = some (.string en) := by rw [World.cell?_of_block (hf1.block _ (by simp) (by simp))]; simp [World.cell?_alloc_at]
      clear hf1 HF0
      go_wp2_with fail
      refine (HK _).mono ?_
      rintro e w2 ⟨rfl, hf2⟩
      have HF2 : Hid (Fr [] w w2) := HF.out.then hf2
      clear hf2 HF
      go_wp2
      refine bodyPost_ret (results_tmp2 rfl _ _ _) rfl ?_
      exact ⟨rfl, HF2.out⟩
    · have E : newE n l s x q k key en = 7 := by unfold newE; rw [if_neg hn, if_pos hm]
      have E2 : Cf.err ⟨l, s, x, q⟩ = 7 := if_neg hm
      rw [E]
      rw [E2] at HC
      clear E E2 he hm HK
      go_enter Tryz.func4, Tryz.ntmps4
      go_wp2_with fail
      refine (HC _).mono ?_
      rintro e w1 ⟨rfl, hf1⟩
      have HF : Hid (Fr [] w w1) := HF0.out.then hf1
      clear hf1 HF0
      go_wp2
      refine bodyPost_ret (results_tmp2 rfl _ _ _) rfl ?_
      exact ⟨rfl, HF.out⟩
set_option maxHeartbeats 4000000 in
set_option maxRecDepth 100000 in
theorem qnew_any (n l s x q k : Int) (key en : ByteArray) (w : World) (hk : 0 ≤ k ∧ k ≤ 255) (he : newE n l s x q k key en = 0) :
    Calls Tryz.prog 4 #[.int .i64 n, .agg #[.int .i64 l, .int .i64 s, .int .i64 x, .int .i64 q], .agg #[.int .u8 k, .string key, .string en]] w fun e w' => ∃ t, e = .returned (.tuple #[.pointer (some ⟨t, 0, none⟩), .int .i64 0]) ∧ w.heap.size ≤ t ∧ TkM w' t (Tk.new n l s x q k key en) ∧ Fr [] w w' := by
  have HC := fun w => check_cells l s x q w
  have HK := fun w => qcheck_any k key en w hk
  have HF0 : Hid (Fr [] w ((w.alloc (.cells #[.int .i64 l, .int .i64 s, .int .i64 x, .int .i64 q] 23)).alloc (.cells #[.int .u8 k, .string key, .string en] 26))) := (Fr.alloc _ _ _).then (Fr.alloc _ _ _)
  unfold newE at he
  have hn : ¬ 0 ≤ n := fun h => by rw [if_pos h] at he; cases he
  rw [if_neg hn] at he
  have hm : Cf.may ⟨l, s, x, q⟩ := by
    by_cases h : Cf.may ⟨l, s, x, q⟩
    · exact h
    · rw [if_pos h] at he; cases he
  rw [if_neg (not_not_intro hm)] at he
  have E2 : Cf.err ⟨l, s, x, q⟩ = 0 := if_pos hm
  rw [he] at HK
  rw [E2] at HC
  clear E2 he hm
  go_enter Tryz.func4, Tryz.ntmps4
  go_wp2_with fail
  refine (HC _).mono ?_
  rintro e w1 ⟨rfl, hf1⟩
  have HF : Hid (Fr [] w w1) := HF0.out.then hf1
  have HB : Hid (w.heap.size + 2 ≤ w1.heap.size) := by have := hf1.size; simp at this; exact this
  have c0 : w1.cell? ⟨w.heap.size + 1, 0, none⟩ = some (.int .u8 k) := by rw [World.cell?_of_block (hf1.block _ (by simp) (by simp))]; simp [World.cell?_alloc_at]
  have c1 : w1.cell? ⟨w.heap.size + 1, 1, none⟩ = some (.string key) := by rw [World.cell?_of_block (hf1.block _ (by simp) (by simp))]; simp [World.cell?_alloc_at]
  have c2 : w1.cell? ⟨w.heap.size + 1, 2, none⟩ = some (.string en) := by rw [World.cell?_of_block (hf1.block _ (by simp) (by simp))]; simp [World.cell?_alloc_at]
  have d0 : w1.cell? ⟨w.heap.size, 0, none⟩ = some (.int .i64 l) := by rw [World.cell?_of_block (hf1.block w.heap.size (by simp; omega) (by simp)), World.cell?_of_block (w := w.alloc _) (Below.heap_alloc _ _ _ (by simp))]; simp [World.cell?_alloc_at]
  have d1 : w1.cell? ⟨w.heap.size, 1, none⟩ = some (.int .i64 s) := by rw [World.cell?_of_block (hf1.block w.heap.size (by simp; omega) (by simp)), World.cell?_of_block (w := w.alloc _) (Below.heap_alloc _ _ _ (by simp))]; simp [World.cell?_alloc_at]
  have d2 : w1.cell? ⟨w.heap.size, 2, none⟩ = some (.int .i64 x) := by rw [World.cell?_of_block (hf1.block w.heap.size (by simp; omega) (by simp)), World.cell?_of_block (w := w.alloc _) (Below.heap_alloc _ _ _ (by simp))]; simp [World.cell?_alloc_at]
  have d3 : w1.cell? ⟨w.heap.size, 3, none⟩ = some (.int .i64 q) := by rw [World.cell?_of_block (hf1.block w.heap.size (by simp; omega) (by simp)), World.cell?_of_block (w := w.alloc _) (Below.heap_alloc _ _ _ (by simp))]; simp [World.cell?_alloc_at]
  have HQ : Hid (∀ W, Fr [] w1 W → ∀ j, W.cell? ⟨w.heap.size, j, none⟩ = w1.cell? ⟨w.heap.size, j, none⟩ ∧ W.cell? ⟨w.heap.size + 1, j, none⟩ = w1.cell? ⟨w.heap.size + 1, j, none⟩) := fun W hW j => ⟨World.cell?_of_block (hW.block w.heap.size (by have := HB.out; omega) (by simp)), World.cell?_of_block (hW.block (w.heap.size + 1) (by have := HB.out; omega) (by simp))⟩
  clear hf1 HF0
  go_wp2_with fail
  refine (HK _).mono ?_
  rintro e w2 ⟨rfl, hf2⟩
  have HF2 : Hid (Fr [] w w2) := HF.out.then hf2
  have k0 := ((HQ.out w2 hf2 0).2).trans c0
  have k1 := ((HQ.out w2 hf2 1).2).trans c1
  have k2 := ((HQ.out w2 hf2 2).2).trans c2
  have l0 := ((HQ.out w2 hf2 0).1).trans d0
  have l1 := ((HQ.out w2 hf2 1).1).trans d1
  have l2 := ((HQ.out w2 hf2 2).1).trans d2
  have l3 := ((HQ.out w2 hf2 3).1).trans d3
  clear hf2 HF c0 c1 c2 d0 d1 d2 d3 HQ
  go_wp2
  refine bodyPost_ret (results_tmp2 rfl _ _ _) rfl ?_
  refine ⟨w2.heap.size, rfl, HF2.out.size, ?_, HF2.out.then (Fr.alloc _ _ _)⟩
  exact heap_alloc_new w2 _
/-- Numbers that rise, each above one, at most 65536. -/
def Ab : Int → List Int → Prop
  | _, [] => True
  | a, n :: ns => a < n ∧ n ≤ 65536 ∧ Ab n ns
theorem drop_getD17 (ns : List Int) (i : Nat) (h : i < ns.length) : ns.drop i = ns.getD i 0 :: ns.drop (i + 1) := by
  rw [List.drop_eq_getElem_cons h]
  simp [List.getD, h]
theorem Ab.few : ∀ {ns : List Int} {a : Int}, 0 ≤ a → Ab a ns → (ns.length : Int) + a ≤ 65536 ∨ ns = []
  | [], a, _, _ => Or.inr rfl
  | n :: ns, a, ha, h => by
    rcases Ab.few (by have := h.1; omega) h.2.2 with e | e
    · left
      have := h.1
      simp only [List.length_cons]
      omega
    · left
      subst e
      have := h.1
      have := h.2.1
      simp
      omega
theorem Ab.short {ns : List Int} {a : Int} (ha : 0 ≤ a) (h : Ab a ns) : ns.length ≤ 65536 := by
  rcases Ab.few ha h with e | e
  · omega
  · subst e; simp
set_option maxHeartbeats 4000000 in
set_option maxRecDepth 100000 in
theorem qmayb_any (m : Int) (ao : Option Addr) (L cap : Nat) (ns : List Int) (B : Bool) (w : World) (hm : 0 ≤ m ∧ m ≤ 65536) (hI : IRs w ao ns) (hL : L = ns.length) (hB : B = true ↔ Ab (m + 1) ns) :
    Calls Tryz.prog 19 #[.int .i64 m, .slice ao L cap] w fun e w' => e = .returned (.bool B) ∧ w = w' := by
  have HL : Hid (L = ns.length) := hL
  have HB : Hid (B = true ↔ Ab (m + 1) ns) := hB
  have hf : L ≤ 17592186044416 := by have := hI.few; omega
  have HI : Hid (∀ i, i < L → ∃ b off, ao = some ⟨b, off, none⟩ ∧ w.cell? ⟨b, off + i, none⟩ = some (.int .i64 (ns.getD i 0))) := fun i hi => by
    obtain ⟨b, off, e, _, hc⟩ := hI.lies (by have := HL.out; omega)
    exact ⟨b, off, e, hc i (by have := HL.out; omega)⟩
  have HW : Hid (w = w) := rfl
  clear hB hI hL
  go_enter Tryz.func19, Tryz.ntmps19
  go_wp2_with fail
  go_loopw [12, 5] (fun ii s5 wr => ∃ (i : Nat) (lo : Int), ii = .int .i64 i ∧ s5 = .int .i64 lo ∧ i ≤ L ∧ 1 ≤ lo ∧ lo ≤ 65538 ∧ w = wr ∧ Hid (B = true ↔ Ab (lo - 1) (ns.drop i))) (fun ii _ _ => L - (RowKit.intOf ii).toNat)
  case atStart => exact ⟨0, m + 2, rfl, by first | rfl | simp, Nat.zero_le _, by omega, by omega, rfl, by show _ ↔ _; rw [List.drop_zero, show m + 2 - 1 = m + 1 by omega]; exact HB.out⟩
  case round =>
    obtain ⟨i, lo, rfl, rfl, hiL, hlo, hlo2, rfl, HA⟩ := hrel
    by_cases hi : i < L
    · obtain ⟨b, off, rfl, hc⟩ := HI.out i hi
      obtain ⟨x, hx⟩ : ∃ x, x = ns.getD i 0 := ⟨_, rfl⟩
      rw [← hx] at hc
      have HA2 : Hid (B = true ↔ lo - 1 < x ∧ x ≤ 65536 ∧ Ab x (ns.drop (i + 1))) := by
        have h := HA.out
        rw [drop_getD17 ns i (by have := HL.out; omega), ← hx] at h
        exact h
      clear hx HA
      by_cases h1 : x < lo
      · have hB0 : B = false := by
          cases B with
          | false => rfl
          | true => have := HA2.out.1 rfl; omega
        subst hB0
        clear HA2 HB
        go_wp2
        go_ret
        exact ⟨rfl, rfl⟩
      · by_cases h2 : 65536 < x
        · have hB0 : B = false := by
            cases B with
            | false => rfl
            | true => have := HA2.out.1 rfl; omega
          subst hB0
          clear HA2 HB
          go_wp2
          go_ret
          exact ⟨rfl, rfl⟩
        · have HA3 : Hid (B = true ↔ Ab (x + 1 - 1) (ns.drop (i + 1))) := by
            show _ ↔ _
            rw [show x + 1 - 1 = x by omega]
            exact ⟨fun h => (HA2.out.1 h).2.2, fun h => HA2.out.2 ⟨by omega, by omega, h⟩⟩
          clear HA2
          go_wp2
          go_roundw
          case rel => exact ⟨i + 1, x + 1, by simp, by first | rfl | simp, by omega, by omega, by omega, (by first | trivial | rfl), HA3⟩
          case measure => simp [RowKit.intOf]; omega
    · have hN : B = true := by
        refine HA.out.2 ?_
        rw [List.drop_of_length_le (by have := HL.out; omega)]
        trivial
      subst hN
      clear HA HB
      go_wp2
      go_ret
      exact ⟨rfl, rfl⟩