/- What the statement's helper takes answers, kind by kind, where the reader and the reference's answer the same. Conditions: their contracts. -/
import Derived.Test.YtcajoihfdeoikaaOut
namespace Go.Proofs.Ytcajoihfdeoikaa
open Go.ChangeShapes Go.WideShapes Go.ChangeAt Go.RowKit Go.Lib
/-- A call of the reader: it answers v, and Q holds behind it. -/
def RdA (f : Nat) (args : Array Value) (w : World) (v : Value) (S : List Nat) (Q : World → Prop) : Prop := Calls Try.prog f args w fun e w' => e = .returned v ∧ Q w' ∧ Fr S w w'
theorem RdA.calls {f : Nat} {args : Array Value} {w : World} {v : Value} {S : List Nat} {Q : World → Prop} (h : RdA f args w v S Q) : Calls Try.prog f args w fun e w' => e = .returned v ∧ Q w' ∧ Fr S w w' := h
/-- The three boxes as takes begins. -/
def trd (w : World) (g : Bool) (s : Value) (p c : Int) (ov : Array Value) : World := ((w.alloc (.cells #[.bool g, s, .int .i64 p, .int .i64 c] 32)).alloc (.cells ov 37)).alloc (.cells #[.bool false, .slice none 0 0, .int .i64 0, .int .i64 0] 32)
theorem trd_fr (w : World) (g : Bool) (s : Value) (p c : Int) (ov : Array Value) : Fr [] w (trd w g s p c ov) := ((Fr.alloc [] w _).then (Fr.alloc [] _ _)).then (Fr.alloc [] _ _)
theorem trd_b1 (w : World) (g : Bool) (s : Value) (p c : Int) (ov : Array Value) : (trd w g s p c ov).heap[w.heap.size + 1]? = some (.cells ov 37 (0, 0)) := by
  unfold trd
  rw [Below.heap_alloc _ _ _ (by simp)]
  simpa using heap_alloc_new (w.alloc (.cells #[.bool g, s, .int .i64 p, .int .i64 c] 32)) (.cells ov 37)
theorem trd_b2 (w : World) (g : Bool) (s : Value) (p c : Int) (ov : Array Value) : Bx (trd w g s p c ov) (w.heap.size + 2) false (.slice none 0 0) 0 0 :=
  ⟨by simpa [trd] using heap_alloc_new ((w.alloc (.cells #[.bool g, s, .int .i64 p, .int .i64 c] 32)).alloc (.cells ov 37)) (.cells #[.bool false, .slice none 0 0, .int .i64 0, .int .i64 0] 32)⟩
theorem fiveF {w : World} {b : Nat} {a0 a1 a2 a3 a4 : Value} {t : TypeId} (h : w.heap[b]? = some (.cells #[a0, a1, a2, a3, a4] t (0, 0))) :
    w.cell? ⟨b, 0, none⟩ = some a0 ∧ w.cell? ⟨b, 1, none⟩ = some a1 ∧ w.cell? ⟨b, 2, none⟩ = some a2 ∧ w.cell? ⟨b, 3, none⟩ = some a3 ∧ w.cell? ⟨b, 4, none⟩ = some a4 := by
  simp [World.cell?, h]
set_option maxHeartbeats 8000000 in
set_option maxRecDepth 100000 in
theorem takes1 (po : Option Addr) (g : Bool) (ao : Option Addr) (L cap : Nat) (p c p1 c1 : Int) (a : Nat) (k n wd ms : Int) (tx : ByteArray) (S : List Nat) (Q : World → Prop) (w : World) (hk : k = 1)
    (hx : ∀ W, Fr [] w W → AnsF 30 #[(.agg #[.bool g, .slice ao L cap, .int .i64 p, .int .i64 c]), .int .i64 wd] W (.tuple #[(.agg #[.bool g, .slice ao L cap, .int .i64 p1, .int .i64 c1]), .int .u64 (a : Int)])) (hr : ∀ W, Fr [] w W → RdA 25 #[.pointer po, .int .i64 wd] W (.int .u64 (a : Int)) S Q) (hS : ∀ x, x ∈ S → x < w.heap.size)
    (hQ : ∀ T W W', Q W → Fr T W W' → (∀ x, x ∈ T → w.heap.size ≤ x) → Q W') :
    Calls Try.prog 13 #[.pointer po, (.agg #[.bool g, .slice ao L cap, .int .i64 p, .int .i64 c]), .agg #[.int .u8 k, .int .u64 n, .int .i64 wd, .string tx, .int .i64 ms]] w fun e w' => e = .returned (.tuple #[(.agg #[.bool g, .slice ao L cap, .int .i64 p1, .int .i64 c1]), .bool true]) ∧ Q w' ∧ Fr S w w' := by
  have HK : Hid (k = 1) := hk
  have HX : AnsF 30 #[(.agg #[.bool g, .slice ao L cap, .int .i64 p, .int .i64 c]), .int .i64 wd] (trd w g (.slice ao L cap) p c #[.int .u8 k, .int .u64 n, .int .i64 wd, .string tx, .int .i64 ms]) (.tuple #[(.agg #[.bool g, .slice ao L cap, .int .i64 p1, .int .i64 c1]), .int .u64 (a : Int)]) := hx _ (trd_fr _ _ _ _ _ _)
  have HR : Hid (∀ W, Fr [] w W → RdA 25 #[.pointer po, .int .i64 wd] W (.int .u64 (a : Int)) S Q) := hr
  have HQ : Hid (∀ T W W', Q W → Fr T W W' → (∀ x, x ∈ T → w.heap.size ≤ x) → Q W') := hQ
  have HS : Hid (∀ x, x ∈ S → x < w.heap.size) := hS
  clear hk hx hr hQ hS
  have hk1 : (k == 1) = true := by rw [beq_iff_eq]; exact HK.out
  go_enter Try.func13, Try.ntmps13
  go_wp2_with fail
  refine Calls.mono HX.calls ?_
  rintro e w1 ⟨rfl, hF1⟩
  have hob := hF1.keep (trd_b1 _ _ _ _ _ _) (by simp)
  have B2 := (trd_b2 w g (.slice ao L cap) p c #[.int .u8 k, .int .u64 n, .int .i64 wd, .string tx, .int .i64 ms]).keep hF1 (by simp)
  have h01 : Fr [] w w1 := (trd_fr _ _ _ _ _ _).then hF1
  have hlt := B2.lt
  clear hF1 HX
  have hoba := (Fr.alloc [] w1 (.cells #[.bool g, .slice ao L cap, .int .i64 p1, .int .i64 c1] 32)).keep hob (by simp)
  have B2a := B2.keep (Fr.alloc [] w1 (.cells #[.bool g, .slice ao L cap, .int .i64 p1, .int .i64 c1] 32)) (by simp)
  have B3a : Bx (w1.alloc (.cells #[.bool g, .slice ao L cap, .int .i64 p1, .int .i64 c1] 32)) w1.heap.size g (.slice ao L cap) p1 c1 := ⟨heap_alloc_new w1 _⟩
  have h0a : Fr [] w (w1.alloc (.cells #[.bool g, .slice ao L cap, .int .i64 p1, .int .i64 c1] 32)).drew := (h01.then (Fr.alloc [] w1 _)).then (Fr.drew [] _)
  obtain ⟨d0, d1, d2, d3, d4⟩ := fiveF hob
  obtain ⟨e0, e1, e2, e3, e4⟩ := fiveF hoba
  have HR2 := HR.out _ h0a
  have hn2 : w.heap.size + 2 ∉ S := fun hx => by have := HS.out _ hx; omega
  have hn3 : w1.heap.size ∉ S := fun hx => by have := HS.out _ hx; have := h01.size; omega
  have hw1 : w.heap.size + 2 ≠ w1.heap.size := by omega
  have hn1 : w.heap.size + 1 ∉ S := fun hx => by have := HS.out _ hx; omega
  have HOB : Hid ((w1.alloc (.cells #[.bool g, .slice ao L cap, .int .i64 p1, .int .i64 c1] 32)).drew.heap[w.heap.size + 1]? = some (.cells #[.int .u8 k, .int .u64 n, .int .i64 wd, .string tx, .int .i64 ms] 37 (0, 0))) := hoba
  have HB2 : Hid (Bx _ _ _ _ _ _) := B2a
  have HB3 : Hid (Bx _ _ _ _ _ _) := B3a
  clear hoba B2 B2a B3a HR hob
  go_wp2_with fail
  first
    | go_loud (go_region_with (first
        | (go_at_call 25; refine HR2.calls.mono ?_; rintro e w2 ⟨rfl, hQ2, hF2⟩; have B2b := (HB2.out.keep (Fr.drew [] _) (by simp)).keep hF2 hn2; have B3b := (HB3.out.keep (Fr.drew [] _) (by simp)).keep hF2 hn3; have y0 := B2b.c0; have y1 := B2b.c1; have y2 := B2b.c2; have y3 := B2b.c3; have yf0 := B2b.f 0; have yf1 := B2b.f 1; have yf2 := B2b.f 2; have yf3 := B2b.f 3; have z0 := B3b.c0; have z1 := B3b.c1; have z2 := B3b.c2; have z3 := B3b.c3; have o2 := (fiveF (hF2.keep (b := w.heap.size + 1) HOB.out hn1)).2.2.1; have o4 := (fiveF (hF2.keep (b := w.heap.size + 1) HOB.out hn1)).2.2.2.2)))
    | fail
  all_goals (
    go_wp2
    refine bodyPost_ret (v := .tuple #[(.agg #[.bool g, .slice ao L cap, .int .i64 p1, .int .i64 c1]), .bool true]) (by rw [results_cell_tmp rfl]; go_simp) rfl ⟨rfl, ?_, ?_⟩
    · exact HQ.out [w.heap.size + 2] _ _ hQ2 (Fr.sets4 _ _ _ _ _ _) (by intro x hx; simp at hx; omega)
    · exact (h0a.trans hF2 (U := S) (by simp) (fun x hx _ => hx)).trans (Fr.sets4 _ _ _ _ _ _) (fun x hx _ => hx) (by intro x hx hl; simp at hx; omega))
set_option maxHeartbeats 8000000 in
set_option maxRecDepth 100000 in
theorem takes3 (po : Option Addr) (g : Bool) (ao : Option Addr) (L cap : Nat) (p c p1 c1 : Int) (a : Int) (k n wd ms : Int) (tx : ByteArray) (S : List Nat) (Q : World → Prop) (w : World) (hk : k = 3)
    (hx : ∀ W, Fr [] w W → AnsF 31 #[(.agg #[.bool g, .slice ao L cap, .int .i64 p, .int .i64 c])] W (.tuple #[(.agg #[.bool g, .slice ao L cap, .int .i64 p1, .int .i64 c1]), .int .i64 a])) (hr : ∀ W, Fr [] w W → RdA 26 #[.pointer po] W (.int .i64 a) S Q) (hS : ∀ x, x ∈ S → x < w.heap.size)
    (hQ : ∀ T W W', Q W → Fr T W W' → (∀ x, x ∈ T → w.heap.size ≤ x) → Q W') :
    Calls Try.prog 13 #[.pointer po, (.agg #[.bool g, .slice ao L cap, .int .i64 p, .int .i64 c]), .agg #[.int .u8 k, .int .u64 n, .int .i64 wd, .string tx, .int .i64 ms]] w fun e w' => e = .returned (.tuple #[(.agg #[.bool g, .slice ao L cap, .int .i64 p1, .int .i64 c1]), .bool true]) ∧ Q w' ∧ Fr S w w' := by
  have HK : Hid (k = 3) := hk
  have HX : AnsF 31 #[(.agg #[.bool g, .slice ao L cap, .int .i64 p, .int .i64 c])] (trd w g (.slice ao L cap) p c #[.int .u8 k, .int .u64 n, .int .i64 wd, .string tx, .int .i64 ms]) (.tuple #[(.agg #[.bool g, .slice ao L cap, .int .i64 p1, .int .i64 c1]), .int .i64 a]) := hx _ (trd_fr _ _ _ _ _ _)
  have HR : Hid (∀ W, Fr [] w W → RdA 26 #[.pointer po] W (.int .i64 a) S Q) := hr
  have HQ : Hid (∀ T W W', Q W → Fr T W W' → (∀ x, x ∈ T → w.heap.size ≤ x) → Q W') := hQ
  have HS : Hid (∀ x, x ∈ S → x < w.heap.size) := hS
  clear hk hx hr hQ hS
  have hk1 : (k == 1) = false := by rw [HK.out]; decide
  have hk3 : (k == 3) = true := by rw [beq_iff_eq]; exact HK.out
  go_enter Try.func13, Try.ntmps13
  go_wp2_with fail
  refine Calls.mono HX.calls ?_
  rintro e w1 ⟨rfl, hF1⟩
  have hob := hF1.keep (trd_b1 _ _ _ _ _ _) (by simp)
  have B2 := (trd_b2 w g (.slice ao L cap) p c #[.int .u8 k, .int .u64 n, .int .i64 wd, .string tx, .int .i64 ms]).keep hF1 (by simp)
  have h01 : Fr [] w w1 := (trd_fr _ _ _ _ _ _).then hF1
  have hlt := B2.lt
  clear hF1 HX
  have hoba := (Fr.alloc [] w1 (.cells #[.bool g, .slice ao L cap, .int .i64 p1, .int .i64 c1] 32)).keep hob (by simp)
  have B2a := B2.keep (Fr.alloc [] w1 (.cells #[.bool g, .slice ao L cap, .int .i64 p1, .int .i64 c1] 32)) (by simp)
  have B3a : Bx (w1.alloc (.cells #[.bool g, .slice ao L cap, .int .i64 p1, .int .i64 c1] 32)) w1.heap.size g (.slice ao L cap) p1 c1 := ⟨heap_alloc_new w1 _⟩
  have h0a : Fr [] w (w1.alloc (.cells #[.bool g, .slice ao L cap, .int .i64 p1, .int .i64 c1] 32)).drew := (h01.then (Fr.alloc [] w1 _)).then (Fr.drew [] _)
  obtain ⟨d0, d1, d2, d3, d4⟩ := fiveF hob
  obtain ⟨e0, e1, e2, e3, e4⟩ := fiveF hoba
  have HR2 := HR.out _ h0a
  have hn2 : w.heap.size + 2 ∉ S := fun hx => by have := HS.out _ hx; omega
  have hn3 : w1.heap.size ∉ S := fun hx => by have := HS.out _ hx; have := h01.size; omega
  have hw1 : w.heap.size + 2 ≠ w1.heap.size := by omega
  have hn1 : w.heap.size + 1 ∉ S := fun hx => by have := HS.out _ hx; omega
  have HOB : Hid ((w1.alloc (.cells #[.bool g, .slice ao L cap, .int .i64 p1, .int .i64 c1] 32)).drew.heap[w.heap.size + 1]? = some (.cells #[.int .u8 k, .int .u64 n, .int .i64 wd, .string tx, .int .i64 ms] 37 (0, 0))) := hoba
  have HB2 : Hid (Bx _ _ _ _ _ _) := B2a
  have HB3 : Hid (Bx _ _ _ _ _ _) := B3a
  clear hoba B2 B2a B3a HR hob
  go_wp2_with fail
  first
    | go_loud (go_region_with (first
        | (go_at_call 26; refine HR2.calls.mono ?_; rintro e w2 ⟨rfl, hQ2, hF2⟩; have B2b := (HB2.out.keep (Fr.drew [] _) (by simp)).keep hF2 hn2; have B3b := (HB3.out.keep (Fr.drew [] _) (by simp)).keep hF2 hn3; have y0 := B2b.c0; have y1 := B2b.c1; have y2 := B2b.c2; have y3 := B2b.c3; have yf0 := B2b.f 0; have yf1 := B2b.f 1; have yf2 := B2b.f 2; have yf3 := B2b.f 3; have z0 := B3b.c0; have z1 := B3b.c1; have z2 := B3b.c2; have z3 := B3b.c3; have o2 := (fiveF (hF2.keep (b := w.heap.size + 1) HOB.out hn1)).2.2.1; have o4 := (fiveF (hF2.keep (b := w.heap.size + 1) HOB.out hn1)).2.2.2.2)))
    | fail
  all_goals (
    go_wp2
    refine bodyPost_ret (v := .tuple #[(.agg #[.bool g, .slice ao L cap, .int .i64 p1, .int .i64 c1]), .bool true]) (by rw [results_cell_tmp rfl]; go_simp) rfl ⟨rfl, ?_, ?_⟩
    · exact HQ.out [w.heap.size + 2] _ _ hQ2 (Fr.sets4 _ _ _ _ _ _) (by intro x hx; simp at hx; omega)
    · exact (h0a.trans hF2 (U := S) (by simp) (fun x hx _ => hx)).trans (Fr.sets4 _ _ _ _ _ _) (fun x hx _ => hx) (by intro x hx hl; simp at hx; omega))
set_option maxHeartbeats 8000000 in
set_option maxRecDepth 100000 in
theorem takes4 (po : Option Addr) (g : Bool) (ao : Option Addr) (L cap : Nat) (p c p1 c1 : Int) (a : ByteArray) (k n wd ms : Int) (tx : ByteArray) (S : List Nat) (Q : World → Prop) (w : World) (hk : k = 4)
    (hx : ∀ W, Fr [] w W → AnsF 32 #[(.agg #[.bool g, .slice ao L cap, .int .i64 p, .int .i64 c]), .int .i64 ms] W (.tuple #[(.agg #[.bool g, .slice ao L cap, .int .i64 p1, .int .i64 c1]), .string a])) (hr : ∀ W, Fr [] w W → RdA 27 #[.pointer po, .int .i64 ms] W (.string a) S Q) (hS : ∀ x, x ∈ S → x < w.heap.size)
    (hQ : ∀ T W W', Q W → Fr T W W' → (∀ x, x ∈ T → w.heap.size ≤ x) → Q W') :
    Calls Try.prog 13 #[.pointer po, (.agg #[.bool g, .slice ao L cap, .int .i64 p, .int .i64 c]), .agg #[.int .u8 k, .int .u64 n, .int .i64 wd, .string tx, .int .i64 ms]] w fun e w' => e = .returned (.tuple #[(.agg #[.bool g, .slice ao L cap, .int .i64 p1, .int .i64 c1]), .bool true]) ∧ Q w' ∧ Fr S w w' := by
  have HK : Hid (k = 4) := hk
  have HX : AnsF 32 #[(.agg #[.bool g, .slice ao L cap, .int .i64 p, .int .i64 c]), .int .i64 ms] (trd w g (.slice ao L cap) p c #[.int .u8 k, .int .u64 n, .int .i64 wd, .string tx, .int .i64 ms]) (.tuple #[(.agg #[.bool g, .slice ao L cap, .int .i64 p1, .int .i64 c1]), .string a]) := hx _ (trd_fr _ _ _ _ _ _)
  have HR : Hid (∀ W, Fr [] w W → RdA 27 #[.pointer po, .int .i64 ms] W (.string a) S Q) := hr
  have HQ : Hid (∀ T W W', Q W → Fr T W W' → (∀ x, x ∈ T → w.heap.size ≤ x) → Q W') := hQ
  have HS : Hid (∀ x, x ∈ S → x < w.heap.size) := hS
  clear hk hx hr hQ hS
  have hk1 : (k == 1) = false := by rw [HK.out]; decide
  have hk3 : (k == 3) = false := by rw [HK.out]; decide
  have hk4 : (k == 4) = true := by rw [beq_iff_eq]; exact HK.out
  go_enter Try.func13, Try.ntmps13
  go_wp2_with fail
  refine Calls.mono HX.calls ?_
  rintro e w1 ⟨rfl, hF1⟩
  have hob := hF1.keep (trd_b1 _ _ _ _ _ _) (by simp)
  have B2 := (trd_b2 w g (.slice ao L cap) p c #[.int .u8 k, .int .u64 n, .int .i64 wd, .string tx, .int .i64 ms]).keep hF1 (by simp)
  have h01 : Fr [] w w1 := (trd_fr _ _ _ _ _ _).then hF1
  have hlt := B2.lt
  clear hF1 HX
  have hoba := (Fr.alloc [] w1 (.cells #[.bool g, .slice ao L cap, .int .i64 p1, .int .i64 c1] 32)).keep hob (by simp)
  have B2a := B2.keep (Fr.alloc [] w1 (.cells #[.bool g, .slice ao L cap, .int .i64 p1, .int .i64 c1] 32)) (by simp)
  have B3a : Bx (w1.alloc (.cells #[.bool g, .slice ao L cap, .int .i64 p1, .int .i64 c1] 32)) w1.heap.size g (.slice ao L cap) p1 c1 := ⟨heap_alloc_new w1 _⟩
  have h0a : Fr [] w (w1.alloc (.cells #[.bool g, .slice ao L cap, .int .i64 p1, .int .i64 c1] 32)).drew := (h01.then (Fr.alloc [] w1 _)).then (Fr.drew [] _)
  obtain ⟨d0, d1, d2, d3, d4⟩ := fiveF hob
  obtain ⟨e0, e1, e2, e3, e4⟩ := fiveF hoba
  have HR2 := HR.out _ h0a
  have hn2 : w.heap.size + 2 ∉ S := fun hx => by have := HS.out _ hx; omega
  have hn3 : w1.heap.size ∉ S := fun hx => by have := HS.out _ hx; have := h01.size; omega
  have hw1 : w.heap.size + 2 ≠ w1.heap.size := by omega
  have hn1 : w.heap.size + 1 ∉ S := fun hx => by have := HS.out _ hx; omega
  have HOB : Hid ((w1.alloc (.cells #[.bool g, .slice ao L cap, .int .i64 p1, .int .i64 c1] 32)).drew.heap[w.heap.size + 1]? = some (.cells #[.int .u8 k, .int .u64 n, .int .i64 wd, .string tx, .int .i64 ms] 37 (0, 0))) := hoba
  have HB2 : Hid (Bx _ _ _ _ _ _) := B2a
  have HB3 : Hid (Bx _ _ _ _ _ _) := B3a
  clear hoba B2 B2a B3a HR hob
  go_wp2_with fail
  first
    | go_loud (go_region_with (first
        | (go_at_call 27; refine HR2.calls.mono ?_; rintro e w2 ⟨rfl, hQ2, hF2⟩; have B2b := (HB2.out.keep (Fr.drew [] _) (by simp)).keep hF2 hn2; have B3b := (HB3.out.keep (Fr.drew [] _) (by simp)).keep hF2 hn3; have y0 := B2b.c0; have y1 := B2b.c1; have y2 := B2b.c2; have y3 := B2b.c3; have yf0 := B2b.f 0; have yf1 := B2b.f 1; have yf2 := B2b.f 2; have yf3 := B2b.f 3; have z0 := B3b.c0; have z1 := B3b.c1; have z2 := B3b.c2; have z3 := B3b.c3; have o2 := (fiveF (hF2.keep (b := w.heap.size + 1) HOB.out hn1)).2.2.1; have o4 := (fiveF (hF2.keep (b := w.heap.size + 1) HOB.out hn1)).2.2.2.2)))
    | fail
  all_goals (
    go_wp2
    refine bodyPost_ret (v := .tuple #[(.agg #[.bool g, .slice ao L cap, .int .i64 p1, .int .i64 c1]), .bool true]) (by rw [results_cell_tmp rfl]; go_simp) rfl ⟨rfl, ?_, ?_⟩
    · exact HQ.out [w.heap.size + 2] _ _ hQ2 (Fr.sets4 _ _ _ _ _ _) (by intro x hx; simp at hx; omega)
    · exact (h0a.trans hF2 (U := S) (by simp) (fun x hx _ => hx)).trans (Fr.sets4 _ _ _ _ _ _) (fun x hx _ => hx) (by intro x hx hl; simp at hx; omega))
set_option maxHeartbeats 8000000 in
set_option maxRecDepth 100000 in
theorem takese (po : Option Addr) (g : Bool) (ao : Option Addr) (L cap : Nat) (p c p1 c1 : Int) (a : Nat) (k n wd ms : Int) (tx : ByteArray) (S : List Nat) (Q : World → Prop) (w : World) (hk : k ≠ 1 ∧ k ≠ 3 ∧ k ≠ 4)
    (hx : ∀ W, Fr [] w W → AnsF 33 #[(.agg #[.bool g, .slice ao L cap, .int .i64 p, .int .i64 c])] W (.tuple #[(.agg #[.bool g, .slice ao L cap, .int .i64 p1, .int .i64 c1]), .int .u64 (a : Int)])) (hr : ∀ W, Fr [] w W → RdA 28 #[.pointer po] W (.int .u64 (a : Int)) S Q) (hS : ∀ x, x ∈ S → x < w.heap.size)
    (hQ : ∀ T W W', Q W → Fr T W W' → (∀ x, x ∈ T → w.heap.size ≤ x) → Q W') :
    Calls Try.prog 13 #[.pointer po, (.agg #[.bool g, .slice ao L cap, .int .i64 p, .int .i64 c]), .agg #[.int .u8 k, .int .u64 n, .int .i64 wd, .string tx, .int .i64 ms]] w fun e w' => e = .returned (.tuple #[(.agg #[.bool g, .slice ao L cap, .int .i64 p1, .int .i64 c1]), .bool true]) ∧ Q w' ∧ Fr S w w' := by
  have HK : Hid (k ≠ 1 ∧ k ≠ 3 ∧ k ≠ 4) := hk
  have HX : AnsF 33 #[(.agg #[.bool g, .slice ao L cap, .int .i64 p, .int .i64 c])] (trd w g (.slice ao L cap) p c #[.int .u8 k, .int .u64 n, .int .i64 wd, .string tx, .int .i64 ms]) (.tuple #[(.agg #[.bool g, .slice ao L cap, .int .i64 p1, .int .i64 c1]), .int .u64 (a : Int)]) := hx _ (trd_fr _ _ _ _ _ _)
  have HR : Hid (∀ W, Fr [] w W → RdA 28 #[.pointer po] W (.int .u64 (a : Int)) S Q) := hr
  have HQ : Hid (∀ T W W', Q W → Fr T W W' → (∀ x, x ∈ T → w.heap.size ≤ x) → Q W') := hQ
  have HS : Hid (∀ x, x ∈ S → x < w.heap.size) := hS
  clear hk hx hr hQ hS
  have hk1 : (k == 1) = false := by rw [beq_eq_false_iff_ne]; exact HK.out.1
  have hk3 : (k == 3) = false := by rw [beq_eq_false_iff_ne]; exact HK.out.2.1
  have hk4 : (k == 4) = false := by rw [beq_eq_false_iff_ne]; exact HK.out.2.2
  go_enter Try.func13, Try.ntmps13
  go_wp2_with fail
  refine Calls.mono HX.calls ?_
  rintro e w1 ⟨rfl, hF1⟩
  have hob := hF1.keep (trd_b1 _ _ _ _ _ _) (by simp)
  have B2 := (trd_b2 w g (.slice ao L cap) p c #[.int .u8 k, .int .u64 n, .int .i64 wd, .string tx, .int .i64 ms]).keep hF1 (by simp)
  have h01 : Fr [] w w1 := (trd_fr _ _ _ _ _ _).then hF1
  have hlt := B2.lt
  clear hF1 HX
  have hoba := (Fr.alloc [] w1 (.cells #[.bool g, .slice ao L cap, .int .i64 p1, .int .i64 c1] 32)).keep hob (by simp)
  have B2a := B2.keep (Fr.alloc [] w1 (.cells #[.bool g, .slice ao L cap, .int .i64 p1, .int .i64 c1] 32)) (by simp)
  have B3a : Bx (w1.alloc (.cells #[.bool g, .slice ao L cap, .int .i64 p1, .int .i64 c1] 32)) w1.heap.size g (.slice ao L cap) p1 c1 := ⟨heap_alloc_new w1 _⟩
  have h0a : Fr [] w (w1.alloc (.cells #[.bool g, .slice ao L cap, .int .i64 p1, .int .i64 c1] 32)).drew := (h01.then (Fr.alloc [] w1 _)).then (Fr.drew [] _)
  obtain ⟨d0, d1, d2, d3, d4⟩ := fiveF hob
  obtain ⟨e0, e1, e2, e3, e4⟩ := fiveF hoba
  have HR2 := HR.out _ h0a
  have hn2 : w.heap.size + 2 ∉ S := fun hx => by have := HS.out _ hx; omega
  have hn3 : w1.heap.size ∉ S := fun hx => by have := HS.out _ hx; have := h01.size; omega
  have hw1 : w.heap.size + 2 ≠ w1.heap.size := by omega
  have hn1 : w.heap.size + 1 ∉ S := fun hx => by have := HS.out _ hx; omega
  have HOB : Hid ((w1.alloc (.cells #[.bool g, .slice ao L cap, .int .i64 p1, .int .i64 c1] 32)).drew.heap[w.heap.size + 1]? = some (.cells #[.int .u8 k, .int .u64 n, .int .i64 wd, .string tx, .int .i64 ms] 37 (0, 0))) := hoba
  have HB2 : Hid (Bx _ _ _ _ _ _) := B2a
  have HB3 : Hid (Bx _ _ _ _ _ _) := B3a
  clear hoba B2 B2a B3a HR hob
  go_wp2_with fail
  first
    | go_loud (go_region_with (first
        | (go_at_call 28; refine HR2.calls.mono ?_; rintro e w2 ⟨rfl, hQ2, hF2⟩; have B2b := (HB2.out.keep (Fr.drew [] _) (by simp)).keep hF2 hn2; have B3b := (HB3.out.keep (Fr.drew [] _) (by simp)).keep hF2 hn3; have y0 := B2b.c0; have y1 := B2b.c1; have y2 := B2b.c2; have y3 := B2b.c3; have yf0 := B2b.f 0; have yf1 := B2b.f 1; have yf2 := B2b.f 2; have yf3 := B2b.f 3; have z0 := B3b.c0; have z1 := B3b.c1; have z2 := B3b.c2; have z3 := B3b.c3; have o2 := (fiveF (hF2.keep (b := w.heap.size + 1) HOB.out hn1)).2.2.1; have o4 := (fiveF (hF2.keep (b := w.heap.size + 1) HOB.out hn1)).2.2.2.2)))
    | fail
  all_goals (
    go_wp2
    refine bodyPost_ret (v := .tuple #[(.agg #[.bool g, .slice ao L cap, .int .i64 p1, .int .i64 c1]), .bool true]) (by rw [results_cell_tmp rfl]; go_simp) rfl ⟨rfl, ?_, ?_⟩
    · exact HQ.out [w.heap.size + 2] _ _ hQ2 (Fr.sets4 _ _ _ _ _ _) (by intro x hx; simp at hx; omega)
    · exact (h0a.trans hF2 (U := S) (by simp) (fun x hx _ => hx)).trans (Fr.sets4 _ _ _ _ _ _) (fun x hx _ => hx) (by intro x hx hl; simp at hx; omega))
end Go.Proofs.Ytcajoihfdeoikaa
