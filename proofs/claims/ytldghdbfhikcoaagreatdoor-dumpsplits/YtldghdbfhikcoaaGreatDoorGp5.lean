/- Texts of this claim laid together, one behind the other: contracts and plain lemmas; conditions as each names them. -/
import Derived.Test.YtldghdbfhikcoaaGreatDoorGp4
/- What the reader's gate does with each of the four closures it is handed: contracts of take. Conditions: the closure's own contract. -/
namespace Go.Proofs.YtldghdbfhikcoaaGreatDoor
open Go.ChangeShapes Go.WideShapes Go.ChangeAt Go.RowKit Go.Lib

/-- The call answers v and leaves the world as it was but for draws. -/
def Ans (f : Nat) (args : Array Value) (w : World) (v : Value) : Prop := Calls Tryz.prog f args w fun e w' => e = .returned v ∧ ∃ q, w' = w.drewN q
theorem Ans.calls {f : Nat} {args : Array Value} {w : World} {v : Value} (h : Ans f args w v) : Calls Tryz.prog f args w fun e w' => e = .returned v ∧ ∃ q, w' = w.drewN q := h


set_option maxHeartbeats 1000000 in
set_option maxRecDepth 100000 in
theorem takeU_gone (fv : Value) (g r : Nat) (xs : List Nat) (er : Nat) (ao : Option Addr) (cap : Nat) (w : World) (h : Rd w g r xs er ao cap) (he : er ≠ 0) :
    Calls Tryz.prog 162 #[.pointer (some ⟨g, 0, none⟩), fv] w fun e w' => e = .returned (.int .u64 0) ∧ w = w' := by
  have heb : ((er : Int) != 0) = true := by rw [bne_iff_ne]; omega
  have c2 := h.c2
  clear he
  go_enter Tryz.func162, Tryz.ntmps162
  go_wp2_with fail
  refine (rThere_any g _ h.c0).mono ?_
  rintro e w' ⟨rfl, rfl⟩
  go_wp2
  go_ret
  exact ⟨rfl, rfl⟩

set_option maxHeartbeats 1000000 in
set_option maxRecDepth 100000 in
theorem takeS_gone (fv : Value) (g r : Nat) (xs : List Nat) (er : Nat) (ao : Option Addr) (cap : Nat) (w : World) (h : Rd w g r xs er ao cap) (he : er ≠ 0) :
    Calls Tryz.prog 176 #[.pointer (some ⟨g, 0, none⟩), fv] w fun e w' => e = .returned (.string ⟨#[]⟩) ∧ w = w' := by
  have heb : ((er : Int) != 0) = true := by rw [bne_iff_ne]; omega
  have c2 := h.c2
  clear he
  go_enter Tryz.func176, Tryz.ntmps176
  go_wp2_with fail
  refine (rThere_any g _ h.c0).mono ?_
  rintro e w' ⟨rfl, rfl⟩
  go_wp2
  go_ret
  exact ⟨rfl, rfl⟩

set_option maxHeartbeats 1000000 in
set_option maxRecDepth 100000 in
theorem takeVar_wrong (t : Int) (k : Int) (c : Nat) (g r : Nat) (xs : List Nat) (ao : Option Addr) (cap : Nat) (w : World) (h : Rd w g r xs 0 ao cap) (hc : c ≠ 0)
    (hcl : Ans 163 #[.slice ao xs.length cap] w (.tuple #[.int .u64 t, .int .i64 k, .int .i64 c])) :
    Calls Tryz.prog 162 #[.pointer (some ⟨g, 0, none⟩), .func (Fn.func 163) #[] #[]] w fun e w' => e = .returned (.int .u64 0) ∧ ∃ q, w' = (w.setCell ⟨g, 2, none⟩ (.int .i64 c)).drewN q := by
  have hcb : ((c : Int) != 0) = true := by rw [bne_iff_ne]; omega
  have c1 := h.c1
  have c2 := h.c2
  have f2 := h.f2
  clear hc
  go_enter Tryz.func162, Tryz.ntmps162
  go_wp2_with fail
  refine (rThere_any g _ h.c0).mono ?_
  rintro e w' ⟨rfl, rfl⟩
  go_wp2_with fail
  refine hcl.calls.mono ?_
  rintro e w' ⟨rfl, q, rfl⟩
  go_wp2
  go_ret
  exact ⟨rfl, _, rfl⟩
set_option maxHeartbeats 4000000 in
set_option maxRecDepth 100000 in
theorem takeVar_good (t : Int) (k off : Nat) (g r : Nat) (xs : List Nat) (cap : Nat) (w : World) (h : Rd w g r xs 0 (some ⟨r, off, none⟩) cap) (hk : k ≤ xs.length)
    (hcl : Ans 163 #[.slice (some ⟨r, off, none⟩) xs.length cap] w (.tuple #[.int .u64 t, .int .i64 k, .int .i64 0])) :
    Calls Tryz.prog 162 #[.pointer (some ⟨g, 0, none⟩), .func (Fn.func 163) #[] #[]] w fun e w' => e = .returned (.int .u64 t) ∧ ∃ q, w' = (w.setCell ⟨g, 1, none⟩ (.slice (if xs.length = k then some ⟨r, off, none⟩ else some ⟨r, off + k, none⟩) (xs.length - k) (xs.length - k))).drewN q := by
  have c1 := h.c1
  have c2 := h.c2
  have f1 := h.f1
  have hcap := h.cap
  obtain ⟨L, hL⟩ : ∃ L, L = xs.length := ⟨_, rfl⟩
  rw [← hL] at hcl c1 hk hcap ⊢
  clear hL
  go_enter Tryz.func162, Tryz.ntmps162
  go_wp2_with fail
  refine (rThere_any g _ h.c0).mono ?_
  rintro e w' ⟨rfl, rfl⟩
  go_wp2_with fail
  refine hcl.calls.mono ?_
  rintro e w' ⟨rfl, q, rfl⟩
  go_wp2_with fail
  go_region
  go_wp2
  all_goals (go_ret; exact ⟨rfl, _, rfl⟩)

theorem takeVar_rd (f : List Nat → Nat × Nat × Nat) (g r : Nat) (xs : List Nat) (er : Nat) (ao : Option Addr) (cap : Nat) (w : World) (h : Rd w g r xs er ao cap) (hf : (f xs).2.2 = 0 → 0 < xs.length ∧ (f xs).2.1 ≤ xs.length)
    (hcl : er = 0 → Ans 163 #[.slice ao xs.length cap] w (.tuple #[.int .u64 ((f xs).1 : Nat), .int .i64 ((f xs).2.1 : Nat), .int .i64 ((f xs).2.2 : Nat)])) :
    Calls Tryz.prog 162 #[.pointer (some ⟨g, 0, none⟩), .func (Fn.func 163) #[] #[]] w fun e w' => e = .returned (.int .u64 ((rdBy f 0 xs er).1 : Nat)) ∧ ∃ ao' cap', Rd w' g r (rdBy f 0 xs er).2.1 (rdBy f 0 xs er).2.2 ao' cap' ∧ Fr [g] w w' := by
  by_cases he : er = 0
  · subst he
    by_cases hc : (f xs).2.2 = 0
    · have hs := hf hc
      have hA := hcl rfl
      obtain ⟨off, rfl, _⟩ := h.sl.lies hs.1
      have e1 : rdBy f 0 xs 0 = ((f xs).1, xs.drop (f xs).2.1, 0) := by simp [rdBy, hc]
      rw [e1]
      rw [hc] at hA
      refine (takeVar_good _ _ off g r xs cap w h hs.2 hA).mono ?_
      rintro e w' ⟨rfl, q, rfl⟩
      obtain ⟨h1, h2⟩ := h.went hs.1 (f xs).2.1 q hs.2
      exact ⟨rfl, _, _, h1, h2⟩
    · have e1 : rdBy f 0 xs 0 = (0, xs, (f xs).2.2) := by simp [rdBy, hc]
      rw [e1]
      refine (takeVar_wrong _ _ _ g r xs ao cap w h hc (hcl rfl)).mono ?_
      rintro e w' ⟨rfl, q, rfl⟩
      obtain ⟨h1, h2⟩ := h.wrong (f xs).2.2 q
      exact ⟨rfl, _, _, h1, h2⟩
  · have e1 : rdBy f 0 xs er = (0, xs, er) := by simp [rdBy, he]
    rw [e1]
    refine (takeU_gone _ g r xs er ao cap w h he).mono ?_
    rintro e w' ⟨rfl, rfl⟩
    exact ⟨rfl, _, _, h, Fr.refl _ _⟩

set_option maxHeartbeats 1000000 in
set_option maxRecDepth 100000 in
theorem takeFixed_wrong (t : Int) (k : Int) (c : Nat) (g r b : Nat) (xs : List Nat) (ao : Option Addr) (cap : Nat) (w : World) (h : Rd w g r xs 0 ao cap) (hc : c ≠ 0)
    (hcl : Ans 178 #[.slice ao xs.length cap, .pointer (some ⟨b, 0, none⟩)] w (.tuple #[.int .u64 t, .int .i64 k, .int .i64 c])) :
    Calls Tryz.prog 162 #[.pointer (some ⟨g, 0, none⟩), .func (Fn.func 178) #[] #[.pointer (some ⟨b, 0, none⟩)]] w fun e w' => e = .returned (.int .u64 0) ∧ ∃ q, w' = (w.setCell ⟨g, 2, none⟩ (.int .i64 c)).drewN q := by
  have hcb : ((c : Int) != 0) = true := by rw [bne_iff_ne]; omega
  have c1 := h.c1
  have c2 := h.c2
  have f2 := h.f2
  clear hc
  go_enter Tryz.func162, Tryz.ntmps162
  go_wp2_with fail
  refine (rThere_any g _ h.c0).mono ?_
  rintro e w' ⟨rfl, rfl⟩
  go_wp2_with fail
  refine hcl.calls.mono ?_
  rintro e w' ⟨rfl, q, rfl⟩
  go_wp2
  go_ret
  exact ⟨rfl, _, rfl⟩
set_option maxHeartbeats 4000000 in
set_option maxRecDepth 100000 in
theorem takeFixed_good (t : Int) (k off : Nat) (g r b : Nat) (xs : List Nat) (cap : Nat) (w : World) (h : Rd w g r xs 0 (some ⟨r, off, none⟩) cap) (hk : k ≤ xs.length)
    (hcl : Ans 178 #[.slice (some ⟨r, off, none⟩) xs.length cap, .pointer (some ⟨b, 0, none⟩)] w (.tuple #[.int .u64 t, .int .i64 k, .int .i64 0])) :
    Calls Tryz.prog 162 #[.pointer (some ⟨g, 0, none⟩), .func (Fn.func 178) #[] #[.pointer (some ⟨b, 0, none⟩)]] w fun e w' => e = .returned (.int .u64 t) ∧ ∃ q, w' = (w.setCell ⟨g, 1, none⟩ (.slice (if xs.length = k then some ⟨r, off, none⟩ else some ⟨r, off + k, none⟩) (xs.length - k) (xs.length - k))).drewN q := by
  have c1 := h.c1
  have c2 := h.c2
  have f1 := h.f1
  have hcap := h.cap
  obtain ⟨L, hL⟩ : ∃ L, L = xs.length := ⟨_, rfl⟩
  rw [← hL] at hcl c1 hk hcap ⊢
  clear hL
  go_enter Tryz.func162, Tryz.ntmps162
  go_wp2_with fail
  refine (rThere_any g _ h.c0).mono ?_
  rintro e w' ⟨rfl, rfl⟩
  go_wp2_with fail
  refine hcl.calls.mono ?_
  rintro e w' ⟨rfl, q, rfl⟩
  go_wp2_with fail
  go_region
  go_wp2
  all_goals (go_ret; exact ⟨rfl, _, rfl⟩)

theorem takeFixed_rd (f : List Nat → Nat × Nat × Nat) (g r b : Nat) (xs : List Nat) (er : Nat) (ao : Option Addr) (cap : Nat) (w : World) (h : Rd w g r xs er ao cap) (hf : (f xs).2.2 = 0 → 0 < xs.length ∧ (f xs).2.1 ≤ xs.length)
    (hcl : er = 0 → Ans 178 #[.slice ao xs.length cap, .pointer (some ⟨b, 0, none⟩)] w (.tuple #[.int .u64 ((f xs).1 : Nat), .int .i64 ((f xs).2.1 : Nat), .int .i64 ((f xs).2.2 : Nat)])) :
    Calls Tryz.prog 162 #[.pointer (some ⟨g, 0, none⟩), .func (Fn.func 178) #[] #[.pointer (some ⟨b, 0, none⟩)]] w fun e w' => e = .returned (.int .u64 ((rdBy f 0 xs er).1 : Nat)) ∧ ∃ ao' cap', Rd w' g r (rdBy f 0 xs er).2.1 (rdBy f 0 xs er).2.2 ao' cap' ∧ Fr [g] w w' := by
  by_cases he : er = 0
  · subst he
    by_cases hc : (f xs).2.2 = 0
    · have hs := hf hc
      have hA := hcl rfl
      obtain ⟨off, rfl, _⟩ := h.sl.lies hs.1
      have e1 : rdBy f 0 xs 0 = ((f xs).1, xs.drop (f xs).2.1, 0) := by simp [rdBy, hc]
      rw [e1]
      rw [hc] at hA
      refine (takeFixed_good _ _ off g r b xs cap w h hs.2 hA).mono ?_
      rintro e w' ⟨rfl, q, rfl⟩
      obtain ⟨h1, h2⟩ := h.went hs.1 (f xs).2.1 q hs.2
      exact ⟨rfl, _, _, h1, h2⟩
    · have e1 : rdBy f 0 xs 0 = (0, xs, (f xs).2.2) := by simp [rdBy, hc]
      rw [e1]
      refine (takeFixed_wrong _ _ _ g r b xs ao cap w h hc (hcl rfl)).mono ?_
      rintro e w' ⟨rfl, q, rfl⟩
      obtain ⟨h1, h2⟩ := h.wrong (f xs).2.2 q
      exact ⟨rfl, _, _, h1, h2⟩
  · have e1 : rdBy f 0 xs er = (0, xs, er) := by simp [rdBy, he]
    rw [e1]
    refine (takeU_gone _ g r xs er ao cap w h he).mono ?_
    rintro e w' ⟨rfl, rfl⟩
    exact ⟨rfl, _, _, h, Fr.refl _ _⟩

set_option maxHeartbeats 1000000 in
set_option maxRecDepth 100000 in
theorem takeText_wrong (t : ByteArray) (k : Int) (c : Nat) (g r b : Nat) (xs : List Nat) (ao : Option Addr) (cap : Nat) (w : World) (h : Rd w g r xs 0 ao cap) (hc : c ≠ 0)
    (hcl : Ans 177 #[.slice ao xs.length cap, .pointer (some ⟨b, 0, none⟩)] w (.tuple #[.string t, .int .i64 k, .int .i64 c])) :
    Calls Tryz.prog 176 #[.pointer (some ⟨g, 0, none⟩), .func (Fn.func 177) #[] #[.pointer (some ⟨b, 0, none⟩)]] w fun e w' => e = .returned (.string ⟨#[]⟩) ∧ ∃ q, w' = (w.setCell ⟨g, 2, none⟩ (.int .i64 c)).drewN q := by
  have hcb : ((c : Int) != 0) = true := by rw [bne_iff_ne]; omega
  have c1 := h.c1
  have c2 := h.c2
  have f2 := h.f2
  clear hc
  go_enter Tryz.func176, Tryz.ntmps176
  go_wp2_with fail
  refine (rThere_any g _ h.c0).mono ?_
  rintro e w' ⟨rfl, rfl⟩
  go_wp2_with fail
  refine hcl.calls.mono ?_
  rintro e w' ⟨rfl, q, rfl⟩
  go_wp2
  go_ret
  exact ⟨rfl, _, rfl⟩
set_option maxHeartbeats 4000000 in
set_option maxRecDepth 100000 in
theorem takeText_good (t : ByteArray) (k off : Nat) (g r b : Nat) (xs : List Nat) (cap : Nat) (w : World) (h : Rd w g r xs 0 (some ⟨r, off, none⟩) cap) (hk : k ≤ xs.length)
    (hcl : Ans 177 #[.slice (some ⟨r, off, none⟩) xs.length cap, .pointer (some ⟨b, 0, none⟩)] w (.tuple #[.string t, .int .i64 k, .int .i64 0])) :
    Calls Tryz.prog 176 #[.pointer (some ⟨g, 0, none⟩), .func (Fn.func 177) #[] #[.pointer (some ⟨b, 0, none⟩)]] w fun e w' => e = .returned (.string t) ∧ ∃ q, w' = (w.setCell ⟨g, 1, none⟩ (.slice (if xs.length = k then some ⟨r, off, none⟩ else some ⟨r, off + k, none⟩) (xs.length - k) (xs.length - k))).drewN q := by
  have c1 := h.c1
  have c2 := h.c2
  have f1 := h.f1
  have hcap := h.cap
  obtain ⟨L, hL⟩ : ∃ L, L = xs.length := ⟨_, rfl⟩
  rw [← hL] at hcl c1 hk hcap ⊢
  clear hL
  go_enter Tryz.func176, Tryz.ntmps176
  go_wp2_with fail
  refine (rThere_any g _ h.c0).mono ?_
  rintro e w' ⟨rfl, rfl⟩
  go_wp2_with fail
  refine hcl.calls.mono ?_
  rintro e w' ⟨rfl, q, rfl⟩
  go_wp2_with fail
  go_region
  go_wp2
  all_goals (go_ret; exact ⟨rfl, _, rfl⟩)

theorem takeText_rd (f : List Nat → ByteArray × Nat × Nat) (g r b : Nat) (xs : List Nat) (er : Nat) (ao : Option Addr) (cap : Nat) (w : World) (h : Rd w g r xs er ao cap) (hf : (f xs).2.2 = 0 → 0 < xs.length ∧ (f xs).2.1 ≤ xs.length)
    (hcl : er = 0 → Ans 177 #[.slice ao xs.length cap, .pointer (some ⟨b, 0, none⟩)] w (.tuple #[.string (f xs).1, .int .i64 ((f xs).2.1 : Nat), .int .i64 ((f xs).2.2 : Nat)])) :
    Calls Tryz.prog 176 #[.pointer (some ⟨g, 0, none⟩), .func (Fn.func 177) #[] #[.pointer (some ⟨b, 0, none⟩)]] w fun e w' => e = .returned (.string (rdBy f ⟨#[]⟩ xs er).1) ∧ ∃ ao' cap', Rd w' g r (rdBy f ⟨#[]⟩ xs er).2.1 (rdBy f ⟨#[]⟩ xs er).2.2 ao' cap' ∧ Fr [g] w w' := by
  by_cases he : er = 0
  · subst he
    by_cases hc : (f xs).2.2 = 0
    · have hs := hf hc
      have hA := hcl rfl
      obtain ⟨off, rfl, _⟩ := h.sl.lies hs.1
      have e1 : rdBy f ⟨#[]⟩ xs 0 = ((f xs).1, xs.drop (f xs).2.1, 0) := by simp [rdBy, hc]
      rw [e1]
      rw [hc] at hA
      refine (takeText_good _ _ off g r b xs cap w h hs.2 hA).mono ?_
      rintro e w' ⟨rfl, q, rfl⟩
      obtain ⟨h1, h2⟩ := h.went hs.1 (f xs).2.1 q hs.2
      exact ⟨rfl, _, _, h1, h2⟩
    · have e1 : rdBy f ⟨#[]⟩ xs 0 = (⟨#[]⟩, xs, (f xs).2.2) := by simp [rdBy, hc]
      rw [e1]
      refine (takeText_wrong _ _ _ g r b xs ao cap w h hc (hcl rfl)).mono ?_
      rintro e w' ⟨rfl, q, rfl⟩
      obtain ⟨h1, h2⟩ := h.wrong (f xs).2.2 q
      exact ⟨rfl, _, _, h1, h2⟩
  · have e1 : rdBy f ⟨#[]⟩ xs er = (⟨#[]⟩, xs, er) := by simp [rdBy, he]
    rw [e1]
    refine (takeS_gone _ g r xs er ao cap w h he).mono ?_
    rintro e w' ⟨rfl, rfl⟩
    exact ⟨rfl, _, _, h, Fr.refl _ _⟩
end Go.Proofs.YtldghdbfhikcoaaGreatDoor
/- What the statements' own helpers on bytes answer: SameBytes. Conditions: fewer than 2^41 bytes. -/
namespace Go.Proofs.YtldghdbfhikcoaaGreatDoor
open Go.ChangeShapes Go.WideShapes Go.ChangeAt Go.RowKit Go.Lib

/-- The slice at ao reads as the bytes xs. -/
structure Rs (w : World) (ao : Option Addr) (xs : List Nat) : Prop where
  lies : 0 < xs.length → ∃ b off, ao = some ⟨b, off, none⟩ ∧ ∀ j, j < xs.length → w.cell? ⟨b, off + j, none⟩ = some (.int .u8 ((xs.getD j 0 : Nat) : Int))
  len : xs.length < 2^41
theorem Sl.rs {w : World} {r : Nat} {ao : Option Addr} {xs : List Nat} (h : Sl w r ao xs) : Rs w ao xs := ⟨fun h0 => ⟨r, h.lies h0⟩, h.len⟩
theorem Rs.of_row {w : World} {b : Nat} {xs : List Nat} (h : w.heap[b]? = some (.cells (bts xs).toArray 5 (0, 0))) (hl : xs.length < 2^41) : Rs w (some ⟨b, 0, none⟩) xs :=
  ⟨fun _ => ⟨b, 0, rfl, fun j hj => by rw [cell_of_row _ _ _ _ _ _ h, Nat.zero_add]; simpa using bts_get xs j hj⟩, hl⟩
theorem Rs.nil (w : World) (ao : Option Addr) : Rs w ao [] := ⟨fun h => by simp at h, by simp⟩
theorem Rs.take {w : World} {ao : Option Addr} {xs : List Nat} (h : Rs w ao xs) (k : Nat) : Rs w ao (xs.take k) := by
  refine ⟨fun h0 => ?_, by have := h.len; rw [List.length_take]; omega⟩
  rw [List.length_take] at h0
  obtain ⟨b, off, e, hc⟩ := h.lies (by omega)
  refine ⟨b, off, e, fun j hj => ?_⟩
  rw [List.length_take] at hj
  rw [hc j (by omega)]
  simp [List.getD, show j < k by omega]
theorem Rs.drewN {w : World} {ao : Option Addr} {xs : List Nat} (h : Rs w ao xs) (q : Nat) : Rs (w.drewN q) ao xs := ⟨h.lies, h.len⟩
theorem Rs.keep {S : List Nat} {w w' : World} {b off : Nat} {xs : List Nat} (h : Rs w (some ⟨b, off, none⟩) xs) (hf : Fr S w w') (hb : b ∉ S) : Rs w' (some ⟨b, off, none⟩) xs := by
  refine ⟨fun h0 => ?_, h.len⟩
  obtain ⟨b', off', e, hc⟩ := h.lies h0
  cases e
  refine ⟨b, off, rfl, fun j hj => ?_⟩
  have hlt := World.block_lt_of_cell? w _ (hc j hj)
  exact (World.cell?_of_block (hf.block b hlt hb)).trans (hc j hj)

theorem row_src {w : World} {b : Nat} {xs : List Nat} (h : w.heap[b]? = some (.cells (bts xs).toArray 5 (0, 0))) : ∀ j u, (bts xs)[j]? = some u → w.cell? ((⟨b, 0, none⟩ : Addr).add j) = some u := by
  intro j u hj
  rw [show (⟨b, 0, none⟩ : Addr).add j = ⟨b, 0 + j, none⟩ from by simp [Addr.add]; omega, cell_of_row _ _ _ _ _ _ h, Nat.zero_add]
  simpa using hj
theorem same_upto (xs ys : List Nat) (hl : xs.length = ys.length) (h : ∀ j, j < xs.length → xs.getD j 0 = ys.getD j 0) : xs = ys := by
  apply List.ext_getElem hl
  intro i h1 h2
  have := h i h1
  simpa [List.getD, h1, h2] using this

set_option maxHeartbeats 2000000 in
set_option maxRecDepth 100000 in
theorem same_any (a b : Option Addr) (L M ca cb : Nat) (xs ys : List Nat) (w : World) (ha : Rs w a xs) (hb : Rs w b ys) (hL : L = xs.length) (hM : M = ys.length) :
    Calls Tryz.prog 13 #[.slice a L ca, .slice b M cb] w fun e w' => e = .returned (.bool (decide (xs = ys))) ∧ ∃ q, w' = w.drewN q := by
  obtain ⟨R, hR⟩ : ∃ R, R = decide (xs = ys) := ⟨_, rfl⟩
  rw [← hR]
  have HR : Hid (R = decide (xs = ys)) := hR
  have HL : Hid (L = xs.length) := hL
  have HM : Hid (M = ys.length) := hM
  have hLl : L < 2^41 := by have := ha.len; omega
  have hMl : M < 2^41 := by have := hb.len; omega
  clear hR hL hM
  by_cases hLM : L = M
  · subst hLM
    have hne : ((L : Int) != L) = false := by simp
    by_cases h0 : 0 < L
    · obtain ⟨ba, oa, rfl, hca⟩ := ha.lies (by rw [← HL.out]; exact h0)
      obtain ⟨bb, ob, rfl, hcb⟩ := hb.lies (by rw [← HM.out]; exact h0)
      rw [← HL.out] at hca
      rw [← HM.out] at hcb
      go_enter Tryz.func13, Tryz.ntmps13
      go_wp2_with fail
      go_loopw [5] (fun ii wr => ∃ (i q : Nat), ii = .int .i64 i ∧ i ≤ L ∧ Hid (∀ j, j < i → xs.getD j 0 = ys.getD j 0) ∧ wr = w.drewN q) (fun ii _ => L - (RowKit.intOf ii).toNat)
      case atStart => exact ⟨0, 0, rfl, Nat.zero_le _, fun j hj => by omega, rfl⟩
      case round =>
        obtain ⟨i, q, rfl, hiL, HE, rfl⟩ := hrel
        by_cases hi : i < L
        · have hx := hca i hi
          have hy := hcb i hi
          obtain ⟨x, hxx⟩ : ∃ x, x = xs.getD i 0 := ⟨_, rfl⟩
          obtain ⟨y, hyy⟩ : ∃ y, y = ys.getD i 0 := ⟨_, rfl⟩
          rw [← hxx] at hx
          rw [← hyy] at hy
          have HX : Hid (x = xs.getD i 0) := hxx
          have HY : Hid (y = ys.getD i 0) := hyy
          clear hxx hyy hca hcb
          by_cases hxy : x = y
          · subst hxy
            have hb1 : ((x : Int) != x) = false := by simp
            have HE2 : Hid (∀ j, j < i + 1 → xs.getD j 0 = ys.getD j 0) := by
              intro j hj
              by_cases hji : j = i
              · subst hji; exact HX.out.symm.trans HY.out
              · exact HE.out j (by omega)
            go_wp2_with fail
            go_quiet (fail)
            go_wp2
            go_roundw
            case rel => exact ⟨i + 1, _, by simp, by omega, HE2, rfl⟩
            case measure => simp [RowKit.intOf]; omega
          · have hb1 : ((x : Int) != y) = true := by rw [bne_iff_ne]; omega
            have HR' : Hid (R = false) := by
              show R = false
              rw [HR.out, decide_eq_false_iff_not]
              intro h
              exact hxy (by rw [HX.out, HY.out, h])
            clear hxy
            go_wp2_with fail
            go_quiet (fail)
            go_wp2
            go_ret
            rw [HR'.out]
            exact ⟨rfl, q + nq, by simp⟩
        · have HR' : Hid (R = true) := by
            show R = true
            rw [HR.out, decide_eq_true_eq]
            exact same_upto xs ys (HL.out.symm.trans HM.out) (fun j hj => HE.out j (by rw [← HL.out] at hj; omega))
          go_wp2
          go_ret
          rw [HR'.out]
          exact ⟨rfl, _, rfl⟩
    · obtain rfl : L = 0 := by omega
      have HR' : Hid (R = true) := by
        show R = true
        rw [HR.out, decide_eq_true_eq, List.eq_nil_of_length_eq_zero HL.out.symm, List.eq_nil_of_length_eq_zero HM.out.symm]
      go_enter Tryz.func13, Tryz.ntmps13
      go_wp2_with fail
      refine wp_loop_rounds 1 ?_
      rw [rounds_succ]
      go_wp2
      go_ret
      rw [HR'.out]
      exact ⟨rfl, 0, rfl⟩
  · have hne : ((L : Int) != M) = true := by rw [bne_iff_ne]; omega
    have HR' : Hid (R = false) := by
      show R = false
      rw [HR.out, decide_eq_false_iff_not]
      intro h
      exact hLM (by rw [HL.out, HM.out, h])
    clear hLM
    go_enter Tryz.func13, Tryz.ntmps13
    go_wp2
    go_ret
    rw [HR'.out]
    exact ⟨rfl, 0, rfl⟩
theorem same_no (a b : Option Addr) (L M ca cb : Nat) (xs ys : List Nat) (w : World) (ha : Rs w a xs) (hb : Rs w b ys) (hL : L = xs.length) (hM : M = ys.length) (hne : xs ≠ ys) :
    Calls Tryz.prog 13 #[.slice a L ca, .slice b M cb] w fun e w' => e = .returned (.bool false) ∧ ∃ q, w' = w.drewN q := by
  refine (same_any a b L M ca cb xs ys w ha hb hL hM).mono ?_
  rintro e w' ⟨rfl, R⟩
  exact ⟨by simp [hne], R⟩
theorem same_yes (a b : Option Addr) (L M ca cb : Nat) (xs ys : List Nat) (w : World) (ha : Rs w a xs) (hb : Rs w b ys) (hL : L = xs.length) (hM : M = ys.length) (heq : xs = ys) :
    Calls Tryz.prog 13 #[.slice a L ca, .slice b M cb] w fun e w' => e = .returned (.bool true) ∧ ∃ q, w' = w.drewN q := by
  refine (same_any a b L M ca cb xs ys w ha hb hL hM).mono ?_
  rintro e w' ⟨rfl, R⟩
  exact ⟨by simp [heq], R⟩
end Go.Proofs.YtldghdbfhikcoaaGreatDoor
