/- Texts of this claim laid together, one behind the other: contracts and plain lemmas; conditions as each names them. -/
import Derived.Test.YtdojhkgnnbdfkaaGreatGp4
import Derived.Laws.BytesString
/- What the reader's gate does with each of the four closures it is handed: contracts of take. Conditions: the closure's own contract. -/
namespace Go.Proofs.YtdojhkgnnbdfkaaGreat
open Go.ChangeShapes Go.WideShapes Go.ChangeAt Go.RowKit Go.Lib

/-- The call answers v and leaves the world as it was but for draws. -/
def Ans (f : Nat) (args : Array Value) (w : World) (v : Value) : Prop := Calls Tryz.prog f args w fun e w' => e = .returned v ∧ ∃ q, w' = w.drewN q
theorem Ans.calls {f : Nat} {args : Array Value} {w : World} {v : Value} (h : Ans f args w v) : Calls Tryz.prog f args w fun e w' => e = .returned v ∧ ∃ q, w' = w.drewN q := h


set_option maxHeartbeats 1000000 in
set_option maxRecDepth 100000 in
theorem takeU_gone (fv : Value) (g r : Nat) (xs : List Nat) (er : Nat) (ao : Option Addr) (cap : Nat) (w : World) (h : Rd w g r xs er ao cap) (he : er ≠ 0) :
    Calls Tryz.prog 125 #[.pointer (some ⟨g, 0, none⟩), fv] w fun e w' => e = .returned (.int .u64 0) ∧ w = w' := by
  have heb : ((er : Int) != 0) = true := by rw [bne_iff_ne]; omega
  have c2 := h.c2
  clear he
  go_enter Tryz.func125, Tryz.ntmps125
  go_wp2_with fail
  refine (rThere_any g _ h.c0).mono ?_
  rintro e w' ⟨rfl, rfl⟩
  go_wp2
  go_ret
  exact ⟨rfl, rfl⟩

set_option maxHeartbeats 1000000 in
set_option maxRecDepth 100000 in
theorem takeS_gone (fv : Value) (g r : Nat) (xs : List Nat) (er : Nat) (ao : Option Addr) (cap : Nat) (w : World) (h : Rd w g r xs er ao cap) (he : er ≠ 0) :
    Calls Tryz.prog 133 #[.pointer (some ⟨g, 0, none⟩), fv] w fun e w' => e = .returned (.string ⟨#[]⟩) ∧ w = w' := by
  have heb : ((er : Int) != 0) = true := by rw [bne_iff_ne]; omega
  have c2 := h.c2
  clear he
  go_enter Tryz.func133, Tryz.ntmps133
  go_wp2_with fail
  refine (rThere_any g _ h.c0).mono ?_
  rintro e w' ⟨rfl, rfl⟩
  go_wp2
  go_ret
  exact ⟨rfl, rfl⟩

set_option maxHeartbeats 1000000 in
set_option maxRecDepth 100000 in
theorem takeVar_wrong (t : Int) (k : Int) (c : Nat) (g r : Nat) (xs : List Nat) (ao : Option Addr) (cap : Nat) (w : World) (h : Rd w g r xs 0 ao cap) (hc : c ≠ 0)
    (hcl : Ans 126 #[.slice ao xs.length cap] w (.tuple #[.int .u64 t, .int .i64 k, .int .i64 c])) :
    Calls Tryz.prog 125 #[.pointer (some ⟨g, 0, none⟩), .func (Fn.func 126) #[] #[]] w fun e w' => e = .returned (.int .u64 0) ∧ ∃ q, w' = (w.setCell ⟨g, 2, none⟩ (.int .i64 c)).drewN q := by
  have hcb : ((c : Int) != 0) = true := by rw [bne_iff_ne]; omega
  have c1 := h.c1
  have c2 := h.c2
  have f2 := h.f2
  clear hc
  go_enter Tryz.func125, Tryz.ntmps125
  go_wp2_with fail
  refine (rThere_any g _ h.c0).mono ?_
  rintro e w' ⟨rfl, rfl⟩
  go_wp2_with fail
  refine hcl.calls.mono ?_
  rintro e w' ⟨rfl, q, rfl⟩
  go_wp2
  go_ret
  exact ⟨rfl, _, rfl⟩
set_option maxHeartbeats 4000000 in
set_option maxRecDepth 100000 in
theorem takeVar_good (t : Int) (k off : Nat) (g r : Nat) (xs : List Nat) (cap : Nat) (w : World) (h : Rd w g r xs 0 (some ⟨r, off, none⟩) cap) (hk : k ≤ xs.length)
    (hcl : Ans 126 #[.slice (some ⟨r, off, none⟩) xs.length cap] w (.tuple #[.int .u64 t, .int .i64 k, .int .i64 0])) :
    Calls Tryz.prog 125 #[.pointer (some ⟨g, 0, none⟩), .func (Fn.func 126) #[] #[]] w fun e w' => e = .returned (.int .u64 t) ∧ ∃ q, w' = (w.setCell ⟨g, 1, none⟩ (.slice (if xs.length = k then some ⟨r, off, none⟩ else some ⟨r, off + k, none⟩) (xs.length - k) (xs.length - k))).drewN q := by
  have c1 := h.c1
  have c2 := h.c2
  have f1 := h.f1
  have hcap := h.cap
  obtain ⟨L, hL⟩ : ∃ L, L = xs.length := ⟨_, rfl⟩
  rw [← hL] at hcl c1 hk hcap ⊢
  clear hL
  go_enter Tryz.func125, Tryz.ntmps125
  go_wp2_with fail
  refine (rThere_any g _ h.c0).mono ?_
  rintro e w' ⟨rfl, rfl⟩
  go_wp2_with fail
  refine hcl.calls.mono ?_
  rintro e w' ⟨rfl, q, rfl⟩
  go_wp2_with fail
  go_region
  go_wp2
  all_goals (go_ret; exact ⟨rfl, _, rfl⟩)

theorem takeVar_rd (f : List Nat → Nat × Nat × Nat) (g r : Nat) (xs : List Nat) (er : Nat) (ao : Option Addr) (cap : Nat) (w : World) (h : Rd w g r xs er ao cap) (hf : (f xs).2.2 = 0 → 0 < xs.length ∧ (f xs).2.1 ≤ xs.length)
    (hcl : er = 0 → Ans 126 #[.slice ao xs.length cap] w (.tuple #[.int .u64 ((f xs).1 : Nat), .int .i64 ((f xs).2.1 : Nat), .int .i64 ((f xs).2.2 : Nat)])) :
    Calls Tryz.prog 125 #[.pointer (some ⟨g, 0, none⟩), .func (Fn.func 126) #[] #[]] w fun e w' => e = .returned (.int .u64 ((rdBy f 0 xs er).1 : Nat)) ∧ ∃ ao' cap', Rd w' g r (rdBy f 0 xs er).2.1 (rdBy f 0 xs er).2.2 ao' cap' ∧ Fr [g] w w' := by
  by_cases he : er = 0
  · subst he
    by_cases hc : (f xs).2.2 = 0
    · have hs := hf hc
      have hA := hcl rfl
      obtain ⟨off, rfl, _⟩ := h.sl.lies hs.1
      have e1 : rdBy f 0 xs 0 = ((f xs).1, xs.drop (f xs).2.1, 0) := by simp [rdBy, hc]
      rw [e1]
      rw [hc] at hA
      refine (takeVar_good _ _ off g r xs cap w h hs.2 hA).mono ?_
      rintro e w' ⟨rfl, q, rfl⟩
      obtain ⟨h1, h2⟩ := h.went hs.1 (f xs).2.1 q hs.2
      exact ⟨rfl, _, _, h1, h2⟩
    · have e1 : rdBy f 0 xs 0 = (0, xs, (f xs).2.2) := by simp [rdBy, hc]
      rw [e1]
      refine (takeVar_wrong _ _ _ g r xs ao cap w h hc (hcl rfl)).mono ?_
      rintro e w' ⟨rfl, q, rfl⟩
      obtain ⟨h1, h2⟩ := h.wrong (f xs).2.2 q
      exact ⟨rfl, _, _, h1, h2⟩
  · have e1 : rdBy f 0 xs er = (0, xs, er) := by simp [rdBy, he]
    rw [e1]
    refine (takeU_gone _ g r xs er ao cap w h he).mono ?_
    rintro e w' ⟨rfl, rfl⟩
    exact ⟨rfl, _, _, h, Fr.refl _ _⟩

set_option maxHeartbeats 1000000 in
set_option maxRecDepth 100000 in
theorem takeFixed_wrong (t : Int) (k : Int) (c : Nat) (g r b : Nat) (xs : List Nat) (ao : Option Addr) (cap : Nat) (w : World) (h : Rd w g r xs 0 ao cap) (hc : c ≠ 0)
    (hcl : Ans 135 #[.slice ao xs.length cap, .pointer (some ⟨b, 0, none⟩)] w (.tuple #[.int .u64 t, .int .i64 k, .int .i64 c])) :
    Calls Tryz.prog 125 #[.pointer (some ⟨g, 0, none⟩), .func (Fn.func 135) #[] #[.pointer (some ⟨b, 0, none⟩)]] w fun e w' => e = .returned (.int .u64 0) ∧ ∃ q, w' = (w.setCell ⟨g, 2, none⟩ (.int .i64 c)).drewN q := by
  have hcb : ((c : Int) != 0) = true := by rw [bne_iff_ne]; omega
  have c1 := h.c1
  have c2 := h.c2
  have f2 := h.f2
  clear hc
  go_enter Tryz.func125, Tryz.ntmps125
  go_wp2_with fail
  refine (rThere_any g _ h.c0).mono ?_
  rintro e w' ⟨rfl, rfl⟩
  go_wp2_with fail
  refine hcl.calls.mono ?_
  rintro e w' ⟨rfl, q, rfl⟩
  go_wp2
  go_ret
  exact ⟨rfl, _, rfl⟩
set_option maxHeartbeats 4000000 in
set_option maxRecDepth 100000 in
theorem takeFixed_good (t : Int) (k off : Nat) (g r b : Nat) (xs : List Nat) (cap : Nat) (w : World) (h : Rd w g r xs 0 (some ⟨r, off, none⟩) cap) (hk : k ≤ xs.length)
    (hcl : Ans 135 #[.slice (some ⟨r, off, none⟩) xs.length cap, .pointer (some ⟨b, 0, none⟩)] w (.tuple #[.int .u64 t, .int .i64 k, .int .i64 0])) :
    Calls Tryz.prog 125 #[.pointer (some ⟨g, 0, none⟩), .func (Fn.func 135) #[] #[.pointer (some ⟨b, 0, none⟩)]] w fun e w' => e = .returned (.int .u64 t) ∧ ∃ q, w' = (w.setCell ⟨g, 1, none⟩ (.slice (if xs.length = k then some ⟨r, off, none⟩ else some ⟨r, off + k, none⟩) (xs.length - k) (xs.length - k))).drewN q := by
  have c1 := h.c1
  have c2 := h.c2
  have f1 := h.f1
  have hcap := h.cap
  obtain ⟨L, hL⟩ : ∃ L, L = xs.length := ⟨_, rfl⟩
  rw [← hL] at hcl c1 hk hcap ⊢
  clear hL
  go_enter Tryz.func125, Tryz.ntmps125
  go_wp2_with fail
  refine (rThere_any g _ h.c0).mono ?_
  rintro e w' ⟨rfl, rfl⟩
  go_wp2_with fail
  refine hcl.calls.mono ?_
  rintro e w' ⟨rfl, q, rfl⟩
  go_wp2_with fail
  go_region
  go_wp2
  all_goals (go_ret; exact ⟨rfl, _, rfl⟩)

theorem takeFixed_rd (f : List Nat → Nat × Nat × Nat) (g r b : Nat) (xs : List Nat) (er : Nat) (ao : Option Addr) (cap : Nat) (w : World) (h : Rd w g r xs er ao cap) (hf : (f xs).2.2 = 0 → 0 < xs.length ∧ (f xs).2.1 ≤ xs.length)
    (hcl : er = 0 → Ans 135 #[.slice ao xs.length cap, .pointer (some ⟨b, 0, none⟩)] w (.tuple #[.int .u64 ((f xs).1 : Nat), .int .i64 ((f xs).2.1 : Nat), .int .i64 ((f xs).2.2 : Nat)])) :
    Calls Tryz.prog 125 #[.pointer (some ⟨g, 0, none⟩), .func (Fn.func 135) #[] #[.pointer (some ⟨b, 0, none⟩)]] w fun e w' => e = .returned (.int .u64 ((rdBy f 0 xs er).1 : Nat)) ∧ ∃ ao' cap', Rd w' g r (rdBy f 0 xs er).2.1 (rdBy f 0 xs er).2.2 ao' cap' ∧ Fr [g] w w' := by
  by_cases he : er = 0
  · subst he
    by_cases hc : (f xs).2.2 = 0
    · have hs := hf hc
      have hA := hcl rfl
      obtain ⟨off, rfl, _⟩ := h.sl.lies hs.1
      have e1 : rdBy f 0 xs 0 = ((f xs).1, xs.drop (f xs).2.1, 0) := by simp [rdBy, hc]
      rw [e1]
      rw [hc] at hA
      refine (takeFixed_good _ _ off g r b xs cap w h hs.2 hA).mono ?_
      rintro e w' ⟨rfl, q, rfl⟩
      obtain ⟨h1, h2⟩ := h.went hs.1 (f xs).2.1 q hs.2
      exact ⟨rfl, _, _, h1, h2⟩
    · have e1 : rdBy f 0 xs 0 = (0, xs, (f xs).2.2) := by simp [rdBy, hc]
      rw [e1]
      refine (takeFixed_wrong _ _ _ g r b xs ao cap w h hc (hcl rfl)).mono ?_
      rintro e w' ⟨rfl, q, rfl⟩
      obtain ⟨h1, h2⟩ := h.wrong (f xs).2.2 q
      exact ⟨rfl, _, _, h1, h2⟩
  · have e1 : rdBy f 0 xs er = (0, xs, er) := by simp [rdBy, he]
    rw [e1]
    refine (takeU_gone _ g r xs er ao cap w h he).mono ?_
    rintro e w' ⟨rfl, rfl⟩
    exact ⟨rfl, _, _, h, Fr.refl _ _⟩

set_option maxHeartbeats 1000000 in
set_option maxRecDepth 100000 in
theorem takeText_wrong (t : ByteArray) (k : Int) (c : Nat) (g r b : Nat) (xs : List Nat) (ao : Option Addr) (cap : Nat) (w : World) (h : Rd w g r xs 0 ao cap) (hc : c ≠ 0)
    (hcl : Ans 134 #[.slice ao xs.length cap, .pointer (some ⟨b, 0, none⟩)] w (.tuple #[.string t, .int .i64 k, .int .i64 c])) :
    Calls Tryz.prog 133 #[.pointer (some ⟨g, 0, none⟩), .func (Fn.func 134) #[] #[.pointer (some ⟨b, 0, none⟩)]] w fun e w' => e = .returned (.string ⟨#[]⟩) ∧ ∃ q, w' = (w.setCell ⟨g, 2, none⟩ (.int .i64 c)).drewN q := by
  have hcb : ((c : Int) != 0) = true := by rw [bne_iff_ne]; omega
  have c1 := h.c1
  have c2 := h.c2
  have f2 := h.f2
  clear hc
  go_enter Tryz.func133, Tryz.ntmps133
  go_wp2_with fail
  refine (rThere_any g _ h.c0).mono ?_
  rintro e w' ⟨rfl, rfl⟩
  go_wp2_with fail
  refine hcl.calls.mono ?_
  rintro e w' ⟨rfl, q, rfl⟩
  go_wp2
  go_ret
  exact ⟨rfl, _, rfl⟩
set_option maxHeartbeats 4000000 in
set_option maxRecDepth 100000 in
theorem takeText_good (t : ByteArray) (k off : Nat) (g r b : Nat) (xs : List Nat) (cap : Nat) (w : World) (h : Rd w g r xs 0 (some ⟨r, off, none⟩) cap) (hk : k ≤ xs.length)
    (hcl : Ans 134 #[.slice (some ⟨r, off, none⟩) xs.length cap, .pointer (some ⟨b, 0, none⟩)] w (.tuple #[.string t, .int .i64 k, .int .i64 0])) :
    Calls Tryz.prog 133 #[.pointer (some ⟨g, 0, none⟩), .func (Fn.func 134) #[] #[.pointer (some ⟨b, 0, none⟩)]] w fun e w' => e = .returned (.string t) ∧ ∃ q, w' = (w.setCell ⟨g, 1, none⟩ (.slice (if xs.length = k then some ⟨r, off, none⟩ else some ⟨r, off + k, none⟩) (xs.length - k) (xs.length - k))).drewN q := by
  have c1 := h.c1
  have c2 := h.c2
  have f1 := h.f1
  have hcap := h.cap
  obtain ⟨L, hL⟩ : ∃ L, L = xs.length := ⟨_, rfl⟩
  rw [← hL] at hcl c1 hk hcap ⊢
  clear hL
  go_enter Tryz.func133, Tryz.ntmps133
  go_wp2_with fail
  refine (rThere_any g _ h.c0).mono ?_
  rintro e w' ⟨rfl, rfl⟩
  go_wp2_with fail
  refine hcl.calls.mono ?_
  rintro e w' ⟨rfl, q, rfl⟩
  go_wp2_with fail
  go_region
  go_wp2
  all_goals (go_ret; exact ⟨rfl, _, rfl⟩)

theorem takeText_rd (f : List Nat → ByteArray × Nat × Nat) (g r b : Nat) (xs : List Nat) (er : Nat) (ao : Option Addr) (cap : Nat) (w : World) (h : Rd w g r xs er ao cap) (hf : (f xs).2.2 = 0 → 0 < xs.length ∧ (f xs).2.1 ≤ xs.length)
    (hcl : er = 0 → Ans 134 #[.slice ao xs.length cap, .pointer (some ⟨b, 0, none⟩)] w (.tuple #[.string (f xs).1, .int .i64 ((f xs).2.1 : Nat), .int .i64 ((f xs).2.2 : Nat)])) :
    Calls Tryz.prog 133 #[.pointer (some ⟨g, 0, none⟩), .func (Fn.func 134) #[] #[.pointer (some ⟨b, 0, none⟩)]] w fun e w' => e = .returned (.string (rdBy f ⟨#[]⟩ xs er).1) ∧ ∃ ao' cap', Rd w' g r (rdBy f ⟨#[]⟩ xs er).2.1 (rdBy f ⟨#[]⟩ xs er).2.2 ao' cap' ∧ Fr [g] w w' := by
  by_cases he : er = 0
  · subst he
    by_cases hc : (f xs).2.2 = 0
    · have hs := hf hc
      have hA := hcl rfl
      obtain ⟨off, rfl, _⟩ := h.sl.lies hs.1
      have e1 : rdBy f ⟨#[]⟩ xs 0 = ((f xs).1, xs.drop (f xs).2.1, 0) := by simp [rdBy, hc]
      rw [e1]
      rw [hc] at hA
      refine (takeText_good _ _ off g r b xs cap w h hs.2 hA).mono ?_
      rintro e w' ⟨rfl, q, rfl⟩
      obtain ⟨h1, h2⟩ := h.went hs.1 (f xs).2.1 q hs.2
      exact ⟨rfl, _, _, h1, h2⟩
    · have e1 : rdBy f ⟨#[]⟩ xs 0 = (⟨#[]⟩, xs, (f xs).2.2) := by simp [rdBy, hc]
      rw [e1]
      refine (takeText_wrong _ _ _ g r b xs ao cap w h hc (hcl rfl)).mono ?_
      rintro e w' ⟨rfl, q, rfl⟩
      obtain ⟨h1, h2⟩ := h.wrong (f xs).2.2 q
      exact ⟨rfl, _, _, h1, h2⟩
  · have e1 : rdBy f ⟨#[]⟩ xs er = (⟨#[]⟩, xs, er) := by simp [rdBy, he]
    rw [e1]
    refine (takeS_gone _ g r xs er ao cap w h he).mono ?_
    rintro e w' ⟨rfl, rfl⟩
    exact ⟨rfl, _, _, h, Fr.refl _ _⟩
end Go.Proofs.YtdojhkgnnbdfkaaGreat
/- What the statements' own helpers on bytes answer: SameBytes. Conditions: fewer than 2^41 bytes. -/
namespace Go.Proofs.YtdojhkgnnbdfkaaGreat
open Go.ChangeShapes Go.WideShapes Go.ChangeAt Go.RowKit Go.Lib

/-- The slice at ao reads as the bytes xs. -/
structure Rs (w : World) (ao : Option Addr) (xs : List Nat) : Prop where
  lies : 0 < xs.length → ∃ b off, ao = some ⟨b, off, none⟩ ∧ ∀ j, j < xs.length → w.cell? ⟨b, off + j, none⟩ = some (.int .u8 ((xs.getD j 0 : Nat) : Int))
  len : xs.length < 2^41
theorem Sl.rs {w : World} {r : Nat} {ao : Option Addr} {xs : List Nat} (h : Sl w r ao xs) : Rs w ao xs := ⟨fun h0 => ⟨r, h.lies h0⟩, h.len⟩
theorem Rs.of_row {w : World} {b : Nat} {xs : List Nat} (h : w.heap[b]? = some (.cells (bts xs).toArray 5 (0, 0))) (hl : xs.length < 2^41) : Rs w (some ⟨b, 0, none⟩) xs :=
  ⟨fun _ => ⟨b, 0, rfl, fun j hj => by rw [cell_of_row _ _ _ _ _ _ h, Nat.zero_add]; simpa using bts_get xs j hj⟩, hl⟩
theorem Rs.nil (w : World) (ao : Option Addr) : Rs w ao [] := ⟨fun h => by simp at h, by simp⟩
theorem Rs.take {w : World} {ao : Option Addr} {xs : List Nat} (h : Rs w ao xs) (k : Nat) : Rs w ao (xs.take k) := by
  refine ⟨fun h0 => ?_, by have := h.len; rw [List.length_take]; omega⟩
  rw [List.length_take] at h0
  obtain ⟨b, off, e, hc⟩ := h.lies (by omega)
  refine ⟨b, off, e, fun j hj => ?_⟩
  rw [List.length_take] at hj
  rw [hc j (by omega)]
  simp [List.getD, show j < k by omega]
theorem Rs.drewN {w : World} {ao : Option Addr} {xs : List Nat} (h : Rs w ao xs) (q : Nat) : Rs (w.drewN q) ao xs := ⟨h.lies, h.len⟩
theorem Rs.keep {S : List Nat} {w w' : World} {b off : Nat} {xs : List Nat} (h : Rs w (some ⟨b, off, none⟩) xs) (hf : Fr S w w') (hb : b ∉ S) : Rs w' (some ⟨b, off, none⟩) xs := by
  refine ⟨fun h0 => ?_, h.len⟩
  obtain ⟨b', off', e, hc⟩ := h.lies h0
  cases e
  refine ⟨b, off, rfl, fun j hj => ?_⟩
  have hlt := World.block_lt_of_cell? w _ (hc j hj)
  exact (World.cell?_of_block (hf.block b hlt hb)).trans (hc j hj)

theorem row_src {w : World} {b : Nat} {xs : List Nat} (h : w.heap[b]? = some (.cells (bts xs).toArray 5 (0, 0))) : ∀ j u, (bts xs)[j]? = some u → w.cell? ((⟨b, 0, none⟩ : Addr).add j) = some u := by
  intro j u hj
  rw [show (⟨b, 0, none⟩ : Addr).add j = ⟨b, 0 + j, none⟩ from by simp [Addr.add]; omega, cell_of_row _ _ _ _ _ _ h, Nat.zero_add]
  simpa using hj
theorem same_upto (xs ys : List Nat) (hl : xs.length = ys.length) (h : ∀ j, j < xs.length → xs.getD j 0 = ys.getD j 0) : xs = ys := by
  apply List.ext_getElem hl
  intro i h1 h2
  have := h i h1
  simpa [List.getD, h1, h2] using this
end Go.Proofs.YtdojhkgnnbdfkaaGreat
/- What the codec's reader takes: contracts of Var, Int, Fixed, Text. Conditions: the reader's bytes are fewer than 2^41. -/
namespace Go.Proofs.YtdojhkgnnbdfkaaGreat
open Go.ChangeShapes Go.WideShapes Go.ChangeAt Go.RowKit Go.Lib

set_option maxHeartbeats 1000000 in
theorem rVar_any (g r : Nat) (xs : List Nat) (er : Nat) (ao : Option Addr) (cap : Nat) (w : World) (h : Rd w g r xs er ao cap) :
    Calls Tryz.prog 118 #[.pointer (some ⟨g, 0, none⟩)] w fun e w' => e = .returned (.int .u64 ((rdBy (shortF 0 0) 0 xs er).1 : Nat)) ∧ ∃ ao' cap', Rd w' g r (rdBy (shortF 0 0) 0 xs er).2.1 (rdBy (shortF 0 0) 0 xs er).2.2 ao' cap' ∧ Fr [g] w w' := by
  have hA : Ans 126 #[.slice ao xs.length cap] w (.tuple #[.int .u64 ((shortF 0 0 xs).1 : Nat), .int .i64 ((shortF 0 0 xs).2.1 : Nat), .int .i64 ((shortF 0 0 xs).2.2 : Nat)]) := by
    refine (cVar_any r ao _ cap xs w h.sl rfl).mono ?_
    rintro e w' ⟨rfl, rfl⟩
    exact ⟨rfl, 0, rfl⟩
  obtain ⟨f, hf⟩ : ∃ f, f = shortF 0 0 := ⟨_, rfl⟩
  rw [← hf] at hA ⊢
  have hsz : (f xs).2.2 = 0 → 0 < xs.length ∧ (f xs).2.1 ≤ xs.length := by
    intro h0
    rw [hf] at h0 ⊢
    have := shortF_size xs 0 0 h0
    omega
  clear hf
  go_enter Tryz.func118, Tryz.ntmps118
  go_wp2_with fail
  refine (takeVar_rd f g r xs er ao cap w h hsz (fun _ => hA)).mono ?_
  rintro e w' ⟨rfl, R⟩
  go_wp2
  go_ret
  exact ⟨rfl, R⟩

theorem intF_size (xs : List Nat) (h : (intF xs).2.2 = 0) : 0 < xs.length ∧ (intF xs).2.1 ≤ xs.length := by
  have := shortF_size xs 0 0 h
  simp only [intF]
  omega
theorem Tryz.undB : Tryz.prog.underlying 5 = some (.int .u8) := by kernel_rfl
theorem conv_eq (w : World) (r off n c : Nat) (ys : List Nat) (hn : ys.length = n) (hc : ∀ j, j < n → w.cell? ⟨r, off + j, none⟩ = some (.int .u8 ((ys.getD j 0 : Nat) : Int))) :
    Sem.run Tryz.prog (convert 76 9 (.slice (some ⟨r, off, none⟩) n c)) w = .ok (.string (toBA ys)) w := by
  rw [run_convert_bytes_string w 76 9 5 _ _ _ Tryz.undBs Tryz.undB Tryz.undStr]
  have hl := run_loadCells_list (P := Tryz.prog) w ⟨r, off, none⟩ (bts ys) (by
    intro j u hj
    have hj' : j < ys.length := by have := (List.getElem?_eq_some_iff.1 hj).1; rwa [bts_length] at this
    rw [bts_get ys j hj'] at hj
    rw [show (⟨r, off, none⟩ : Addr).add j = ⟨r, off + j, none⟩ from by simp [Addr.add], hc j (by omega)]
    exact hj)
  rw [bts_length, hn] at hl
  have e : bts ys = (ys.map (fun (x : Nat) => (x : Int))).map (Value.int .u8) := by simp [bts]
  rw [e] at hl
  rw [run_bytesToString w ⟨r, off, none⟩ n c _ hl, toBA_fold]

set_option maxHeartbeats 4000000 in
set_option maxRecDepth 100000 in
theorem cText_any (r b : Nat) (ao : Option Addr) (L cap : Nat) (xs : List Nat) (most : Int) (w : World) (h : Sl w r ao xs) (hL : L = xs.length) (hcap : L ≤ cap) (hm0 : -9223372036854775808 ≤ most) (hm1 : most ≤ 9223372036854775807) (hb : w.cell? ⟨b, 0, none⟩ = some (.int .i64 most)) :
    Ans 134 #[.slice ao L cap, .pointer (some ⟨b, 0, none⟩)] w (.tuple #[.string (textF most xs).1, .int .i64 ((textF most xs).2.1 : Nat), .int .i64 ((textF most xs).2.2 : Nat)]) := by
  have HL : Hid (L = xs.length) := hL
  have hv := shortF_val xs 0 0 (by omega) (by omega) h.low
  have hLl := h.len
  rw [← hL] at hLl
  have hsz := shortF_size xs 0 0
  show Calls _ _ _ _ _
  have hS := short_sl r ao L cap xs w h hL
  obtain ⟨S, hSS⟩ : ∃ S, S = shortF 0 0 xs := ⟨_, rfl⟩
  obtain ⟨T, hTT⟩ : ∃ T, T = textF most xs := ⟨_, rfl⟩
  have hT2 := hTT
  unfold textF at hT2
  rw [← hSS] at hS hv hT2 hsz
  rw [← hTT]
  have HT : Hid (T = _) := hT2
  have HS : Ans 127 #[.slice ao L cap] w (.tuple #[.int .u64 (S.1 : Nat), .int .i64 (S.2.1 : Nat), .int .i64 (S.2.2 : Nat)]) := by
    refine hS.mono ?_
    rintro e w' ⟨rfl, rfl⟩
    exact ⟨rfl, 0, rfl⟩
  clear hS hSS hL hTT hT2
  obtain ⟨s1, s2, s3⟩ := S
  simp only at hv HT HS hsz
  by_cases hmost : most < 0
  · have HR : Hid (T = (⟨#[]⟩, 0, 1)) := by have := HT.out; rw [if_pos hmost] at this; exact this
    clear HT
    go_enter Tryz.func134, Tryz.ntmps134
    go_wp2
    go_ret3
    rw [HR.out]
    exact ⟨rfl, 0, rfl⟩
  · have hmost' : 0 ≤ most := by omega
    by_cases hs3 : s3 = 0
    · subst hs3
      have hsz' := hsz rfl
      rw [← HL.out] at hsz'
      by_cases hlim : most < (s1 : Int)
      · have HR : Hid (T = (⟨#[]⟩, 0, 3)) := by have := HT.out; rw [if_neg hmost, if_neg (by simp), if_pos hlim] at this; exact this
        clear HT hmost
        go_enter Tryz.func134, Tryz.ntmps134
        go_wp2_with fail
        refine HS.calls.mono ?_
        rintro e w' ⟨rfl, q, rfl⟩
        go_wp2
        go_ret3
        rw [HR.out]
        exact ⟨rfl, _, rfl⟩
      · by_cases hsh : L - s2 < s1
        · have HR : Hid (T = (⟨#[]⟩, 0, 5)) := by have := HT.out; rw [if_neg hmost, if_neg (by simp), if_neg hlim, if_pos (by rw [← HL.out]; exact hsh)] at this; exact this
          have hlim' : (s1 : Int) ≤ most := by omega
          have hsh' : (L : Int) - s2 < s1 := by omega
          clear HT hmost hlim
          go_enter Tryz.func134, Tryz.ntmps134
          go_wp2_with fail
          refine HS.calls.mono ?_
          rintro e w' ⟨rfl, q, rfl⟩
          go_wp2
          go_ret3
          rw [HR.out]
          exact ⟨rfl, _, rfl⟩
        · have HR : Hid (T = (toBA ((xs.drop s2).take s1), s2 + s1, 0)) := by have := HT.out; rw [if_neg hmost, if_neg (by simp), if_neg hlim, if_neg (by rw [← HL.out]; exact hsh)] at this; exact this
          have hlim' : (s1 : Int) ≤ most := by omega
          have hsh' : (s1 : Int) ≤ (L : Int) - s2 := by omega
          have hs12 : (s2 : Int) + s1 ≤ L := by omega
          obtain ⟨off, rfl, hc⟩ := h.lies (by rw [← HL.out]; omega)
          clear HT hmost hlim
          by_cases hcs : cap = s2
          · subst hcs
            obtain rfl : s1 = 0 := by omega
            have heq : ∀ q, Sem.run Tryz.prog (convert 76 9 (.slice (some ⟨r, off, none⟩) 0 0)) (w.drewN q) = .ok (.string (toBA [])) (w.drewN q) := fun q => conv_eq (w.drewN q) r off 0 0 [] rfl (by omega)
            rw [List.take_zero] at HR
            obtain ⟨tb, htb⟩ : ∃ tb, tb = toBA [] := ⟨_, rfl⟩
            rw [← htb] at heq HR
            clear htb
            go_enter Tryz.func134, Tryz.ntmps134
            go_wp2_with fail
            refine HS.calls.mono ?_
            rintro e w' ⟨rfl, q, rfl⟩
            go_wp2
            go_ret3
            rw [HR.out]
            exact ⟨rfl, _, rfl⟩
          · have heq : ∀ q, Sem.run Tryz.prog (convert 76 9 (.slice (some ⟨r, off + s2, none⟩) s1 (cap - s2))) (w.drewN q) = .ok (.string (toBA ((xs.drop s2).take s1))) (w.drewN q) := fun q => conv_eq (w.drewN q) r (off + s2) s1 _ _ (by rw [List.length_take, List.length_drop, ← HL.out]; omega) (by
              intro j hj
              have := hc (s2 + j) (by rw [← HL.out]; omega)
              rw [Nat.add_assoc]
              refine this.trans ?_
              simp [List.getD, hj, List.getElem?_drop])
            obtain ⟨tb, htb⟩ : ∃ tb, tb = toBA ((xs.drop s2).take s1) := ⟨_, rfl⟩
            rw [← htb] at heq HR
            clear htb hc
            go_enter Tryz.func134, Tryz.ntmps134
            go_wp2_with fail
            refine HS.calls.mono ?_
            rintro e w' ⟨rfl, q, rfl⟩
            go_wp2
            go_ret3
            rw [HR.out]
            exact ⟨rfl, _, rfl⟩
    · have hs3b : ((s3 : Int) != 0) = true := by rw [bne_iff_ne]; omega
      have HR : Hid (T = (⟨#[]⟩, 0, s3)) := by have := HT.out; rw [if_neg hmost, if_pos hs3] at this; exact this
      clear HT hs3 hmost
      go_enter Tryz.func134, Tryz.ntmps134
      go_wp2_with fail
      refine HS.calls.mono ?_
      rintro e w' ⟨rfl, q, rfl⟩
      go_wp2
      go_ret3
      rw [HR.out]
      exact ⟨rfl, _, rfl⟩
theorem textF_size (most : Int) (xs : List Nat) (h : (textF most xs).2.2 = 0) : 0 < xs.length ∧ (textF most xs).2.1 ≤ xs.length := by
  unfold textF at h ⊢
  split at h
  · simp at h
  · rename_i h1
    rw [if_neg h1]
    split at h
    · rename_i h2; exact absurd h h2
    · rename_i h2
      rw [if_neg h2]
      split at h
      · simp at h
      · rename_i h3
        rw [if_neg h3]
        split at h
        · simp at h
        · rename_i h4
          rw [if_neg h4]
          have := shortF_size xs 0 0 (by simpa using h2)
          simp only
          omega
set_option maxHeartbeats 1000000 in
theorem rText_any (g r : Nat) (xs : List Nat) (er : Nat) (ao : Option Addr) (cap : Nat) (most : Int) (w : World) (h : Rd w g r xs er ao cap) (hm0 : -9223372036854775808 ≤ most) (hm1 : most ≤ 9223372036854775807) :
    Calls Tryz.prog 130 #[.pointer (some ⟨g, 0, none⟩), .int .i64 most] w fun e w' => e = .returned (.string (rdBy (textF most) ⟨#[]⟩ xs er).1) ∧ ∃ ao' cap', Rd w' g r (rdBy (textF most) ⟨#[]⟩ xs er).2.1 (rdBy (textF most) ⟨#[]⟩ xs er).2.2 ao' cap' ∧ Fr [g] w w' := by
  have hF := Fr.alloc [] w (.cells #[.int .i64 most] 3)
  have h' := h.keep hF (by simp) (by simp)
  have hb : (w.alloc (.cells #[.int .i64 most] 3)).cell? ⟨w.heap.size, 0, none⟩ = some (.int .i64 most) := cell_of_row _ _ _ _ _ _ (heap_alloc_new w _)
  have hA := cText_any r w.heap.size ao _ cap xs most _ h'.sl rfl h'.cap hm0 hm1 hb
  have hsz := textF_size most xs
  obtain ⟨f, hf⟩ : ∃ f, f = textF most := ⟨_, rfl⟩
  rw [← hf] at hA hsz ⊢
  clear hf hb
  go_enter Tryz.func130, Tryz.ntmps130
  go_wp2_with fail
  refine (takeText_rd f g r _ xs er ao cap _ h' hsz (fun _ => hA)).mono ?_
  rintro e w' ⟨rfl, ao', cap', R1, R2⟩
  go_wp2
  go_ret
  exact ⟨rfl, ao', cap', R1, (Fr.alloc [g] w _).then R2⟩
set_option maxHeartbeats 4000000 in
set_option maxRecDepth 100000 in
theorem cFixed_any (r b : Nat) (ao : Option Addr) (L cap : Nat) (xs : List Nat) (width : Int) (w : World) (h : Sl w r ao xs) (hL : L = xs.length) (hcap : L ≤ cap) (hb : w.cell? ⟨b, 0, none⟩ = some (.int .i64 width)) :
    Ans 135 #[.slice ao L cap, .pointer (some ⟨b, 0, none⟩)] w (.tuple #[.int .u64 ((fixF width xs).1 : Nat), .int .i64 ((fixF width xs).2.1 : Nat), .int .i64 ((fixF width xs).2.2 : Nat)]) := by
  have HL : Hid (L = xs.length) := hL
  have hLl := h.len
  rw [← hL] at hLl
  show Calls _ _ _ _ _
  obtain ⟨T, hTT⟩ : ∃ T, T = fixF width xs := ⟨_, rfl⟩
  rw [← hTT]
  have hT2 := hTT
  unfold fixF at hT2
  rw [← hL] at hT2
  have HT : Hid (T = _) := hT2
  clear hL hTT hT2
  by_cases hw : width < 1 ∨ 8 < width
  · have HR : Hid (T = (0, 0, 1)) := by have := HT.out; rw [if_pos hw] at this; exact this
    clear HT
    go_enter Tryz.func135, Tryz.ntmps135
    go_wp2_with fail
    refine (wide_no width _ hw).mono ?_
    rintro e w' ⟨rfl, rfl⟩
    go_wp2
    go_ret3
    rw [HR.out]
    exact ⟨rfl, 0, rfl⟩
  · have hw1 : 1 ≤ width := by omega
    have hw8 : width ≤ 8 := by omega
    by_cases hs : (L : Int) < width
    · have HR : Hid (T = (0, 0, 5)) := by have := HT.out; rw [if_neg hw, if_pos hs] at this; exact this
      clear HT hw
      go_enter Tryz.func135, Tryz.ntmps135
      go_wp2_with fail
      refine (wide_yes width _ hw1 hw8).mono ?_
      rintro e w' ⟨rfl, rfl⟩
      go_wp2
      go_ret3
      rw [HR.out]
      exact ⟨rfl, 0, rfl⟩
    · obtain ⟨X, rfl⟩ := Int.eq_ofNat_of_zero_le (show 0 ≤ width by omega)
      have HR : Hid (T = (leN (xs.take X), X, 0)) := by have := HT.out; rw [if_neg hw, if_neg hs, Int.toNat_natCast] at this; exact this
      have hs' : (X : Int) ≤ L := by omega
      have hXL : X ≤ L := by omega
      have hX8 : X ≤ 8 := by omega
      obtain ⟨off, rfl, hc⟩ := h.lies (by rw [← HL.out]; omega)
      rw [← HL.out] at hc
      clear HT hw hs
      go_enter Tryz.func135, Tryz.ntmps135
      go_wp2_with fail
      refine (wide_yes _ _ hw1 hw8).mono ?_
      rintro e w' ⟨rfl, rfl⟩
      go_wp2_with fail
      go_loop [6, 20] (fun vv ii => ∃ (n i : Nat), vv = .int .u64 n ∧ ii = .int .i64 i ∧ i ≤ X ∧ n < 256 ^ i ∧ Hid (n = leN (xs.take i))) (fun _ ii => X - (RowKit.intOf ii).toNat)
      case atStart => exact ⟨0, 0, rfl, rfl, Nat.zero_le _, by omega, rfl⟩
      case round =>
        obtain ⟨n, i, rfl, rfl, hiX, hn, E⟩ := hrel
        by_cases hi : i < X
        · have hcx := hc i (by omega)
          obtain ⟨x, hx⟩ : ∃ x, x = xs.getD i 0 := ⟨_, rfl⟩
          rw [← hx] at hcx
          have hget : xs[i]? = some x := by rw [hx, List.getD, List.getElem?_eq_getElem (by rw [← HL.out]; omega)]; rfl
          have hx256 : x < 256 := h.low x (List.mem_of_getElem? hget)
          have hg := byt n x i hn (by omega) hx256
          have HG : Hid (_ = _) := hg.1
          have HB : Hid (n + x * 256 ^ i < 256 ^ (i + 1)) := hg.2
          have HE : Hid (n + x * 256 ^ i = leN (xs.take (i + 1))) := by
            show _ = _
            have e : xs.take (i + 1) = xs.take i ++ [x] := by rw [List.take_add_one, hget]; rfl
            rw [e, leN_snoc, ← E.out, List.length_take, ← HL.out, Nat.min_eq_left (by omega)]
          clear hg hget hx hc
          go_wp2
          go_round
          case rel => exact ⟨_, i + 1, congrArg (Value.int .u64) HG.out, by simp, by omega, HB.out, HE⟩
          case measure => simp [RowKit.intOf]; omega
        · have hiX' : i = X := by omega
          have HV : Hid (n = leN (xs.take X)) := by rw [← hiX']; exact E
          clear hiX'
          go_wp2
          go_quiet (fail)
          go_wp2
          go_ret3
          rw [HR.out, HV.out]
          exact ⟨rfl, _, rfl⟩
theorem fixF_size (width : Int) (xs : List Nat) (h : (fixF width xs).2.2 = 0) : 0 < xs.length ∧ (fixF width xs).2.1 ≤ xs.length := by
  unfold fixF at h ⊢
  split at h
  · simp at h
  · rename_i h1
    rw [if_neg h1]
    split at h
    · simp at h
    · rename_i h2
      rw [if_neg h2]
      simp only
      omega
set_option maxHeartbeats 1000000 in
theorem rFixed_any (g r : Nat) (xs : List Nat) (er : Nat) (ao : Option Addr) (cap : Nat) (width : Int) (w : World) (h : Rd w g r xs er ao cap) :
    Calls Tryz.prog 132 #[.pointer (some ⟨g, 0, none⟩), .int .i64 width] w fun e w' => e = .returned (.int .u64 ((rdBy (fixF width) 0 xs er).1 : Nat)) ∧ ∃ ao' cap', Rd w' g r (rdBy (fixF width) 0 xs er).2.1 (rdBy (fixF width) 0 xs er).2.2 ao' cap' ∧ Fr [g] w w' := by
  have hF := Fr.alloc [] w (.cells #[.int .i64 width] 3)
  have h' := h.keep hF (by simp) (by simp)
  have hb : (w.alloc (.cells #[.int .i64 width] 3)).cell? ⟨w.heap.size, 0, none⟩ = some (.int .i64 width) := cell_of_row _ _ _ _ _ _ (heap_alloc_new w _)
  have hA := cFixed_any r w.heap.size ao _ cap xs width _ h'.sl rfl h'.cap hb
  have hsz := fixF_size width xs
  obtain ⟨f, hf⟩ : ∃ f, f = fixF width := ⟨_, rfl⟩
  rw [← hf] at hA hsz ⊢
  clear hf hb
  go_enter Tryz.func132, Tryz.ntmps132
  go_wp2_with fail
  refine (takeFixed_rd f g r _ xs er ao cap _ h' hsz (fun _ => hA)).mono ?_
  rintro e w' ⟨rfl, ao', cap', R1, R2⟩
  go_wp2
  go_ret
  exact ⟨rfl, ao', cap', R1, (Fr.alloc [g] w _).then R2⟩
end Go.Proofs.YtdojhkgnnbdfkaaGreat
