/- What the reader's gate does with each of the four closures it is handed: contracts of take. Conditions: the closure's own contract. -/
import Derived.Test.YtdojhkgnnbdfkaaGreatShort
namespace Go.Proofs.YtdojhkgnnbdfkaaGreat
open Go.ChangeShapes Go.WideShapes Go.ChangeAt Go.RowKit Go.Lib

/-- The call answers v and leaves the world as it was but for draws. -/
def Ans (f : Nat) (args : Array Value) (w : World) (v : Value) : Prop := Calls Tryz.prog f args w fun e w' => e = .returned v ∧ ∃ q, w' = w.drewN q
theorem Ans.calls {f : Nat} {args : Array Value} {w : World} {v : Value} (h : Ans f args w v) : Calls Tryz.prog f args w fun e w' => e = .returned v ∧ ∃ q, w' = w.drewN q := h


set_option maxHeartbeats 1000000 in
set_option maxRecDepth 100000 in
theorem takeU_gone (fv : Value) (g r : Nat) (xs : List Nat) (er : Nat) (ao : Option Addr) (cap : Nat) (w : World) (h : Rd w g r xs er ao cap) (he : er ≠ 0) :
    Calls Tryz.prog 125 #[.pointer (some ⟨g, 0, none⟩), fv] w fun e w' => e = .returned (.int .u64 0) ∧ w = w' := by
  have heb : ((er : Int) != 0) = true := by rw [bne_iff_ne]; omega
  have c2 := h.c2
  clear he
  go_enter Tryz.func125, Tryz.ntmps125
  go_wp2_with fail
  refine (rThere_any g _ h.c0).mono ?_
  rintro e w' ⟨rfl, rfl⟩
  go_wp2
  go_ret
  exact ⟨rfl, rfl⟩

set_option maxHeartbeats 1000000 in
set_option maxRecDepth 100000 in
theorem takeS_gone (fv : Value) (g r : Nat) (xs : List Nat) (er : Nat) (ao : Option Addr) (cap : Nat) (w : World) (h : Rd w g r xs er ao cap) (he : er ≠ 0) :
    Calls Tryz.prog 133 #[.pointer (some ⟨g, 0, none⟩), fv] w fun e w' => e = .returned (.string ⟨#[]⟩) ∧ w = w' := by
  have heb : ((er : Int) != 0) = true := by rw [bne_iff_ne]; omega
  have c2 := h.c2
  clear he
  go_enter Tryz.func133, Tryz.ntmps133
  go_wp2_with fail
  refine (rThere_any g _ h.c0).mono ?_
  rintro e w' ⟨rfl, rfl⟩
  go_wp2
  go_ret
  exact ⟨rfl, rfl⟩

set_option maxHeartbeats 1000000 in
set_option maxRecDepth 100000 in
theorem takeVar_wrong (t : Int) (k : Int) (c : Nat) (g r : Nat) (xs : List Nat) (ao : Option Addr) (cap : Nat) (w : World) (h : Rd w g r xs 0 ao cap) (hc : c ≠ 0)
    (hcl : Ans 126 #[.slice ao xs.length cap] w (.tuple #[.int .u64 t, .int .i64 k, .int .i64 c])) :
    Calls Tryz.prog 125 #[.pointer (some ⟨g, 0, none⟩), .func (Fn.func 126) #[] #[]] w fun e w' => e = .returned (.int .u64 0) ∧ ∃ q, w' = (w.setCell ⟨g, 2, none⟩ (.int .i64 c)).drewN q := by
  have hcb : ((c : Int) != 0) = true := by rw [bne_iff_ne]; omega
  have c1 := h.c1
  have c2 := h.c2
  have f2 := h.f2
  clear hc
  go_enter Tryz.func125, Tryz.ntmps125
  go_wp2_with fail
  refine (rThere_any g _ h.c0).mono ?_
  rintro e w' ⟨rfl, rfl⟩
  go_wp2_with fail
  refine hcl.calls.mono ?_
  rintro e w' ⟨rfl, q, rfl⟩
  go_wp2
  go_ret
  exact ⟨rfl, _, rfl⟩
set_option maxHeartbeats 4000000 in
set_option maxRecDepth 100000 in
theorem takeVar_good (t : Int) (k off : Nat) (g r : Nat) (xs : List Nat) (cap : Nat) (w : World) (h : Rd w g r xs 0 (some ⟨r, off, none⟩) cap) (hk : k ≤ xs.length)
    (hcl : Ans 126 #[.slice (some ⟨r, off, none⟩) xs.length cap] w (.tuple #[.int .u64 t, .int .i64 k, .int .i64 0])) :
    Calls Tryz.prog 125 #[.pointer (some ⟨g, 0, none⟩), .func (Fn.func 126) #[] #[]] w fun e w' => e = .returned (.int .u64 t) ∧ ∃ q, w' = (w.setCell ⟨g, 1, none⟩ (.slice (if xs.length = k then some ⟨r, off, none⟩ else some ⟨r, off + k, none⟩) (xs.length - k) (xs.length - k))).drewN q := by
  have c1 := h.c1
  have c2 := h.c2
  have f1 := h.f1
  have hcap := h.cap
  obtain ⟨L, hL⟩ : ∃ L, L = xs.length := ⟨_, rfl⟩
  rw [← hL] at hcl c1 hk hcap ⊢
  clear hL
  go_enter Tryz.func125, Tryz.ntmps125
  go_wp2_with fail
  refine (rThere_any g _ h.c0).mono ?_
  rintro e w' ⟨rfl, rfl⟩
  go_wp2_with fail
  refine hcl.calls.mono ?_
  rintro e w' ⟨rfl, q, rfl⟩
  go_wp2_with fail
  go_region
  go_wp2
  all_goals (go_ret; exact ⟨rfl, _, rfl⟩)

theorem takeVar_rd (f : List Nat → Nat × Nat × Nat) (g r : Nat) (xs : List Nat) (er : Nat) (ao : Option Addr) (cap : Nat) (w : World) (h : Rd w g r xs er ao cap) (hf : (f xs).2.2 = 0 → 0 < xs.length ∧ (f xs).2.1 ≤ xs.length)
    (hcl : er = 0 → Ans 126 #[.slice ao xs.length cap] w (.tuple #[.int .u64 ((f xs).1 : Nat), .int .i64 ((f xs).2.1 : Nat), .int .i64 ((f xs).2.2 : Nat)])) :
    Calls Tryz.prog 125 #[.pointer (some ⟨g, 0, none⟩), .func (Fn.func 126) #[] #[]] w fun e w' => e = .returned (.int .u64 ((rdBy f 0 xs er).1 : Nat)) ∧ ∃ ao' cap', Rd w' g r (rdBy f 0 xs er).2.1 (rdBy f 0 xs er).2.2 ao' cap' ∧ Fr [g] w w' := by
  by_cases he : er = 0
  · subst he
    by_cases hc : (f xs).2.2 = 0
    · have hs := hf hc
      have hA := hcl rfl
      obtain ⟨off, rfl, _⟩ := h.sl.lies hs.1
      have e1 : rdBy f 0 xs 0 = ((f xs).1, xs.drop (f xs).2.1, 0) := by simp [rdBy, hc]
      rw [e1]
      rw [hc] at hA
      refine (takeVar_good _ _ off g r xs cap w h hs.2 hA).mono ?_
      rintro e w' ⟨rfl, q, rfl⟩
      obtain ⟨h1, h2⟩ := h.went hs.1 (f xs).2.1 q hs.2
      exact ⟨rfl, _, _, h1, h2⟩
    · have e1 : rdBy f 0 xs 0 = (0, xs, (f xs).2.2) := by simp [rdBy, hc]
      rw [e1]
      refine (takeVar_wrong _ _ _ g r xs ao cap w h hc (hcl rfl)).mono ?_
      rintro e w' ⟨rfl, q, rfl⟩
      obtain ⟨h1, h2⟩ := h.wrong (f xs).2.2 q
      exact ⟨rfl, _, _, h1, h2⟩
  · have e1 : rdBy f 0 xs er = (0, xs, er) := by simp [rdBy, he]
    rw [e1]
    refine (takeU_gone _ g r xs er ao cap w h he).mono ?_
    rintro e w' ⟨rfl, rfl⟩
    exact ⟨rfl, _, _, h, Fr.refl _ _⟩

set_option maxHeartbeats 1000000 in
set_option maxRecDepth 100000 in
theorem takeFixed_wrong (t : Int) (k : Int) (c : Nat) (g r b : Nat) (xs : List Nat) (ao : Option Addr) (cap : Nat) (w : World) (h : Rd w g r xs 0 ao cap) (hc : c ≠ 0)
    (hcl : Ans 135 #[.slice ao xs.length cap, .pointer (some ⟨b, 0, none⟩)] w (.tuple #[.int .u64 t, .int .i64 k, .int .i64 c])) :
    Calls Tryz.prog 125 #[.pointer (some ⟨g, 0, none⟩), .func (Fn.func 135) #[] #[.pointer (some ⟨b, 0, none⟩)]] w fun e w' => e = .returned (.int .u64 0) ∧ ∃ q, w' = (w.setCell ⟨g, 2, none⟩ (.int .i64 c)).drewN q := by
  have hcb : ((c : Int) != 0) = true := by rw [bne_iff_ne]; omega
  have c1 := h.c1
  have c2 := h.c2
  have f2 := h.f2
  clear hc
  go_enter Tryz.func125, Tryz.ntmps125
  go_wp2_with fail
  refine (rThere_any g _ h.c0).mono ?_
  rintro e w' ⟨rfl, rfl⟩
  go_wp2_with fail
  refine hcl.calls.mono ?_
  rintro e w' ⟨rfl, q, rfl⟩
  go_wp2
  go_ret
  exact ⟨rfl, _, rfl⟩
set_option maxHeartbeats 4000000 in
set_option maxRecDepth 100000 in
theorem takeFixed_good (t : Int) (k off : Nat) (g r b : Nat) (xs : List Nat) (cap : Nat) (w : World) (h : Rd w g r xs 0 (some ⟨r, off, none⟩) cap) (hk : k ≤ xs.length)
    (hcl : Ans 135 #[.slice (some ⟨r, off, none⟩) xs.length cap, .pointer (some ⟨b, 0, none⟩)] w (.tuple #[.int .u64 t, .int .i64 k, .int .i64 0])) :
    Calls Tryz.prog 125 #[.pointer (some ⟨g, 0, none⟩), .func (Fn.func 135) #[] #[.pointer (some ⟨b, 0, none⟩)]] w fun e w' => e = .returned (.int .u64 t) ∧ ∃ q, w' = (w.setCell ⟨g, 1, none⟩ (.slice (if xs.length = k then some ⟨r, off, none⟩ else some ⟨r, off + k, none⟩) (xs.length - k) (xs.length - k))).drewN q := by
  have c1 := h.c1
  have c2 := h.c2
  have f1 := h.f1
  have hcap := h.cap
  obtain ⟨L, hL⟩ : ∃ L, L = xs.length := ⟨_, rfl⟩
  rw [← hL] at hcl c1 hk hcap ⊢
  clear hL
  go_enter Tryz.func125, Tryz.ntmps125
  go_wp2_with fail
  refine (rThere_any g _ h.c0).mono ?_
  rintro e w' ⟨rfl, rfl⟩
  go_wp2_with fail
  refine hcl.calls.mono ?_
  rintro e w' ⟨rfl, q, rfl⟩
  go_wp2_with fail
  go_region
  go_wp2
  all_goals (go_ret; exact ⟨rfl, _, rfl⟩)

theorem takeFixed_rd (f : List Nat → Nat × Nat × Nat) (g r b : Nat) (xs : List Nat) (er : Nat) (ao : Option Addr) (cap : Nat) (w : World) (h : Rd w g r xs er ao cap) (hf : (f xs).2.2 = 0 → 0 < xs.length ∧ (f xs).2.1 ≤ xs.length)
    (hcl : er = 0 → Ans 135 #[.slice ao xs.length cap, .pointer (some ⟨b, 0, none⟩)] w (.tuple #[.int .u64 ((f xs).1 : Nat), .int .i64 ((f xs).2.1 : Nat), .int .i64 ((f xs).2.2 : Nat)])) :
    Calls Tryz.prog 125 #[.pointer (some ⟨g, 0, none⟩), .func (Fn.func 135) #[] #[.pointer (some ⟨b, 0, none⟩)]] w fun e w' => e = .returned (.int .u64 ((rdBy f 0 xs er).1 : Nat)) ∧ ∃ ao' cap', Rd w' g r (rdBy f 0 xs er).2.1 (rdBy f 0 xs er).2.2 ao' cap' ∧ Fr [g] w w' := by
  by_cases he : er = 0
  · subst he
    by_cases hc : (f xs).2.2 = 0
    · have hs := hf hc
      have hA := hcl rfl
      obtain ⟨off, rfl, _⟩ := h.sl.lies hs.1
      have e1 : rdBy f 0 xs 0 = ((f xs).1, xs.drop (f xs).2.1, 0) := by simp [rdBy, hc]
      rw [e1]
      rw [hc] at hA
      refine (takeFixed_good _ _ off g r b xs cap w h hs.2 hA).mono ?_
      rintro e w' ⟨rfl, q, rfl⟩
      obtain ⟨h1, h2⟩ := h.went hs.1 (f xs).2.1 q hs.2
      exact ⟨rfl, _, _, h1, h2⟩
    · have e1 : rdBy f 0 xs 0 = (0, xs, (f xs).2.2) := by simp [rdBy, hc]
      rw [e1]
      refine (takeFixed_wrong _ _ _ g r b xs ao cap w h hc (hcl rfl)).mono ?_
      rintro e w' ⟨rfl, q, rfl⟩
      obtain ⟨h1, h2⟩ := h.wrong (f xs).2.2 q
      exact ⟨rfl, _, _, h1, h2⟩
  · have e1 : rdBy f 0 xs er = (0, xs, er) := by simp [rdBy, he]
    rw [e1]
    refine (takeU_gone _ g r xs er ao cap w h he).mono ?_
    rintro e w' ⟨rfl, rfl⟩
    exact ⟨rfl, _, _, h, Fr.refl _ _⟩

set_option maxHeartbeats 1000000 in
set_option maxRecDepth 100000 in
theorem takeText_wrong (t : ByteArray) (k : Int) (c : Nat) (g r b : Nat) (xs : List Nat) (ao : Option Addr) (cap : Nat) (w : World) (h : Rd w g r xs 0 ao cap) (hc : c ≠ 0)
    (hcl : Ans 134 #[.slice ao xs.length cap, .pointer (some ⟨b, 0, none⟩)] w (.tuple #[.string t, .int .i64 k, .int .i64 c])) :
    Calls Tryz.prog 133 #[.pointer (some ⟨g, 0, none⟩), .func (Fn.func 134) #[] #[.pointer (some ⟨b, 0, none⟩)]] w fun e w' => e = .returned (.string ⟨#[]⟩) ∧ ∃ q, w' = (w.setCell ⟨g, 2, none⟩ (.int .i64 c)).drewN q := by
  have hcb : ((c : Int) != 0) = true := by rw [bne_iff_ne]; omega
  have c1 := h.c1
  have c2 := h.c2
  have f2 := h.f2
  clear hc
  go_enter Tryz.func133, Tryz.ntmps133
  go_wp2_with fail
  refine (rThere_any g _ h.c0).mono ?_
  rintro e w' ⟨rfl, rfl⟩
  go_wp2_with fail
  refine hcl.calls.mono ?_
  rintro e w' ⟨rfl, q, rfl⟩
  go_wp2
  go_ret
  exact ⟨rfl, _, rfl⟩
set_option maxHeartbeats 4000000 in
set_option maxRecDepth 100000 in
theorem takeText_good (t : ByteArray) (k off : Nat) (g r b : Nat) (xs : List Nat) (cap : Nat) (w : World) (h : Rd w g r xs 0 (some ⟨r, off, none⟩) cap) (hk : k ≤ xs.length)
    (hcl : Ans 134 #[.slice (some ⟨r, off, none⟩) xs.length cap, .pointer (some ⟨b, 0, none⟩)] w (.tuple #[.string t, .int .i64 k, .int .i64 0])) :
    Calls Tryz.prog 133 #[.pointer (some ⟨g, 0, none⟩), .func (Fn.func 134) #[] #[.pointer (some ⟨b, 0, none⟩)]] w fun e w' => e = .returned (.string t) ∧ ∃ q, w' = (w.setCell ⟨g, 1, none⟩ (.slice (if xs.length = k then some ⟨r, off, none⟩ else some ⟨r, off + k, none⟩) (xs.length - k) (xs.length - k))).drewN q := by
  have c1 := h.c1
  have c2 := h.c2
  have f1 := h.f1
  have hcap := h.cap
  obtain ⟨L, hL⟩ : ∃ L, L = xs.length := ⟨_, rfl⟩
  rw [← hL] at hcl c1 hk hcap ⊢
  clear hL
  go_enter Tryz.func133, Tryz.ntmps133
  go_wp2_with fail
  refine (rThere_any g _ h.c0).mono ?_
  rintro e w' ⟨rfl, rfl⟩
  go_wp2_with fail
  refine hcl.calls.mono ?_
  rintro e w' ⟨rfl, q, rfl⟩
  go_wp2_with fail
  go_region
  go_wp2
  all_goals (go_ret; exact ⟨rfl, _, rfl⟩)

theorem takeText_rd (f : List Nat → ByteArray × Nat × Nat) (g r b : Nat) (xs : List Nat) (er : Nat) (ao : Option Addr) (cap : Nat) (w : World) (h : Rd w g r xs er ao cap) (hf : (f xs).2.2 = 0 → 0 < xs.length ∧ (f xs).2.1 ≤ xs.length)
    (hcl : er = 0 → Ans 134 #[.slice ao xs.length cap, .pointer (some ⟨b, 0, none⟩)] w (.tuple #[.string (f xs).1, .int .i64 ((f xs).2.1 : Nat), .int .i64 ((f xs).2.2 : Nat)])) :
    Calls Tryz.prog 133 #[.pointer (some ⟨g, 0, none⟩), .func (Fn.func 134) #[] #[.pointer (some ⟨b, 0, none⟩)]] w fun e w' => e = .returned (.string (rdBy f ⟨#[]⟩ xs er).1) ∧ ∃ ao' cap', Rd w' g r (rdBy f ⟨#[]⟩ xs er).2.1 (rdBy f ⟨#[]⟩ xs er).2.2 ao' cap' ∧ Fr [g] w w' := by
  by_cases he : er = 0
  · subst he
    by_cases hc : (f xs).2.2 = 0
    · have hs := hf hc
      have hA := hcl rfl
      obtain ⟨off, rfl, _⟩ := h.sl.lies hs.1
      have e1 : rdBy f ⟨#[]⟩ xs 0 = ((f xs).1, xs.drop (f xs).2.1, 0) := by simp [rdBy, hc]
      rw [e1]
      rw [hc] at hA
      refine (takeText_good _ _ off g r b xs cap w h hs.2 hA).mono ?_
      rintro e w' ⟨rfl, q, rfl⟩
      obtain ⟨h1, h2⟩ := h.went hs.1 (f xs).2.1 q hs.2
      exact ⟨rfl, _, _, h1, h2⟩
    · have e1 : rdBy f ⟨#[]⟩ xs 0 = (⟨#[]⟩, xs, (f xs).2.2) := by simp [rdBy, hc]
      rw [e1]
      refine (takeText_wrong _ _ _ g r b xs ao cap w h hc (hcl rfl)).mono ?_
      rintro e w' ⟨rfl, q, rfl⟩
      obtain ⟨h1, h2⟩ := h.wrong (f xs).2.2 q
      exact ⟨rfl, _, _, h1, h2⟩
  · have e1 : rdBy f ⟨#[]⟩ xs er = (⟨#[]⟩, xs, er) := by simp [rdBy, he]
    rw [e1]
    refine (takeS_gone _ g r xs er ao cap w h he).mono ?_
    rintro e w' ⟨rfl, rfl⟩
    exact ⟨rfl, _, _, h, Fr.refl _ _⟩
end Go.Proofs.YtdojhkgnnbdfkaaGreat
