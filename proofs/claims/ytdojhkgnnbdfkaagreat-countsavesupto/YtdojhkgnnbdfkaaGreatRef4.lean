/- What the document's disk (the reference) does, call by call, live and nil. Conditions: the disk's numbers are such as its calls leave them; fewer than 2^40 raw writes were done. -/
import Derived.Test.YtdojhkgnnbdfkaaGreatLd
namespace Go.Proofs.YtdojhkgnnbdfkaaGreat
open Go.ChangeShapes Go.WideShapes Go.ChangeAt Go.RowKit Go.Lib

theorem BArg.takeN {w : World} {ao : Option Addr} {L cap : Nat} {xs : List Nat} (h : BArg w ao L cap xs) (m : Nat) (hm : m ≤ L) : BArg w ao m cap (xs.take m) := by
  have hl := h.len
  refine ⟨by rw [List.length_take]; omega, fun x hx => h.low x (List.mem_of_mem_take hx), by have := h.fits; omega, by have := h.most; omega, fun h0 => ?_⟩
  obtain ⟨b, off, e, hb, hc⟩ := h.lies (by omega)
  refine ⟨b, off, e, hb, fun j hj => ?_⟩
  rw [hc j (by omega)]
  simp [List.getD, hj]
theorem BArg.dropN {w : World} {b off : Nat} {L cap : Nat} {xs : List Nat} (h : BArg w (some ⟨b, off, none⟩) L cap xs) (m : Nat) (hm : m ≤ L) : BArg w (some ⟨b, off + m, none⟩) (L - m) (cap - m) (xs.drop m) := by
  have hl := h.len
  refine ⟨by rw [List.length_drop]; omega, fun x hx => h.low x (List.mem_of_mem_drop hx), by have := h.fits; omega, by have := h.most; omega, fun h0 => ?_⟩
  obtain ⟨b', off', e, hb, hc⟩ := h.lies (by omega)
  cases e
  refine ⟨b, off + m, rfl, hb, fun j hj => ?_⟩
  rw [show off + m + j = off + (m + j) by omega, hc (m + j) (by omega)]
  simp [List.getD]
section
variable {w : World} {g : Nat} {v0 v1 : Value} {t t' : Sk}
theorem Rk.gS (_h : Rk w g v0 v1 t) : ∀ k ∈ [g], k ∈ dOwn g v0 v1 := by intro k hk; rw [List.mem_singleton] at hk; exact mem_dOwn.2 (Or.inl hk)
theorem rCapacity_any (h : Rk w g v0 v1 t) : Calls Tryz.prog 38 #[ptr g] w fun e w' => e = .returned (.int .i64 (t.C : Int)) ∧ w = w' := by
  have c0 := h.c0
  go_enter Tryz.func38, Tryz.ntmps38
  go_wp2
  go_ret
  exact ⟨rfl, rfl⟩
theorem setCell_twice (w : World) (p : Addr) (x y : Value) {cs : Array Value} {tt : TypeId} (h : w.heap[p.block]? = some (.cells cs tt (0, 0))) (hp : p.spot = none) : ((w.setCell p x).setCell p y).heap[p.block]? = (w.setCell p y).heap[p.block]? := by
  obtain ⟨b, j, sp⟩ := p
  simp only at hp h
  subst hp
  have h1 := row_setCell (j := j) x h
  have h2 := row_setCell (j := j) y h1
  have h3 := row_setCell (j := j) y h
  simp only
  rw [h2, h3]
  congr 2
  apply Array.ext'
  simp
theorem no_slot (s : Int) (h : ¬ (s = 0 ∨ s = 1)) : (s != 0) = true ∧ (s != 1) = true := by
  simp only [bne_iff_ne]; omega
set_option maxHeartbeats 1000000 in
theorem rRead_any {s E : Int} {xs : List Nat} (h : Rk w g v0 v1 t) (ht : t.ok) (hc : Told t s E xs) : Calls Tryz.prog 60 #[ptr g, .int .i64 s] w fun e w' => ∃ ao n cap, e = .returned (.tuple #[.slice ao n cap, .int .i64 E]) ∧ Rs w ao xs ∧ n = xs.length ∧ w = w' := by
  have hfew := hc.few ht
  cases hc with
  | noslot hs =>
    obtain ⟨n0, n1⟩ := no_slot s hs
    clear hs
    go_enter Tryz.func60, Tryz.ntmps60
    go_wp2
    go_ret2
    exact ⟨_, _, _, rfl, Rs.nil w _, rfl, rfl⟩
  | slot0 hs =>
    subst hs
    obtain ⟨ao, cap, hv⟩ := own_slice h.two.r0
    have HR : Hid (Rs w ao t.s0) := own_rs4 (by have := h.two.r0; rw [hv] at this; exact this) (by omega)
    have c1 := h.c1
    rw [hv] at c1
    obtain ⟨L, hL⟩ : ∃ L, L = t.s0.length := ⟨_, rfl⟩
    rw [← hL] at c1
    have HL : Hid (L = t.s0.length) := hL
    clear hL hv hfew
    go_enter Tryz.func60, Tryz.ntmps60
    go_wp2
    go_ret2
    exact ⟨_, _, _, rfl, HR.out, HL.out, rfl⟩
  | slot1 hs =>
    subst hs
    obtain ⟨ao, cap, hv⟩ := own_slice h.two.r1
    have HR : Hid (Rs w ao t.s1) := own_rs4 (by have := h.two.r1; rw [hv] at this; exact this) (by omega)
    have c2 := h.c2
    rw [hv] at c2
    obtain ⟨L, hL⟩ : ∃ L, L = t.s1.length := ⟨_, rfl⟩
    rw [← hL] at c2
    have HL : Hid (L = t.s1.length) := hL
    clear hL hv hfew
    go_enter Tryz.func60, Tryz.ntmps60
    go_wp2
    go_ret2
    exact ⟨_, _, _, rfl, HR.out, HL.out, rfl⟩
end
end Go.Proofs.YtdojhkgnnbdfkaaGreat
