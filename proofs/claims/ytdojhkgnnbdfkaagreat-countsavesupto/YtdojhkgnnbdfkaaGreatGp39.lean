/- Texts of this claim laid together, one behind the other: contracts and plain lemmas; conditions as each names them. -/
import Derived.Test.YtdojhkgnnbdfkaaGreatGp38
import Derived.Lib.SlBytesConst
import Derived.Test.YtdojhkgnnbdfkaaGreatGp36
/- The program's disk as the statements use it: made since a world w0, nothing that was there then is touched. Conditions: fewer than 2^40 raw writes were done. -/
namespace Go.Proofs.YtdojhkgnnbdfkaaGreat
open Go.ChangeShapes Go.WideShapes Go.ChangeAt Go.RowKit Go.Lib

structure LD (w0 w : World) (g : Nat) (S : List Nat) (t : Sk) : Prop where
  dk : ∃ v0 v1, Dk w g v0 v1 t ∧ S = dOwn g v0 v1
  new : ∀ k ∈ S, w0.heap.size ≤ k
  ok : t.ok
  fr : Fr [] w0 w
section
variable {w0 w w' : World} {g : Nat} {S : List Nat} {t t' : Sk}
theorem LD.lt (h : LD w0 w g S t) : ∀ k ∈ S, k < w.heap.size := by
  obtain ⟨v0, v1, hD, rfl⟩ := h.dk
  exact hD.lt
theorem LD.keepS {T : List Nat} (h : LD w0 w g S t) (hf : Fr T w w') (hT : ∀ k ∈ T, k ∉ S) (hN : ∀ k ∈ T, w0.heap.size ≤ k) : LD w0 w' g S t := by
  obtain ⟨v0, v1, hD, rfl⟩ := h.dk
  exact ⟨⟨v0, v1, hD.keep hf hT, rfl⟩, h.new, h.ok, h.fr.on hf hN⟩
theorem LD.quiet (h : LD w0 w g S t) (hf : Fr [] w w') : LD w0 w' g S t := h.keepS hf (by simp) (by simp)
theorem LD.step {S' : List Nat} {v0 v1 : Value} (h : LD w0 w g S t) (hT : To S S' w w') (hD : Dk w' g v0 v1 t') (hS : S' = dOwn g v0 v1) (ht : t'.ok) : LD w0 w' g S' t' := by
  refine ⟨⟨v0, v1, hD, hS⟩, ?_, ht, h.fr.on hT.fr h.new⟩
  intro k hk
  rcases hT.grew k hk with h1 | h1
  · exact h.new k h1
  · exact Nat.le_trans h.fr.size h1
/-- What came in lies in none of its blocks. -/
theorem LD.apart {bo : Option Addr} {M cb : Nat} {ys : List Nat} (h : LD w0 w g S t) (hB : BArg w0 bo M cb ys) : 0 < M → ∀ a, bo = some a → a.block ∉ S := by
  intro h0 a ha hm
  obtain ⟨b, off, e, hb, _⟩ := hB.lies h0
  rw [e] at ha
  cases ha
  have := h.new _ hm
  simp only at this
  omega
theorem ld_new (C : Nat) (w0 w : World) (hf : Fr [] w0 w) (h : C ≤ 16777216) : Calls Tryz.prog 28 #[.int .i64 (C : Int)] w fun e w' => ∃ g S, e = .returned (.tuple #[ptr g, .int .i64 0]) ∧ LD w0 w' g S (Sk.new C) ∧ (∀ k ∈ S, w.heap.size ≤ k) ∧ Fr [] w w' := by
  refine (new_ok C w h).mono ?_
  rintro e w' ⟨rfl, hD, hF⟩
  have hS : ∀ k ∈ dOwn w.heap.size (.slice none 0 0) (.slice none 0 0), w.heap.size ≤ k := by
    intro k hk
    rcases mem_dOwn.1 hk with rfl | hk | hk
    · exact Nat.le_refl _
    · simp [Value.ownBlock] at hk
    · simp [Value.ownBlock] at hk
  exact ⟨_, _, rfl, ⟨⟨_, _, hD, rfl⟩, fun k hk => Nat.le_trans hf.size (hS k hk), Sk.new_ok C h, hf.then hF⟩, hS, hF⟩
theorem ld_write {s a E : Int} {bo : Option Addr} {M cb : Nat} {ys : List Nat} (h : LD w0 w g S t) (hn : t.n < 2^40) (ha : a ≤ 9223372036854775807) (hB : BArg w bo M cb ys) (hap : 0 < M → ∀ a, bo = some a → a.block ∉ S) (hc : Wrote t s a ys E t') :
    Calls Tryz.prog 97 #[ptr g, .int .i64 s, .int .i64 a, .slice bo M cb] w fun e w' => e = .returned (.int .i64 E) ∧ ∃ S', LD w0 w' g S' t' ∧ To S S' w w' := by
  obtain ⟨v0, v1, hD, hS⟩ := h.dk
  refine (write_any hD h.ok hn ha hB (by rw [← hS]; exact hap) hc).mono ?_
  rintro e w' ⟨rfl, u0, u1, hU, hT⟩
  rw [← hS] at hT
  exact ⟨rfl, _, h.step hT hU rfl (hc.ok h.ok hB.low), hT⟩
theorem ld_clear {s E : Int} (h : LD w0 w g S t) (hn : t.n < 2^40) (hc : Cleared t s E t') :
    Calls Tryz.prog 96 #[ptr g, .int .i64 s] w fun e w' => e = .returned (.int .i64 E) ∧ ∃ S', LD w0 w' g S' t' ∧ To S S' w w' := by
  obtain ⟨v0, v1, hD, hS⟩ := h.dk
  refine (clear_any hD h.ok hn hc).mono ?_
  rintro e w' ⟨rfl, u0, u1, hU, hT⟩
  rw [← hS] at hT
  exact ⟨rfl, _, h.step hT hU rfl (hc.ok h.ok), hT⟩
theorem ld_read {s E : Int} {xs : List Nat} (h : LD w0 w g S t) (hc : Told t s E xs) :
    Calls Tryz.prog 70 #[ptr g, .int .i64 s] w fun e w' => ∃ ao n cap, e = .returned (.tuple #[.slice ao n cap, .int .i64 E]) ∧ Fre w w' ao n cap xs ∧ LD w0 w' g S t := by
  obtain ⟨v0, v1, hD, hS⟩ := h.dk
  refine (read_any hD h.ok hc).mono ?_
  rintro e w' ⟨ao, n, cap, rfl, hF⟩
  exact ⟨_, _, _, rfl, hF, h.quiet hF.fr⟩
theorem ld_capacity (h : LD w0 w g S t) {m : Nat} (hm : t.C = m) : Calls Tryz.prog 51 #[ptr g] w fun e w' => e = .returned (.int .i64 (m : Int)) ∧ w = w' := by
  obtain ⟨v0, v1, hD, hS⟩ := h.dk
  rw [← hm]
  exact capacity_any hD
end
theorem lit_arg {w : World} {g : Nat} {xs : List Nat} {L : Nat} {fr : Nat × Nat} (hL : L = xs.length) (hl : ∀ x ∈ xs, x < 256) (hm : L < 2^40) (h : w.heap[g]? = some (.cells (bts xs).toArray 5 fr)) : BArg w (some ⟨g, 0, none⟩) L L xs := by
  refine ⟨hL, hl, by omega, by omega, fun h0 => ⟨g, 0, rfl, lt_of_block h, fun j hj => ?_⟩⟩
  rw [cell_of_row _ _ _ _ _ _ h]
  have := bts_get xs j (by rw [← hL]; exact hj)
  simpa using this
theorem nil_arg (w : World) : BArg w none 0 0 [] := ⟨rfl, by simp, Nat.le_refl _, by omega, fun h => by omega⟩
/-- A new block is none of the disk's. -/
theorem LD.fresh {w0 w : World} {g : Nat} {S : List Nat} {t : Sk} (h : LD w0 w g S t) (M : Nat) : 0 < M → ∀ a, (some ⟨w.heap.size, 0, none⟩ : Option Addr) = some a → a.block ∉ S := by
  intro _ a ha hm
  cases ha
  have := h.lt _ hm
  simp only at this
  omega
end Go.Proofs.YtdojhkgnnbdfkaaGreat
/- What the document's disk (the reference) does, call by call, live and nil. Conditions: the disk's numbers are such as its calls leave them; fewer than 2^40 raw writes were done. -/
namespace Go.Proofs.YtdojhkgnnbdfkaaGreat
open Go.ChangeShapes Go.WideShapes Go.ChangeAt Go.RowKit Go.Lib

theorem BArg.takeN {w : World} {ao : Option Addr} {L cap : Nat} {xs : List Nat} (h : BArg w ao L cap xs) (m : Nat) (hm : m ≤ L) : BArg w ao m cap (xs.take m) := by
  have hl := h.len
  refine ⟨by rw [List.length_take]; omega, fun x hx => h.low x (List.mem_of_mem_take hx), by have := h.fits; omega, by have := h.most; omega, fun h0 => ?_⟩
  obtain ⟨b, off, e, hb, hc⟩ := h.lies (by omega)
  refine ⟨b, off, e, hb, fun j hj => ?_⟩
  rw [hc j (by omega)]
  simp [List.getD, hj]
theorem BArg.dropN {w : World} {b off : Nat} {L cap : Nat} {xs : List Nat} (h : BArg w (some ⟨b, off, none⟩) L cap xs) (m : Nat) (hm : m ≤ L) : BArg w (some ⟨b, off + m, none⟩) (L - m) (cap - m) (xs.drop m) := by
  have hl := h.len
  refine ⟨by rw [List.length_drop]; omega, fun x hx => h.low x (List.mem_of_mem_drop hx), by have := h.fits; omega, by have := h.most; omega, fun h0 => ?_⟩
  obtain ⟨b', off', e, hb, hc⟩ := h.lies (by omega)
  cases e
  refine ⟨b, off + m, rfl, hb, fun j hj => ?_⟩
  rw [show off + m + j = off + (m + j) by omega, hc (m + j) (by omega)]
  simp [List.getD]
section
variable {w : World} {g : Nat} {v0 v1 : Value} {t t' : Sk}
theorem Rk.gS (_h : Rk w g v0 v1 t) : ∀ k ∈ [g], k ∈ dOwn g v0 v1 := by intro k hk; rw [List.mem_singleton] at hk; exact mem_dOwn.2 (Or.inl hk)
theorem rCapacity_any (h : Rk w g v0 v1 t) : Calls Tryz.prog 38 #[ptr g] w fun e w' => e = .returned (.int .i64 (t.C : Int)) ∧ w = w' := by
  have c0 := h.c0
  go_enter Tryz.func38, Tryz.ntmps38
  go_wp2
  go_ret
  exact ⟨rfl, rfl⟩
theorem setCell_twice (w : World) (p : Addr) (x y : Value) {cs : Array Value} {tt : TypeId} (h : w.heap[p.block]? = some (.cells cs tt (0, 0))) (hp : p.spot = none) : ((w.setCell p x).setCell p y).heap[p.block]? = (w.setCell p y).heap[p.block]? := by
  obtain ⟨b, j, sp⟩ := p
  simp only at hp h
  subst hp
  have h1 := row_setCell (j := j) x h
  have h2 := row_setCell (j := j) y h1
  have h3 := row_setCell (j := j) y h
  simp only
  rw [h2, h3]
  congr 2
  apply Array.ext'
  simp
theorem no_slot (s : Int) (h : ¬ (s = 0 ∨ s = 1)) : (s != 0) = true ∧ (s != 1) = true := by
  simp only [bne_iff_ne]; omega
set_option maxHeartbeats 1000000 in
theorem rRead_any {s E : Int} {xs : List Nat} (h : Rk w g v0 v1 t) (ht : t.ok) (hc : Told t s E xs) : Calls Tryz.prog 60 #[ptr g, .int .i64 s] w fun e w' => ∃ ao n cap, e = .returned (.tuple #[.slice ao n cap, .int .i64 E]) ∧ Rs w ao xs ∧ n = xs.length ∧ w = w' := by
  have hfew := hc.few ht
  cases hc with
  | noslot hs =>
    obtain ⟨n0, n1⟩ := no_slot s hs
    clear hs
    go_enter Tryz.func60, Tryz.ntmps60
    go_wp2
    go_ret2
    exact ⟨_, _, _, rfl, Rs.nil w _, rfl, rfl⟩
  | slot0 hs =>
    subst hs
    obtain ⟨ao, cap, hv⟩ := own_slice h.two.r0
    have HR : Hid (Rs w ao t.s0) := own_rs4 (by have := h.two.r0; rw [hv] at this; exact this) (by omega)
    have c1 := h.c1
    rw [hv] at c1
    obtain ⟨L, hL⟩ : ∃ L, L = t.s0.length := ⟨_, rfl⟩
    rw [← hL] at c1
    have HL : Hid (L = t.s0.length) := hL
    clear hL hv hfew
    go_enter Tryz.func60, Tryz.ntmps60
    go_wp2
    go_ret2
    exact ⟨_, _, _, rfl, HR.out, HL.out, rfl⟩
  | slot1 hs =>
    subst hs
    obtain ⟨ao, cap, hv⟩ := own_slice h.two.r1
    have HR : Hid (Rs w ao t.s1) := own_rs4 (by have := h.two.r1; rw [hv] at this; exact this) (by omega)
    have c2 := h.c2
    rw [hv] at c2
    obtain ⟨L, hL⟩ : ∃ L, L = t.s1.length := ⟨_, rfl⟩
    rw [← hL] at c2
    have HL : Hid (L = t.s1.length) := hL
    clear hL hv hfew
    go_enter Tryz.func60, Tryz.ntmps60
    go_wp2
    go_ret2
    exact ⟨_, _, _, rfl, HR.out, HL.out, rfl⟩
end
end Go.Proofs.YtdojhkgnnbdfkaaGreat
/- A disk that is not there (nil, or zero), the document's nil disk; both disks side by side. Conditions: fewer than 2^40 raw writes were done. -/
namespace Go.Proofs.YtdojhkgnnbdfkaaGreat
open Go.ChangeShapes Go.WideShapes Go.ChangeAt Go.RowKit Go.Lib

section
variable {w : World} {p : Value}
theorem gone_write (h : Gone w p) (s a : Int) (bo : Option Addr) (M cb : Nat) : Calls Tryz.prog 97 #[p, .int .i64 s, .int .i64 a, .slice bo M cb] w fun e w' => e = .returned (.int .i64 2) ∧ w = w' := by
  go_enter Tryz.func97, Tryz.ntmps97
  go_wp2_with fail
  refine (there_no p _ h).mono ?_
  rintro e w' ⟨rfl, rfl⟩
  go_wp2
  go_ret
  exact ⟨rfl, rfl⟩
theorem gone_clear (h : Gone w p) (s : Int) : Calls Tryz.prog 96 #[p, .int .i64 s] w fun e w' => e = .returned (.int .i64 2) ∧ w = w' := by
  go_enter Tryz.func96, Tryz.ntmps96
  go_wp2_with fail
  refine (there_no p _ h).mono ?_
  rintro e w' ⟨rfl, rfl⟩
  go_wp2
  go_ret
  exact ⟨rfl, rfl⟩
theorem gone_read (h : Gone w p) (s : Int) : Calls Tryz.prog 70 #[p, .int .i64 s] w fun e w' => e = .returned (.tuple #[.slice none 0 0, .int .i64 2]) ∧ w = w' := by
  go_enter Tryz.func70, Tryz.ntmps70
  go_wp2_with fail
  refine (there_no p _ h).mono ?_
  rintro e w' ⟨rfl, rfl⟩
  go_wp2
  go_ret2
  exact ⟨rfl, rfl⟩
theorem gone_capacity (h : Gone w p) : Calls Tryz.prog 51 #[p] w fun e w' => e = .returned (.int .i64 0) ∧ w = w' := by
  go_enter Tryz.func51, Tryz.ntmps51
  go_wp2_with fail
  refine (there_no p _ h).mono ?_
  rintro e w' ⟨rfl, rfl⟩
  go_wp2
  go_ret
  exact ⟨rfl, rfl⟩
theorem nil_read (s : Int) : Calls Tryz.prog 60 #[.pointer none, .int .i64 s] w fun e w' => e = .returned (.tuple #[.slice none 0 0, .int .i64 2]) ∧ w = w' := by
  go_enter Tryz.func60, Tryz.ntmps60
  go_wp2
  go_ret2
  exact ⟨rfl, rfl⟩
theorem nil_capacity : Calls Tryz.prog 38 #[.pointer none] w fun e w' => e = .returned (.int .i64 0) ∧ w = w' := by
  go_enter Tryz.func38, Tryz.ntmps38
  go_wp2
  go_ret
  exact ⟨rfl, rfl⟩
end

/-- The document's disk, made since w0. -/
structure LR (w0 w : World) (g : Nat) (S : List Nat) (t : Sk) : Prop where
  dk : ∃ v0 v1, Rk w g v0 v1 t ∧ S = dOwn g v0 v1
  new : ∀ k ∈ S, w0.heap.size ≤ k
  ok : t.ok
  fr : Fr [] w0 w
section
variable {w0 w w' : World} {g : Nat} {S : List Nat} {t t' : Sk}
theorem LR.lt (h : LR w0 w g S t) : ∀ k ∈ S, k < w.heap.size := by
  obtain ⟨v0, v1, hD, rfl⟩ := h.dk
  exact hD.lt
theorem LR.keepS {T : List Nat} (h : LR w0 w g S t) (hf : Fr T w w') (hT : ∀ k ∈ T, k ∉ S) (hN : ∀ k ∈ T, w0.heap.size ≤ k) : LR w0 w' g S t := by
  obtain ⟨v0, v1, hD, rfl⟩ := h.dk
  exact ⟨⟨v0, v1, hD.keep hf hT, rfl⟩, h.new, h.ok, h.fr.on hf hN⟩
theorem LR.quiet (h : LR w0 w g S t) (hf : Fr [] w w') : LR w0 w' g S t := h.keepS hf (by simp) (by simp)
theorem LR.step {S' : List Nat} {v0 v1 : Value} (h : LR w0 w g S t) (hT : To S S' w w') (hD : Rk w' g v0 v1 t') (hS : S' = dOwn g v0 v1) (ht : t'.ok) : LR w0 w' g S' t' := by
  refine ⟨⟨v0, v1, hD, hS⟩, ?_, ht, h.fr.on hT.fr h.new⟩
  intro k hk
  rcases hT.grew k hk with h1 | h1
  · exact h.new k h1
  · exact Nat.le_trans h.fr.size h1
theorem LR.apart {bo : Option Addr} {M cb : Nat} {ys : List Nat} (h : LR w0 w g S t) (hB : BArg w0 bo M cb ys) : 0 < M → ∀ a, bo = some a → a.block ∉ S := by
  intro h0 a ha hm
  obtain ⟨b, off, e, hb, _⟩ := hB.lies h0
  rw [e] at ha
  cases ha
  have := h.new _ hm
  simp only at this
  omega
theorem lr_read {s E : Int} {xs : List Nat} (h : LR w0 w g S t) (hc : Told t s E xs) :
    Calls Tryz.prog 60 #[ptr g, .int .i64 s] w fun e w' => ∃ ao n cap, e = .returned (.tuple #[.slice ao n cap, .int .i64 E]) ∧ Rs w ao xs ∧ n = xs.length ∧ w = w' := by
  obtain ⟨v0, v1, hD, hS⟩ := h.dk
  exact rRead_any hD h.ok hc
theorem lr_capacity (h : LR w0 w g S t) {m : Nat} (hm : t.C = m) : Calls Tryz.prog 38 #[ptr g] w fun e w' => e = .returned (.int .i64 (m : Int)) ∧ w = w' := by
  obtain ⟨v0, v1, hD, hS⟩ := h.dk
  rw [← hm]
  exact rCapacity_any hD
/-- What Cut answers, and what the disk is then. -/
inductive CutTo (t : Sk) (n : Int) : Int → Sk → Prop
  | dead (h : t.dd = true) : CutTo t n 11 t
  | done (h : t.dd = false) : CutTo t n 0 (t.cut n)
theorem CutTo.some (t : Sk) (n : Int) : ∃ E t', CutTo t n E t' := by
  cases h : t.dd with
  | true => exact ⟨_, _, .dead h⟩
  | false => exact ⟨_, _, .done h⟩
theorem CutTo.n {n E : Int} (h : CutTo t n E t') : t'.n ≤ t.n + 1 := by cases h <;> simp [Sk.cut]
end

/-- Both disks, of one content, apart. -/
structure PR (w0 w : World) (gd gr : Nat) (SD SR : List Nat) (t t2 : Sk) : Prop where
  d : LD w0 w gd SD t
  r : LR w0 w gr SR t2
  ap : ∀ k ∈ SD, k ∉ SR
section
variable {w0 w w' : World} {gd gr : Nat} {SD SR SD' SR' : List Nat} {t t2 t' : Sk}
theorem PR.quiet (h : PR w0 w gd gr SD SR t t2) (hf : Fr [] w w') : PR w0 w' gd gr SD SR t t2 := ⟨h.d.quiet hf, h.r.quiet hf, h.ap⟩
/-- Blocks that are neither's may be written. -/
theorem PR.keepS {T : List Nat} (h : PR w0 w gd gr SD SR t t2) (hf : Fr T w w') (hT : ∀ k ∈ T, k ∉ SD ∧ k ∉ SR) (hN : ∀ k ∈ T, w0.heap.size ≤ k) : PR w0 w' gd gr SD SR t t2 :=
  ⟨h.d.keepS hf (fun k hk => (hT k hk).1) hN, h.r.keepS hf (fun k hk => (hT k hk).2) hN, h.ap⟩
theorem PR.stepD (h : PR w0 w gd gr SD SR t t2) (hD : LD w0 w' gd SD' t') (hT : To SD SD' w w') : PR w0 w' gd gr SD' SR t' t2 := by
  refine ⟨hD, h.r.keepS hT.fr h.ap h.d.new, fun k hk hm => ?_⟩
  rcases hT.grew k hk with h1 | h1
  · exact h.ap k h1 hm
  · have := h.r.lt k hm
    omega
theorem PR.stepR (h : PR w0 w gd gr SD SR t t2) (hR : LR w0 w' gr SR' t') (hT : To SR SR' w w') : PR w0 w' gd gr SD SR' t t' := by
  refine ⟨h.d.keepS hT.fr (fun k hk hm => h.ap k hm hk) h.r.new, hR, fun k hk hm => ?_⟩
  rcases hT.grew k hm with h1 | h1
  · exact h.ap k hk h1
  · have := h.d.lt k hk
    omega
theorem To.left {S S' T : List Nat} {a b : World} (h : To S S' a b) : To (S ++ T) (S' ++ T) a b :=
  ⟨h.fr.mono (fun k hk _ => List.mem_append_left _ hk), fun k hk => by
    rcases List.mem_append.1 hk with h1 | h1
    · rcases h.grew k h1 with h2 | h2
      · exact Or.inl (List.mem_append_left _ h2)
      · exact Or.inr h2
    · exact Or.inl (List.mem_append_right _ h1)⟩
theorem To.right {S S' T : List Nat} {a b : World} (h : To S S' a b) : To (T ++ S) (T ++ S') a b :=
  ⟨h.fr.mono (fun k hk _ => List.mem_append_right _ hk), fun k hk => by
    rcases List.mem_append.1 hk with h1 | h1
    · exact Or.inl (List.mem_append_left _ h1)
    · rcases h.grew k h1 with h2 | h2
      · exact Or.inl (List.mem_append_right _ h2)
      · exact Or.inr h2⟩
theorem To.quiet {S : List Nat} {a b : World} (h : Fr [] a b) : To S S a b := To.same h (by simp)
end
end Go.Proofs.YtdojhkgnnbdfkaaGreat
/- The newest checkpoint of a disk: contract of Newest. Conditions: a disk that is there. -/
namespace Go.Proofs.YtdojhkgnnbdfkaaGreat
open BigFrame Go.ChangeShapes Go.WideShapes Go.ChangeAt Go.RowKit Go.Lib Go.Maps
set_option linter.unusedVariables false
set_option linter.unusedSimpArgs false

theorem results_c4 {fn : Func} {p a b c d : Tmp} {ty : TypeId} (h : fn.results = #[.cell p ty, .tmp a, .tmp b, .tmp c, .tmp d]) (tmps : Array Value) (P : Program) (w : World) (g : Nat) (x : Value) (hp : tmps.getD p undef = .pointer (some ⟨g, 0, none⟩)) (hld : (loadVar ty ⟨g, 0, none⟩).run P w = .ok x w) :
    (results fn tmps).run P w = .ok (.tuple #[x, tmps.getD a undef, tmps.getD b undef, tmps.getD c undef, tmps.getD d undef]) w := by
  simp only [results, h]
  simp [Sem.run_bind, Result.andThen, ← Array.getD_eq_getD_getElem?, hp, asAddr, hld]
/-- What a checkpoint says, in memory of its own. -/
structure SvO (w w' : World) (bo : Option Addr) (Lb cb : Nat) (ho : Option Addr) (Lh ch : Nat) (bs : List Int) (hs : List Hd) : Prop where
  lb : Lb ≤ 65536
  lh : Lh ≤ 65536
  lim : ∀ p ∈ hs.map Hd.kv, limK p
  io : IOw w.heap.size w' bo Lb cb bs
  ho : HOut w w' ho Lh ch hs
theorem SvO.keep {w w1 w2 : World} {bo : Option Addr} {Lb cb : Nat} {ho : Option Addr} {Lh ch : Nat} {bs : List Int} {hs : List Hd} (h : SvO w w1 bo Lb cb ho Lh ch bs hs) (hf : Fr [] w1 w2) : SvO w w2 bo Lb cb ho Lh ch bs hs := ⟨h.lb, h.lh, h.lim, h.io.keepS hf (by simp), h.ho.keep hf⟩
theorem SvO.offS {w w1 w2 : World} {bo : Option Addr} {Lb cb : Nat} {ho : Option Addr} {Lh ch : Nat} {bs : List Int} {hs : List Hd} {sb : Nat} {x y z : Value} (h : SvO w w1 bo Lb cb ho Lh ch bs hs) (hs1 : SB w1 sb x y z) (hf : Fr [sb] w1 w2) : SvO w w2 bo Lb cb ho Lh ch bs hs := ⟨h.lb, h.lh, h.lim, h.io.offS hs1 hf, h.ho.offS hs1 hf⟩
theorem SvO.later {w w1 w2 : World} {bo : Option Addr} {Lb cb : Nat} {ho : Option Addr} {Lh ch : Nat} {bs : List Int} {hs : List Hd} (h : SvO w1 w2 bo Lb cb ho Lh ch bs hs) (hz : w.heap.size ≤ w1.heap.size) : SvO w w2 bo Lb cb ho Lh ch bs hs :=
  ⟨h.lb, h.lh, h.lim, ⟨h.io.len, own_base h.io.row hz⟩, ⟨h.ho.len, own_base h.ho.row hz, fun x hx => (h.ho.each x hx).later hz, h.ho.apart⟩⟩
theorem SvO.nil (w w' : World) : SvO w w' none 0 0 none 0 0 [] [] := ⟨by omega, by omega, by simp, IOw.nil _ _, hout_nil _ _⟩
/-- What Newest answers. -/
def NwP (s0 s1 : List Nat) (w : World) (e : Ending) (w' : World) : Prop := ∃ (ok : Bool) (g i : Nat) (m : Int) (bo : Option Addr) (Lb cb : Nat) (ho : Option Addr) (Lh ch : Nat) (bs : List Int) (hs : List Hd), e = .returned (.tuple #[.agg #[.int .i64 m, .slice bo Lb cb, .slice ho Lh ch], .int .i64 (g : Int), .int .i64 (i : Int), .bool ok, .int .i64 0]) ∧ Nw s0 s1 ok g i m bs (hs.map Hd.kv) ∧ SvO w w' bo Lb cb ho Lh ch bs hs ∧ Fr [] w w'
/-- What was found so far. -/
def Fnd (s0 s1 : List Nat) (i : Nat) (ok : Bool) (g sl : Nat) (m : Int) (bs : List Int) (ps : List Kv) : Prop :=
  (i = 0 ∧ ok = false ∧ g = 0 ∧ sl = 0 ∧ m = 0 ∧ bs = [] ∧ ps = []) ∨ (i = 1 ∧ sl = 0 ∧ Wh s0 ok g m bs ps) ∨ (i = 2 ∧ Nw s0 s1 ok g sl m bs ps)
theorem Fnd.take {s0 s1 : List Nat} {i : Nat} {ok ok' : Bool} {g sl g' : Nat} {m m' : Int} {bs bs' : List Int} {ps ps' : List Kv} (h : Fnd s0 s1 i ok g sl m bs ps) (hi : i < 2) (hW : Wh (if i = 0 then s0 else s1) ok' g' m' bs' ps') (hg : g < g') : Fnd s0 s1 (i + 1) ok' g' i m' bs' ps' := by
  rcases h with ⟨rfl, h⟩ | ⟨rfl, rfl, h⟩ | ⟨rfl, h⟩
  · exact Or.inr (Or.inl ⟨rfl, rfl, by simpa using hW⟩)
  · exact Or.inr (Or.inr ⟨rfl, Or.inr ⟨rfl, by simpa using hW, _, _, _, _, _, h, hg⟩⟩)
  · omega
theorem Fnd.pass {s0 s1 : List Nat} {i : Nat} {ok ok' : Bool} {g sl g' : Nat} {m m' : Int} {bs bs' : List Int} {ps ps' : List Kv} (h : Fnd s0 s1 i ok g sl m bs ps) (hi : i < 2) (hW : Wh (if i = 0 then s0 else s1) ok' g' m' bs' ps') (hg : g' ≤ g) : Fnd s0 s1 (i + 1) ok g sl m bs ps := by
  rcases h with ⟨rfl, rfl, rfl, rfl, rfl, rfl, rfl⟩ | ⟨rfl, rfl, h⟩ | ⟨rfl, h⟩
  · refine Or.inr (Or.inl ⟨rfl, rfl, ?_⟩)
    have h0 : ok' = false := by
      cases ok' with
      | false => rfl
      | true => have := hW.g_ok.1 rfl; omega
    subst h0
    simp only [if_pos] at hW
    rcases hW with ⟨h1, _⟩ | ⟨_, rfl, rfl, rfl, rfl, h6⟩
    · cases h1
    · exact Or.inr ⟨rfl, rfl, rfl, rfl, rfl, h6⟩
  · exact Or.inr (Or.inr ⟨rfl, Or.inl ⟨rfl, h, _, _, _, _, _, by simpa using hW, hg⟩⟩)
  · omega
set_option maxHeartbeats 8000000 in
set_option maxRecDepth 100000 in
theorem newest_any {w0 w : World} {d : Nat} {S : List Nat} {t : Sk} (h : LD w0 w d S t) :
    Calls Tryz.prog 49 #[ptr d] w fun e w' => NwP t.s0 t.s1 w e w' := by
  obtain ⟨w1, HW1⟩ : ∃ w1, Hid (w.alloc (.cells #[.int .i64 0, .slice none 0 0, .slice none 0 0] 27) = w1) := ⟨_, rfl⟩
  have hF1 : Fr [] w w1 := by rw [← HW1.out]; exact Fr.alloc [] w _
  obtain ⟨A, hA⟩ : ∃ A, A = w.heap.size := ⟨_, rfl⟩
  have HS1 : Hid (SB w1 A (.int .i64 0) (.slice none 0 0) (.slice none 0 0)) := ⟨by rw [← HW1.out, hA]; exact svnew w⟩
  have HF1 : Hid (Fr [] w w1 ∧ w.heap.size ≤ A) := ⟨hF1, by omega⟩
  have HD : Hid (∀ W, Fr [] w W → LD w0 W d S t) := fun W hf => h.quiet hf
  have HF0 : Hid (Fnd t.s0 t.s1 0 false 0 0 0 [] ([] : List Kv)) := Or.inl ⟨rfl, rfl, rfl, rfl, rfl, rfl, rfl⟩
  clear h hF1
  go_enter Tryz.func49, Tryz.ntmps49
  go_upto_region 1 with fail
  rw [show (ptr d) = Value.pointer (some ⟨d, 0, none⟩) from rfl]
  rw [HW1.out, ← hA]
  clear HW1 hA
  go_wp2_with fail
  go_loopw [3, 4, 5, 13] (fun gg ss oo ii wr => ∃ (i : Nat) (ok : Bool) (g sl : Nat) (m : Int) (bo : Option Addr) (Lb cb : Nat) (ho : Option Addr) (Lh ch : Nat) (bs : List Int) (hs : List Hd), gg = .int .i64 (g : Int) ∧ ss = .int .i64 (sl : Int) ∧ oo = .bool ok ∧ ii = .int .i64 i ∧ i ≤ 2 ∧ g ≤ 4611686018427387904 ∧ sl ≤ 1 ∧ Hid (Fnd t.s0 t.s1 i ok g sl m bs (hs.map Hd.kv)) ∧ Hid (SB wr A (.int .i64 m) (.slice bo Lb cb) (.slice ho Lh ch)) ∧ Hid (SvO w wr bo Lb cb ho Lh ch bs hs) ∧ Hid (Fr [] w wr)) (fun _ _ _ ii _ => 2 - (RowKit.intOf ii).toNat)
  case atStart => exact ⟨0, false, 0, 0, 0, none, 0, 0, none, 0, 0, [], [], rfl, rfl, rfl, rfl, by omega, by omega, by omega, HF0, HS1, SvO.nil _ _, HF1.out.1⟩
  case round =>
    obtain ⟨i, ok, g, sl, m, bo, Lb, cb, ho, Lh, ch, bs, hs, rfl, rfl, rfl, rfl, hi2, hg62, hsl1, HFd, HSb, HSv, HFr⟩ := hrel
    by_cases hi : i < 2
    · have hlt : (i : Int) < 2 := by omega
      have hTo : ∃ xs, Told t (i : Int) 0 xs ∧ xs = (if i = 0 then t.s0 else t.s1) := by
        by_cases h0 : i = 0
        · exact ⟨t.s0, .slot0 (by omega), by rw [if_pos h0]⟩
        · exact ⟨t.s1, .slot1 (by omega), by rw [if_neg h0]⟩
      obtain ⟨xs, hto, hxs⟩ := hTo
      have HXs : Hid (xs = (if i = 0 then t.s0 else t.s1)) := hxs
      have hok := (HD.out _ HFr.out).ok
      have HXl : Hid (xs.length ≤ 16777216 ∧ ∀ x ∈ xs, x < 256) := ⟨hto.few hok, fun x hx => by
        rw [hxs] at hx
        split at hx
        · exact hok.b0 x hx
        · exact hok.b1 x hx⟩
      have HRd : Hid (Calls _ _ _ _ _) := ld_read (HD.out _ HFr.out) hto
      clear hto hxs hok
      go_wp2_with fail
      refine Calls.mono HRd.out ?_
      rintro e w2 ⟨bo2, n2, cap2, rfl, hfre, hLD⟩
      have HF2 : Hid (Fr [] wr w2) := hfre.fr
      have hB2 : BArg w2 bo2 n2 cap2 xs := own_arg hfre.own HXl.out.2 (by have := hfre.len; have := HXl.out.1; omega)
      have HR2 : Hid (Calls _ _ _ _ _) := sread_any bo2 n2 cap2 xs w2 hB2 (by have := HXl.out.1; omega)
      clear HRd hfre hLD hB2
      go_wp2_with fail
      refine Calls.mono HR2.out ?_
      rintro e w3 ⟨ok', g', m', bo', Lb', cb', ho', Lh', ch', bs', hs', rfl, hW, hlb, hlh, hlim, hio, hho, hF3⟩
      have HW : Hid (Wh (if i = 0 then t.s0 else t.s1) ok' g' m' bs' (hs'.map Hd.kv)) := by rw [← HXs.out]; exact hW
      obtain ⟨w4, HW4⟩ : ∃ w4, Hid (w3.alloc (.cells #[.int .i64 m', .slice bo' Lb' cb', .slice ho' Lh' ch'] 27) = w4) := ⟨_, rfl⟩
      have hF4 : Fr [] w3 w4 := by rw [← HW4.out]; exact Fr.alloc [] w3 _
      obtain ⟨Q, hQ⟩ : ∃ Q, Q = w3.heap.size := ⟨_, rfl⟩
      have hs4 : SB w4 Q (.int .i64 m') (.slice bo' Lb' cb') (.slice ho' Lh' ch') := ⟨by rw [← HW4.out, hQ]; exact heap_alloc_new w3 _⟩
      have HF24 : Hid (Fr [] wr w4) := HF2.out.then (hF3.then hF4)
      have HSv4 : Hid (SvO w w4 bo' Lb' cb' ho' Lh' ch' bs' hs') := by
        have hz : w.heap.size ≤ w2.heap.size := (HFr.out.then HF2.out).size
        exact ((⟨hlb, hlh, hlim, hio, hho⟩ : SvO w2 w3 bo' Lb' cb' ho' Lh' ch' bs' hs').keep hF4).later hz
      have hSb4 := HSb.out.keep HF24.out (by simp)
      have hg62' := hW.g_le
      have j0 := hs4.c0
      have j1 := hs4.c1
      have j2 := hs4.c2
      have a0 := hSb4.c0
      have a1 := hSb4.c1
      have a2 := hSb4.c2
      have b0 := hSb4.fz 0
      have b1 := hSb4.fz 1
      have b2 := hSb4.fz 2
      have HSb4 : Hid (SB w4 A (.int .i64 m) (.slice bo Lb cb) (.slice ho Lh ch)) := hSb4
      clear hW hlb hlh hlim hio hho hF3 hF4 hs4 hSb4 HR2 HF2
      by_cases htk : g < g'
      · have htk' : (g : Int) < (g' : Int) := by omega
        have hok' : ok' = true := HW.out.g_ok.2 (by omega)
        subst hok'
        have HN : Hid (Fnd t.s0 t.s1 (i + 1) true g' i m' bs' (hs'.map Hd.kv)) := HFd.out.take hi HW.out htk
        have HP : Hid (SB (((w4.setCell ⟨A, 0, none⟩ (.int .i64 m')).setCell ⟨A, 1, none⟩ (.slice bo' Lb' cb')).setCell ⟨A, 2, none⟩ (.slice ho' Lh' ch')) A (.int .i64 m') (.slice bo' Lb' cb') (.slice ho' Lh' ch') ∧ SvO w (((w4.setCell ⟨A, 0, none⟩ (.int .i64 m')).setCell ⟨A, 1, none⟩ (.slice bo' Lb' cb')).setCell ⟨A, 2, none⟩ (.slice ho' Lh' ch')) bo' Lb' cb' ho' Lh' ch' bs' hs' ∧ Fr [] w (((w4.setCell ⟨A, 0, none⟩ (.int .i64 m')).setCell ⟨A, 1, none⟩ (.slice bo' Lb' cb')).setCell ⟨A, 2, none⟩ (.slice ho' Lh' ch'))) := by
          obtain ⟨q1, q2⟩ := HSb4.out.fr0 (.int .i64 m') (.slice bo' Lb' cb') (.slice ho' Lh' ch')
          exact ⟨q1, HSv4.out.offS HSb4.out q2, (HFr.out.then HF24.out).on q2 (fun j hj => by have := HF1.out.2; simp at hj; omega)⟩
        go_upto_region 8 with fail
        rw [HW4.out, ← hQ]
        clear HW4 hQ
        go_wp2_with fail
        go_roundw
        case rel => exact ⟨i + 1, true, g', i, m', bo', Lb', cb', ho', Lh', ch', bs', hs', rfl, rfl, rfl, by simp, by omega, hg62', by omega, HN, HP.out.1, HP.out.2.1, HP.out.2.2⟩
        case measure => simp [RowKit.intOf]; omega
      · have htk' : ¬ (g : Int) < (g' : Int) := by omega
        have HN : Hid (Fnd t.s0 t.s1 (i + 1) ok g sl m bs (hs.map Hd.kv)) := HFd.out.pass hi HW.out (by omega)
        have HP : Hid (SvO w w4 bo Lb cb ho Lh ch bs hs ∧ Fr [] w w4) := ⟨HSv.out.keep HF24.out, HFr.out.then HF24.out⟩
        cases ok' with
        | false =>
          go_upto_region 8 with fail
          rw [HW4.out, ← hQ]
          clear HW4 hQ
          go_wp2_with fail
          go_roundw
          case rel => exact ⟨i + 1, ok, g, sl, m, bo, Lb, cb, ho, Lh, ch, bs, hs, rfl, rfl, rfl, by simp, by omega, hg62, hsl1, HN, HSb4, HP.out.1, HP.out.2⟩
          case measure => simp [RowKit.intOf]; omega
        | true =>
          go_upto_region 8 with fail
          rw [HW4.out, ← hQ]
          clear HW4 hQ
          go_wp2_with fail
          go_roundw
          case rel => exact ⟨i + 1, ok, g, sl, m, bo, Lb, cb, ho, Lh, ch, bs, hs, rfl, rfl, rfl, by simp, by omega, hg62, hsl1, HN, HSb4, HP.out.1, HP.out.2⟩
          case measure => simp [RowKit.intOf]; omega
    · have hlt : ¬ (i : Int) < 2 := by omega
      have HN : Hid (Nw t.s0 t.s1 ok g sl m bs (hs.map Hd.kv)) := by
        rcases HFd.out with ⟨q, _⟩ | ⟨q, _⟩ | ⟨_, q⟩
        · omega
        · omega
        · exact q
      have a0 := HSb.out.c0
      have a1 := HSb.out.c1
      have a2 := HSb.out.c2
      have b0 := HSb.out.fz 0
      have b1 := HSb.out.fz 1
      have b2 := HSb.out.fz 2
      have HLd : Hid ((loadVar 27 ⟨A, 0, none⟩).run Tryz.prog (((wr.setCell ⟨A, 0, none⟩ (.int .i64 m)).setCell ⟨A, 1, none⟩ (.slice bo Lb cb)).setCell ⟨A, 2, none⟩ (.slice ho Lh ch)) = .ok (.agg #[.int .i64 m, .slice bo Lb cb, .slice ho Lh ch]) (((wr.setCell ⟨A, 0, none⟩ (.int .i64 m)).setCell ⟨A, 1, none⟩ (.slice bo Lb cb)).setCell ⟨A, 2, none⟩ (.slice ho Lh ch))) := load_sv (HSb.out.fr0 (.int .i64 m) (.slice bo Lb cb) (.slice ho Lh ch)).1.box
      have HR : Hid (NwP t.s0 t.s1 w (.returned (.tuple #[.agg #[.int .i64 m, .slice bo Lb cb, .slice ho Lh ch], .int .i64 (g : Int), .int .i64 (sl : Int), .bool ok, .int .i64 0])) (((wr.setCell ⟨A, 0, none⟩ (.int .i64 m)).setCell ⟨A, 1, none⟩ (.slice bo Lb cb)).setCell ⟨A, 2, none⟩ (.slice ho Lh ch))) := by
        obtain ⟨q1, q2⟩ := HSb.out.fr0 (.int .i64 m) (.slice bo Lb cb) (.slice ho Lh ch)
        exact ⟨ok, g, sl, m, bo, Lb, cb, ho, Lh, ch, bs, hs, rfl, HN.out, HSv.out.offS HSb.out q2, HFr.out.on q2 (fun j hj => by have := HF1.out.2; simp at hj; omega)⟩
      go_wp2
      refine bodyPost_ret (v := .tuple #[.agg #[.int .i64 m, .slice bo Lb cb, .slice ho Lh ch], .int .i64 (g : Int), .int .i64 (sl : Int), .bool ok, .int .i64 0]) (by rw [results_c4 rfl _ _ _ A _ rfl HLd.out]; rfl) rfl ?_
      exact HR.out
end Go.Proofs.YtdojhkgnnbdfkaaGreat
