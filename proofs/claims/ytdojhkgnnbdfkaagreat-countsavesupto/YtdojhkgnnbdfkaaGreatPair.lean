/- A disk that is not there (nil, or zero), the document's nil disk; both disks side by side. Conditions: fewer than 2^40 raw writes were done. -/
import Derived.Test.YtdojhkgnnbdfkaaGreatRef4
namespace Go.Proofs.YtdojhkgnnbdfkaaGreat
open Go.ChangeShapes Go.WideShapes Go.ChangeAt Go.RowKit Go.Lib

section
variable {w : World} {p : Value}
theorem gone_write (h : Gone w p) (s a : Int) (bo : Option Addr) (M cb : Nat) : Calls Tryz.prog 97 #[p, .int .i64 s, .int .i64 a, .slice bo M cb] w fun e w' => e = .returned (.int .i64 2) ∧ w = w' := by
  go_enter Tryz.func97, Tryz.ntmps97
  go_wp2_with fail
  refine (there_no p _ h).mono ?_
  rintro e w' ⟨rfl, rfl⟩
  go_wp2
  go_ret
  exact ⟨rfl, rfl⟩
theorem gone_clear (h : Gone w p) (s : Int) : Calls Tryz.prog 96 #[p, .int .i64 s] w fun e w' => e = .returned (.int .i64 2) ∧ w = w' := by
  go_enter Tryz.func96, Tryz.ntmps96
  go_wp2_with fail
  refine (there_no p _ h).mono ?_
  rintro e w' ⟨rfl, rfl⟩
  go_wp2
  go_ret
  exact ⟨rfl, rfl⟩
theorem gone_read (h : Gone w p) (s : Int) : Calls Tryz.prog 70 #[p, .int .i64 s] w fun e w' => e = .returned (.tuple #[.slice none 0 0, .int .i64 2]) ∧ w = w' := by
  go_enter Tryz.func70, Tryz.ntmps70
  go_wp2_with fail
  refine (there_no p _ h).mono ?_
  rintro e w' ⟨rfl, rfl⟩
  go_wp2
  go_ret2
  exact ⟨rfl, rfl⟩
theorem gone_capacity (h : Gone w p) : Calls Tryz.prog 51 #[p] w fun e w' => e = .returned (.int .i64 0) ∧ w = w' := by
  go_enter Tryz.func51, Tryz.ntmps51
  go_wp2_with fail
  refine (there_no p _ h).mono ?_
  rintro e w' ⟨rfl, rfl⟩
  go_wp2
  go_ret
  exact ⟨rfl, rfl⟩
theorem nil_read (s : Int) : Calls Tryz.prog 60 #[.pointer none, .int .i64 s] w fun e w' => e = .returned (.tuple #[.slice none 0 0, .int .i64 2]) ∧ w = w' := by
  go_enter Tryz.func60, Tryz.ntmps60
  go_wp2
  go_ret2
  exact ⟨rfl, rfl⟩
theorem nil_capacity : Calls Tryz.prog 38 #[.pointer none] w fun e w' => e = .returned (.int .i64 0) ∧ w = w' := by
  go_enter Tryz.func38, Tryz.ntmps38
  go_wp2
  go_ret
  exact ⟨rfl, rfl⟩
end

/-- The document's disk, made since w0. -/
structure LR (w0 w : World) (g : Nat) (S : List Nat) (t : Sk) : Prop where
  dk : ∃ v0 v1, Rk w g v0 v1 t ∧ S = dOwn g v0 v1
  new : ∀ k ∈ S, w0.heap.size ≤ k
  ok : t.ok
  fr : Fr [] w0 w
section
variable {w0 w w' : World} {g : Nat} {S : List Nat} {t t' : Sk}
theorem LR.lt (h : LR w0 w g S t) : ∀ k ∈ S, k < w.heap.size := by
  obtain ⟨v0, v1, hD, rfl⟩ := h.dk
  exact hD.lt
theorem LR.keepS {T : List Nat} (h : LR w0 w g S t) (hf : Fr T w w') (hT : ∀ k ∈ T, k ∉ S) (hN : ∀ k ∈ T, w0.heap.size ≤ k) : LR w0 w' g S t := by
  obtain ⟨v0, v1, hD, rfl⟩ := h.dk
  exact ⟨⟨v0, v1, hD.keep hf hT, rfl⟩, h.new, h.ok, h.fr.on hf hN⟩
theorem LR.quiet (h : LR w0 w g S t) (hf : Fr [] w w') : LR w0 w' g S t := h.keepS hf (by simp) (by simp)
theorem LR.step {S' : List Nat} {v0 v1 : Value} (h : LR w0 w g S t) (hT : To S S' w w') (hD : Rk w' g v0 v1 t') (hS : S' = dOwn g v0 v1) (ht : t'.ok) : LR w0 w' g S' t' := by
  refine ⟨⟨v0, v1, hD, hS⟩, ?_, ht, h.fr.on hT.fr h.new⟩
  intro k hk
  rcases hT.grew k hk with h1 | h1
  · exact h.new k h1
  · exact Nat.le_trans h.fr.size h1
theorem LR.apart {bo : Option Addr} {M cb : Nat} {ys : List Nat} (h : LR w0 w g S t) (hB : BArg w0 bo M cb ys) : 0 < M → ∀ a, bo = some a → a.block ∉ S := by
  intro h0 a ha hm
  obtain ⟨b, off, e, hb, _⟩ := hB.lies h0
  rw [e] at ha
  cases ha
  have := h.new _ hm
  simp only at this
  omega
theorem lr_read {s E : Int} {xs : List Nat} (h : LR w0 w g S t) (hc : Told t s E xs) :
    Calls Tryz.prog 60 #[ptr g, .int .i64 s] w fun e w' => ∃ ao n cap, e = .returned (.tuple #[.slice ao n cap, .int .i64 E]) ∧ Rs w ao xs ∧ n = xs.length ∧ w = w' := by
  obtain ⟨v0, v1, hD, hS⟩ := h.dk
  exact rRead_any hD h.ok hc
theorem lr_capacity (h : LR w0 w g S t) {m : Nat} (hm : t.C = m) : Calls Tryz.prog 38 #[ptr g] w fun e w' => e = .returned (.int .i64 (m : Int)) ∧ w = w' := by
  obtain ⟨v0, v1, hD, hS⟩ := h.dk
  rw [← hm]
  exact rCapacity_any hD
/-- What Cut answers, and what the disk is then. -/
inductive CutTo (t : Sk) (n : Int) : Int → Sk → Prop
  | dead (h : t.dd = true) : CutTo t n 11 t
  | done (h : t.dd = false) : CutTo t n 0 (t.cut n)
theorem CutTo.some (t : Sk) (n : Int) : ∃ E t', CutTo t n E t' := by
  cases h : t.dd with
  | true => exact ⟨_, _, .dead h⟩
  | false => exact ⟨_, _, .done h⟩
theorem CutTo.n {n E : Int} (h : CutTo t n E t') : t'.n ≤ t.n + 1 := by cases h <;> simp [Sk.cut]
end

/-- Both disks, of one content, apart. -/
structure PR (w0 w : World) (gd gr : Nat) (SD SR : List Nat) (t t2 : Sk) : Prop where
  d : LD w0 w gd SD t
  r : LR w0 w gr SR t2
  ap : ∀ k ∈ SD, k ∉ SR
section
variable {w0 w w' : World} {gd gr : Nat} {SD SR SD' SR' : List Nat} {t t2 t' : Sk}
theorem PR.quiet (h : PR w0 w gd gr SD SR t t2) (hf : Fr [] w w') : PR w0 w' gd gr SD SR t t2 := ⟨h.d.quiet hf, h.r.quiet hf, h.ap⟩
/-- Blocks that are neither's may be written. -/
theorem PR.keepS {T : List Nat} (h : PR w0 w gd gr SD SR t t2) (hf : Fr T w w') (hT : ∀ k ∈ T, k ∉ SD ∧ k ∉ SR) (hN : ∀ k ∈ T, w0.heap.size ≤ k) : PR w0 w' gd gr SD SR t t2 :=
  ⟨h.d.keepS hf (fun k hk => (hT k hk).1) hN, h.r.keepS hf (fun k hk => (hT k hk).2) hN, h.ap⟩
theorem PR.stepD (h : PR w0 w gd gr SD SR t t2) (hD : LD w0 w' gd SD' t') (hT : To SD SD' w w') : PR w0 w' gd gr SD' SR t' t2 := by
  refine ⟨hD, h.r.keepS hT.fr h.ap h.d.new, fun k hk hm => ?_⟩
  rcases hT.grew k hk with h1 | h1
  · exact h.ap k h1 hm
  · have := h.r.lt k hm
    omega
theorem PR.stepR (h : PR w0 w gd gr SD SR t t2) (hR : LR w0 w' gr SR' t') (hT : To SR SR' w w') : PR w0 w' gd gr SD SR' t t' := by
  refine ⟨h.d.keepS hT.fr (fun k hk hm => h.ap k hm hk) h.r.new, hR, fun k hk hm => ?_⟩
  rcases hT.grew k hm with h1 | h1
  · exact h.ap k hk h1
  · have := h.d.lt k hk
    omega
theorem To.left {S S' T : List Nat} {a b : World} (h : To S S' a b) : To (S ++ T) (S' ++ T) a b :=
  ⟨h.fr.mono (fun k hk _ => List.mem_append_left _ hk), fun k hk => by
    rcases List.mem_append.1 hk with h1 | h1
    · rcases h.grew k h1 with h2 | h2
      · exact Or.inl (List.mem_append_left _ h2)
      · exact Or.inr h2
    · exact Or.inl (List.mem_append_right _ h1)⟩
theorem To.right {S S' T : List Nat} {a b : World} (h : To S S' a b) : To (T ++ S) (T ++ S') a b :=
  ⟨h.fr.mono (fun k hk _ => List.mem_append_right _ hk), fun k hk => by
    rcases List.mem_append.1 hk with h1 | h1
    · exact Or.inl (List.mem_append_left _ h1)
    · rcases h.grew k h1 with h2 | h2
      · exact Or.inl (List.mem_append_right _ h2)
      · exact Or.inr h2⟩
theorem To.quiet {S : List Nat} {a b : World} (h : Fr [] a b) : To S S a b := To.same h (by simp)
end
end Go.Proofs.YtdojhkgnnbdfkaaGreat
