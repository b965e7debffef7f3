/- A disk that is not there (nil, or zero), the document's nil disk; both disks side by side. Conditions: fewer than 2^40 raw writes were done. -/
import Derived.Test.YtembflnhhfliaaaGreatDoorRef4
namespace Go.Proofs.YtembflnhhfliaaaGreatDoor
open Go.ChangeShapes Go.WideShapes Go.ChangeAt Go.RowKit Go.Lib

section
variable {w : World} {p : Value}
theorem gone_write (h : Gone w p) (s a : Int) (bo : Option Addr) (M cb : Nat) : Calls Tryz.prog 19 #[p, .int .i64 s, .int .i64 a, .slice bo M cb] w fun e w' => e = .returned (.int .i64 2) ∧ w = w' := by
  go_enter Tryz.func19, Tryz.ntmps19
  go_wp2_with fail
  refine (there_no p _ h).mono ?_
  rintro e w' ⟨rfl, rfl⟩
  go_wp2
  go_ret
  exact ⟨rfl, rfl⟩
theorem gone_clear (h : Gone w p) (s : Int) : Calls Tryz.prog 21 #[p, .int .i64 s] w fun e w' => e = .returned (.int .i64 2) ∧ w = w' := by
  go_enter Tryz.func21, Tryz.ntmps21
  go_wp2_with fail
  refine (there_no p _ h).mono ?_
  rintro e w' ⟨rfl, rfl⟩
  go_wp2
  go_ret
  exact ⟨rfl, rfl⟩
theorem gone_cut (h : Gone w p) (s : Int) : Calls Tryz.prog 23 #[p, .int .i64 s] w fun e w' => e = .returned (.int .i64 2) ∧ w = w' := by
  go_enter Tryz.func23, Tryz.ntmps23
  go_wp2_with fail
  refine (there_no p _ h).mono ?_
  rintro e w' ⟨rfl, rfl⟩
  go_wp2
  go_ret
  exact ⟨rfl, rfl⟩
theorem gone_mend (h : Gone w p) : Calls Tryz.prog 25 #[p] w fun e w' => e = .returned (.int .i64 2) ∧ w = w' := by
  go_enter Tryz.func25, Tryz.ntmps25
  go_wp2_with fail
  refine (there_no p _ h).mono ?_
  rintro e w' ⟨rfl, rfl⟩
  go_wp2
  go_ret
  exact ⟨rfl, rfl⟩
theorem gone_read (h : Gone w p) (s : Int) : Calls Tryz.prog 36 #[p, .int .i64 s] w fun e w' => e = .returned (.tuple #[.slice none 0 0, .int .i64 2]) ∧ w = w' := by
  go_enter Tryz.func36, Tryz.ntmps36
  go_wp2_with fail
  refine (there_no p _ h).mono ?_
  rintro e w' ⟨rfl, rfl⟩
  go_wp2
  go_ret2
  exact ⟨rfl, rfl⟩
theorem gone_dead (h : Gone w p) : Calls Tryz.prog 32 #[p] w fun e w' => e = .returned (.bool false) ∧ w = w' := by
  go_enter Tryz.func32, Tryz.ntmps32
  go_wp2_with fail
  refine (there_no p _ h).mono ?_
  rintro e w' ⟨rfl, rfl⟩
  go_wp2
  go_ret
  exact ⟨rfl, rfl⟩
theorem gone_capacity (h : Gone w p) : Calls Tryz.prog 77 #[p] w fun e w' => e = .returned (.int .i64 0) ∧ w = w' := by
  go_enter Tryz.func77, Tryz.ntmps77
  go_wp2_with fail
  refine (there_no p _ h).mono ?_
  rintro e w' ⟨rfl, rfl⟩
  go_wp2
  go_ret
  exact ⟨rfl, rfl⟩
theorem gone_writes (h : Gone w p) : Calls Tryz.prog 34 #[p] w fun e w' => e = .returned (.int .i64 0) ∧ w = w' := by
  go_enter Tryz.func34, Tryz.ntmps34
  go_wp2_with fail
  refine (there_no p _ h).mono ?_
  rintro e w' ⟨rfl, rfl⟩
  go_wp2
  go_ret
  exact ⟨rfl, rfl⟩
theorem nil_write (s a : Int) (bo : Option Addr) (M cb : Nat) : Calls Tryz.prog 20 #[.pointer none, .int .i64 s, .int .i64 a, .slice bo M cb] w fun e w' => e = .returned (.int .i64 2) ∧ w = w' := by
  go_enter Tryz.func20, Tryz.ntmps20
  go_wp2
  go_ret
  exact ⟨rfl, rfl⟩
theorem nil_clear (s : Int) : Calls Tryz.prog 22 #[.pointer none, .int .i64 s] w fun e w' => e = .returned (.int .i64 2) ∧ w = w' := by
  go_enter Tryz.func22, Tryz.ntmps22
  go_wp2
  go_ret
  exact ⟨rfl, rfl⟩
theorem nil_cut (s : Int) : Calls Tryz.prog 24 #[.pointer none, .int .i64 s] w fun e w' => e = .returned (.int .i64 2) ∧ w = w' := by
  go_enter Tryz.func24, Tryz.ntmps24
  go_wp2
  go_ret
  exact ⟨rfl, rfl⟩
theorem nil_mend : Calls Tryz.prog 26 #[.pointer none] w fun e w' => e = .returned (.int .i64 2) ∧ w = w' := by
  go_enter Tryz.func26, Tryz.ntmps26
  go_wp2
  go_ret
  exact ⟨rfl, rfl⟩
theorem nil_read (s : Int) : Calls Tryz.prog 37 #[.pointer none, .int .i64 s] w fun e w' => e = .returned (.tuple #[.slice none 0 0, .int .i64 2]) ∧ w = w' := by
  go_enter Tryz.func37, Tryz.ntmps37
  go_wp2
  go_ret2
  exact ⟨rfl, rfl⟩
theorem nil_dead : Calls Tryz.prog 33 #[.pointer none] w fun e w' => e = .returned (.bool false) ∧ w = w' := by
  go_enter Tryz.func33, Tryz.ntmps33
  go_wp2
  go_ret
  exact ⟨rfl, rfl⟩
theorem nil_capacity : Calls Tryz.prog 83 #[.pointer none] w fun e w' => e = .returned (.int .i64 0) ∧ w = w' := by
  go_enter Tryz.func83, Tryz.ntmps83
  go_wp2
  go_ret
  exact ⟨rfl, rfl⟩
theorem nil_writes : Calls Tryz.prog 35 #[.pointer none] w fun e w' => e = .returned (.int .i64 0) ∧ w = w' := by
  go_enter Tryz.func35, Tryz.ntmps35
  go_wp2
  go_ret
  exact ⟨rfl, rfl⟩
end

/-- The document's disk, made since w0. -/
structure LR (w0 w : World) (g : Nat) (S : List Nat) (t : Sk) : Prop where
  dk : ∃ v0 v1, Rk w g v0 v1 t ∧ S = dOwn g v0 v1
  new : ∀ k ∈ S, w0.heap.size ≤ k
  ok : t.ok
  fr : Fr [] w0 w
section
variable {w0 w w' : World} {g : Nat} {S : List Nat} {t t' : Sk}
theorem LR.lt (h : LR w0 w g S t) : ∀ k ∈ S, k < w.heap.size := by
  obtain ⟨v0, v1, hD, rfl⟩ := h.dk
  exact hD.lt
theorem LR.keepS {T : List Nat} (h : LR w0 w g S t) (hf : Fr T w w') (hT : ∀ k ∈ T, k ∉ S) (hN : ∀ k ∈ T, w0.heap.size ≤ k) : LR w0 w' g S t := by
  obtain ⟨v0, v1, hD, rfl⟩ := h.dk
  exact ⟨⟨v0, v1, hD.keep hf hT, rfl⟩, h.new, h.ok, h.fr.on hf hN⟩
theorem LR.quiet (h : LR w0 w g S t) (hf : Fr [] w w') : LR w0 w' g S t := h.keepS hf (by simp) (by simp)
theorem LR.step {S' : List Nat} {v0 v1 : Value} (h : LR w0 w g S t) (hT : To S S' w w') (hD : Rk w' g v0 v1 t') (hS : S' = dOwn g v0 v1) (ht : t'.ok) : LR w0 w' g S' t' := by
  refine ⟨⟨v0, v1, hD, hS⟩, ?_, ht, h.fr.on hT.fr h.new⟩
  intro k hk
  rcases hT.grew k hk with h1 | h1
  · exact h.new k h1
  · exact Nat.le_trans h.fr.size h1
theorem LR.apart {bo : Option Addr} {M cb : Nat} {ys : List Nat} (h : LR w0 w g S t) (hB : BArg w0 bo M cb ys) : 0 < M → ∀ a, bo = some a → a.block ∉ S := by
  intro h0 a ha hm
  obtain ⟨b, off, e, hb, _⟩ := hB.lies h0
  rw [e] at ha
  cases ha
  have := h.new _ hm
  simp only at this
  omega
theorem lr_write {s a E : Int} {bo : Option Addr} {M cb : Nat} {ys : List Nat} (h : LR w0 w g S t) (hn : t.n < 2^40) (ha : a ≤ 9223372036854775807) (hB : BArg w bo M cb ys) (hap : 0 < M → ∀ a, bo = some a → a.block ∉ S) (hc : Wrote t s a ys E t') :
    Calls Tryz.prog 20 #[ptr g, .int .i64 s, .int .i64 a, .slice bo M cb] w fun e w' => e = .returned (.int .i64 E) ∧ ∃ S', LR w0 w' g S' t' ∧ To S S' w w' := by
  obtain ⟨v0, v1, hD, hS⟩ := h.dk
  refine (rWrite_any hD h.ok hn ha hB (by rw [← hS]; exact hap) hc).mono ?_
  rintro e w' ⟨rfl, u0, u1, hU, hT⟩
  rw [← hS] at hT
  exact ⟨rfl, _, h.step hT hU rfl (hc.ok h.ok hB.low), hT⟩
theorem lr_clear {s E : Int} (h : LR w0 w g S t) (hn : t.n < 2^40) (hc : Cleared t s E t') :
    Calls Tryz.prog 22 #[ptr g, .int .i64 s] w fun e w' => e = .returned (.int .i64 E) ∧ ∃ S', LR w0 w' g S' t' ∧ To S S' w w' := by
  obtain ⟨v0, v1, hD, hS⟩ := h.dk
  refine (rClear_any hD h.ok hn hc).mono ?_
  rintro e w' ⟨rfl, u0, u1, hU, hT⟩
  rw [← hS] at hT
  exact ⟨rfl, _, h.step hT hU rfl (hc.ok h.ok), hT⟩
theorem lr_mend (h : LR w0 w g S t) :
    Calls Tryz.prog 26 #[ptr g] w fun e w' => e = .returned (.int .i64 0) ∧ ∃ S', LR w0 w' g S' t.mend ∧ To S S' w w' := by
  obtain ⟨v0, v1, hD, hS⟩ := h.dk
  refine (rMend_any hD).mono ?_
  rintro e w' ⟨rfl, hU, hT⟩
  rw [← hS] at hT
  exact ⟨rfl, S, h.step hT hU hS h.ok.mend, hT⟩
theorem lr_read {s E : Int} {xs : List Nat} (h : LR w0 w g S t) (hc : Told t s E xs) :
    Calls Tryz.prog 37 #[ptr g, .int .i64 s] w fun e w' => ∃ ao n cap, e = .returned (.tuple #[.slice ao n cap, .int .i64 E]) ∧ Rs w ao xs ∧ n = xs.length ∧ w = w' := by
  obtain ⟨v0, v1, hD, hS⟩ := h.dk
  exact rRead_any hD h.ok hc
theorem lr_dead (h : LR w0 w g S t) {b : Bool} (hb : t.dd = b) : Calls Tryz.prog 33 #[ptr g] w fun e w' => e = .returned (.bool b) ∧ w = w' := by
  obtain ⟨v0, v1, hD, hS⟩ := h.dk
  exact rDead_any hD hb
theorem lr_writes (h : LR w0 w g S t) {m : Nat} (hm : t.n = m) : Calls Tryz.prog 35 #[ptr g] w fun e w' => e = .returned (.int .i64 (m : Int)) ∧ w = w' := by
  obtain ⟨v0, v1, hD, hS⟩ := h.dk
  rw [← hm]
  exact rWrites_any hD
theorem lr_capacity (h : LR w0 w g S t) {m : Nat} (hm : t.C = m) : Calls Tryz.prog 83 #[ptr g] w fun e w' => e = .returned (.int .i64 (m : Int)) ∧ w = w' := by
  obtain ⟨v0, v1, hD, hS⟩ := h.dk
  rw [← hm]
  exact rCapacity_any hD
/-- What Cut answers, and what the disk is then. -/
inductive CutTo (t : Sk) (n : Int) : Int → Sk → Prop
  | dead (h : t.dd = true) : CutTo t n 11 t
  | done (h : t.dd = false) : CutTo t n 0 (t.cut n)
theorem CutTo.some (t : Sk) (n : Int) : ∃ E t', CutTo t n E t' := by
  cases h : t.dd with
  | true => exact ⟨_, _, .dead h⟩
  | false => exact ⟨_, _, .done h⟩
theorem CutTo.n {n E : Int} (h : CutTo t n E t') : t'.n ≤ t.n + 1 := by cases h <;> simp [Sk.cut]
theorem lr_cut {n E : Int} (h : LR w0 w g S t) (hn : n ≤ 9223372036854775807) (hc : CutTo t n E t') :
    Calls Tryz.prog 24 #[ptr g, .int .i64 n] w fun e w' => e = .returned (.int .i64 E) ∧ ∃ S', LR w0 w' g S' t' ∧ To S S' w w' := by
  obtain ⟨v0, v1, hD, hS⟩ := h.dk
  cases hc with
  | dead hd =>
    refine (rCut_dead hD n hd).mono ?_
    rintro e w' ⟨rfl, rfl⟩
    exact ⟨rfl, S, h, To.refl _ _⟩
  | done hd =>
    refine (rCut_any hD n hd).mono ?_
    rintro e w' ⟨rfl, hU, hT⟩
    rw [← hS] at hT
    exact ⟨rfl, S, h.step hT hU hS (h.ok.cut hn hd), hT⟩
theorem ld_cutTo {n E : Int} (h : LD w0 w g S t) (hn : n ≤ 9223372036854775807) (hc : CutTo t n E t') :
    Calls Tryz.prog 23 #[ptr g, .int .i64 n] w fun e w' => e = .returned (.int .i64 E) ∧ ∃ S', LD w0 w' g S' t' ∧ To S S' w w' := by
  cases hc with
  | dead hd =>
    refine (ld_cut_dead h n hd).mono ?_
    rintro e w' ⟨rfl, rfl⟩
    exact ⟨rfl, S, h, To.refl _ _⟩
  | done hd =>
    refine (ld_cut h n hn hd).mono ?_
    rintro e w' ⟨rfl, hU, hT⟩
    exact ⟨rfl, S, hU, hT⟩
theorem ld_mendTo (h : LD w0 w g S t) :
    Calls Tryz.prog 25 #[ptr g] w fun e w' => e = .returned (.int .i64 0) ∧ ∃ S', LD w0 w' g S' t.mend ∧ To S S' w w' := by
  refine (ld_mend h).mono ?_
  rintro e w' ⟨rfl, hU, hT⟩
  exact ⟨rfl, S, hU, hT⟩
end

/-- Both disks, of one content, apart. -/
structure PR (w0 w : World) (gd gr : Nat) (SD SR : List Nat) (t t2 : Sk) : Prop where
  d : LD w0 w gd SD t
  r : LR w0 w gr SR t2
  ap : ∀ k ∈ SD, k ∉ SR
section
variable {w0 w w' : World} {gd gr : Nat} {SD SR SD' SR' : List Nat} {t t2 t' : Sk}
theorem PR.quiet (h : PR w0 w gd gr SD SR t t2) (hf : Fr [] w w') : PR w0 w' gd gr SD SR t t2 := ⟨h.d.quiet hf, h.r.quiet hf, h.ap⟩
/-- Blocks that are neither's may be written. -/
theorem PR.keepS {T : List Nat} (h : PR w0 w gd gr SD SR t t2) (hf : Fr T w w') (hT : ∀ k ∈ T, k ∉ SD ∧ k ∉ SR) (hN : ∀ k ∈ T, w0.heap.size ≤ k) : PR w0 w' gd gr SD SR t t2 :=
  ⟨h.d.keepS hf (fun k hk => (hT k hk).1) hN, h.r.keepS hf (fun k hk => (hT k hk).2) hN, h.ap⟩
theorem PR.stepD (h : PR w0 w gd gr SD SR t t2) (hD : LD w0 w' gd SD' t') (hT : To SD SD' w w') : PR w0 w' gd gr SD' SR t' t2 := by
  refine ⟨hD, h.r.keepS hT.fr h.ap h.d.new, fun k hk hm => ?_⟩
  rcases hT.grew k hk with h1 | h1
  · exact h.ap k h1 hm
  · have := h.r.lt k hm
    omega
theorem PR.stepR (h : PR w0 w gd gr SD SR t t2) (hR : LR w0 w' gr SR' t') (hT : To SR SR' w w') : PR w0 w' gd gr SD SR' t t' := by
  refine ⟨h.d.keepS hT.fr (fun k hk hm => h.ap k hm hk) h.r.new, hR, fun k hk hm => ?_⟩
  rcases hT.grew k hm with h1 | h1
  · exact h.ap k hk h1
  · have := h.d.lt k hk
    omega
theorem To.left {S S' T : List Nat} {a b : World} (h : To S S' a b) : To (S ++ T) (S' ++ T) a b :=
  ⟨h.fr.mono (fun k hk _ => List.mem_append_left _ hk), fun k hk => by
    rcases List.mem_append.1 hk with h1 | h1
    · rcases h.grew k h1 with h2 | h2
      · exact Or.inl (List.mem_append_left _ h2)
      · exact Or.inr h2
    · exact Or.inl (List.mem_append_right _ h1)⟩
theorem To.right {S S' T : List Nat} {a b : World} (h : To S S' a b) : To (T ++ S) (T ++ S') a b :=
  ⟨h.fr.mono (fun k hk _ => List.mem_append_right _ hk), fun k hk => by
    rcases List.mem_append.1 hk with h1 | h1
    · exact Or.inl (List.mem_append_left _ h1)
    · rcases h.grew k h1 with h2 | h2
      · exact Or.inl (List.mem_append_right _ h2)
      · exact Or.inr h2⟩
theorem To.quiet {S : List Nat} {a b : World} (h : Fr [] a b) : To S S a b := To.same h (by simp)
end
end Go.Proofs.YtembflnhhfliaaaGreatDoor
