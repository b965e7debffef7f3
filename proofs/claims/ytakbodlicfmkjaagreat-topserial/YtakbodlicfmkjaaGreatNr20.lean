/- The region of newMachine that makes the struct: it draws its order. Conditions as each names them. -/
import Derived.Test.YtakbodlicfmkjaaGreatDm20
import Derived.Test.YtakbodlicfmkjaaGreatMk20
import Derived.Test.YtakbodlicfmkjaaGreatTi11
import Derived.Test.YtakbodlicfmkjaaGreatCi13
import Derived.Great.Frames
import Derived.Test.YtakbodlicfmkjaaGreatDr20
namespace Go.Proofs.YtakbodlicfmkjaaGreat.Mk
open Go.ChangeShapes Go.WideShapes Go.ChangeAt Go.RowKit Go.Lib Go.Maps
set_option linter.unusedVariables false
set_option linter.unusedSimpArgs false

def n0 : Oper := { dst := some 36, op := Op.load 23 (Operand.tmp 4), type := 23, pos := "machine.go:48", after := #[], guard := none }
def n1 : Oper := { dst := some 37, op := Op.move (Operand.tmp 2), type := 29, pos := "machine.go:48", after := #[], guard := none }
def n2 : Oper := { dst := some 38, op := Op.move (Operand.tmp 10), type := 65, pos := "machine.go:48", after := #[], guard := none }
def n3 : Oper := { dst := some 39, op := Op.call { callee := Callee.value (Operand.func 57), args := #[], argTypes := #[] }, type := 66, pos := "machine.go:48", after := #[], guard := none }
def n4 : Oper := { dst := some 40, op := Op.makeMap 67 none, type := 67, pos := "machine.go:48", after := #[], guard := none }
def n5 : Oper := { dst := some 41, op := Op.makeMap 75 none, type := 75, pos := "machine.go:48", after := #[], guard := none }
def n6 : Oper := { dst := some 42, op := Op.build 77 #[(0, Operand.tmp 36), (1, Operand.tmp 37), (2, Operand.tmp 38), (3, Operand.tmp 39), (4, Operand.tmp 40), (13, Operand.tmp 41)], type := 77, pos := "machine.go:48", after := #[{ on := 0, ground := Ground.data }, { on := 1, ground := Ground.data }, { on := 2, ground := Ground.data }, { on := 3, ground := Ground.data }, { on := 4, ground := Ground.data }, { on := 5, ground := Ground.data }], guard := none }
def n7 : Oper := { dst := some 43, op := Op.box 77 (Operand.tmp 42), type := 78, pos := "machine.go:48", after := #[{ on := 6, ground := Ground.data }], guard := none }
def n8 : Oper := { dst := some 12, op := Op.assign (Operand.tmp 43), type := 78, pos := "machine.go:48", after := #[{ on := 7, ground := Ground.data }, { on := 3, ground := Ground.chain }, { on := 0, ground := Ground.phase }, { on := 1, ground := Ground.phase }, { on := 2, ground := Ground.phase }, { on := 3, ground := Ground.phase }, { on := 4, ground := Ground.phase }, { on := 5, ground := Ground.phase }, { on := 6, ground := Ground.phase }, { on := 7, ground := Ground.phase }], guard := none }
def ops4 : Array Oper := #[n0, n1, n2, n3, n4, n5, n6, n7, n8]
def dl4 : List Nat := [36, 37, 38, 39, 40, 41, 42, 43, 12]
theorem dst4 : ∀ i, dstOf ops4 i = dl4[i]?
  | 0 => rfl
  | 1 => rfl
  | 2 => rfl
  | 3 => rfl
  | 4 => rfl
  | 5 => rfl
  | 6 => rfl
  | 7 => rfl
  | 8 => rfl
  | n + 9 => by simp [dstOf, ops4, dl4]
theorem o4 : ∀ (i : Nat) (o : Oper), ops4[i]? = some o → (i = 0 ∧ o = n0) ∨ (i = 1 ∧ o = n1) ∨ (i = 2 ∧ o = n2) ∨ (i = 3 ∧ o = n3) ∨ (i = 4 ∧ o = n4) ∨ (i = 5 ∧ o = n5) ∨ (i = 6 ∧ o = n6) ∨ (i = 7 ∧ o = n7) ∨ (i = 8 ∧ o = n8)
  | 0, o, h => by have h2 : some n0 = some o := h; cases h2; simp
  | 1, o, h => by have h2 : some n1 = some o := h; cases h2; simp
  | 2, o, h => by have h2 : some n2 = some o := h; cases h2; simp
  | 3, o, h => by have h2 : some n3 = some o := h; cases h2; simp
  | 4, o, h => by have h2 : some n4 = some o := h; cases h2; simp
  | 5, o, h => by have h2 : some n5 = some o := h; cases h2; simp
  | 6, o, h => by have h2 : some n6 = some o := h; cases h2; simp
  | 7, o, h => by have h2 : some n7 = some o := h; cases h2; simp
  | 8, o, h => by have h2 : some n8 = some o := h; cases h2; simp
  | n + 9, o, h => by simp [ops4] at h
theorem hN4 : ∀ i j d, dstOf ops4 i = some d → dstOf ops4 j = some d → i = j := by
  intro i j d h1 h2
  rw [dst4] at h1 h2
  have hi := (List.getElem?_eq_some_iff.1 h1).1
  have hj := (List.getElem?_eq_some_iff.1 h2).1
  have key : ∀ i, i < 9 → ∀ j, j < 9 → dl4[i]? = dl4[j]? → i = j := by decide
  exact key i hi j hj (h1.trans h2.symm)
theorem hlex4 : ∀ (i : Nat) (o : Oper), ops4[i]? = some o → ∀ e ∈ o.after, Region.binds .any e = true → e.on < i := by
  intro i o h e he hb
  have key : ∀ (k : Nat) (p : Oper), (p.after.all fun e => !Region.binds .any e || decide (e.on < k)) = true → ∀ e ∈ p.after, Region.binds .any e = true → e.on < k := by
    intro k p hp e he hb
    rw [Array.all_eq_true_iff_forall_mem] at hp
    have := hp e he
    simpa [hb] using this
  rcases o4 i o h with ⟨rfl, rfl⟩ | ⟨rfl, rfl⟩ | ⟨rfl, rfl⟩ | ⟨rfl, rfl⟩ | ⟨rfl, rfl⟩ | ⟨rfl, rfl⟩ | ⟨rfl, rfl⟩ | ⟨rfl, rfl⟩ | ⟨rfl, rfl⟩
  · exact key 0 n0 (by simp [n0, Region.binds]) e he hb
  · exact key 1 n1 (by simp [n1, Region.binds]) e he hb
  · exact key 2 n2 (by simp [n2, Region.binds]) e he hb
  · exact key 3 n3 (by simp [n3, Region.binds]) e he hb
  · exact key 4 n4 (by simp [n4, Region.binds]) e he hb
  · exact key 5 n5 (by simp [n5, Region.binds]) e he hb
  · exact key 6 n6 (by simp [n6, Region.binds]) e he hb
  · exact key 7 n7 (by simp [n7, Region.binds]) e he hb
  · exact key 8 n8 (by simp [n8, Region.binds]) e he hb
theorem hg4 {a0 : Act} (hz : a0.tmps.size = 131) : ∀ (i : Nat) (o : Oper), ops4[i]? = some o → o.guard = none ∧ ∃ d, o.dst = some d ∧ d < a0.tmps.size := by
  intro i o h
  rw [hz]
  rcases o4 i o h with ⟨rfl, rfl⟩ | ⟨rfl, rfl⟩ | ⟨rfl, rfl⟩ | ⟨rfl, rfl⟩ | ⟨rfl, rfl⟩ | ⟨rfl, rfl⟩ | ⟨rfl, rfl⟩ | ⟨rfl, rfl⟩ | ⟨rfl, rfl⟩
  · exact ⟨rfl, 36, rfl, by decide⟩
  · exact ⟨rfl, 37, rfl, by decide⟩
  · exact ⟨rfl, 38, rfl, by decide⟩
  · exact ⟨rfl, 39, rfl, by decide⟩
  · exact ⟨rfl, 40, rfl, by decide⟩
  · exact ⟨rfl, 41, rfl, by decide⟩
  · exact ⟨rfl, 42, rfl, by decide⟩
  · exact ⟨rfl, 43, rfl, by decide⟩
  · exact ⟨rfl, 12, rfl, by decide⟩
/-- What stays so of each operation's value. -/
def Ph (c : Cf) (dk : Option Addr) (f b4 : Nat) : Nat → (Nat → Value) → List Nat → World → Prop
  | 0, ρ, B, w => B = [] ∧ ρ 36 = .agg #[.int .i64 c.l, .int .i64 c.s, .int .i64 c.w, .int .i64 c.q]
  | 1, ρ, B, w => B = [] ∧ ρ 37 = .pointer dk
  | 2, ρ, B, w => B = [] ∧ ρ 38 = .pointer (some ⟨f, 0, none⟩)
  | 3, ρ, B, w => ∃ tb, ρ 39 = .pointer (some ⟨tb, 0, none⟩) ∧ Tl w tb B 0 [] (fun _ => False)
  | 4, ρ, B, w => ∃ wb, ρ 40 = .map (some wb) ∧ B = [wb] ∧ MapG kTx w wb 0 (fun _ => none)
  | 5, ρ, B, w => ∃ ab, ρ 41 = .map (some ab) ∧ B = [ab]
  | 6, ρ, B, w => B = [] ∧ ρ 42 = .agg #[.int .i64 c.l, .int .i64 c.s, .int .i64 c.w, .int .i64 c.q, ρ 37, ρ 38, ρ 39, ρ 40, .pointer none, .pointer none, .slice none 0 0, .slice none 0 0, .pointer none, .slice none 0 0, .slice none 0 0, .int .i64 0, ρ 41, .bool false, .bool false]
  | 7, ρ, B, w => ∃ sb cells, ρ 42 = .agg cells ∧ ρ 43 = .pointer (some ⟨sb, 0, none⟩) ∧ B = [sb] ∧ w.heap[sb]? = some (.cells cells 77 (0, 0))
  | 8, ρ, B, w => B = [] ∧ ρ 12 = ρ 43
  | _, ρ, B, w => True
theorem hPh4 (c : Cf) (dk : Option Addr) (f b4 : Nat) : ∀ i ρ ρ' B w w', Fr [] w w' → (∀ t, (dstOf ops4 i = some t ∨ ∃ j, dep ops4 i j = true ∧ dstOf ops4 j = some t) → ρ' t = ρ t) → Ph c dk f b4 i ρ B w → Ph c dk f b4 i ρ' B w'
  | 0, ρ, ρ', B, w, w', hf, hρ, h => by have e36 := hρ 36 (Or.inl rfl); simp only [Ph] at h ⊢; rw [e36]; exact h
  | 1, ρ, ρ', B, w, w', hf, hρ, h => by have e37 := hρ 37 (Or.inl rfl); simp only [Ph] at h ⊢; rw [e37]; exact h
  | 2, ρ, ρ', B, w, w', hf, hρ, h => by have e38 := hρ 38 (Or.inl rfl); simp only [Ph] at h ⊢; rw [e38]; exact h
  | 3, ρ, ρ', B, w, w', hf, hρ, h => by have e39 := hρ 39 (Or.inl rfl); simp only [Ph] at h ⊢; rw [e39]; obtain ⟨tb, h1, h2⟩ := h; exact ⟨tb, h1, h2.keep hf (by simp)⟩
  | 4, ρ, ρ', B, w, w', hf, hρ, h => by have e40 := hρ 40 (Or.inl rfl); simp only [Ph] at h ⊢; rw [e40]; obtain ⟨b, h1, h2, h3⟩ := h; exact ⟨b, h1, h2, h3.keep hf (by simp)⟩
  | 5, ρ, ρ', B, w, w', hf, hρ, h => by have e41 := hρ 41 (Or.inl rfl); simp only [Ph] at h ⊢; rw [e41]; exact h
  | 6, ρ, ρ', B, w, w', hf, hρ, h => by have e37 := hρ 37 (Or.inr ⟨1, by simp [dep, ops4, n6, Region.binds], by rfl⟩); have e38 := hρ 38 (Or.inr ⟨2, by simp [dep, ops4, n6, Region.binds], by rfl⟩); have e39 := hρ 39 (Or.inr ⟨3, by simp [dep, ops4, n6, Region.binds], by rfl⟩); have e40 := hρ 40 (Or.inr ⟨4, by simp [dep, ops4, n6, Region.binds], by rfl⟩); have e41 := hρ 41 (Or.inr ⟨5, by simp [dep, ops4, n6, Region.binds], by rfl⟩); have e42 := hρ 42 (Or.inl rfl); simp only [Ph] at h ⊢; rw [e37, e38, e39, e40, e41, e42]; exact h
  | 7, ρ, ρ', B, w, w', hf, hρ, h => by have e42 := hρ 42 (Or.inr ⟨6, by simp [dep, ops4, n7, Region.binds], by rfl⟩); have e43 := hρ 43 (Or.inl rfl); simp only [Ph] at h ⊢; rw [e42, e43]; obtain ⟨b, cs, h1, h2, h3, h4⟩ := h; exact ⟨b, cs, h1, h2, h3, hf.keep h4 (by simp)⟩
  | 8, ρ, ρ', B, w, w', hf, hρ, h => by have e12 := hρ 12 (Or.inl rfl); have e43 := hρ 43 (Or.inr ⟨7, by simp [dep, ops4, n8, Region.binds], by rfl⟩); simp only [Ph] at h ⊢; rw [e12, e43]; exact h
  | n + 9, ρ, ρ', B, w, w', hf, hρ, h => trivial
section
variable (ρ : Operand → Value) (w : World) {c : Cf} {dk : Option Addr} {f b4 : Nat}
theorem rn0 (h : ρ (.tmp 4) = .pointer (some ⟨b4, 0, none⟩)) (c0 : w.cell? ⟨b4, 0, none⟩ = some (.int .i64 c.l)) (c1 : w.cell? ⟨b4, 1, none⟩ = some (.int .i64 c.s)) (c2 : w.cell? ⟨b4, 2, none⟩ = some (.int .i64 c.w)) (c3 : w.cell? ⟨b4, 3, none⟩ = some (.int .i64 c.q)) : (execOp ρ n0).run Tryz.prog w = .ok (.value (.agg #[.int .i64 c.l, .int .i64 c.s, .int .i64 c.w, .int .i64 c.q])) w := by
  unfold n0
  go_simp
theorem rn1 : (execOp ρ n1).run Tryz.prog w = .ok (.value (ρ (.tmp 2))) w := by
  unfold n1
  go_simp
theorem rn2 : (execOp ρ n2).run Tryz.prog w = .ok (.value (ρ (.tmp 10))) w := by
  unfold n2
  go_simp
theorem rn3 (h : ρ (.func 57) = .func (.func 57) #[] #[]) : (execOp ρ n3).run Tryz.prog w = .ok (.enter 57 #[]) w := by
  unfold n3
  go_simp
theorem rn4 : (execOp ρ n4).run Tryz.prog w = .ok (.value (.map (some w.heap.size))) (w.alloc (.map #[] 0)) := by
  have hm := @run_makeMap Tryz.prog
  unfold n4
  go_simp
theorem rn5 : (execOp ρ n5).run Tryz.prog w = .ok (.value (.map (some w.heap.size))) (w.alloc (.map #[] 0)) := by
  have hm := @run_makeMap Tryz.prog
  unfold n5
  go_simp
theorem rn6 {tb wb ab : Nat} (h36 : ρ (.tmp 36) = .agg #[.int .i64 c.l, .int .i64 c.s, .int .i64 c.w, .int .i64 c.q]) (h37 : ρ (.tmp 37) = .pointer dk) (h38 : ρ (.tmp 38) = .pointer (some ⟨f, 0, none⟩)) (h39 : ρ (.tmp 39) = .pointer (some ⟨tb, 0, none⟩)) (h40 : ρ (.tmp 40) = .map (some wb)) (h41 : ρ (.tmp 41) = .map (some ab)) :
    (execOp ρ n6).run Tryz.prog w = .ok (.value (.agg #[.int .i64 c.l, .int .i64 c.s, .int .i64 c.w, .int .i64 c.q, .pointer dk, .pointer (some ⟨f, 0, none⟩), .pointer (some ⟨tb, 0, none⟩), .map (some wb), .pointer none, .pointer none, .slice none 0 0, .slice none 0 0, .pointer none, .slice none 0 0, .slice none 0 0, .int .i64 0, .map (some ab), .bool false, .bool false])) w := by
  unfold n6
  go_simp
theorem rn7 (cells : Array Value) (h : ρ (.tmp 42) = .agg cells) : (execOp ρ n7).run Tryz.prog w = .ok (.value (.pointer (some ⟨w.heap.size, 0, none⟩))) (w.alloc (.cells cells 77)) := by
  unfold n7
  go_simp
theorem rn8 : (execOp ρ n8).run Tryz.prog w = .ok (.value (ρ (.tmp 43))) w := by
  unfold n8
  go_simp
end
theorem wp_val {P : Program} {o : Oper} {a : Act} {w w' : World} {v : Value} {K : Act → World → Prop} {Q : Exit → Act → World → Prop} (hr : (execOp a.eval o).run P w = .ok (.value v) w') (h : K (a.put o.dst v) w') : o.wp P a w K Q := by
  unfold Oper.wp
  rw [hr]
  exact h
theorem env_same {a : Act} {d : Nat} {v : Value} (h : d < a.tmps.size) : env (a.put (some d) v) d = v := Act.eval_put_same a d v h
theorem env_ne {a : Act} {d j : Nat} {v : Value} (h : d ≠ j) : env (a.put (some d) v) j = env a j := Act.eval_put_ne a d j v h
set_option maxHeartbeats 2000000 in
set_option maxRecDepth 100000 in
theorem hs4 {Q : Exit → Act → World → Prop} {a0 : Act} {w0 : World} {c : Cf} {dk : Option Addr} {f b4 : Nat} (hz : a0.tmps.size = 131) (t2 : env a0 2 = .pointer dk) (t4 : env a0 4 = .pointer (some ⟨b4, 0, none⟩)) (t10 : env a0 10 = .pointer (some ⟨f, 0, none⟩))
    (hcf : CfM w0 b4 c.l c.s c.w c.q) : Mkg Tryz.prog ops4 Q a0 w0 (Ph c dk f b4) := by
  intro i o ho a w hza hf hsame hdep
  have hno : ∀ t, t ∉ dl4 → env a t = env a0 t := fun t ht => hsame t (fun j hj => by rw [dst4] at hj; exact ht (List.mem_of_getElem? hj))
  have s2 : env a 2 = .pointer dk := (hno 2 (by decide)).trans t2
  have s4 : env a 4 = .pointer (some ⟨b4, 0, none⟩) := (hno 4 (by decide)).trans t4
  have s10 : env a 10 = .pointer (some ⟨f, 0, none⟩) := (hno 10 (by decide)).trans t10
  have hsz : ∀ d, d < 131 → d < a.tmps.size := fun d hd => by rw [hza, hz]; exact hd
  obtain ⟨_, k0, k1, k2, k3⟩ := hcf.keep hf
  rcases o4 i o ho with ⟨rfl, rfl⟩ | ⟨rfl, rfl⟩ | ⟨rfl, rfl⟩ | ⟨rfl, rfl⟩ | ⟨rfl, rfl⟩ | ⟨rfl, rfl⟩ | ⟨rfl, rfl⟩ | ⟨rfl, rfl⟩ | ⟨rfl, rfl⟩
  · exact wp_val (rn0 _ _ s4 k0 k1 k2 k3) ⟨_, [], rfl, Fr.refl _ _, ⟨rfl, env_same (hsz 36 (by omega))⟩, by simp⟩
  · exact wp_val (rn1 _ _) ⟨_, [], rfl, Fr.refl _ _, ⟨rfl, (env_same (hsz 37 (by omega))).trans s2⟩, by simp⟩
  · exact wp_val (rn2 _ _) ⟨_, [], rfl, Fr.refl _ _, ⟨rfl, (env_same (hsz 38 (by omega))).trans s10⟩, by simp⟩
  · unfold Oper.wp
    rw [rn3 _ _ rfl]
    refine Calls.mono (tl_new w) ?_
    rintro e w' ⟨tb, B, rfl, hT, hB, hf'⟩
    exact ⟨_, B, rfl, hf', ⟨tb, env_same (hsz 39 (by omega)), hT⟩, fun x hx => ⟨hB x hx, hT.mine x hx⟩⟩
  · exact wp_val (rn4 _ _) ⟨_, [w.heap.size], rfl, Fr.alloc _ _ _, ⟨_, env_same (hsz 40 (by omega)), rfl, MapG.made w⟩, by simp⟩
  · exact wp_val (rn5 _ _) ⟨_, [w.heap.size], rfl, Fr.alloc _ _ _, ⟨_, env_same (hsz 41 (by omega)), rfl⟩, by simp⟩
  · obtain ⟨_, _, h36⟩ := hdep 0 (by simp [dep, ops4, n6, Region.binds])
    obtain ⟨_, _, h37⟩ := hdep 1 (by simp [dep, ops4, n6, Region.binds])
    obtain ⟨_, _, h38⟩ := hdep 2 (by simp [dep, ops4, n6, Region.binds])
    obtain ⟨_, tb, h39, _⟩ := hdep 3 (by simp [dep, ops4, n6, Region.binds])
    obtain ⟨_, wb, h40, _⟩ := hdep 4 (by simp [dep, ops4, n6, Region.binds])
    obtain ⟨_, ab, h41, _⟩ := hdep 5 (by simp [dep, ops4, n6, Region.binds])
    refine wp_val (rn6 _ _ h36 h37 h38 h39 h40 h41) ⟨_, [], rfl, Fr.refl _ _, ⟨rfl, ?_⟩, by simp⟩
    show env (a.put (some 42) _) 42 = .agg #[.int .i64 c.l, .int .i64 c.s, .int .i64 c.w, .int .i64 c.q, env (a.put (some 42) _) 37, env (a.put (some 42) _) 38, env (a.put (some 42) _) 39, env (a.put (some 42) _) 40, .pointer none, .pointer none, .slice none 0 0, .slice none 0 0, .pointer none, .slice none 0 0, .slice none 0 0, .int .i64 0, env (a.put (some 42) _) 41, .bool false, .bool false]
    rw [env_same (hsz 42 (by omega)), env_ne (by decide), env_ne (by decide), env_ne (by decide), env_ne (by decide), env_ne (by decide), h37, h38, h39, h40, h41]
  · obtain ⟨_, _, h42⟩ := hdep 6 (by simp [dep, ops4, n7, Region.binds])
    refine wp_val (rn7 _ _ _ h42) ⟨_, [w.heap.size], rfl, Fr.alloc _ _ _, ⟨_, _, (env_ne (by decide)).trans h42, env_same (hsz 43 (by omega)), rfl, heap_alloc_new _ _⟩, by simp⟩
  · refine wp_val (rn8 _ _) ⟨_, [], rfl, Fr.refl _ _, ⟨rfl, ?_⟩, by simp⟩
    exact (env_same (hsz 12 (by omega))).trans (env_ne (by decide)).symm
/-- What the region leaves. -/
structure MadeM (w0 w : World) (c : Cf) (dk : Option Addr) (f : Nat) (mv : Value) (mb tb wb ab : Nat) (B : List Nat) : Prop where
  mv : mv = .pointer (some ⟨mb, 0, none⟩)
  fr : Fr [] w0 w
  box : w.heap[mb]? = some (.cells #[.int .i64 c.l, .int .i64 c.s, .int .i64 c.w, .int .i64 c.q, .pointer dk, .pointer (some ⟨f, 0, none⟩), .pointer (some ⟨tb, 0, none⟩), .map (some wb), .pointer none, .pointer none, .slice none 0 0, .slice none 0 0, .pointer none, .slice none 0 0, .slice none 0 0, .int .i64 0, .map (some ab), .bool false, .bool false] 77 (0, 0))
  tl : Tl w tb B 0 [] (fun _ => False)
  mp : MapG kTx w wb 0 (fun _ => none)
  nm : w0.heap.size ≤ mb
  nw : w0.heap.size ≤ wb
  nB : ∀ j ∈ B, w0.heap.size ≤ j
  a1 : wb ∉ B
  a2 : mb ∉ B
  a3 : mb ≠ wb
/-- The struct's cells. -/
def mcl (c : Cf) (dk : Option Addr) (f tb wb ab : Nat) : Array Value := #[.int .i64 c.l, .int .i64 c.s, .int .i64 c.w, .int .i64 c.q, .pointer dk, .pointer (some ⟨f, 0, none⟩), .pointer (some ⟨tb, 0, none⟩), .map (some wb), .pointer none, .pointer none, .slice none 0 0, .slice none 0 0, .pointer none, .slice none 0 0, .slice none 0 0, .int .i64 0, .map (some ab), .bool false, .bool false]
/-- The slots behind it. -/
def prs (c : Cf) (dk : Option Addr) (f mb tb wb ab : Nat) : List (Nat × Value) :=
  [(36, .agg #[.int .i64 c.l, .int .i64 c.s, .int .i64 c.w, .int .i64 c.q]), (37, .pointer dk), (38, .pointer (some ⟨f, 0, none⟩)), (39, .pointer (some ⟨tb, 0, none⟩)), (40, .map (some wb)), (41, .map (some ab)), (42, .agg (mcl c dk f tb wb ab)), (43, .pointer (some ⟨mb, 0, none⟩)), (12, .pointer (some ⟨mb, 0, none⟩))]
set_option maxHeartbeats 2000000 in
set_option maxRecDepth 100000 in
theorem reg4 {Q : Exit → Act → World → Prop} {a0 : Act} {w0 : World} {id : Nat} {c : Cf} {dk : Option Addr} {f b4 : Nat} (hz : a0.tmps.size = 131) (t2 : env a0 2 = .pointer dk) (t4 : env a0 4 = .pointer (some ⟨b4, 0, none⟩)) (t10 : env a0 10 = .pointer (some ⟨f, 0, none⟩))
    (hcf : CfM w0 b4 c.l c.s c.w c.q) (hend : ∀ w mb tb wb ab B, MadeM w0 w c dk f (.pointer (some ⟨mb, 0, none⟩)) mb tb wb ab B → Q .normal (puts a0 (prs c dk f mb tb wb ab)) w) : (Code.region id ops4 true).wp Tryz.prog Q a0 w0 := by
  refine wp_region_made (by kernel_rfl) hN4 (hg4 hz) (hPh4 c dk f b4) (hs4 hz t2 t4 t10 hcf) hlex4 ?_
  intro a w B hfr hsz hdf hsame hP hnew hap
  obtain ⟨_, p0⟩ := hP 0 (by decide)
  obtain ⟨_, p1⟩ := hP 1 (by decide)
  obtain ⟨_, p2⟩ := hP 2 (by decide)
  obtain ⟨tb, p3, q3⟩ := hP 3 (by decide)
  obtain ⟨wb, p4, q4, r4⟩ := hP 4 (by decide)
  obtain ⟨ab, p5, q5⟩ := hP 5 (by decide)
  obtain ⟨_, p6⟩ := hP 6 (by decide)
  obtain ⟨mb, cells, p7, q7, r7, s7⟩ := hP 7 (by decide)
  obtain ⟨_, p8⟩ := hP 8 (by decide)
  rw [p1, p2, p3, p4, p5] at p6
  rw [p6] at p7
  cases p7
  have hw : wb ∈ B 4 := by rw [q4]; simp
  have hm : mb ∈ B 7 := by rw [r7]; simp
  have hM : MadeM w0 w c dk f (.pointer (some ⟨mb, 0, none⟩)) mb tb wb ab (B 3) := ⟨rfl, hfr, s7, q3, r4, (hnew 7 (by decide) mb hm).1, (hnew 4 (by decide) wb hw).1, fun j hj => (hnew 3 (by decide) j hj).1, hap 4 3 (by decide) (by decide) (by decide) wb hw, hap 7 3 (by decide) (by decide) (by decide) mb hm, fun e => hap 7 4 (by decide) (by decide) (by decide) mb hm (by rw [e]; exact hw)⟩
  have hnd : ((prs c dk f mb tb wb ab).map (·.1)).Nodup := by
    show ([36, 37, 38, 39, 40, 41, 42, 43, 12] : List Nat).Nodup
    decide
  have hall : ∀ p ∈ prs c dk f mb tb wb ab, env a p.1 = p.2 ∧ p.1 < 131 := by
    intro p hp
    simp only [prs, List.mem_cons, List.not_mem_nil, or_false] at hp
    rcases hp with rfl | rfl | rfl | rfl | rfl | rfl | rfl | rfl | rfl
    · exact ⟨p0, by simp⟩
    · exact ⟨p1, by simp⟩
    · exact ⟨p2, by simp⟩
    · exact ⟨p3, by simp⟩
    · exact ⟨p4, by simp⟩
    · exact ⟨p5, by simp⟩
    · exact ⟨p6, by simp⟩
    · exact ⟨q7, by simp⟩
    · exact ⟨p8.trans q7, by simp⟩
  have e : a = puts a0 (prs c dk f mb tb wb ab) := by
    refine act_ext (by rw [puts_size]; exact hsz) (by rw [puts_defers]; exact hdf) fun t ht => ?_
    by_cases hx : ∃ p ∈ prs c dk f mb tb wb ab, p.1 = t
    · obtain ⟨p, hp, rfl⟩ := hx
      have h2 := hall p hp
      exact h2.1.trans (puts_at a0 _ p.1 p.2 hnd hp (by rw [hz]; exact h2.2)).symm
    · refine (hsame t (fun j hj => ?_)).trans (puts_other a0 _ t (fun p hp e => hx ⟨p, hp, e⟩)).symm
      rw [dst4] at hj
      have hm := List.mem_of_getElem? hj
      simp only [dl4, List.mem_cons, List.not_mem_nil, or_false] at hm
      apply hx
      rcases hm with rfl | rfl | rfl | rfl | rfl | rfl | rfl | rfl | rfl <;> simp [prs]
  rw [e]
  exact hend w mb tb wb ab (B 3) hM
end Go.Proofs.YtakbodlicfmkjaaGreat.Mk
