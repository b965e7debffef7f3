/- Marks laid into a row one by one; kinds of lists. Conditions as each lemma names them. -/
import Derived.Test.YtfhfjplhfjlpaaaDoorBq2
import Derived.Laws.ResultCell
import Derived.Deep.Quiet
namespace Go.Proofs.YtfhfjplhfjlpaaaDoor.Bq
open Go.ChangeShapes Go.WideShapes Go.ChangeAt Go.RowKit Go.Lib
set_option linter.unusedVariables false

theorem fstep1 (X a : Value) (R : List Value) (k : Nat) : (marks [X] k ++ a :: R).set k X = marks [X] (k + 1) ++ R := by
  have hl : (marks [X] k).length = k := by rw [marks_length]; simp
  rw [List.set_append_right _ _ (by omega), hl, Nat.sub_self, marks_succ]
  simp
theorem fstep2 (X Y a b : Value) (R : List Value) (k : Nat) : ((marks [X, Y] k ++ a :: b :: R).set (k * 2) X).set (k * 2 + 1) Y = marks [X, Y] (k + 1) ++ R := by
  have hl : (marks [X, Y] k).length = k * 2 := by rw [marks_length]; rfl
  rw [List.set_append_right _ _ (by omega), hl, Nat.sub_self, List.set_append_right _ _ (by omega), hl, show k * 2 + 1 - k * 2 = 1 by omega, marks_succ]
  simp
theorem fstep3 (X Y Z a b c : Value) (R : List Value) (k : Nat) : (((marks [X, Y, Z] k ++ a :: b :: c :: R).set (k * 3) X).set (k * 3 + 1) Y).set (k * 3 + 2) Z = marks [X, Y, Z] (k + 1) ++ R := by
  have hl : (marks [X, Y, Z] k).length = k * 3 := by rw [marks_length]; rfl
  rw [List.set_append_right _ _ (by omega), hl, Nat.sub_self, List.set_append_right _ _ (by omega), hl, show k * 3 + 1 - k * 3 = 1 by omega, List.set_append_right _ _ (by omega), hl, show k * 3 + 2 - k * 3 = 2 by omega, marks_succ]
  simp
theorem fmore1 {R : List Value} {n k : Nat} (hk : k < n) (h : R.length = (n - k) * 1) : ∃ a S, R = a :: S ∧ S.length = (n - (k + 1)) * 1 := by
  match R, h with
  | a :: S, h => exact ⟨a, S, rfl, by simp at h ⊢; omega⟩
  | [], h => simp at h; omega
theorem fmore2 {R : List Value} {n k : Nat} (hk : k < n) (h : R.length = (n - k) * 2) : ∃ a b S, R = a :: b :: S ∧ S.length = (n - (k + 1)) * 2 := by
  match R, h with
  | a :: b :: S, h => exact ⟨a, b, S, rfl, by simp at h ⊢; omega⟩
  | [], h => simp at h; omega
  | [_], h => simp at h; omega
theorem fmore3 {R : List Value} {n k : Nat} (hk : k < n) (h : R.length = (n - k) * 3) : ∃ a b c S, R = a :: b :: c :: S ∧ S.length = (n - (k + 1)) * 3 := by
  match R, h with
  | a :: b :: c :: S, h => exact ⟨a, b, c, S, rfl, by simp at h ⊢; omega⟩
  | [], h => simp at h; omega
  | [_], h => simp at h; omega
  | [_, _], h => simp at h; omega
/-- What lies behind the marks, cell by cell. -/
theorem behind {w : World} {e : TypeId} {t n cap size k : Nat} {x R : List Value} (hx : x.length = size) (hO : w.ownsRow 0 e size (.slice (some ⟨t, 0, none⟩) n cap) n (marks x k ++ R)) (j : Nat) (u : Value) (hj : R[j]? = some u) : w.cell? ⟨t, k * size + j, none⟩ = some u := by
  have hl : (marks x k).length = k * size := by rw [marks_length, hx]
  have hlen := hO.1
  have hjl := (List.getElem?_eq_some_iff.1 hj).1
  rw [List.length_append, hl] at hlen
  rw [hO.cellAt (k * size + j) (by omega), List.getElem?_append_right (by omega), hl, Nat.add_sub_cancel_left]
  exact hj
theorem res_c1 {fn : Func} {p : Tmp} {t : TypeId} (h : fn.results = #[.cell p t]) (tmps : Array Value) (P : Program) (w : World) :
    (results fn tmps).run P w = ((asAddr (tmps.getD p undef)).run P w).andThen fun a w₁ => (loadVar t a).run P w₁ := by
  simp only [results, h]
  simp [Sem.run_bind, Result.andThen]

theorem GIn.keep {K : Kd} {w1 w w' : World} {l v : Value} {n M k : Nat} (h : GIn K w1 l n M k v w) (hf : Fr [] w w') : GIn K w1 l n M k v w' :=
  ⟨owns_keep h.own hf (by simp), h.rds.keep hf (by simp), h.fr.trans hf (fun x hx _ => hx) (by simp), h.plc⟩
/-- The kinds of lists. -/
def mByte (n : Nat) : Nat := 1 + n % 255
def mInt (n : Nat) : Int := -1000 - (n : Int)
abbrev kByte : Kd := { tH := 75, tE := 5, S := 1, mark := fun n => [.int .u8 (mByte n : Int)], col := 1, pos := by decide, len := fun _ => rfl, hE := by decide, hB := by decide, eB := by decide }
abbrev kInt : Kd := { tH := 72, tE := 3, S := 1, mark := fun n => [.int .i64 (mInt n)], col := 2, pos := by decide, len := fun _ => rfl, hE := by decide, hB := by decide, eB := by decide }
abbrev kTxn : Kd := { tH := 102, tE := 104, S := 2, mark := fun n => [.int .i64 (mInt n), .slice none 0 0], col := 7, pos := by decide, len := fun _ => rfl, hE := by decide, hB := by decide, eB := by decide }
set_option maxHeartbeats 1000000 in
theorem markByte_at (n B : Nat) (w : World) (hn : n < 4194304) (hB : mByte n = B) : Calls Tryd.prog 62 #[.int .i64 (n : Int)] w fun e w' => e = .returned (.int .u8 (B : Int)) ∧ Fr [] w w' := by
  have h1 : (1 + (n : Int) % 255) % 256 = ((1 + n % 255 : Nat) : Int) := by omega
  have HM : Hid ((1 + n % 255 : Nat) = B) := hB
  clear hB
  go_enter Tryd.func62, Tryd.ntmps62
  go_wp2
  go_ret
  rw [← HM.out]
  exact ⟨rfl, Fr.refl _ _⟩
set_option maxHeartbeats 1000000 in
theorem markInt_at (n : Nat) (B : Int) (w : World) (hn : n < 4194304) (hB : mInt n = B) : Calls Tryd.prog 63 #[.int .i64 (n : Int)] w fun e w' => e = .returned (.int .i64 B) ∧ Fr [] w w' := by
  have HM : Hid (-1000 - (n : Int) = B) := hB
  clear hB
  go_enter Tryd.func63, Tryd.ntmps63
  go_wp2
  go_ret
  rw [← HM.out]
  exact ⟨rfl, Fr.refl _ _⟩
set_option maxHeartbeats 1000000 in
theorem markTxn_at (n : Nat) (B : Int) (w : World) (hn : n < 4194304) (hB : mInt n = B) : Calls Tryd.prog 68 #[.int .i64 (n : Int)] w fun e w' => e = .returned (.agg #[.int .i64 B, .slice none 0 0]) ∧ Fr [] w w' := by
  have HM : Hid (-1000 - (n : Int) = B) := hB
  clear hB
  go_enter Tryd.func68, Tryd.ntmps68
  go_wp2
  refine bodyPost_ret (v := (.agg #[.int .i64 B, .slice none 0 0])) (by rw [res_c1 rfl, ← HM.out]; go_simp) rfl ⟨rfl, ?_⟩
  exact Fr.alloc [] w _
end Go.Proofs.YtfhfjplhfjlpaaaDoor.Bq
