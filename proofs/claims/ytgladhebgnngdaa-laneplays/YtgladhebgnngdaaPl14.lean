/- Both lanes by one word, there or not (LS the program's, RS the document's, each with its own blocks): every call; the script's size. Conditions as each names them. -/
import Derived.Test.YtgladhebgnngdaaRx14
import Derived.Test.YtgladhebgnngdaaLa14
import Derived.Test.YtgladhebgnngdaaOp14
namespace Go.Proofs.Ytgladhebgnngdaa
open Go.ChangeShapes Go.WideShapes Go.ChangeAt Go.RowKit Go.Lib Go.Maps
set_option linter.unusedVariables false
set_option linter.unusedSimpArgs false

/-- A lane's number and configuration. -/
structure Lc where
  nm : Int
  l : Int
  s : Int
  x : Int
  q : Int
/-- The program's lane, there or not. -/
def LS (w : World) (p : Option Addr) (O : List Nat) (c : Lc) (st : Option (Option Hl)) : Prop :=
  match st with
  | none => NoL w p ∧ ∀ a, p = some a → a.block ∈ O
  | some t => ∃ lb S, p = some ⟨lb, 0, none⟩ ∧ LnM w lb c.nm c.l c.s c.x c.q t S ∧ ∀ k ∈ lb :: S, k ∈ O
/-- The document's lane, there or not. -/
def RS (w : World) (p : Option Addr) (O : List Nat) (c : Lc) (st : Option (Option Hl)) : Prop :=
  match st with
  | none => p = none
  | some t => ∃ rb S, p = some ⟨rb, 0, none⟩ ∧ RlM w rb c.nm c.l c.s c.x c.q t S ∧ ∀ k ∈ rb :: S, k ∈ O
def sentE2 : Option (Option Hl) → Int | none => 2 | some t => sentE t
def ackE2 : Option (Option Hl) → Int | none => 2 | some t => ackE t
def doneN2 : Option (Option Hl) → Int | none => 0 | some t => doneN t
def doneE2 : Option (Option Hl) → Int | none => 2 | some t => doneE t
def holds2 : Option (Option Hl) → Int | none => 0 | some t => holdsN t
def ready2 : Option (Option Hl) → Bool | none => false | some t => readyB t
def nextS2 (c : Lc) : Option (Option Hl) → Int | none => 0 | some t => nextS ⟨c.l, c.s, c.x, c.q⟩ t
def nextR2 (c : Lc) : Option (Option Hl) → Rq | none => Rq.zero | some t => nextR c.nm t
def nextB2 : Option (Option Hl) → Bool | none => false | some t => nextB t
open Classical in
/-- Take. -/
noncomputable def takeE2 (n : Int) (ws : List Wt) : Option (Option Hl) → Int
  | none => 2
  | some (some _) => 10
  | some none => if okT n ws then 0 else 1
open Classical in
noncomputable def takeS2 (n : Int) (ws : List Wt) : Option (Option Hl) → Option (Option Hl)
  | some none => if okT n ws then some (some ⟨n, dd ws, 0⟩) else some none
  | t => t
section
variable {w : World} {p : Option Addr} {O : List Nat} {c : Lc} {st : Option (Option Hl)}
theorem LS.keep {T : List Nat} {w' : World} (h : LS w p O c st) (hf : Fr T w w') (hn : ∀ k ∈ O, k ∉ T) : LS w' p O c st := by
  cases st with
  | none => exact ⟨h.1.keep hf (fun a ha => hn _ (h.2 a ha)), h.2⟩
  | some t =>
    obtain ⟨lb, S, e, hM, hO⟩ := h
    exact ⟨lb, S, e, hM.keep hf (hn _ (hO _ (by simp))) (fun k hk => hn _ (hO _ (List.mem_cons_of_mem _ hk))), hO⟩
theorem RS.keep {T : List Nat} {w' : World} (h : RS w p O c st) (hf : Fr T w w') (hn : ∀ k ∈ O, k ∉ T) : RS w' p O c st := by
  cases st with
  | none => exact h
  | some t =>
    obtain ⟨lb, S, e, hM, hO⟩ := h
    exact ⟨lb, S, e, hM.keep hf (hn _ (hO _ (by simp))) (fun k hk => hn _ (hO _ (List.mem_cons_of_mem _ hk))), hO⟩
theorem ls_next (h : LS w p O c st) : Calls Try.prog 17 #[.pointer p] w fun e w' => e = .returned (.tuple #[.int .i64 (nextS2 c st), (nextR2 c st).v, .bool (nextB2 st)]) ∧ Fr [] w w' := by
  cases st with
  | none => exact lnext_no p h.1
  | some t =>
    obtain ⟨lb, S, rfl, hM, hO⟩ := h
    exact lnext_any hM
theorem rs_next (h : RS w p O c st) : Calls Try.prog 32 #[.pointer p] w fun e w' => e = .returned (.tuple #[.int .i64 (nextS2 c st), (nextR2 c st).v, .bool (nextB2 st)]) ∧ Fr [] w w' := by
  cases st with
  | none => subst h; exact rlnext_nil w
  | some t =>
    obtain ⟨lb, S, rfl, hM, hO⟩ := h
    exact rlnext_any hM
theorem ls_holds (h : LS w p O c st) : Calls Try.prog 16 #[.pointer p] w fun e w' => e = .returned (.int .i64 (holds2 st)) ∧ Fr [] w w' := by
  cases st with
  | none => exact lholds_no p h.1
  | some t =>
    obtain ⟨lb, S, rfl, hM, hO⟩ := h
    exact lholds_any hM
theorem rs_holds (h : RS w p O c st) : Calls Try.prog 33 #[.pointer p] w fun e w' => e = .returned (.int .i64 (holds2 st)) ∧ Fr [] w w' := by
  cases st with
  | none => subst h; exact rlholds_nil w
  | some t =>
    obtain ⟨lb, S, rfl, hM, hO⟩ := h
    exact rlholds_any hM
theorem ls_ready (h : LS w p O c st) : Calls Try.prog 19 #[.pointer p] w fun e w' => e = .returned (.bool (ready2 st)) ∧ Fr [] w w' := by
  cases st with
  | none => exact lready_no p h.1
  | some t =>
    obtain ⟨lb, S, rfl, hM, hO⟩ := h
    exact lready_any hM
theorem rs_ready (h : RS w p O c st) : Calls Try.prog 34 #[.pointer p] w fun e w' => e = .returned (.bool (ready2 st)) ∧ Fr [] w w' := by
  cases st with
  | none => subst h; exact rlready_nil w
  | some t =>
    obtain ⟨lb, S, rfl, hM, hO⟩ := h
    exact rlready_any hM
theorem ls_sent (h : LS w p O c st) : Calls Try.prog 20 #[.pointer p] w fun e w' => e = .returned (.int .i64 (sentE2 st)) ∧ LS w' p O c (st.map sentS) ∧ Fr O w w' := by
  cases st with
  | none => exact (lsent_no p h.1).mono fun e w' k => ⟨k.1, k.2 ▸ h, k.2 ▸ Fr.refl _ _⟩
  | some t =>
    obtain ⟨lb, S, rfl, hM, hO⟩ := h
    exact (lsent_any hM).mono fun e w' k => ⟨k.1, ⟨lb, S, rfl, k.2.1, hO⟩, k.2.2.mono fun j hj _ => hO j hj⟩
theorem rs_sent (h : RS w p O c st) : Calls Try.prog 29 #[.pointer p] w fun e w' => e = .returned (.int .i64 (sentE2 st)) ∧ RS w' p O c (st.map sentS) ∧ Fr O w w' := by
  cases st with
  | none => subst h; exact (rlsent_nil w).mono fun e w' k => ⟨k.1, rfl, k.2.mono (by simp)⟩
  | some t =>
    obtain ⟨lb, S, rfl, hM, hO⟩ := h
    exact (rlsent_any hM).mono fun e w' k => ⟨k.1, ⟨lb, S, rfl, k.2.1, hO⟩, k.2.2.mono fun j hj _ => hO j (by simp at hj; simp [hj])⟩
theorem ls_acked (h : LS w p O c st) : Calls Try.prog 21 #[.pointer p] w fun e w' => e = .returned (.int .i64 (ackE2 st)) ∧ LS w' p O c (st.map ackS) ∧ Fr O w w' := by
  cases st with
  | none => exact (lacked_no p h.1).mono fun e w' k => ⟨k.1, k.2 ▸ h, k.2 ▸ Fr.refl _ _⟩
  | some t =>
    obtain ⟨lb, S, rfl, hM, hO⟩ := h
    exact (lacked_any hM).mono fun e w' k => ⟨k.1, ⟨lb, S, rfl, k.2.1, hO⟩, k.2.2.mono fun j hj _ => hO j hj⟩
theorem rs_acked (h : RS w p O c st) : Calls Try.prog 30 #[.pointer p] w fun e w' => e = .returned (.int .i64 (ackE2 st)) ∧ RS w' p O c (st.map ackS) ∧ Fr O w w' := by
  cases st with
  | none => subst h; exact (rlacked_nil w).mono fun e w' k => ⟨k.1, rfl, k.2.mono (by simp)⟩
  | some t =>
    obtain ⟨lb, S, rfl, hM, hO⟩ := h
    exact (rlacked_any hM).mono fun e w' k => ⟨k.1, ⟨lb, S, rfl, k.2.1, hO⟩, k.2.2.mono fun j hj _ => hO j (by simp at hj; simp [hj])⟩
theorem ls_done (h : LS w p O c st) : Calls Try.prog 22 #[.pointer p] w fun e w' => e = .returned (.tuple #[.int .i64 (doneN2 st), .int .i64 (doneE2 st)]) ∧ LS w' p O c (st.map doneS) ∧ Fr O w w' := by
  cases st with
  | none => exact (ldone_no p h.1).mono fun e w' k => ⟨k.1, k.2 ▸ h, k.2 ▸ Fr.refl _ _⟩
  | some t =>
    obtain ⟨lb, S, rfl, hM, hO⟩ := h
    exact (ldone_any hM).mono fun e w' k => ⟨k.1, ⟨lb, S, rfl, k.2.1, hO⟩, k.2.2.mono fun j hj _ => hO j hj⟩
theorem rs_done (h : RS w p O c st) : Calls Try.prog 31 #[.pointer p] w fun e w' => e = .returned (.tuple #[.int .i64 (doneN2 st), .int .i64 (doneE2 st)]) ∧ RS w' p O c (st.map doneS) ∧ Fr O w w' := by
  cases st with
  | none => subst h; exact (rldone_nil w).mono fun e w' k => ⟨k.1, rfl, k.2.mono (by simp)⟩
  | some t =>
    obtain ⟨lb, S, rfl, hM, hO⟩ := h
    exact (rldone_any hM).mono fun e w' k => ⟨k.1, ⟨lb, S, rfl, k.2.1, hO⟩, k.2.2.mono fun j hj _ => hO j (by simp at hj; simp [hj])⟩
/-- What becomes one's own is one's own already, or new. -/
def Nw14 (w w' : World) (O O' : List Nat) : Prop := ∀ k ∈ O', k ∈ O ∨ (w.heap.size ≤ k ∧ k < w'.heap.size)
theorem Nw14.refl (w w' : World) (O : List Nat) : Nw14 w w' O O := fun k hk => .inl hk
theorem ls_take (n : Int) (ao : Option Addr) (L cap : Nat) (ws : List Wt) (h : LS w p O c st) (hT : TArg w n ao L cap ws) : Calls Try.prog 14 #[.pointer p, .agg #[.int .i64 n, .slice ao L cap]] w fun e w' => ∃ O', e = .returned (.int .i64 (takeE2 n ws st)) ∧ LS w' p O' c (takeS2 n ws st) ∧ Nw14 w w' O O' ∧ Fr O w w' := by
  cases st with
  | none => exact (ltake_no p n ao L cap h.1).mono fun e w' k => ⟨O, k.1, LS.keep (st := none) h k.2 (by simp), Nw14.refl _ _ _, k.2.mono (by simp)⟩
  | some t =>
    cases t with
    | some hl =>
      obtain ⟨lb, S, rfl, hM, hO⟩ := h
      exact (ltake_busy n ao L cap hM).mono fun e w' k => ⟨O, k.1, ⟨lb, S, rfl, hM.kept _ k.2, hO⟩, Nw14.refl _ _ _, k.2.mono (by simp)⟩
    | none =>
      obtain ⟨lb, S, rfl, hM, hO⟩ := h
      by_cases hok : okT n ws
      · refine (ltake_any n ao L cap ws hM hT hok).mono fun e w' k => ?_
        obtain ⟨S', e1, e2, e3, e4⟩ := k
        refine ⟨lb :: S', by rw [e1]; simp [takeE2, hok], ?_, ?_, e4.mono fun j hj _ => hO j (by simp at hj; simp [hj])⟩
        · simp only [takeS2, hok, if_true]
          exact ⟨lb, S', rfl, e2, fun k hk => hk⟩
        · intro k hk
          simp only [List.mem_cons] at hk
          rcases hk with rfl | hk
          · exact .inl (hO _ (by simp))
          · exact .inr (e3 k hk)
      · refine (ltake_bad n ao L cap ws hM hT hok).mono fun e w' k => ?_
        refine ⟨O, by rw [k.1]; simp [takeE2, hok], ?_, Nw14.refl _ _ _, k.2.mono (by simp)⟩
        simp only [takeS2, hok, if_false]
        exact ⟨lb, S, rfl, hM.kept _ k.2, hO⟩
theorem rs_take (n : Int) (ao : Option Addr) (L cap : Nat) (ws : List Wt) (h : RS w p O c st) (hT : TArg w n ao L cap ws) (hx : 0 < ws.length → ∀ a, ao = some a → a.block ∉ O) : Calls Try.prog 27 #[.pointer p, .agg #[.int .i64 n, .slice ao L cap]] w fun e w' => ∃ O', e = .returned (.int .i64 (takeE2 n ws st)) ∧ RS w' p O' c (takeS2 n ws st) ∧ Nw14 w w' O O' ∧ Fr O w w' := by
  cases st with
  | none => subst h; exact (rltake_nil n ao L cap w).mono fun e w' k => ⟨O, k.1, rfl, Nw14.refl _ _ _, k.2.mono (by simp)⟩
  | some t =>
    cases t with
    | some hl =>
      obtain ⟨lb, S, rfl, hM, hO⟩ := h
      exact (rltake_busy n ao L cap hM).mono fun e w' k => ⟨O, k.1, ⟨lb, S, rfl, hM.kept _ k.2, hO⟩, Nw14.refl _ _ _, k.2.mono (by simp)⟩
    | none =>
      obtain ⟨lb, S, rfl, hM, hO⟩ := h
      by_cases hok : okT n ws
      · refine (rltake_any n ao L cap ws hM hT hok (fun hp a ha e => hx hp a ha (by rw [e]; exact hO _ (by simp)))).mono fun e w' k => ?_
        obtain ⟨S', e1, e2, e3, e4⟩ := k
        refine ⟨lb :: S', by rw [e1]; simp [takeE2, hok], ?_, ?_, e4.mono fun j hj _ => hO j (by simp at hj; simp [hj])⟩
        · simp only [takeS2, hok, if_true]
          exact ⟨lb, S', rfl, e2, fun k hk => hk⟩
        · intro k hk
          simp only [List.mem_cons] at hk
          rcases hk with rfl | hk
          · exact .inl (hO _ (by simp))
          · exact .inr (e3 k hk)
      · refine (rltake_bad n ao L cap ws hM hT hok).mono fun e w' k => ?_
        refine ⟨O, by rw [k.1]; simp [takeE2, hok], ?_, Nw14.refl _ _ _, k.2.mono (by simp)⟩
        simp only [takeS2, hok, if_false]
        exact ⟨lb, S, rfl, hM.kept _ k.2, hO⟩
end
end Go.Proofs.Ytgladhebgnngdaa
