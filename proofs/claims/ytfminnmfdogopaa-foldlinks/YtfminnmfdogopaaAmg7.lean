/- A row of keys of one's own: among, one more; how many of them have a value. Conditions as each names them. -/
import Derived.Test.YtfminnmfdogopaaLst7
namespace Go.Proofs.Ytfminnmfdogopaa
open Go.ChangeShapes Go.WideShapes Go.ChangeAt Go.RowKit Go.Lib Go.Maps Go.Sort
set_option linter.unusedVariables false
set_option linter.unusedSimpArgs false

def strC (ss : List ByteArray) : List Value := ss.map Value.string
/-- A row of keys of its own. -/
structure KOut (w w' : World) (so : Option Addr) (N c : Nat) (ss : List ByteArray) : Prop where
  len : N = ss.length
  row : w'.ownsRow w.heap.size 9 1 (.slice so N c) N (strC ss)
theorem KOut.keep {w w' w'' : World} {so : Option Addr} {N c : Nat} {ss : List ByteArray} (h : KOut w w' so N c ss) (hf : Fr [] w' w'') : KOut w w'' so N c ss := ⟨h.len, owns_keepB h.row hf (by simp)⟩
theorem KOut.at {w w' : World} {so : Option Addr} {N c : Nat} {ss : List ByteArray} (h : KOut w w' so N c ss) (i : Nat) (hi : i < ss.length) : ∃ g, so = some ⟨g, 0, none⟩ ∧ w'.cell? ⟨g, i, none⟩ = some (.string (ss.getD i ⟨#[]⟩)) := by
  rcases h.row.2 with ⟨_, h0⟩ | ⟨g, cap, cur, hv, _, hg, _, _, _, ht⟩
  · have := h.len; omega
  · cases hv
    refine ⟨g, rfl, ?_⟩
    have hN := h.len
    rw [cell_of_row _ _ _ _ _ _ hg, ← Array.getElem?_toList]
    have h1 : (cur.toList.take (N * 1))[i]? = (strC ss)[i]? := by rw [ht]
    rw [List.getElem?_take_of_lt (by omega)] at h1
    rw [h1]
    simp [strC, List.getD, hi]
set_option maxHeartbeats 4000000 in
theorem among7_any (w0 : World) (so : Option Addr) (N c : Nat) (ss : List ByteArray) (key : ByteArray) (B : Bool) (w : World) (h : KOut w0 w so N c ss) (hf : N < 1099511627776) (hB : B = true ↔ key ∈ ss) :
    Calls Try.prog 24 #[.slice so N c, .string key] w fun e w' => e = .returned (.bool B) ∧ Fr [] w w' := by
  have HN : Hid (N = ss.length) := h.len
  have HB : Hid (B = true ↔ key ∈ ss) := hB
  have HK : Hid (KOut w0 w so N c ss) := h
  clear h hB
  go_enter Try.func24, Try.ntmps24
  go_wp2_with fail
  go_loop [5] (fun ii => ∃ (i : Nat), ii = .int .i64 i ∧ i ≤ N ∧ Hid (∀ j, j < i → ss.getD j ⟨#[]⟩ ≠ key)) (fun ii => N - (intOf ii).toNat)
  case atStart => exact ⟨0, rfl, Nat.zero_le _, fun j hj => by omega⟩
  case round =>
    obtain ⟨i, rfl, hiN, HE⟩ := hrel
    by_cases hi : i < N
    · have hi' : i < ss.length := by rw [← HN.out]; exact hi
      obtain ⟨g, rfl, d0⟩ := HK.out.at i hi'
      have HM : Hid (ss.getD i ⟨#[]⟩ ∈ ss) := by show _ ∈ _; simp [List.getD, hi']
      obtain ⟨y, hyy⟩ : ∃ y, y = ss.getD i ⟨#[]⟩ := ⟨_, rfl⟩
      rw [← hyy] at d0 HM
      have HY : Hid (y = ss.getD i ⟨#[]⟩) := hyy
      clear hyy
      by_cases he : y = key
      · have heq : (y.toList == key.toList) = true := by rw [he]; simp
        have hBt : B = true := HB.out.2 (he ▸ HM.out)
        subst hBt
        go_wp2
        go_ret
        exact ⟨rfl, Fr.refl _ _⟩
      · have heq : (y.toList == key.toList) = false := by rw [beq_eq_false_iff_ne]; exact fun h => he ((tl_inj _ _).1 h)
        have HE2 : Hid (∀ j, j < i + 1 → ss.getD j ⟨#[]⟩ ≠ key) := by
          intro j hj
          by_cases hji : j = i
          · subst hji; rw [← HY.out]; exact he
          · exact HE.out j (by omega)
        go_wp2
        go_round
        case rel => exact ⟨i + 1, by simp, by omega, HE2⟩
        case measure => simp [intOf]; omega
    · have hBf : B = false := by
        cases hb : B with
        | false => rfl
        | true =>
          exfalso
          obtain ⟨j, hj, e⟩ := List.mem_iff_getElem.1 (HB.out.1 hb)
          exact HE.out j (by have := HN.out; omega) (by simp [List.getD, hj, e])
      subst hBf
      go_wp2
      go_ret
      exact ⟨rfl, Fr.refl _ _⟩
theorem Try.undStrs : Try.prog.underlying 48 = some (.slice 9) := by kernel_rfl
theorem Try.infoSt : (Try.prog.info? 9).map (fun i => (i.zero, i.size, i.bytes)) = some (some (.string ⟨#[]⟩), 1, 16) := by kernel_rfl
/-- One key more. -/
theorem wpList_appK (w0 w : World) {ops : Array Oper} {rest : List Oper} {o : Oper} {a : Act} {Q : Exit → Act → World → Prop} (hgd : o.guard = none) (s x : Operand)
    (ho : o.op = .call { callee := .builtin .append, args := #[s, x], argTypes := #[48, 48] })
    (so : Option Addr) (N c : Nat) (ss : List ByteArray) (hs : a.eval s = .slice so N c) (hK : KOut w0 w so N c ss) (hN : N < 1099511627776) (h0 : w0.heap.size ≤ w.heap.size) (key : ByteArray) (hx : a.eval x = .slice (some ⟨w.heap.size, 0, none⟩) 1 1)
    (h : ∀ so' c' w', KOut w0 w' so' (N + 1) c' (ss ++ [key]) → Fr [] w0 w → Fr [] w0 w' → wpList Try.prog ops Q rest (a.put o.dst (.slice so' (N + 1) c')) w') (hF : Fr [] w0 w) : wpList Try.prog ops Q (o :: rest) a (w.alloc (.cells #[.string key] 9)) := by
  obtain ⟨i0, hi, hz0, hz1, hz2⟩ := info_parts Try.infoSt
  have hmx : 2199023255552 ≤ maxLen := by unfold maxLen; omega
  refine wpList_append_own (w.alloc (.cells #[.string key] 9)) hgd s x 48 ho w0.heap.size 9 i0 _ 1 16 Try.undStrs hi hz0 hz1 hz2 rfl (by decide) (.slice so N c) N (strC ss) hs (owns_keepB hK.row (Fr.alloc [] w _) (by simp)) ⟨w.heap.size, 0, none⟩ 1 1 [.string key] hx rfl ?_ (by intro u hu; simp at hu; subst hu; rfl) (by omega) (by omega) (by simp; omega) ?_
  · intro j u hu
    have hr := heap_alloc_new w (.cells #[.string key] 9)
    match j, hu with
    | 0, hu => show World.cell? _ ⟨w.heap.size, 0, none⟩ = _; rw [cell_of_row _ _ _ _ _ _ hr]; exact hu
    | (j + 1), hu => simp at hu
  · intro v' w' hown' hg' _
    obtain ⟨bo, cap', rfl⟩ : ∃ bo cap', v' = .slice bo (N + 1) cap' := by
      rcases hown'.2 with ⟨_, h1⟩ | ⟨g, cap, _, rfl, _⟩
      · omega
      · exact ⟨_, cap, rfl⟩
    have hst : strC (ss ++ [key]) = strC ss ++ [.string key] := by simp [strC]
    rw [← hst] at hown'
    refine h bo cap' w' ⟨by rw [hK.len]; simp, hown'⟩ hF ?_
    exact (hF.then (Fr.alloc [] w _)).on (Fr.grown (S := (Value.slice so N c).ownBlock.toList) hg' (fun y hy _ => Option.mem_toList.2 hy)) (fun y hy => (owns_cells hK.row (Option.mem_toList.1 hy)).1)
theorem capplys_len : ∀ (ws : List Wt) (E : ByteArray → Option ByteArray) (ps : List Pr), Is E ps → ∃ qs, Is (capplys (fun _ => true) E ws) qs ∧ qs.length ≤ ps.length + ws.length
  | [], E, ps, h => ⟨ps, h, by simp⟩
  | x :: ws, E, ps, h => by
    have h1 : Is (capply (fun _ => true) E x) (wrote ps x) := by unfold capply; rw [if_pos rfl]; exact h.write x
    obtain ⟨qs, hq, hl⟩ := capplys_len ws _ _ h1
    exact ⟨qs, hq, by have := wrote_length ps x; simp; omega⟩
theorem call_len : ∀ (l : List Tx) (E : ByteArray → Option ByteArray) (ps : List Pr), Is E ps → (∀ t ∈ l, t.ws.length ≤ 32) → ∃ qs, Is (call (fun _ => true) E l) qs ∧ qs.length ≤ ps.length + 32 * l.length
  | [], E, ps, h, _ => ⟨ps, h, by simp⟩
  | t :: l, E, ps, h, hw => by
    obtain ⟨qs, hq, hl⟩ := capplys_len t.ws E ps h
    obtain ⟨rs, hr, hl2⟩ := call_len l _ _ hq (fun t' ht => hw t' (List.mem_cons_of_mem _ ht))
    have := hw t (by simp)
    exact ⟨rs, hr, by simp; omega⟩
/-- There are not many. -/
theorem fo_len (l : List Tx) (hw : ∀ t ∈ l, t.ws.length ≤ 32) : ∃ ps, Is (fo l) ps ∧ ps.length ≤ 32 * l.length := by
  obtain ⟨qs, h1, h2⟩ := call_len l _ _ Is.nil hw
  exact ⟨qs, h1, by simpa using h2⟩
/-- As many of the keys as have a value are as many as there are entries. -/
theorem count_keys {E : ByteArray → Option ByteArray} {ps : List Pr} (h : Is E ps) {ss : List ByteArray} (hn : ss.Nodup) (ha : ∀ s, (E s).isSome = true → s ∈ ss) : (ss.filter fun s => (E s).isSome).length = ps.length := by
  have hp : (ps.map (·.1)).Nodup := by
    unfold List.Nodup
    rw [List.pairwise_map]
    exact List.Pairwise.imp (fun {a b} hab e => by rw [e, bl_irrefl] at hab; cases hab) h.inc
  have hf : (ss.filter fun s => (E s).isSome).Nodup := hn.filter _
  have hm : ∀ s, s ∈ (ss.filter fun s => (E s).isSome) ↔ s ∈ ps.map (·.1) := by
    intro s
    rw [List.mem_filter, List.mem_map]
    constructor
    · rintro ⟨_, h2⟩
      obtain ⟨v, hv⟩ := Option.isSome_iff_exists.1 h2
      exact ⟨(s, v), (h.mem _).2 hv, rfl⟩
    · rintro ⟨p, hp, rfl⟩
      have := (h.mem p).1 hp
      exact ⟨ha _ (by rw [this]; rfl), by rw [this]; rfl⟩
  have := (List.perm_ext_iff_of_nodup hf hp).2 hm
  rw [this.length_eq]
  simp
end Go.Proofs.Ytfminnmfdogopaa
