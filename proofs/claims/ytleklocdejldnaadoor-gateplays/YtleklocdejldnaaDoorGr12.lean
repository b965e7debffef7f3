/- The document's gate in memory: contracts of May, New, Has, Mark, Beyond, and of all calls of none. Conditions as each names them. -/
import Derived.Test.YtleklocdejldnaaDoorGd12
import Derived.Laws.AppendOwn
namespace Go.Proofs.YtleklocdejldnaaDoor
open Go.ChangeShapes Go.WideShapes Go.ChangeAt Go.RowKit Go.Lib Go.Maps
set_option linter.unusedVariables false
set_option linter.unusedSimpArgs false

/-- A slice, perhaps cut at its head, reads as the numbers xs; its block. -/
def qb (lo : Option Addr) : Option Nat := lo.map fun a => a.block
structure Qr (w : World) (lo : Option Addr) (n c : Nat) (xs : List Int) : Prop where
  len : n = xs.length
  fit : n ≤ c
  row : (lo = none ∧ c = 0) ∨ ∃ b off cur, lo = some ⟨b, off, none⟩ ∧ w.heap[b]? = some (.cells cur 3 (0, 0)) ∧ ∀ i, i < n → cur[off + i]? = some (.int .i64 (xs.getD i 0))
theorem Qr.keep {S : List Nat} {w w' : World} {lo : Option Addr} {n c : Nat} {xs : List Int} (h : Qr w lo n c xs) (hf : Fr S w w') (hn : ∀ b, qb lo = some b → b ∉ S) : Qr w' lo n c xs := by
  refine ⟨h.len, h.fit, ?_⟩
  rcases h.row with h | ⟨b, off, cur, rfl, hb, h⟩
  · exact .inl h
  · exact .inr ⟨b, off, cur, rfl, hf.keep hb (hn b rfl), h⟩
theorem Qr.ty {w : World} {lo : Option Addr} {n c b : Nat} {xs : List Int} (h : Qr w lo n c xs) (hb : qb lo = some b) : ∃ cur, w.heap[b]? = some (.cells cur 3 (0, 0)) := by
  rcases h.row with ⟨rfl, _⟩ | ⟨b', off, cur, rfl, h1, _⟩
  · cases hb
  · cases hb; exact ⟨cur, h1⟩
theorem Qr.at_ {w : World} {lo : Option Addr} {n c : Nat} {xs : List Int} (h : Qr w lo n c xs) {i : Nat} (hi : i < n) : ∃ b off, lo = some ⟨b, off, none⟩ ∧ b < w.heap.size ∧ w.cell? ⟨b, off + i, none⟩ = some (.int .i64 (xs.getD i 0)) := by
  rcases h.row with ⟨_, h0⟩ | ⟨b, off, cur, rfl, hb, hc⟩
  · have := h.fit; omega
  · exact ⟨b, off, rfl, lt_of_block hb, by rw [cell_of_row _ _ _ _ _ _ hb]; exact hc i hi⟩
theorem Qr.rs {w : World} {lo : Option Addr} {n c : Nat} {xs : List Int} (h : Qr w lo n c xs) (hn : n ≤ 17592186044416) : IRs w lo xs := by
  refine ⟨fun h0 => ?_, by rw [← h.len]; exact hn⟩
  obtain ⟨b, off, e, hb, _⟩ := h.at_ (i := 0) (by rw [h.len]; exact h0)
  refine ⟨b, off, e, hb, fun i hi => ?_⟩
  obtain ⟨b', off', e', _, hc⟩ := h.at_ (i := i) (by rw [h.len]; exact hi)
  rw [e] at e'
  cases e'
  exact hc
theorem IOw.qr {base : Nat} {w : World} {o : Option Addr} {n c : Nat} {xs : List Int} (h : IOw base w o n c xs) : Qr w o n c xs := by
  refine ⟨h.len, h.cap, ?_⟩
  rcases h.row.2 with ⟨hh, h0⟩ | ⟨g, cap, cur, hh, hb, hg, hc, _, _, ht⟩
  · cases hh; exact .inl ⟨rfl, rfl⟩
  · cases hh
    refine .inr ⟨g, 0, cur, rfl, hg, fun i hi => ?_⟩
    obtain ⟨g', e, _, h2⟩ := h.at i (by rw [← h.len]; exact hi)
    cases e
    rw [Nat.zero_add, ← cell_of_row w g i cur 3 (0, 0) hg]
    exact h2
theorem IOw.qb {base : Nat} {w : World} {o : Option Addr} {n c b : Nat} {xs : List Int} (h : IOw base w o n c xs) (hb : qb o = some b) : (Value.slice o n c).ownBlock = some b ∧ base ≤ b := by
  rcases h.row.2 with ⟨hh, h0⟩ | ⟨g, cap, cur, hh, hb2, hg, hc, _, _, ht⟩
  · cases hh; cases hb
  · cases hh; cases hb; exact ⟨rfl, hb2⟩
/-- The document's gate: its struct lies in block g. -/
structure OG (w : World) (g : Nat) (lo : Option Addr) (n c : Nat) (m : Int) (xs : List Int) : Prop where
  box : w.heap[g]? = some (.cells #[.int .i64 m, .slice lo n c] 67 (0, 0))
  row : Qr w lo n c xs
  ok : Gok m xs
section
variable {w w' : World} {g n c : Nat} {lo : Option Addr} {m : Int} {xs : List Int}
theorem OG.lt (h : OG w g lo n c m xs) : g < w.heap.size := lt_of_block h.box
theorem OG.c0 (h : OG w g lo n c m xs) : w.cell? ⟨g, 0, none⟩ = some (.int .i64 m) := by rw [cell_of_row _ _ _ _ _ _ h.box]; rfl
theorem OG.c1 (h : OG w g lo n c m xs) : w.cell? ⟨g, 1, none⟩ = some (.slice lo n c) := by rw [cell_of_row _ _ _ _ _ _ h.box]; rfl
theorem OG.keep {S : List Nat} (h : OG w g lo n c m xs) (hf : Fr S w w') (hg : g ∉ S) (hn : ∀ b, qb lo = some b → b ∉ S) : OG w' g lo n c m xs := ⟨hf.keep h.box hg, h.row.keep hf hn, h.ok⟩
theorem OG.few (h : OG w g lo n c m xs) : n ≤ 65536 := by rw [h.row.len]; exact h.ok.1.few
end
/-- Nothing behind nothing. -/
theorem wpList_append_zero {P : Program} {w : World} {ops : Array Oper} {rest : List Oper} {o : Oper} {a : Act} {Q : Exit → Act → World → Prop} (hgd : o.guard = none) (s x : Operand) (t : TypeId)
    (ho : o.op = .call { callee := .builtin .append, args := #[s, x], argTypes := #[t, t] })
    (e : TypeId) (i : TypeInfo) (ht : P.underlying t = some (.slice e)) (hi : P.info? e = some i)
    (hs : a.eval s = .slice none 0 0) (xo : Option Addr) (xc : Nat) (hx : a.eval x = .slice xo 0 xc)
    (h : wpList P ops Q rest (a.put o.dst (.slice none 0 0)) w) : wpList P ops Q (o :: rest) a w := by
  refine wpList_plain hgd fun K hK => ?_
  have hl : ∀ (x : Addr), (loadCells x 0).run P w = .ok #[] w := fun x => by simpa using run_loadCells_list (P := P) w x [] (by simp)
  have hrun : (Builtin.append_ #[t, t] o.type #[.slice none 0 0, .slice xo 0 xc]).run P w = .ok (.slice none 0 0) w := by
    cases xo <;> simp [Builtin.append_, run_underlying ht, sizeOf, typeInfo, hi, Builtin.lenOf, Builtin.firstCells, hl, storeCells]
  unfold Oper.wp
  simp [execOp, ho, resolve, invoke, builtin, hs, hx, hrun, Result.andThen]
  exact hK _ _ h
/-- All numbers of a row that can be read, behind nothing. -/
theorem wpList_allI (w : World) {ops : Array Oper} {rest : List Oper} {o : Oper} {a : Act} {Q : Exit → Act → World → Prop} (hgd : o.guard = none) (s x : Operand)
    (ho : o.op = .call { callee := .builtin .append, args := #[s, x], argTypes := #[22, 22] })
    (hs : a.eval s = .slice none 0 0) (xo : Option Addr) (M xc : Nat) (xs : List Int) (hx : a.eval x = .slice xo M xc) (hV : IRs w xo xs) (hM : M = xs.length) (hMb : M ≤ 1099511627776)
    (h : ∀ bo rc w', IOw w.heap.size w' bo M rc xs → Fr [] w w' → wpList Tryd.prog ops Q rest (a.put o.dst (.slice bo M rc)) w') : wpList Tryd.prog ops Q (o :: rest) a w := by
  obtain ⟨i0, hi, hz0, hz1, hz2⟩ := infoI_parts
  by_cases h0 : 0 < M
  · obtain ⟨b, off, rfl, _, hc⟩ := hV.lies (by omega)
    refine wpList_append_own w hgd s x 22 ho w.heap.size 3 i0 _ 1 8 Tryd.undIs11 hi hz0 hz1 hz2 rfl (by decide) (.slice none 0 0) 0 [] hs (World.ownsRow_nil _ _ _ _) ⟨b, off, none⟩ M xc (ints xs) hx (by rw [ints_length, hM]; omega) (fun j u hu => ?_) (fun u hu => by obtain ⟨_, _, rfl⟩ := List.mem_map.1 hu; rfl) (by unfold maxLen; omega) (by omega) (Nat.le_refl _) ?_
    · have hj : j < xs.length := by have := (List.getElem?_eq_some_iff.1 hu).1; rwa [ints_length] at this
      rw [Addr.add_lit, hc j hj]
      simp [ints, hj] at hu
      simp [List.getD, hj, hu]
    · intro v' w' hown hg _
      rw [Nat.zero_add, List.nil_append] at hown
      obtain ⟨bo, rc, rfl⟩ : ∃ bo rc, v' = .slice bo M rc := by
        rcases hown.2 with ⟨_, hh⟩ | ⟨g, cap', _, hh, _⟩
        · omega
        · exact ⟨_, cap', hh⟩
      exact h bo rc w' ⟨hM, hown⟩ (Fr.grown (S := []) hg (fun k hk => by simp [Value.ownBlock] at hk))
  · obtain rfl : M = 0 := by omega
    have hvs : xs = [] := List.eq_nil_of_length_eq_zero hM.symm
    subst hvs
    exact wpList_append_zero hgd s x 22 ho 3 i0 Tryd.undIs11 hi hs xo xc hx (h none 0 w (IOw.nil _ _) (Fr.refl _ _))
theorem omark_nil (w : World) : Calls Tryd.prog 20 #[.pointer none] w fun e w' => e = .returned (.int .i64 0) ∧ Fr [] w w' := by
  go_enter Tryd.func20, Tryd.ntmps20
  go_wp2
  go_ret
  exact ⟨rfl, Fr.refl _ _⟩
theorem ohas_nil (n : Int) (w : World) : Calls Tryd.prog 61 #[.pointer none, .int .i64 n] w fun e w' => e = .returned (.bool false) ∧ Fr [] w w' := by
  go_enter Tryd.func61, Tryd.ntmps61
  go_wp2
  go_ret
  exact ⟨rfl, Fr.refl _ _⟩
theorem obeyond_nil (w : World) : Calls Tryd.prog 18 #[.pointer none] w fun e w' => e = .returned (.slice none 0 0) ∧ Fr [] w w' := by
  go_enter Tryd.func18, Tryd.ntmps18
  go_wp2
  go_ret
  exact ⟨rfl, Fr.refl _ _⟩
theorem odone_nil (n : Int) (w : World) : Calls Tryd.prog 16 #[.pointer none, .int .i64 n] w fun e w' => e = .returned (.tuple #[.int .i64 0, .int .i64 2]) ∧ Fr [] w w' := by
  go_enter Tryd.func16, Tryd.ntmps16
  go_wp2
  refine bodyPost_ret (results_tmp2 rfl _ _ _) rfl ?_
  exact ⟨rfl, Fr.refl _ _⟩
section
variable {g N c : Nat} {lo : Option Addr} {m : Int} {xs : List Int}
theorem omark_any (w : World) (h : OG w g lo N c m xs) : Calls Tryd.prog 20 #[.pointer (some ⟨g, 0, none⟩)] w fun e w' => e = .returned (.int .i64 m) ∧ Fr [] w w' := by
  have c0 := h.c0
  clear h
  go_enter Tryd.func20, Tryd.ntmps20
  go_wp2
  go_ret
  exact ⟨rfl, Fr.refl _ _⟩
theorem obeyond_any (w : World) (h : OG w g lo N c m xs) : Calls Tryd.prog 18 #[.pointer (some ⟨g, 0, none⟩)] w fun e w' => ∃ o rc, e = .returned (.slice o N rc) ∧ IOw w.heap.size w' o N rc xs ∧ Fr [] w w' := by
  have c1 := h.c1
  have HR : Hid (IRs w lo xs) := h.row.rs (by have := h.few; omega)
  have HN : Hid (N = xs.length) := h.row.len
  have hN := h.few
  clear h
  go_enter Tryd.func18, Tryd.ntmps18
  go_wp2_with (at_builtin; refine wpList_allI _ rfl (.tmp 6) (.tmp 10) rfl rfl lo N c xs rfl HR.out HN.out (by omega) ?_; intro bo rc w' hO hF)
  go_ret
  exact ⟨bo, rc, rfl, hO, hF⟩
set_option maxHeartbeats 2000000 in
theorem ohas_any (n : Int) (b : Bool) (w : World) (h : OG w g lo N c m xs) (hb : b = true ↔ 1 ≤ n ∧ (n ≤ m ∨ n ∈ xs)) : Calls Tryd.prog 61 #[.pointer (some ⟨g, 0, none⟩), .int .i64 n] w fun e w' => e = .returned (.bool b) ∧ Fr [] w w' := by
  by_cases h1 : n < 1
  · have hbf : b = false := by
      cases hbb : b with
      | false => rfl
      | true => have := (hb.1 hbb).1; omega
    subst hbf
    clear h hb
    go_enter Tryd.func61, Tryd.ntmps61
    go_wp2
    go_ret
    exact ⟨rfl, Fr.refl _ _⟩
  have c0 := h.c0
  have c1 := h.c1
  have HQ : Hid (∀ W, Fr [] w W → Qr W lo N c xs ∧ W.cell? ⟨g, 0, none⟩ = some (.int .i64 m) ∧ W.cell? ⟨g, 1, none⟩ = some (.slice lo N c)) := fun W hf => by
    have h2 := h.keep hf (by simp) (by simp)
    exact ⟨h2.row, h2.c0, h2.c1⟩
  have HN : Hid (N = xs.length) := h.row.len
  have hN := h.few
  have HB : Hid (b = true ↔ 1 ≤ n ∧ (n ≤ m ∨ n ∈ xs)) := hb
  clear h hb c0 c1
  go_enter Tryd.func61, Tryd.ntmps61
  go_wp2_with fail
  go_loopw [5] (fun ii wr => ∃ i : Nat, ii = .int .i64 i ∧ i ≤ N ∧ Hid (n ∉ xs.take i) ∧ Hid (Fr [] w wr)) (fun ii _ => N - (RowKit.intOf ii).toNat)
  case atStart => exact ⟨0, rfl, Nat.zero_le _, (by simp : n ∉ xs.take 0), Fr.refl _ _⟩
  case round =>
    obtain ⟨i, rfl, hi1, HI, HF⟩ := hrel
    obtain ⟨hq, c0, c1⟩ := HQ.out _ HF.out
    by_cases hi : i < N
    · have hix : i < xs.length := by rw [← HN.out]; exact hi
      obtain ⟨bb, off, rfl, _, hci⟩ := hq.at_ hi
      have HT := itake_snoc xs i hix
      have hmem : xs.getD i 0 ∈ xs := by simp [List.getD, hix]
      obtain ⟨x, hx⟩ : ∃ x, x = xs.getD i 0 := ⟨_, rfl⟩
      rw [← hx] at hci HT hmem
      clear hx hq
      by_cases he : x = n
      · have hbt : b = true := HB.out.2 ⟨by omega, Or.inr (he ▸ hmem)⟩
        have hxn : (x == n) = true := by simpa using he
        subst hbt
        clear he hmem HT
        go_wp2
        go_ret
        exact ⟨rfl, HF.out⟩
      · have hxn : (x == n) = false := by simpa using he
        have HI2 : Hid (n ∉ xs.take (i + 1)) := by
          rw [Hid, HT]
          intro hm
          rcases List.mem_append.1 hm with e | e
          · exact HI.out e
          · simp at e; exact he e.symm
        clear he hmem HT
        go_wp2
        go_roundw
        case rel => exact ⟨i + 1, by simp, by omega, HI2, HF⟩
        case measure => simp [RowKit.intOf]; omega
    · have hno : n ∉ xs := by
        have := HI.out
        rwa [List.take_of_length_le (by rw [← HN.out]; omega)] at this
      have hbe : b = decide (n ≤ m) := by
        have h2 := HB.out
        by_cases h3 : n ≤ m
        · rw [h2.2 ⟨by omega, Or.inl h3⟩]; simp [h3]
        · cases hbb : b with
          | false => simp [h3]
          | true =>
            rcases (h2.1 hbb).2 with e | e
            · exact absurd e h3
            · exact absurd e hno
      subst hbe
      clear hno hq HB
      go_wp2
      go_ret
      exact ⟨rfl, HF.out⟩
end
theorem ris_last {xs : List Int} {i : Nat} (h : Ris (xs.take (i + 1))) (hi : i < xs.length) : ∀ z ∈ xs.take (i + 1), z ≤ xs.getD i 0 := by
  intro z hz
  rw [itake_snoc xs i hi] at h hz
  rcases List.mem_append.1 hz with e | e
  · have := (List.pairwise_append.1 h).2.2 z e (xs.getD i 0) (List.mem_singleton.2 rfl); omega
  · rw [List.mem_singleton] at e; omega
set_option maxHeartbeats 8000000 in
set_option maxRecDepth 100000 in
theorem omay_any (m : Int) (ao : Option Addr) (L cap : Nat) (xs : List Int) (b : Bool) (w : World) (hX : IRs w ao xs) (hL : L = xs.length) (hb : b = true ↔ Gok m xs) :
    Calls Tryd.prog 24 #[.int .i64 m, .slice ao L cap] w fun e w' => e = .returned (.bool b) ∧ Fr [] w w' := by
  have hbf : ¬ Gok m xs → b = false := fun h => by
    cases hbb : b with
    | false => rfl
    | true => exact absurd (hb.1 hbb) h
  by_cases h0 : m < 0
  · have hb0 := hbf (fun h => by have := h.1.low; omega)
    subst hb0
    clear hb hbf
    go_enter Tryd.func24, Tryd.ntmps24
    go_wp2
    go_ret
    exact ⟨rfl, Fr.refl _ _⟩
  by_cases h1 : 65536 < m
  · have hb0 := hbf (fun h => by have := h.1.top; omega)
    subst hb0
    clear hb hbf
    go_enter Tryd.func24, Tryd.ntmps24
    go_wp2
    go_ret
    exact ⟨rfl, Fr.refl _ _⟩
  have HL : Hid (L = xs.length) := hL
  have hLL : L ≤ 17592186044416 := by rw [hL]; exact hX.few
  have HX : Hid (∀ W, Fr [] w W → IRs W ao xs) := fun W hf => hX.keep hf
  have HB : Hid ((b = true ↔ Gok m xs) ∧ (¬ Gok m xs → b = false)) := ⟨hb, hbf⟩
  clear hX hL hb hbf
  go_enter Tryd.func24, Tryd.ntmps24
  go_wp2_with fail
  go_loopw [5] (fun ii wr => ∃ i : Nat, ii = .int .i64 i ∧ i ≤ L ∧ Hid (Gok m (xs.take i)) ∧ Hid (Fr [] w wr)) (fun ii _ => L - (RowKit.intOf ii).toNat)
  case atStart => exact ⟨0, rfl, Nat.zero_le _, ⟨⟨by omega, by omega, List.Pairwise.nil, by simp⟩, by simp⟩, Fr.refl _ _⟩
  case round =>
    obtain ⟨i, rfl, hi1, HG, HF⟩ := hrel
    by_cases hi : i < L
    · have hix : i < xs.length := by rw [← HL.out]; exact hi
      obtain ⟨bb, off, rfl, _, hc⟩ := (HX.out _ HF.out).lies (by omega)
      have hci := hc i hix
      have HT := itake_snoc xs i hix
      have hmem : xs.getD i 0 ∈ xs := by simp [List.getD, hix]
      have hil : (i : Int) < (L : Int) := by omega
      cases i with
      | zero =>
        obtain ⟨x, hx⟩ : ∃ x, x = xs.getD 0 0 := ⟨_, rfl⟩
        rw [← hx] at hci HT hmem
        clear hx hc
        rw [Nat.add_zero] at hci
        by_cases h2 : x < m + 2
        · have hb0 : b = false := HB.out.2 (fun hG => by
            have := hG.1.bey x hmem
            have hne : x ≠ m + 1 := fun e => hG.2 (e ▸ hmem)
            omega)
          subst hb0
          have d1 : decide (x < m + 2) = true := by simpa using h2
          clear hmem HT HB
          go_wp2_with fail
          go_quiet (fail)
          go_wp2
          go_ret
          exact ⟨rfl, HF.out.then (Fr.drewN _ _ _)⟩
        have d1 : decide (x < m + 2) = false := by simpa using h2
        by_cases h3 : 65536 < x
        · have hb0 : b = false := HB.out.2 (fun hG => by
            have := hG.1.bey x hmem
            omega)
          subst hb0
          have d2 : decide (65536 < x) = true := by simpa using h3
          clear hmem HT HB
          go_wp2_with fail
          go_quiet (fail)
          go_wp2
          go_ret
          exact ⟨rfl, HF.out.then (Fr.drewN _ _ _)⟩
        have d2 : decide (65536 < x) = false := by simpa using h3
        have HG2 : Hid (Gok m (xs.take (0 + 1))) := by
          rw [Hid, HT]
          refine ⟨⟨by omega, by omega, by simp [Ris], fun y hy => ?_⟩, fun hy => ?_⟩
          · simp at hy; omega
          · simp at hy; omega
        clear hmem HT
        go_wp2_with fail
        go_quiet (fail)
        have HF2 : Hid (Fr [] w (wr.drewN nq)) := HF.out.then (Fr.drewN _ _ _)
        go_wp2
        go_roundw
        case rel => exact ⟨1, by simp, by omega, HG2, HF2⟩
        case measure => simp [RowKit.intOf]; omega
      | succ i =>
        have hcp := hc i (by omega)
        have hlast := ris_last (i := i) HG.out.1.ris (by omega)
        have hpr : Ris xs → xs.getD i 0 < xs.getD (i + 1) 0 := fun hr => by
          have := List.pairwise_iff_getElem.1 hr i (i + 1) (by omega) hix (by omega)
          have h3 : i < xs.length := by omega
          simpa [List.getD, h3, hix] using this
        obtain ⟨x, hx⟩ : ∃ x, x = xs.getD (i + 1) 0 := ⟨_, rfl⟩
        obtain ⟨y, hy⟩ : ∃ y, y = xs.getD i 0 := ⟨_, rfl⟩
        rw [← hx] at hci HT hmem hpr
        rw [← hy] at hcp hlast hpr
        clear hx hy hc
        have hiw : IntKind.i64.wrap ((i : Int)) = (i : Int) := by rw [IntKind.wrap_i64]; omega
        have d0 : decide ((0 : Int) < ((i + 1 : Nat) : Int)) = true := by simp
        by_cases h2 : x < m + 2
        · have hb0 : b = false := HB.out.2 (fun hG => by
            have := hG.1.bey x hmem
            have hne : x ≠ m + 1 := fun e => hG.2 (e ▸ hmem)
            omega)
          subst hb0
          have d1 : decide (x < m + 2) = true := by simpa using h2
          clear hmem HT HB hpr hlast
          go_wp2_with fail
          go_quiet (fail)
          go_wp2
          go_ret
          exact ⟨rfl, HF.out.then (Fr.drewN _ _ _)⟩
        have d1 : decide (x < m + 2) = false := by simpa using h2
        by_cases h3 : 65536 < x
        · have hb0 : b = false := HB.out.2 (fun hG => by
            have := hG.1.bey x hmem
            omega)
          subst hb0
          have d2 : decide (65536 < x) = true := by simpa using h3
          clear hmem HT HB hpr hlast
          go_wp2_with fail
          go_quiet (fail)
          go_wp2
          go_ret
          exact ⟨rfl, HF.out.then (Fr.drewN _ _ _)⟩
        have d2 : decide (65536 < x) = false := by simpa using h3
        by_cases h4 : x ≤ y
        · have hb0 : b = false := HB.out.2 (fun hG => by
            have := hpr hG.1.ris
            omega)
          subst hb0
          have d3 : decide (x ≤ y) = true := by simpa using h4
          clear hmem HT HB hpr hlast
          go_wp2_with fail
          go_quiet (fail)
          go_wp2
          go_ret
          exact ⟨rfl, HF.out.then (Fr.drewN _ _ _)⟩
        have d3 : decide (x ≤ y) = false := by simpa using h4
        have HG2 : Hid (Gok m (xs.take (i + 1 + 1))) := by
          rw [Hid, HT]
          obtain ⟨g1, g2⟩ := HG.out
          refine ⟨⟨by omega, by omega, Ris.snoc g1.ris (fun z hz => by have := hlast z hz; omega), fun z hz => ?_⟩, fun hz => ?_⟩
          · rcases List.mem_append.1 hz with e | e
            · exact g1.bey z e
            · simp at e; omega
          · rcases List.mem_append.1 hz with e | e
            · exact g2 e
            · simp at e; omega
        clear hmem HT hpr hlast
        go_wp2_with fail
        go_quiet (fail)
        have HF2 : Hid (Fr [] w (wr.drewN nq)) := HF.out.then (Fr.drewN _ _ _)
        go_wp2
        go_roundw
        case rel => exact ⟨i + 1 + 1, by simp, by omega, HG2, HF2⟩
        case measure => simp [RowKit.intOf]; omega
    · have hb1 : b = true := HB.out.1.2 (by
        have := HG.out
        rwa [List.take_of_length_le (by rw [← HL.out]; omega)] at this)
      subst hb1
      go_wp2
      go_ret
      exact ⟨rfl, HF.out⟩
end Go.Proofs.YtleklocdejldnaaDoor
