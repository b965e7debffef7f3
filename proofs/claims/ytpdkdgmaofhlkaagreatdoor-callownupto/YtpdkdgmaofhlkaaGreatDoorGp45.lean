/- Texts of this claim laid together, one behind the other: contracts and plain lemmas; conditions as each names them. -/
import Derived.Test.YtpdkdgmaofhlkaaGreatDoorGp39
import Derived.Test.YtpdkdgmaofhlkaaGreatDoorGp44
import Derived.Test.YtpdkdgmaofhlkaaGreatDoorGp26
import Derived.Test.YtpdkdgmaofhlkaaGreatDoorGp33
import Derived.Test.YtpdkdgmaofhlkaaGreatDoorGp25
/- A Book of versions, entries and keys with versions: its birth, what leaves it alone, what is told to it. Conditions as each names them. -/
namespace Go.Proofs.YtpdkdgmaofhlkaaGreatDoor.Bq
open Go.ChangeShapes Go.WideShapes Go.ChangeAt Go.RowKit Go.Lib
set_option linter.unusedVariables false
set_option linter.unusedSimpArgs false

/-- A Book that was told nothing. -/
def newBk : Array Value := #[.int .i64 0, .slice none 0 0, .slice none 0 0, .slice none 0 0, .slice none 0 0, .slice none 0 0, .slice none 0 0, .slice none 0 0, .slice none 0 0, .slice none 0 0, .slice none 0 0, .slice none 0 0]
theorem S0.none {K : Kd} {w : World} {bk : Nat} (h : w.heap[bk]? = some (.cells newBk 47 (0, 0))) (hc : newBk[K.col]? = some (.slice none 0 0)) : S0 K w bk (.slice none 0 0) [] :=
  ⟨⟨⟨newBk, h, hc⟩, World.ownsRow_nil _ _ _ _, by simp, by simp⟩, by simp, fun i j a b ha => by simp at ha, fun j h hh => by simp at hh⟩
theorem B4.new {w0 w : World} {bk : Nat} (h : w.heap[bk]? = some (.cells newBk 47 (0, 0))) (hb : w0.heap.size ≤ bk) : B4 w0 w bk 0 (.slice none 0 0) (.slice none 0 0) (.slice none 0 0) (.slice none 0 0) [] [] [] [] := by
  refine ⟨⟨newBk, ⟨h, rfl, ?_⟩, rfl⟩, S0.none h rfl, S0.none h rfl, S0.none h rfl, S0.none h rfl, hb, ?_, ?_, ?_, ?_, by simp, by simp, by simp, by simp⟩
  · rintro c (rfl | rfl | rfl | rfl | rfl | rfl | rfl) <;> rfl
  all_goals (intro k hk; simp [Value.ownBlock] at hk)
theorem own_base8 {w : World} {base : Nat} {e : TypeId} {size : Nat} {v : Value} {n : Nat} {xs : List Value} (h : w.ownsRow base e size v n xs) : w.ownsRow 0 e size v n xs := by
  refine ⟨h.1, ?_⟩
  rcases h.2 with h0 | ⟨g, cap, cur, hv, _, hr⟩
  · exact Or.inl h0
  · exact Or.inr ⟨g, cap, cur, hv, Nat.zero_le _, hr⟩
/-- What an answer is to a Book. -/
theorem P0.of_out {w0 w : World} {ro : Option Addr} {N rc n : Nat} {vs : List Vn} (h : VOut w0 w ro N rc vs) (hN : N < 17179869184) : P0 kVersion w ⟨.slice ro N rc, .slice none 0 0, n⟩ := by
  obtain ⟨rf, h1, h2⟩ := h.own
  exact ⟨N, vnsC vs, ⟨ro, rc, rf, rfl, h.cap, h1, own_base8 h2⟩, hN⟩
theorem S0.keepN {K : Kd} {S : List Nat} {w w' : World} {bk : Nat} {rv : Value} {hs : List HB} (h : S0 K w bk rv hs) (hf : Fr S w w') (hb : bk ∉ S) (hr : ∀ k, rv.ownBlock = some k → k ∉ S) (hl : ∀ k ∈ lbs hs, k ∉ S) : S0 K w' bk rv hs := by
  obtain ⟨cs, h1, h2⟩ := h.bl.box
  exact ⟨⟨⟨cs, hf.keep h1 hb, h2⟩, owns_keep h.bl.row hf hr, h.bl.few, h.bl.num⟩, fun j b hj => (h.each j b hj).keep hf (fun k hk => hl k (mem_lbs.2 ⟨b, List.mem_of_getElem? hj, hk⟩)), h.alone, h.fresh⟩
theorem lbs_append (a b : List HB) : lbs (a ++ b) = lbs a ++ lbs b := by simp [lbs]
theorem lbs_snoc {hs : List HB} {x : HB} {k : Nat} (h : k ∈ lbs (hs ++ [x])) : k ∈ lbs hs ∨ x.l.ownBlock = some k := by
  obtain ⟨y, hy, hy2⟩ := mem_lbs.1 h
  rcases List.mem_append.1 hy with e | e
  · exact Or.inl (mem_lbs.2 ⟨y, e, hy2⟩)
  · rw [List.mem_singleton] at e; subst e; exact Or.inr hy2
theorem moved_of {n : Nat} {v v' : Value} (h : Moved n v v') {k : Nat} (hk : v'.ownBlock = some k) : v.ownBlock = some k ∨ n ≤ k := by
  rcases h with e | ⟨q, e, hq⟩
  · exact Or.inl (e ▸ hk)
  · rw [e] at hk; cases hk; exact Or.inr hq
theorem lbs_lt {K : Kd} {w : World} {bk : Nat} {rv : Value} {hs : List HB} (h : S0 K w bk rv hs) {k : Nat} (hk : k ∈ lbs hs) : k < w.heap.size := by
  obtain ⟨b, hb, hb2⟩ := mem_lbs.1 hk
  obtain ⟨j, hj⟩ := List.getElem?_of_mem hb
  obtain ⟨cs, hc⟩ := (h.each j b hj).type k hb2
  exact lt_of_block hc
section
variable {S : List Nat} {w0 w w' : World} {bk T : Nat} {rB rI rW rT : Value} {hB hI hW hT : List HB}
/-- All a Book's blocks. -/
def kbs (bk : Nat) (rB rI rW rT : Value) (hB hI hW hT : List HB) : List Nat := bk :: own4 rB rI rW rT hB hI hW hT
theorem mem_kbs {k : Nat} : k ∈ kbs bk rB rI rW rT hB hI hW hT ↔ k = bk ∨ ((rB.ownBlock = some k ∨ k ∈ lbs hB) ∨ (rI.ownBlock = some k ∨ k ∈ lbs hI) ∨ (rW.ownBlock = some k ∨ k ∈ lbs hW) ∨ (rT.ownBlock = some k ∨ k ∈ lbs hT)) := by
  simp only [kbs, own4, List.mem_cons, List.mem_append, Option.mem_toList]
theorem B4.keepN (h : B4 w0 w bk T rB rI rW rT hB hI hW hT) (hf : Fr S w w') (hS : ∀ j ∈ kbs bk rB rI rW rT hB hI hW hT, j ∉ S) : B4 w0 w' bk T rB rI rW rT hB hI hW hT := by
  obtain ⟨cs, hX, hc⟩ := h.box
  have hb : bk ∉ S := hS bk (mem_kbs.2 (Or.inl rfl))
  exact ⟨⟨cs, hX.keep hf hb, hc⟩, h.sB.keepN hf hb (fun k hk => hS k (mem_kbs.2 (Or.inr (Or.inl (Or.inl hk))))) (fun k hk => hS k (mem_kbs.2 (Or.inr (Or.inl (Or.inr hk))))),
    h.sI.keepN hf hb (fun k hk => hS k (mem_kbs.2 (Or.inr (Or.inr (Or.inl (Or.inl hk)))))) (fun k hk => hS k (mem_kbs.2 (Or.inr (Or.inr (Or.inl (Or.inr hk)))))),
    h.sW.keepN hf hb (fun k hk => hS k (mem_kbs.2 (Or.inr (Or.inr (Or.inr (Or.inl (Or.inl hk))))))) (fun k hk => hS k (mem_kbs.2 (Or.inr (Or.inr (Or.inr (Or.inl (Or.inr hk))))))),
    h.sT.keepN hf hb (fun k hk => hS k (mem_kbs.2 (Or.inr (Or.inr (Or.inr (Or.inr (Or.inl hk))))))) (fun k hk => hS k (mem_kbs.2 (Or.inr (Or.inr (Or.inr (Or.inr (Or.inr hk))))))), h.bn, h.rBn, h.rIn, h.rWn, h.rTn, h.lB, h.lI, h.lW, h.lT⟩
theorem B4.keep (h : B4 w0 w bk T rB rI rW rT hB hI hW hT) (hf : Fr [] w w') : B4 w0 w' bk T rB rI rW rT hB hI hW hT := h.keepN hf (by simp)
theorem B4.lt (h : B4 w0 w bk T rB rI rW rT hB hI hW hT) : ∀ k ∈ kbs bk rB rI rW rT hB hI hW hT, k < w.heap.size := by
  intro k hk
  obtain ⟨cs, hX, hc⟩ := h.box
  rcases mem_kbs.1 hk with rfl | (e | e) | (e | e) | (e | e) | (e | e)
  · exact lt_of_block hX.box
  · exact (h.sB.bl.row.lt k e).2
  · exact lbs_lt h.sB e
  · exact (h.sI.bl.row.lt k e).2
  · exact lbs_lt h.sI e
  · exact (h.sW.bl.row.lt k e).2
  · exact lbs_lt h.sW e
  · exact (h.sT.bl.row.lt k e).2
  · exact lbs_lt h.sT e
set_option maxHeartbeats 1000000 in
theorem entries_any (h : B4 w0 w bk T rB rI rW rT hB hI hW hT) (ao : Option Addr) (L cap : Nat) (hp : P0 kEntry w ⟨.slice ao L cap, .slice none 0 0, T + 1⟩) (hal : ∀ k, (Value.slice ao L cap).ownBlock = some k → k ∉ lbs hB) (hT2 : T < 67108862) :
    Calls Tryz.prog 30 #[.pointer (some ⟨bk, 0, none⟩), .slice ao L cap] w fun e w' => e = .returned (.tuple #[]) ∧ ∃ rv', B4 w0 w' bk (T + 1) rv' rI rW rT (hB ++ [⟨.slice ao L cap, .slice none 0 0, T + 1⟩]) hI hW hT ∧ Fr (bk :: rB.ownBlock.toList) w w' ∧ Moved w.heap.size rB rv' := by
  have HC : Hid _ := tellEntry_any h ao L cap hp hal hT2
  clear h hp hal
  go_enter Tryz.func30, Tryz.ntmps30
  go_wp2_with fail
  refine Calls.mono HC.out ?_
  rintro e w' ⟨rfl, R⟩
  have HR : Hid _ := R
  clear R HC
  go_wp2_with fail
  go_end0
  exact ⟨rfl, HR.out⟩
set_option maxHeartbeats 1000000 in
theorem ints_any (h : B4 w0 w bk T rB rI rW rT hB hI hW hT) (ao : Option Addr) (L cap : Nat) (hp : P0 kInt w ⟨.slice ao L cap, .slice none 0 0, T + 1⟩) (hal : ∀ k, (Value.slice ao L cap).ownBlock = some k → k ∉ lbs hI) (hT2 : T < 67108862) :
    Calls Tryz.prog 29 #[.pointer (some ⟨bk, 0, none⟩), .slice ao L cap] w fun e w' => e = .returned (.tuple #[]) ∧ ∃ rv', B4 w0 w' bk (T + 1) rB rv' rW rT hB (hI ++ [⟨.slice ao L cap, .slice none 0 0, T + 1⟩]) hW hT ∧ Fr (bk :: rI.ownBlock.toList) w w' ∧ Moved w.heap.size rI rv' := by
  have HC : Hid _ := tellInt_any h ao L cap hp hal hT2
  clear h hp hal
  go_enter Tryz.func29, Tryz.ntmps29
  go_wp2_with fail
  refine Calls.mono HC.out ?_
  rintro e w' ⟨rfl, R⟩
  have HR : Hid _ := R
  clear R HC
  go_wp2_with fail
  go_end0
  exact ⟨rfl, HR.out⟩
set_option maxHeartbeats 1000000 in
theorem versions_any (h : B4 w0 w bk T rB rI rW rT hB hI hW hT) (ao : Option Addr) (L cap : Nat) (hp : P0 kVersion w ⟨.slice ao L cap, .slice none 0 0, T + 1⟩) (hal : ∀ k, (Value.slice ao L cap).ownBlock = some k → k ∉ lbs hT) (hT2 : T < 67108862) :
    Calls Tryz.prog 31 #[.pointer (some ⟨bk, 0, none⟩), .slice ao L cap] w fun e w' => e = .returned (.tuple #[]) ∧ ∃ rv', B4 w0 w' bk (T + 1) rB rI rW rv' hB hI hW (hT ++ [⟨.slice ao L cap, .slice none 0 0, T + 1⟩]) ∧ Fr (bk :: rT.ownBlock.toList) w w' ∧ Moved w.heap.size rT rv' := by
  have HC : Hid _ := tellVersion_any h ao L cap hp hal hT2
  clear h hp hal
  go_enter Tryz.func31, Tryz.ntmps31
  go_wp2_with fail
  refine Calls.mono HC.out ?_
  rintro e w' ⟨rfl, R⟩
  have HR : Hid _ := R
  clear R HC
  go_wp2_with fail
  go_end0
  exact ⟨rfl, HR.out⟩
end
/-- A key with versions as a Book sees it: its key, where its versions lie. -/
abbrev Dt := ByteArray × Value
def dtC (ds : List Dt) : List Value := ds.flatMap fun d => [.string d.1, d.2]
theorem dtC_length (ds : List Dt) : (dtC ds).length = ds.length * 2 := by
  induction ds with
  | nil => rfl
  | cons d r ih => simp only [dtC, List.flatMap_cons, List.length_append, List.length_cons, List.length_nil] at ih ⊢; omega
theorem dtC_get (ds : List Dt) (i : Nat) (d : Dt) (h : ds[i]? = some d) : (dtC ds)[i * 2]? = some (.string d.1) ∧ (dtC ds)[i * 2 + 1]? = some d.2 := by
  induction ds generalizing i with
  | nil => simp at h
  | cons a r ih =>
    have e : dtC (a :: r) = .string a.1 :: a.2 :: dtC r := rfl
    cases i with
    | zero => simp at h; subst h; rw [e]; exact ⟨rfl, rfl⟩
    | succ i =>
      rw [e, show (i + 1) * 2 = i * 2 + 1 + 1 by omega]
      simpa using ih i (by simpa using h)
/-- What the Book holds of them. -/
def held : Nat → List Dt → List HB
  | _, [] => []
  | T, d :: r => ⟨d.2, .slice none 0 0, T + 1⟩ :: held (T + 1) r
theorem held_length (T : Nat) (ds : List Dt) : (held T ds).length = ds.length := by
  induction ds generalizing T with
  | nil => rfl
  | cons d r ih => simp [held, ih]
theorem held_snoc (T : Nat) (ds : List Dt) (d : Dt) : held T (ds ++ [d]) = held T ds ++ [⟨d.2, .slice none 0 0, T + ds.length + 1⟩] := by
  induction ds generalizing T with
  | nil => simp [held]
  | cons a r ih =>
    simp only [List.cons_append, held, ih, List.length_cons]
    rw [show T + 1 + r.length + 1 = T + (r.length + 1) + 1 by omega]
theorem mem_held {T : Nat} {ds : List Dt} {k : Nat} (h : k ∈ lbs (held T ds)) : ∃ (i : Nat) (d : Dt), ds[i]? = some d ∧ d.2.ownBlock = some k := by
  induction ds generalizing T with
  | nil => simp [held, lbs] at h
  | cons a r ih =>
    obtain ⟨b, hb, hk⟩ := mem_lbs.1 h
    simp only [held, List.mem_cons] at hb
    rcases hb with rfl | hb
    · exact ⟨0, a, rfl, hk⟩
    · obtain ⟨i, d, hd, hk⟩ := ih (T := T + 1) (mem_lbs.2 ⟨b, hb, hk⟩)
      exact ⟨i + 1, d, by simpa using hd, hk⟩
/-- A row of keys whose versions lie apart, of which a Book may be told. -/
structure Dts (w : World) (ao : Option Addr) (L cap : Nat) (ds : List Dt) : Prop where
  row : w.ownsRow 0 97 2 (.slice ao L cap) L (dtC ds)
  len : L = ds.length
  few : L < 2097152
  each : ∀ (i : Nat) (d : Dt), ds[i]? = some d → ∃ n vs, Cut w 134 3 d.2 n vs ∧ n < 17179869184
  apart : ∀ (i j : Nat) (a b : Dt), ds[i]? = some a → ds[j]? = some b → i ≠ j → ∀ k, a.2.ownBlock = some k → b.2.ownBlock ≠ some k
theorem Dts.keep {S : List Nat} {w w' : World} {ao : Option Addr} {L cap : Nat} {ds : List Dt} (h : Dts w ao L cap ds) (hf : Fr S w w') (h1 : ∀ k, (Value.slice ao L cap).ownBlock = some k → k ∉ S) (h2 : ∀ (i : Nat) (d : Dt), ds[i]? = some d → ∀ k, d.2.ownBlock = some k → k ∉ S) : Dts w' ao L cap ds :=
  ⟨owns_keep h.row hf h1, h.len, h.few, fun i d hd => by obtain ⟨n, vs, q1, q2⟩ := h.each i d hd; exact ⟨n, vs, q1.keep hf (h2 i d hd), q2⟩, h.apart⟩
theorem take_snocD (ds : List Dt) (i : Nat) (d : Dt) (h : ds[i]? = some d) : ds.take (i + 1) = ds.take i ++ [d] := by rw [List.take_add_one, h]; rfl

set_option maxHeartbeats 4000000 in
set_option maxRecDepth 100000 in
theorem helds_any {w0 w : World} {bk T : Nat} {rB rI rW rT : Value} {hB hI hW hT : List HB} (h : B4 w0 w bk T rB rI rW rT hB hI hW hT) (ao : Option Addr) (L cap : Nat) (ds : List Dt) (hd : Dts w ao L cap ds) (hw : ∀ (i : Nat) (d : Dt), ds[i]? = some d → ∀ k, d.2.ownBlock = some k → k ∉ lbs hT) (ht : ∀ k, (Value.slice ao L cap).ownBlock = some k → k ∉ lbs hW) (hTL : T + L < 67108000) :
    Calls Tryz.prog 14 #[.pointer (some ⟨bk, 0, none⟩), .slice ao L cap] w fun e w' => e = .returned (.tuple #[]) ∧ ∃ rT' rW', B4 w0 w' bk (T + L + 1) rB rI rW' rT' hB hI (hW ++ [⟨.slice ao L cap, .slice none 0 0, T + L + 1⟩]) (hT ++ held T ds) ∧ Fr (bk :: (rT.ownBlock.toList ++ rW.ownBlock.toList)) w w' ∧ Moved w.heap.size rT rT' ∧ Moved w.heap.size rW rW' := by
  have HD : Hid (Dts w ao L cap ds) := hd
  have hL := hd.few
  have HL : Hid (L = ds.length) := hd.len
  have HB0 : Hid (B4 w0 w bk T rB rI rW rT hB hI hW hT) := h
  have hrow := hd.row
  clear h hd
  go_enter Tryz.func14, Tryz.ntmps14
  go_wp2_with fail
  go_loopw [4] (fun ii wr => ∃ (i : Nat) (v : Value), ii = .int .i64 i ∧ i ≤ L ∧ Hid (B4 w0 wr bk (T + i) rB rI rW v hB hI hW (hT ++ held T (ds.take i))) ∧ Hid (Fr (bk :: rT.ownBlock.toList) w wr ∧ Moved w.heap.size rT v) ∧ Hid (Dts wr ao L cap ds)) (fun ii _ => L - (RowKit.intOf ii).toNat)
  case atStart => exact ⟨0, rT, rfl, Nat.zero_le _, by simpa [held] using HB0, ⟨Fr.refl _ _, Moved.refl _ _⟩, HD⟩
  case round =>
    obtain ⟨i, v, rfl, hiL, HB, HF, HDr⟩ := hrel
    by_cases hi : i < L
    · obtain ⟨d, hdi⟩ : ∃ d, ds[i]? = some d := ⟨_, List.getElem?_eq_getElem (by rw [← HL.out]; exact hi)⟩
      have HDI : Hid (ds[i]? = some d) := hdi
      obtain ⟨n, vs, q1, q2⟩ := HDr.out.each i d hdi
      obtain ⟨so, sc, sf, hsv, hnc, hcf, q3⟩ := id q1
      obtain ⟨g, gc, hg, hgc⟩ := own_form HDr.out.row (by omega)
      cases hg
      obtain ⟨e1, e2⟩ := dtC_get ds i d hdi
      have c1 : wr.cell? ⟨g, i * 2 + 1, none⟩ = some d.2 := by rw [HDr.out.row.cellAt (i * 2 + 1) (by omega), e2]
      obtain ⟨dn, dv⟩ := d
      simp only at c1 hsv q1
      subst hsv
      have hal : ∀ k, (Value.slice so n sc).ownBlock = some k → k ∉ lbs (hT ++ held T (ds.take i)) := by
        intro k hk hm
        rw [lbs_append] at hm
        rcases List.mem_append.1 hm with hm | hm
        · exact hw i _ HDI.out k hk hm
        · obtain ⟨j, b, hb, hbk⟩ := mem_held hm
          have hji : j < i := by have := (List.getElem?_eq_some_iff.1 hb).1; rw [List.length_take] at this; omega
          rw [List.getElem?_take, if_pos hji] at hb
          exact HDr.out.apart i j _ b HDI.out hb (by omega) k hk hbk
      have HC : Hid _ := versions_any HB.out so n sc ⟨n, vs, q1, q2⟩ hal (by omega)
      have HTK := take_snocD ds i _ hdi
      have HHS : Hid (hT ++ held T (ds.take (i + 1)) = (hT ++ held T (ds.take i)) ++ [⟨.slice so n sc, .slice none 0 0, T + i + 1⟩]) := by
        show _ = _
        rw [HTK, held_snoc, List.length_take, show min i ds.length = i by have := HL.out; omega, List.append_assoc]
      have HNB : Hid (∀ k cs t, wr.heap[k]? = some (.cells cs t (0, 0)) → t ≠ 47 → t ≠ 132 → k ∉ bk :: v.ownBlock.toList) := by
        intro k cs t hk h1 h2 hm
        rcases List.mem_cons.1 hm with rfl | hm
        · obtain ⟨cs', hX, _⟩ := HB.out.box
          rw [hX.box] at hk
          simp only [Option.some.injEq, Obj.cells.injEq] at hk
          exact h1 hk.2.1.symm
        · obtain ⟨cs', hc⟩ := own_type HB.out.sT.bl.row k (by simpa using hm)
          rw [hc] at hk
          simp only [Option.some.injEq, Obj.cells.injEq] at hk
          exact h2 hk.2.1.symm
      clear hdi hal e1 e2 HTK q1 q3 hnc hcf
      go_wp2_with fail
      refine Calls.mono HC.out ?_
      rintro e w2 ⟨rfl, v2, R1, R2, R3⟩
      have HB2 : Hid (B4 w0 w2 bk (T + (i + 1)) rB rI rW v2 hB hI hW (hT ++ held T (ds.take (i + 1)))) := by rw [HHS.out]; exact R1
      have HF2 : Hid (Fr (bk :: rT.ownBlock.toList) w w2 ∧ Moved w.heap.size rT v2) := by
        obtain ⟨f1, f2⟩ := HF.out
        refine ⟨f1.trans R2 (fun x hx _ => hx) ?_, f2.trans R3 f1.size⟩
        intro x hx hl
        rcases List.mem_cons.1 hx with rfl | hx
        · simp
        · rcases f2 with f2 | ⟨y, y1, y2⟩
          · rw [f2] at hx; exact List.mem_cons_of_mem _ hx
          · rw [y1] at hx; simp at hx; omega
      have HD2 : Hid (Dts w2 (some ⟨g, 0, none⟩) L cap ds) := HDr.out.keep R2 (fun k hk => by obtain ⟨cs, hc⟩ := own_type HDr.out.row k hk; exact HNB.out k cs _ hc (by decide) (by decide)) (fun j b hb k hk => by obtain ⟨m, us, u1, _⟩ := HDr.out.each j b hb; obtain ⟨cs, hc⟩ := u1.type k hk; exact HNB.out k cs _ hc (by decide) (by decide))
      clear R1 R2 R3 HC HB HF HDr HNB HHS
      go_wp2_with fail
      go_roundw
      case rel => exact ⟨i + 1, v2, by simp, by omega, HB2, HF2, HD2⟩
      case measure => simp [RowKit.intOf]; omega
    · have hiL' : i = L := by omega
      subst hiL'
      have HB1 : Hid (B4 w0 wr bk (T + i) rB rI rW v hB hI hW (hT ++ held T ds)) := by
        have := HB.out
        rw [List.take_of_length_le (by have := HL.out; omega)] at this
        exact this
      have HC : Hid _ := tellHeld_any HB1.out ao i cap ⟨i, dtC ds, Cut.of HDr.out.row, by omega⟩ ht (by omega)
      clear HB HDr hrow
      go_wp2_with fail
      refine Calls.mono HC.out ?_
      rintro e w2 ⟨rfl, v2, R1, R2, R3⟩
      have HE : Hid (_ ∧ _ ∧ _ ∧ _) := ⟨R1, (by
        obtain ⟨f1, f2⟩ := HF.out
        refine f1.trans R2 ?_ ?_
        · intro x hx _
          rcases List.mem_cons.1 hx with rfl | hx
          · simp
          · exact List.mem_cons_of_mem _ (List.mem_append_left _ hx)
        · intro x hx _
          rcases List.mem_cons.1 hx with rfl | hx
          · simp
          · exact List.mem_cons_of_mem _ (List.mem_append_right _ hx) : Fr (bk :: (rT.ownBlock.toList ++ rW.ownBlock.toList)) w w2), HF.out.2, (Moved.refl w.heap.size rW).trans R3 HF.out.1.size⟩
      clear R1 R2 R3 HC HF
      go_wp2_with fail
      go_end0
      exact ⟨rfl, v, v2, HE.out⟩
end Go.Proofs.YtpdkdgmaofhlkaaGreatDoor.Bq
/- A task of the program beside a Book: what it answers is new memory. Conditions as each names them. -/
namespace Go.Proofs.YtpdkdgmaofhlkaaGreatDoor
open Go.ChangeShapes Go.WideShapes Go.ChangeAt Go.RowKit Go.Lib Go.Sort
set_option linter.unusedVariables false
set_option linter.unusedSimpArgs false

theorem PM.sent {w w' : World} {B : List Nat} {t : Nat} {T : Tk} {bs : List Int} {xs : List Rx} (h : PM w B t T bs xs) {a : Nat} (hk : TkM w' t { T with ak := a }) (hf : Fr [t] w w') : PM w' B t { T with ak := a } bs xs := by
  have hB : ∀ b ∈ B, b ∉ [t] := fun b hb hm => h.tB (by rw [← List.mem_singleton.1 hm]; exact hb)
  obtain ⟨els, elh, h1, h2, h3, h4, h5, h6⟩ := h.ex
  exact ⟨hk, h.tB, fun b hb => Nat.lt_of_lt_of_le (h.lt b hb) hf.size, h.rp, h.ct, owns_keepB h.bo hf (fun k hk => hB _ (h.bk hk)), h.bl, h.bm, h.bb, els, elh, h1.keep hf hB, h2.keep hf hB, h3, h4, h5, h6⟩
theorem rrE_twin {W : World} {be : Nat} {es : List Ey} (h : W.heap[be]? = some (.cells (eysC (es ++ [spE])).toArray 102 (0, 0))) : RrE W (some ⟨be, 0, none⟩) es := fun j u hu => by
  refine ⟨be, 0, rfl, lt_of_block h, ?_⟩
  rw [cell_of_row _ _ _ _ _ _ h, Nat.zero_add, eysC_append]
  have hj := (List.getElem?_eq_some_iff.1 hu).1
  simp only [List.getElem?_toArray]
  rw [List.getElem?_append_left hj]
  exact hu
theorem rrH_twin {W : World} {bh : Nat} {hs : List Hd} {z : Hd} (h : W.heap[bh]? = some (.cells (hdsC (hs ++ [z])).toArray 97 (0, 0))) : RrH W (some ⟨bh, 0, none⟩) hs := fun j u hu => by
  refine ⟨bh, 0, rfl, lt_of_block h, ?_⟩
  rw [cell_of_row _ _ _ _ _ _ h, Nat.zero_add, hdsC_append]
  have hj := (List.getElem?_eq_some_iff.1 hu).1
  simp only [List.getElem?_toArray]
  rw [List.getElem?_append_left hj]
  exact hu
theorem VRs.twin {W : World} {k : Nat} {vs : List Vn} (h : W.heap[k]? = some (.cells (vnsC (vs ++ [spV])).toArray 134 (0, 0))) (hf : vs.length ≤ 4398046511104) (he : ∀ x ∈ vs, VEach x) : VRs W (some ⟨k, 0, none⟩) vs := by
  refine VRs.of_cells (fun _ => lt_of_block h) (fun j u hu => ?_) hf he
  rw [cell_of_row _ _ _ _ _ _ h, Nat.zero_add, vnsC_append]
  have hj := (List.getElem?_eq_some_iff.1 hu).1
  simp only [List.getElem?_toArray]
  rw [List.getElem?_append_left hj]
  exact hu
theorem twTs_kv : ∀ (hs : List Hd) (ks : List Nat), ks.length = hs.length → (twTs hs ks).map Hd.kv = hs.map Hd.kv
  | [], _, _ => by simp [twTs]
  | h :: hs, [], e => by simp at e
  | h :: hs, k :: ks, e => by
    have := twTs_kv hs ks (by simpa using e)
    unfold twTs at *
    simp only [List.zipWith_cons_cons, List.map_cons, this]
    rfl
theorem TwR.rt {wA W : World} {t : Nat} {r : Rp} {es : List Ey} {hs : List Hd} {be bh : Nat} {ks : List Nat} (h : TwR wA W r es hs be bh ks) (ht : t < wA.heap.size) (hB : RpB W r es hs) (me : r.el ≤ 4194304) (mh : r.hl ≤ 4194304) : RtB W t (twRp r be bh) ⟨r, es, hs⟩ (twTs hs ks) := by
  have n : ∀ k, wA.heap.size ≤ k → k ∉ [t] := fun k hk hm => by have := List.mem_singleton.1 hm; omega
  refine ⟨fun V hV => rrE_twin (hV.keep h.re (n _ h.ne)), hB.el, me, fun V hV => ⟨rrH_twin (hV.keep h.rh (n _ h.nh)), fun z hz => ?_⟩, ?_, mh, twTs_kv hs ks h.tw.len, rfl⟩
  · obtain ⟨i, hi⟩ := List.getElem?_of_mem hz
    obtain ⟨x, k, e1, e2, rfl⟩ := twTs_get hi
    have hx := hB.yh.each x (List.mem_of_getElem? e1)
    exact ⟨VRs.twin (hV.keep (h.tw.row i x k e1 e2) (n _ (h.tw.new k (List.mem_of_getElem? e2)))) hx.rs.few hx.rs.each, hx.len⟩
  · rw [twTs_length _ _ h.tw.len]; exact hB.hl
/-- A row of one's own where other blocks are written. -/
theorem HOut.keepK {V w w' : World} {ro : Option Addr} {N rc : Nat} {hs : List Hd} {S : List Nat} (h : HOut V w ro N rc hs) (hf : Fr S w w') (h1 : ∀ k, (Value.slice ro N rc).ownBlock = some k → k ∉ S) (h2 : ∀ x ∈ hs, ∀ k, (Value.slice x.vo x.L x.cap).ownBlock = some k → k ∉ S) : HOut V w' ro N rc hs :=
  ⟨h.len, owns_keepB h.row hf h1, fun x hx => (h.each x hx).keepS hf (fun k hk => h2 x hx k (Option.mem_toList.1 hk)), h.apart⟩
/-- What an answer is: new memory. -/
def AnsO (k : Int) (xs : List Rx) (w : World) (e : Ending) (w' : World) : Prop := ∃ co er ma ok eo en ec ct ro hn rc hs', e = .returned (.tuple #[.agg #[.int .i64 co, .int .i64 ma, .bool ok, .slice eo en ec, .int .i64 ct], .slice ro hn rc, .int .i64 er]) ∧ (∃ es : List Ey, w'.ownsRow w.heap.size 102 2 (.slice eo en ec) en (eysC es)) ∧ (∃ V, w.heap.size ≤ V.heap.size ∧ HOut V w' ro hn rc hs') ∧ hn ≤ (ansH k xs).length ∧ (∀ z ∈ hs', ∃ y ∈ ansH k xs, y.vs = z.vs) ∧ en ≤ 67108864 ∧ Fr [] w w'
theorem pans2 {w : World} {B : List Nat} {t : Nat} {T : Tk} {bs : List Int} {xs : List Rx} (h : PM w B t T bs xs) (hn : T.n < 0) (hm : Cf.may ⟨T.l, T.s, T.x, T.q⟩) (hc : okC T.k T.key T.en) (hak : T.ak ≤ 16) (hx16 : xs.length ≤ 16) (hx1 : T.k = 1 → xs.length ≤ 1) (hE : (ansE T.k xs).length ≤ 67108864) :
    Calls Tryz.prog 11 #[.pointer (some ⟨t, 0, none⟩)] w (AnsO T.k xs w) := by
  have hrp : T.rp ≤ 16 := by rw [h.rp]; exact hx16
  cases hal : T.al with
  | false =>
    refine (qAnswer_ord h.tk hn hm hc hak hrp hal).mono ?_
    rintro e w' ⟨rfl, hf⟩
    exact ⟨0, 6, 0, false, none, 0, 0, 0, none, 0, 0, [], rfl, ⟨[], ⟨rfl, .inl ⟨rfl, rfl⟩⟩⟩, ⟨w, Nat.le_refl _, ⟨rfl, ⟨rfl, .inl ⟨rfl, rfl⟩⟩, by simp, by simp⟩⟩, Nat.zero_le _, by simp, by omega, hf⟩
  | true =>
    obtain ⟨els, elh, h1, h2, h3, h4, h5, h6⟩ := h.ex
    have eE : sortB Ey.key (flaE els) = ansE T.k xs := by rw [h3]; exact fE_ans T.k xs hx1
    have eL : (flaE els).length = (ansE T.k xs).length := by rw [← eE, sortB_length]
    have eH : (sortB Hd.key (flaH elh)).map Hd.kv = (ansH T.k xs).map Hd.kv := by rw [sort_kv h4, fH_ans]
    have eM : (flaH elh).length = (ansH T.k xs).length := by
      have := congrArg List.length eH
      rw [List.length_map, List.length_map, sortB_length] at this
      exact this
    refine (qAnswer_ok2 h.tk hn hm hc hak hrp hal (flaE els).length
      (fun W v => ∃ eo ec, v = .slice eo (flaE els).length ec ∧ W.ownsRow w.heap.size 102 2 (.slice eo (flaE els).length ec) (flaE els).length (eysC (sortB Ey.key (flaE els))))
      (fun W v => ∃ ro rc hs' W0, v = .slice ro (flaH elh).length rc ∧ w.heap.size < W0.heap.size ∧ HOut W0 W ro (flaH elh).length rc hs' ∧ hs'.map Hd.kv = (sortB Hd.key (flaH elh)).map Hd.kv)
      (fun W hW => (allE_any (h.tk.keep hW (by simp)) (h1.keep hW (by simp)) (by omega)).mono ?_) (fun W hW hlt => (allH_any (h.tk.keep hW (by simp)) (h2.keep hW (by simp)) (by omega)).mono ?_) ?_ ?_).mono ?_
    · rintro e w' ⟨eo, ec, rfl, ho, hf⟩
      exact ⟨eo, ec, rfl, ⟨eo, ec, rfl, own_base ho hW.size⟩, hf⟩
    · rintro e w' ⟨ro, rc, hs', rfl, ho, hkv, hf⟩
      exact ⟨_, rfl, ⟨ro, rc, hs', W, rfl, hlt, ho, hkv⟩, hf⟩
    · rintro W W' v S ⟨eo, ec, rfl, ho⟩ hf hS
      exact ⟨eo, ec, rfl, owns_keepT ho hf (fun k hk cur hcc => by
        obtain ⟨_, cs, hcs⟩ := hS k hk
        rw [hcs] at hcc
        simp only [Option.some.injEq, Obj.cells.injEq] at hcc
        exact absurd hcc.2.1 (by decide))⟩
    · rintro W W' v ⟨ro, rc, hs', W0, rfl, hlt, ho, hkv⟩ hf
      refine ⟨ro, rc, hs', W0, rfl, hlt, ⟨ho.len, owns_keepB ho.row hf (fun k hk hmm => ?_), fun x hx => (ho.each x hx).keepS hf (fun k hk hmm => ?_), ho.apart⟩, hkv⟩
      · have := (owns_cells ho.row hk).1
        simp at hmm
        omega
      · have := ((ho.each x hx).blk k hk).1
        simp at hmm
        omega
    · rintro e w' ⟨eo, ec, v, rfl, ⟨eo', ec', he1, ho⟩, ⟨ro, rc, hs', W0, rfl, hlt, hho, hkv⟩, hf⟩
      cases he1
      refine ⟨0, 0, T.ma, _, eo, _, ec, T.ct, ro, _, rc, hs', rfl, ⟨_, ho⟩, ⟨W0, Nat.le_of_lt hlt, hho⟩, by omega, fun z hz => ?_, by omega, hf⟩
      have hm2 : z.kv ∈ (ansH T.k xs).map Hd.kv := by rw [← eH, ← hkv]; exact List.mem_map.2 ⟨z, hz, rfl⟩
      obtain ⟨y, hy, e⟩ := List.mem_map.1 hm2
      exact ⟨y, hy, (Prod.mk.inj e).2⟩
/-- A task of the program, and a Book beside it with its blocks KB. -/
structure Pk (w0 w : World) (t bk : Nat) (B KB : List Nat) (T : Tk) (bs : List Int) (xs : List Rx) (n : Nat) : Prop where
  pm : PM w B t T bs xs
  bo : ∃ rB rI rW rT hB hI hW hT, Bq.B4 w0 w bk n rB rI rW rT hB hI hW hT ∧ KB = Bq.kbs bk rB rI rW rT hB hI hW hT
  sep : ∀ b ∈ t :: B, b ∉ KB
  f1 : ∀ b ∈ t :: B, w0.heap.size ≤ b
  f2 : ∀ b ∈ KB, w0.heap.size ≤ b
  fr : Fr [] w0 w
section
variable {w0 w w' : World} {t bk n : Nat} {B KB : List Nat} {T : Tk} {bs : List Int} {xs : List Rx}
theorem Pk.lt (h : Pk w0 w t bk B KB T bs xs n) : ∀ b ∈ KB, b < w.heap.size := by
  obtain ⟨rB, rI, rW, rT, hB, hI, hW, hT, hb, rfl⟩ := h.bo
  exact hb.lt
theorem Pk.lt1 (h : Pk w0 w t bk B KB T bs xs n) : ∀ b ∈ t :: B, b < w.heap.size := fun b hb => by
  rcases List.mem_cons.1 hb with e | e
  · rw [e]; exact h.pm.tk.lt
  · exact h.pm.lt b e
theorem Pk.keep (h : Pk w0 w t bk B KB T bs xs n) (hf : Fr [] w w') : Pk w0 w' t bk B KB T bs xs n := by
  obtain ⟨rB, rI, rW, rT, hB, hI, hW, hT, hb, e⟩ := h.bo
  exact ⟨h.pm.keep hf (by simp) (by simp), ⟨rB, rI, rW, rT, hB, hI, hW, hT, hb.keep hf, e⟩, h.sep, h.f1, h.f2, h.fr.then hf⟩
theorem Pk.setP (h : Pk w0 w t bk B KB T bs xs n) {B' : List Nat} {T' : Tk} {bs' : List Int} {xs' : List Rx} (hp : PM w' B' t T' bs' xs') (hB : ∀ b ∈ B', b ∈ B ∨ w.heap.size ≤ b) {S : List Nat} (hf : Fr S w w') (hS : ∀ z ∈ S, z ∈ t :: B) : Pk w0 w' t bk B' KB T' bs' xs' n := by
  have hsz := h.fr.size
  obtain ⟨rB, rI, rW, rT, hB0, hI, hW, hT, hb, e⟩ := h.bo
  refine ⟨hp, ⟨rB, rI, rW, rT, hB0, hI, hW, hT, hb.keepN hf (fun j hj hm => h.sep j (hS j hm) (by rw [e]; exact hj)), e⟩, fun b hb => ?_, fun b hb => ?_, h.f2, h.fr.on hf (fun b hb => h.f1 b (hS b hb))⟩
  · rcases List.mem_cons.1 hb with e | e
    · rw [e]; exact h.sep t (List.mem_cons_self ..)
    · rcases hB b e with e | e
      · exact h.sep b (List.mem_cons_of_mem _ e)
      · exact fun hm => by have := h.lt b hm; omega
  · rcases List.mem_cons.1 hb with e | e
    · rw [e]; exact h.f1 t (List.mem_cons_self ..)
    · rcases hB b e with e | e
      · exact h.f1 b (List.mem_cons_of_mem _ e)
      · omega
/-- The Book was told something: H are the blocks that it now holds besides. -/
theorem Pk.told (h : Pk w0 w t bk B KB T bs xs n) {m : Nat} {rB rI rW rT : Value} {hB hI hW hT : List Bq.HB} (hb : Bq.B4 w0 w' bk m rB rI rW rT hB hI hW hT) {S : List Nat} (hf : Fr S w w') (hS : ∀ z ∈ S, z ∈ KB) {H : Nat → Prop} (hH : ∀ k, H k → k ∉ t :: B ∧ w0.heap.size ≤ k) (hN : ∀ k ∈ Bq.kbs bk rB rI rW rT hB hI hW hT, k ∈ KB ∨ H k ∨ w.heap.size ≤ k) :
    ∃ KB', Pk w0 w' t bk B KB' T bs xs m ∧ ∀ k ∈ KB', k ∈ KB ∨ H k ∨ w.heap.size ≤ k := by
  have hsz := h.fr.size
  refine ⟨_, ⟨h.pm.keep hf (fun hm => h.sep t (List.mem_cons_self ..) (hS t hm)) (fun b hb hm => h.sep b (List.mem_cons_of_mem _ hb) (hS b hm)), ⟨rB, rI, rW, rT, hB, hI, hW, hT, hb, rfl⟩, fun b hb hm => ?_, h.f1, fun b hb => ?_, h.fr.on hf (fun b hb => h.f2 b (hS b hb))⟩, hN⟩
  · rcases hN b hm with e | e | e
    · exact h.sep b hb e
    · exact (hH b e).1 hb
    · have := h.lt1 b hb; omega
  · rcases hN b hb with e | e | e
    · exact h.f2 b e
    · exact (hH b e).2
    · omega
end
end Go.Proofs.YtpdkdgmaofhlkaaGreatDoor
