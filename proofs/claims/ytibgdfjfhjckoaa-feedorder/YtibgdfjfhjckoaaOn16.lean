/- The program's feed alone, by its state and what its source was asked. Conditions as each names them. -/
import Derived.Test.YtibgdfjfhjckoaaMd16
import Derived.Test.YtibgdfjfhjckoaaAl16
import Derived.Test.YtibgdfjfhjckoaaAsk6
import Derived.BigQuiet
import Derived.BigRegion
namespace Go.Proofs.Ytibgdfjfhjckoaa
open Go.ChangeShapes Go.WideShapes Go.ChangeAt Go.RowKit Go.Lib Go.Maps
set_option linter.unusedVariables false
set_option linter.unusedSimpArgs false

/-- A feed over a log, in a state, whose source was asked for the numbers qs; made since b. -/
def One (b f g L : Nat) (bs : List Int) (X : List Tx) (s : Fe) (qs : List Nat) (w : World) : Prop := ∃ w0 lb ts v mb hw, FdM w0 w f g lb L ts v qs mb bs s hw ∧ txs ts = X ∧ b ≤ w0.heap.size
def Fe.readQ (s : Fe) (qs : List Nat) : List Nat := if s.readC = 0 then qs ++ [s.rd + 1] else qs
theorem fd_own {b f g lb L : Nat} {ts : List Tm} {v : Value} {qs : List Nat} {mb : Nat} {bs : List Int} {s : Fe} {hw : Value} {w0 w w' : World} (h : FdM w0 w f g lb L ts v qs mb bs s hw) (hb : b ≤ w0.heap.size) {S : List Nat} (hf : Fr S w w') (hS : ∀ k ∈ S, k = f ∨ k = mb ∨ k ∈ Src.own g v) : FrO b w w' := by
  obtain ⟨nn, F, hm, _⟩ := h.map
  obtain ⟨es, c, he⟩ := hm.block
  refine ⟨S, hf, fun k hk => ⟨?_, fun cs t fz e => ?_⟩⟩
  · rcases hS k hk with rfl | rfl | hk
    · have := h.fn; omega
    · have := h.mn; omega
    · simp only [Src.own, List.mem_cons, Option.mem_toList] at hk
      rcases hk with rfl | hk
      · have := h.src.gn; omega
      · have := h.src.rn k hk; omega
  · rcases hS k hk with rfl | rfl | hk
    · rw [h.box] at e; cases e; exact Or.inl rfl
    · rw [he] at e; cases e
    · simp only [Src.own, List.mem_cons, Option.mem_toList] at hk
      rcases hk with rfl | hk
      · rw [h.src.box] at e; cases e; exact Or.inr (Or.inl rfl)
      · obtain ⟨cur, hc⟩ := h.src.rowNe hk
        rw [hc] at e; cases e; exact Or.inr (Or.inr (Or.inl rfl))
section
variable {b f g L : Nat} {bs : List Int} {X : List Tx} {s : Fe} {qs : List Nat} {w w' : World}
theorem One.keep (h : One b f g L bs X s qs w) (hf : Fr [] w w') : One b f g L bs X s qs w' := by
  obtain ⟨w0, lb, ts, v, mb, hw, h, hx, hb⟩ := h
  exact ⟨w0, lb, ts, v, mb, hw, h.keep hf, hx, hb⟩
theorem One.nums (h : One b f g L bs X s qs w) : s.rd ≤ s.fd ∧ s.fd ≤ L ∧ L ≤ 65536 ∧ 1 ≤ s.wn ∧ s.wn ≤ 64 := by
  obtain ⟨w0, lb, ts, v, mb, hw, h, hx, hb⟩ := h
  exact ⟨h.rf, h.fl, h.few, h.wn.1, h.wn.2⟩
theorem one_more (h : One b f g L bs X s qs w) (x : Int) : Calls Try.prog 15 #[.pointer (some ⟨f, 0, none⟩), .int .i64 x] w fun e w' => e = .returned (.int .i64 (s.moreC L x : Int)) ∧ Hid (One b f g L bs X (s.moreS L x) qs w') ∧ Hid (FrO b w w') := by
  obtain ⟨w0, lb, ts, v, mb, hw, h, hx, hb⟩ := h
  refine Calls.mono (fMore_any h x) ?_
  rintro e w1 ⟨he, h1, hf⟩
  exact ⟨he, ⟨w0, lb, ts, v, mb, hw, h1, hx, hb⟩, fd_own h hb hf (by intro k hk; simp at hk; exact Or.inl hk)⟩
theorem one_can (h : One b f g L bs X s qs w) (x : Int) : Calls Try.prog 16 #[.pointer (some ⟨f, 0, none⟩), .int .i64 x] w fun e w' => e = .returned (.int .u8 (s.can bs x : Int)) ∧ Hid (Fr [] w w') := by
  obtain ⟨w0, lb, ts, v, mb, hw, h, hx, hb⟩ := h
  exact fCan_any h x
theorem one_read (h : One b f g L bs X s qs w) (hq : qs.length < 2 ^ 40) : Calls Try.prog 17 #[.pointer (some ⟨f, 0, none⟩)] w fun e w' => e = .returned (.tuple #[.int .i64 (s.readN : Int), .int .i64 (s.readC : Int)]) ∧ Hid (One b f g L bs X s.readS (s.readQ qs) w') ∧ Hid (FrO b w w') := by
  obtain ⟨w0, lb, ts, v, mb, hw, h, hx, hb⟩ := h
  refine Calls.mono (fRead_any h hq) ?_
  rintro e w1 ⟨he, h1⟩
  rcases h1 with ⟨hc, h1, hf⟩ | ⟨hc, v', hw', h1, hf, _⟩
  · have e1 : s.readS = s := by simp [Fe.readS, hc]
    have e2 : s.readQ qs = qs := by simp [Fe.readQ, hc]
    rw [e1, e2]
    exact ⟨he, ⟨w0, lb, ts, v, mb, hw, h1, hx, hb⟩, .of hf⟩
  · have e2 : s.readQ qs = qs ++ [s.rd + 1] := by simp [Fe.readQ, hc]
    rw [e2]
    exact ⟨he, ⟨w0, lb, ts, v', mb, hw', h1, hx, hb⟩, fd_own h hb hf (by intro k hk; rcases List.mem_cons.1 hk with rfl | hk; exact Or.inl rfl; exact Or.inr (Or.inr hk))⟩
theorem one_skip (h : One b f g L bs X s qs w) : Calls Try.prog 18 #[.pointer (some ⟨f, 0, none⟩)] w fun e w' => e = .returned (.tuple #[.int .i64 (s.skipN bs : Int), .int .i64 (s.skipC bs : Int)]) ∧ Hid (One b f g L bs X (s.skipS bs) qs w') ∧ Hid (FrO b w w') := by
  obtain ⟨w0, lb, ts, v, mb, hw, h, hx, hb⟩ := h
  refine Calls.mono (fSkip_any h) ?_
  rintro e w1 ⟨he, hw', h1, hf⟩
  exact ⟨he, ⟨w0, lb, ts, v, mb, hw', h1, hx, hb⟩, fd_own h hb hf (by intro k hk; simp at hk; rcases hk with rfl | rfl; exact Or.inl rfl; exact Or.inr (Or.inl rfl))⟩
/-- Dispatch, where it hands the record on. -/
theorem one_dis (h : One b f g L bs X s qs w) (x : Int) (hc : s.disC bs x = 0) : Calls Try.prog 20 #[.pointer (some ⟨f, 0, none⟩), .int .i64 x] w fun e w' => ∃ (k n : Nat), e = .returned (.tuple #[.agg #[.int .i64 (s.rd : Int), .slice (some ⟨k, 0, none⟩) n n], .int .i64 0]) ∧ Hid (n = (X.getD (s.rd - 1) Tx.zero).ws.length ∧ WRs w' (some ⟨k, 0, none⟩) (X.getD (s.rd - 1) Tx.zero).ws) ∧ Hid (One b f g L bs X { s with hv := false } qs w') ∧ Hid (FrO b w w') := by
  obtain ⟨w0, lb, ts, v, mb, hw, h, hx, hb⟩ := h
  have hv : s.hv = true := by
    unfold Fe.disC at hc
    by_cases a1 : s.hv = false
    · simp [a1] at hc
    · simpa using a1
  obtain ⟨h1, k, e1, hk, hkn⟩ := h.held hv
  have hlen := h.src.len
  have hr1 := h.rf
  have hr2 := h.fl
  have hTn := h.src.each _ (tgetD_mem ts (s.rd - 1) (by omega))
  obtain ⟨_, _, _, eL, _, _, hok⟩ := hTn
  have hX : (X.getD (s.rd - 1) Tx.zero).ws = (ts.getD (s.rd - 1) Tm.zero).ws := by rw [← hx, txs_getD]; rfl
  refine Calls.mono (fDis_any h x) ?_
  rintro e w1 ⟨he, h2, hf⟩
  rw [show disV s bs x hw = .agg #[.int .i64 (s.rd : Int), .slice (some ⟨k, 0, none⟩) (ts.getD (s.rd - 1) Tm.zero).L (ts.getD (s.rd - 1) Tm.zero).L] from by simp [disV, hc, e1], hc] at he
  have hka := hf.keep hk (by
    intro hm
    simp only [List.mem_singleton] at hm
    subst hm
    rw [h.box] at hk
    simp at hk)
  rw [show s.disS bs x = { s with hv := false } from by simp [Fe.disS, hc]] at h2
  exact ⟨k, _, he, ⟨by rw [hX]; exact eL, by rw [hX]; exact WRs.of_ok hok hka⟩, ⟨w0, lb, ts, v, mb, _, h2, hx, hb⟩, fd_own h hb hf (by intro k hk; simp at hk; exact Or.inl hk)⟩
theorem one_close (h : One b f g L bs X s qs w) : Calls Try.prog 23 #[.pointer (some ⟨f, 0, none⟩)] w fun e w' => (∃ u, e = .returned u) ∧ Hid (One b f g L bs X s.close qs w') ∧ Hid (FrO b w w') := by
  obtain ⟨w0, lb, ts, v, mb, hw, h, hx, hb⟩ := h
  refine Calls.mono (fClose_any h) ?_
  rintro e w1 ⟨he, h1, hf⟩
  exact ⟨he, ⟨w0, lb, ts, v, mb, hw, h1, hx, hb⟩, fd_own h hb hf (by intro k hk; simp at hk; exact Or.inl hk)⟩
theorem one_held (h : One b f g L bs X s qs w) : Calls Try.prog 9 #[.pointer (some ⟨f, 0, none⟩)] w fun e w' => e = .returned (.int .i64 (s.num : Int)) ∧ w = w' := by
  obtain ⟨w0, lb, ts, v, mb, hw, h, hx, hb⟩ := h
  exact fHeld_any h
theorem one_asked (h : One b f g L bs X s qs w) (hq : qs.length < 2 ^ 40) (N : Nat) (hN : N = qs.length) : Calls Try.prog 22 #[.pointer (some ⟨g, 0, none⟩)] w fun e w' => ∃ bo, e = .returned (.slice bo N N) ∧ Hid (Is w' bo qs) ∧ Hid (Fr [] w w') := by
  obtain ⟨w0, lb, ts, v, mb, hw, h, hx, hb⟩ := h
  exact asked_any h.src hq N hN
end
structure Wd16 (w1 : World) where
  W : World
  h : Fr [] w1 W
instance (w1 : World) : Nonempty (Wd16 w1) := ⟨⟨w1, Fr.refl _ _⟩⟩
theorem wp_region_wd16 {P : Program} {w1 wr : World} {id : Nat} {Q : Exit → Act → World → Prop} {a : Act} {l : List Oper} (hm : P.follows .mixedOrders = true) (hB : Region.lexB .any l.toArray = true) (hf : Fr [] w1 wr)
    (h : wpQuiet P l.toArray (fun w' => ∃ x : Wd16 w1, w' = x.W) (fun a' => ∀ w', (∃ x : Wd16 w1, w' = x.W) → Q .normal a' w') l a) : (Code.region id l.toArray true).wp P Q a wr :=
  wp_region_quiet (C := fun w' => ∃ x : Wd16 w1, w' = x.W) hm hB ⟨⟨_, hf.then (Fr.drew [] wr)⟩, rfl⟩ (by simpa using h)
/-- What made leaves, for a law that asks the program's feed alone. -/
theorem Made.one {w : World} {L : Nat} {X : List Tx} {mark : Int} {bs : List Int} {win : Int} {e : Ending} {w' : World} (h : Made w L X mark bs win e w') : Fr [] w w' ∧ ((∃ ps, e = .returned (.tuple #[.pointer none, .pointer none, ps, .bool true])) ∨ (newC mark bs win L = 0 ∧ okL 1 X ∧ ∃ f x g, e = .returned (.tuple #[.pointer (some ⟨f, 0, none⟩), .pointer (some ⟨x, 0, none⟩), .pointer (some ⟨g, 0, none⟩), .bool true]) ∧ One w.heap.size f g L bs X ⟨mark.toNat, mark.toNat, win.toNat, false, false⟩ [] w')) := by
  obtain ⟨hF, h⟩ := h
  refine ⟨hF, ?_⟩
  rcases h with h | ⟨h1, h2, f, x, g, he, w0, w1, lb, ts, mb, hw, yg, lo, lc, us, v', yo, M, yc, hn, hw', hT⟩
  · exact Or.inl h
  · exact Or.inr ⟨h2, h1, f, x, g, he, w0, lb, ts, _, mb, hw, hT.pro, hT.tx1, hT.b0⟩
end Go.Proofs.Ytibgdfjfhjckoaa
