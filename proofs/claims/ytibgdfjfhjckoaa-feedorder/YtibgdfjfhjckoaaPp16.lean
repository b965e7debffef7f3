/- The program's feed and the document's, side by side. Conditions as each names them. -/
import Derived.Test.YtibgdfjfhjckoaaYs16
import Derived.Test.YtibgdfjfhjckoaaFx16
import Derived.Test.YtibgdfjfhjckoaaFc16
namespace Go.Proofs.Ytibgdfjfhjckoaa
open Go.ChangeShapes Go.WideShapes Go.ChangeAt Go.RowKit Go.Lib Go.Maps
set_option linter.unusedVariables false
set_option linter.unusedSimpArgs false

/-- Both feeds, over the same log, in the same state, made since b; asked for n records at most. -/
structure Two (b f x L : Nat) (bs : List Int) (X : List Tx) (n : Nat) (w w0 w1 : World) (g lb : Nat) (ts : List Tm) (v : Value) (qs : List Nat) (mb : Nat) (s : Fe) (hw : Value) (yg : Nat) (lo : Option Addr) (lc : Nat) (us : List Tm) (v' : Value) (qs' : List Nat) (yo : Option Addr) (M yc : Nat) (hn : Int) (hw' : Value) : Prop where
  pro : FdM w0 w f g lb L ts v qs mb bs s hw
  doc : YfM w1 w x yg L lo lc us v' qs' yo M yc bs s hn hw'
  tx1 : txs ts = X
  tx2 : txs us = X
  q1 : qs.length ≤ n
  q2 : qs'.length ≤ n
  b0 : b ≤ w0.heap.size
  b1 : b ≤ w1.heap.size
  off : ∀ k, v.ownBlock = some k → v'.ownBlock ≠ some k ∧ ∀ a, yo = some a → 0 < M → a.block ≠ k
def Both (b f x L : Nat) (bs : List Int) (X : List Tx) (n : Nat) (w : World) : Prop := ∃ w0 w1 g lb ts v qs mb s hw yg lo lc us v' qs' yo M yc hn hw', Two b f x L bs X n w w0 w1 g lb ts v qs mb s hw yg lo lc us v' qs' yo M yc hn hw'
section
variable {b f x L : Nat} {bs : List Int} {X : List Tx} {n : Nat} {w w' w0 w1 : World} {g lb : Nat} {ts : List Tm} {v : Value} {qs : List Nat} {mb : Nat} {s : Fe} {hw : Value} {yg : Nat} {lo : Option Addr} {lc : Nat} {us : List Tm} {v' : Value} {qs' : List Nat} {yo : Option Addr} {M yc : Nat} {hn : Int} {hw' : Value}
theorem Two.keep (h : Two b f x L bs X n w w0 w1 g lb ts v qs mb s hw yg lo lc us v' qs' yo M yc hn hw') (hf : Fr [] w w') : Two b f x L bs X n w' w0 w1 g lb ts v qs mb s hw yg lo lc us v' qs' yo M yc hn hw' :=
  ⟨h.pro.keep hf, h.doc.keep hf, h.tx1, h.tx2, h.q1, h.q2, h.b0, h.b1, h.off⟩
/-- What a call of the program's feed may change. -/
theorem Two.own1 (h : Two b f x L bs X n w w0 w1 g lb ts v qs mb s hw yg lo lc us v' qs' yo M yc hn hw') {S : List Nat} (hf : Fr S w w') (hS : ∀ k ∈ S, k = f ∨ k = mb ∨ k ∈ Src.own g v) : FrO b w w' ∧ YfM w1 w' x yg L lo lc us v' qs' yo M yc bs s hn hw' := by
  obtain ⟨nn, F, hm, _⟩ := h.pro.map
  obtain ⟨es, c, he⟩ := hm.block
  have key : ∀ k ∈ S, ∀ cs t fz, w.heap[k]? = some (.cells cs t fz) → t = 44 ∨ t = 83 ∨ (t = 3 ∧ v.ownBlock = some k) := by
    intro k hk cs t fz e
    rcases hS k hk with rfl | rfl | hk
    · rw [h.pro.box] at e; cases e; exact Or.inl rfl
    · rw [he] at e; cases e
    · simp only [Src.own, List.mem_cons, Option.mem_toList] at hk
      rcases hk with rfl | hk
      · rw [h.pro.src.box] at e; cases e; exact Or.inr (Or.inl rfl)
      · obtain ⟨cur, hc⟩ := h.pro.src.rowNe hk
        rw [hc] at e; cases e; exact Or.inr (Or.inr ⟨rfl, hk⟩)
  refine ⟨⟨S, hf, fun k hk => ⟨?_, fun cs t fz e => ?_⟩⟩, h.doc.keepS hf (fun k hk cs t e => ?_)⟩
  · have hb := h.b0
    rcases hS k hk with rfl | rfl | hk
    · have := h.pro.fn; omega
    · have := h.pro.mn; omega
    · simp only [Src.own, List.mem_cons, Option.mem_toList] at hk
      rcases hk with rfl | hk
      · have := h.pro.src.gn; omega
      · have := h.pro.src.rn k hk; omega
  · rcases key k hk cs t fz e with rfl | rfl | ⟨rfl, _⟩
    · exact Or.inl rfl
    · exact Or.inr (Or.inl rfl)
    · exact Or.inr (Or.inr (Or.inl rfl))
  · rcases key k hk cs t _ e with rfl | rfl | ⟨rfl, hv⟩
    · exact ⟨by decide, by decide, by decide, by decide, fun ht => absurd ht (by decide)⟩
    · exact ⟨by decide, by decide, by decide, by decide, fun ht => absurd ht (by decide)⟩
    · exact ⟨by decide, by decide, by decide, by decide, fun _ => h.off k hv⟩
end
/-- What a call of the document's feed may change: of a program's feed as it stands beside it. -/
theorem doc_own {b f x L : Nat} {bs : List Int} {w w' w0 w1 : World} {g lb : Nat} {ts : List Tm} {v : Value} {qs : List Nat} {mb : Nat} {s s' : Fe} {hw : Value} {yg : Nat} {lo : Option Addr} {lc : Nat} {us : List Tm} {v' : Value} {qs' : List Nat} {yo : Option Addr} {M yc : Nat} {hn : Int} {hw' : Value}
    (hp : FdM w0 w f g lb L ts v qs mb bs s' hw) (hd : YfM w1 w x yg L lo lc us v' qs' yo M yc bs s hn hw') (hb : b ≤ w1.heap.size) (ho : ∀ k, v.ownBlock = some k → v'.ownBlock ≠ some k) {S : List Nat} (hf : Fr S w w') (hS : ∀ k ∈ S, k = x ∨ k ∈ YSrc.own yg v') : FrO b w w' ∧ FdM w0 w' f g lb L ts v qs mb bs s' hw := by
  have key : ∀ k ∈ S, ∃ cs t, w.heap[k]? = some (.cells cs t (0, 0)) ∧ (t = 72 ∨ t = 87 ∨ (t = 3 ∧ v'.ownBlock = some k)) := by
    intro k hk
    rcases hS k hk with rfl | hk
    · exact ⟨_, _, hd.box, Or.inl rfl⟩
    · simp only [YSrc.own, List.mem_cons, Option.mem_toList] at hk
      rcases hk with rfl | hk
      · exact ⟨_, _, hd.src.box, Or.inr (Or.inl rfl)⟩
      · obtain ⟨cur, hc⟩ := hd.src.rowAt hk
        exact ⟨_, _, hc, Or.inr (Or.inr ⟨rfl, hk⟩)⟩
  refine ⟨⟨S, hf, fun k hk => ⟨?_, fun cs t fz e => ?_⟩⟩, hp.keepS hf (fun k hk o e => ?_)⟩
  · rcases hS k hk with rfl | hk
    · have := hd.fn; omega
    · simp only [YSrc.own, List.mem_cons, Option.mem_toList] at hk
      rcases hk with rfl | hk
      · have := hd.src.gn; omega
      · have := hd.src.rn k hk; omega
  · obtain ⟨cs', t', e', ht⟩ := key k hk
    rw [e'] at e
    cases e
    rcases ht with rfl | rfl | ⟨rfl, _⟩
    · exact Or.inr (Or.inr (Or.inr (Or.inl rfl)))
    · exact Or.inr (Or.inr (Or.inr (Or.inr rfl)))
    · exact Or.inr (Or.inr (Or.inl rfl))
  · obtain ⟨cs', t', e', ht⟩ := key k hk
    rw [e'] at e
    cases e
    refine ⟨cs', t', rfl, ?_⟩
    rcases ht with rfl | rfl | ⟨rfl, hv⟩
    · exact ⟨by decide, by decide, by decide, by decide, fun ht => absurd ht (by decide)⟩
    · exact ⟨by decide, by decide, by decide, by decide, fun ht => absurd ht (by decide)⟩
    · exact ⟨by decide, by decide, by decide, by decide, fun _ hx => ho k hx hv⟩
/-- Both are there. -/
theorem asks_both (b f x L : Nat) (bs : List Int) (X : List Tx) : Asks (.pointer (some ⟨f, 0, none⟩)) (.pointer (some ⟨x, 0, none⟩)) b (Both b f x L bs X) where
  keep := fun n w w' ⟨w0, w1, g, lb, ts, v, qs, mb, s, hw, yg, lo, lc, us, v', qs', yo, M, yc, hn, hw', h⟩ hf => ⟨w0, w1, g, lb, ts, v, qs, mb, s, hw, yg, lo, lc, us, v', qs', yo, M, yc, hn, hw', h.keep hf⟩
  more := fun n w y ⟨w0, w1, g, lb, ts, v, qs, mb, s, hw, yg, lo, lc, us, v', qs', yo, M, yc, hn, hw', h⟩ => by
    refine Calls.mono (fMore_any h.pro y) ?_
    rintro e wa ⟨he, hp, hf⟩
    obtain ⟨hO, hd⟩ := h.own1 hf (by intro k hk; simp at hk; exact Or.inl hk)
    refine ⟨_, he, hO, fun w2 hf2 => Calls.mono (yfMore_any (hd.keep hf2) y) ?_⟩
    rintro e w3 ⟨he3, hd3, hf3⟩
    obtain ⟨hO3, hp3⟩ := doc_own (hp.keep hf2) (hd.keep hf2) h.b1 (fun k hk => (h.off k hk).1) hf3 (by intro k hk; simp at hk; exact Or.inl hk)
    exact ⟨he3, hO3, w0, w1, g, lb, ts, v, qs, mb, _, hw, yg, lo, lc, us, v', qs', yo, M, yc, hn, hw', ⟨hp3, hd3, h.tx1, h.tx2, h.q1, h.q2, h.b0, h.b1, h.off⟩⟩
  can := fun n w y ⟨w0, w1, g, lb, ts, v, qs, mb, s, hw, yg, lo, lc, us, v', qs', yo, M, yc, hn, hw', h⟩ => by
    refine Calls.mono (fCan_any h.pro y) ?_
    rintro e wa ⟨he, hf⟩
    refine ⟨_, he, .of hf, fun w2 hf2 => Calls.mono (yfCan_any (h.doc.keep (hf.then hf2)) y) ?_⟩
    rintro e w3 ⟨he3, hf3⟩
    exact ⟨he3, .of hf3, w0, w1, g, lb, ts, v, qs, mb, s, hw, yg, lo, lc, us, v', qs', yo, M, yc, hn, hw', h.keep ((hf.then hf2).then hf3)⟩
  read := fun n w ⟨w0, w1, g, lb, ts, v, qs, mb, s, hw, yg, lo, lc, us, v', qs', yo, M, yc, hn, hw', h⟩ hn9 => by
    refine Calls.mono (fRead_any h.pro (by have := h.q1; omega)) ?_
    rintro e wa ⟨he, hr⟩
    rcases hr with ⟨hc, hp, hf⟩ | ⟨hc, va, ha, hp, hf, hM⟩
    · refine ⟨_, _, he, .of hf, fun w2 hf2 => Calls.mono (yfRead_any (h.doc.keep (hf.then hf2)) (by have := h.q2; omega)) ?_⟩
      rintro e w3 ⟨he3, hr3⟩
      rcases hr3 with ⟨_, hd3, hf3⟩ | ⟨hc3, _⟩
      · exact ⟨he3, .of hf3, w0, w1, g, lb, ts, v, qs, mb, s, hw, yg, lo, lc, us, v', qs', yo, M, yc, hn, hw', ⟨(hp.keep hf2).keep hf3, hd3, h.tx1, h.tx2, by have := h.q1; omega, by have := h.q2; omega, h.b0, h.b1, h.off⟩⟩
      · exact absurd hc3 hc
    · obtain ⟨hO, hd⟩ := h.own1 hf (by intro k hk; rcases List.mem_cons.1 hk with rfl | hk; exact Or.inl rfl; exact Or.inr (Or.inr hk))
      have hoff : ∀ k, va.ownBlock = some k → v'.ownBlock ≠ some k ∧ ∀ a, yo = some a → 0 < M → a.block ≠ k := fun k hk => by
        rcases hM with hM | ⟨j, hj, hl⟩
        · exact h.off k (hM ▸ hk)
        · rw [hj] at hk
          cases hk
          refine ⟨fun hx => ?_, fun a e h0 hx => ?_⟩
          · obtain ⟨cur, hc⟩ := h.doc.src.rowAt hx
            have := lt_of_block hc
            omega
          · obtain ⟨_, cur, hc⟩ := h.doc.rowb a e h0
            have := lt_of_block hc
            omega
      refine ⟨_, _, he, hO, fun w2 hf2 => Calls.mono (yfRead_any (hd.keep hf2) (by have := h.q2; omega)) ?_⟩
      rintro e w3 ⟨he3, hr3⟩
      rcases hr3 with ⟨hc3, _⟩ | ⟨_, vb, hn3, hw3, hd3, hf3, hM3⟩
      · exact absurd hc hc3
      · obtain ⟨hO3, hp3⟩ := doc_own (hp.keep hf2) (hd.keep hf2) h.b1 (fun k hk => (hoff k hk).1) hf3 (by intro k hk; rcases List.mem_cons.1 hk with rfl | hk; exact Or.inl rfl; exact Or.inr hk)
        refine ⟨he3, hO3, w0, w1, g, lb, ts, va, _, mb, _, ha, yg, lo, lc, us, vb, _, yo, M, yc, hn3, hw3, ⟨hp3, hd3, h.tx1, h.tx2, by have := h.q1; simp; omega, by have := h.q2; simp; omega, h.b0, h.b1, fun k hk => ⟨fun hx => ?_, (hoff k hk).2⟩⟩⟩
        rcases hM3 with hM3 | ⟨j, hj, hl⟩
        · exact (hoff k hk).1 (hM3 ▸ hx)
        · rw [hj] at hx
          cases hx
          obtain ⟨cur, hc⟩ := (hp.keep hf2).src.rowNe hk
          have := lt_of_block hc
          omega
  skip := fun n w ⟨w0, w1, g, lb, ts, v, qs, mb, s, hw, yg, lo, lc, us, v', qs', yo, M, yc, hn, hw', h⟩ => by
    refine Calls.mono (fSkip_any h.pro) ?_
    rintro e wa ⟨he, ha, hp, hf⟩
    obtain ⟨hO, hd⟩ := h.own1 hf (by intro k hk; simp at hk; rcases hk with rfl | rfl; exact Or.inl rfl; exact Or.inr (Or.inl rfl))
    refine ⟨_, _, he, hO, fun w2 hf2 => Calls.mono (yfSkip_any (hd.keep hf2)) ?_⟩
    rintro e w3 ⟨he3, hd3, hf3⟩
    obtain ⟨hO3, hp3⟩ := doc_own (hp.keep hf2) (hd.keep hf2) h.b1 (fun k hk => (h.off k hk).1) hf3 (by intro k hk; simp at hk; exact Or.inl hk)
    exact ⟨he3, hO3, w0, w1, g, lb, ts, v, qs, mb, _, ha, yg, lo, lc, us, v', qs', yo, M, yc, hn, hw', ⟨hp3, hd3, h.tx1, h.tx2, h.q1, h.q2, h.b0, h.b1, h.off⟩⟩
  dis := fun n w y ⟨w0, w1, g, lb, ts, v, qs, mb, s, hw, yg, lo, lc, us, v', qs', yo, M, yc, hn, hw', h⟩ => by
    refine Calls.mono (fDis_any h.pro y) ?_
    rintro e wa ⟨he, hp, hf⟩
    obtain ⟨hO, hd⟩ := h.own1 hf (by intro k hk; simp at hk; exact Or.inl hk)
    by_cases hc : s.disC bs y = 0
    · have hv : s.hv = true := by
        unfold Fe.disC at hc
        by_cases a1 : s.hv = false
        · simp [a1] at hc
        · simpa using a1
      obtain ⟨h1, k, e1, hk, hkn⟩ := h.pro.held hv
      obtain ⟨h2, e2, ko, cap, e3, hW⟩ := h.doc.held hv
      have hts : (ts.getD (s.rd - 1) Tm.zero).tx = (us.getD (s.rd - 1) Tm.zero).tx := by rw [← txs_getD, ← txs_getD, h.tx1, h.tx2]
      have hwse : (ts.getD (s.rd - 1) Tm.zero).ws = (us.getD (s.rd - 1) Tm.zero).ws := congrArg Tx.ws hts
      have hlen := h.pro.src.len
      have hr1 := h.pro.rf
      have hr2 := h.pro.fl
      have hTn := h.pro.src.each _ (tgetD_mem ts (s.rd - 1) (by omega))
      obtain ⟨_, _, _, eL, _, _, hok⟩ := hTn
      have hL2 : (us.getD (s.rd - 1) Tm.zero).L = (ts.getD (s.rd - 1) Tm.zero).L := by rw [hW.len, eL, hwse]
      rw [show disV s bs y hw = .agg #[.int .i64 (s.rd : Int), .slice (some ⟨k, 0, none⟩) (ts.getD (s.rd - 1) Tm.zero).L (ts.getD (s.rd - 1) Tm.zero).L] from by simp [disV, hc, e1]] at he
      have hnof : ∀ j cs t, w.heap[j]? = some (.cells cs t (0, 0)) → t ≠ 44 → j ∉ [f] := by
        intro j cs t hj ht hm
        simp only [List.mem_singleton] at hm
        subst hm
        rw [h.pro.box] at hj
        cases hj
        exact ht rfl
      have hka := hf.keep hk (hnof _ _ _ hk (by decide))
      have hWa : WOw w1 wa ko (us.getD (s.rd - 1) Tm.zero).L cap (us.getD (s.rd - 1) Tm.zero).ws := hW.keepS hf (fun j hj => by
        obtain ⟨_, cur, hcu⟩ := owns_cells hW.row hj
        exact hnof _ _ _ hcu (by decide))
      refine ⟨_, _, _, _, _, (ts.getD (s.rd - 1) Tm.zero).ws, he, hO, eL, fun w2 hf2 => Calls.mono (yfDis_any (hd.keep hf2) y) ?_⟩
      rintro e w3 ⟨he3, hd3, hf3⟩
      rw [show disV s bs y hw' = .agg #[.int .i64 (s.rd : Int), .slice ko (us.getD (s.rd - 1) Tm.zero).L cap] from by simp [disV, hc, e3]] at he3
      rw [hL2] at he3
      obtain ⟨hO3, hp3⟩ := doc_own (hp.keep hf2) (hd.keep hf2) h.b1 (fun k hk => (h.off k hk).1) hf3 (by intro k hk; simp at hk; exact Or.inl hk)
      have hnox : ∀ j cs t, w2.heap[j]? = some (.cells cs t (0, 0)) → t ≠ 72 → j ∉ [x] := by
        intro j cs t hj ht hm
        simp only [List.mem_singleton] at hm
        subst hm
        rw [(hd.keep hf2).box] at hj
        cases hj
        exact ht rfl
      have hk3 := hf3.keep (hf2.keep hka (by simp)) (hnox _ _ _ (hf2.keep hka (by simp)) (by decide))
      have hWb := hWa.keepS hf2 (by simp)
      have hW3 := hWb.keepS hf3 (fun j hj => by
        obtain ⟨_, cur, hcu⟩ := owns_cells hWb.row hj
        exact hnox _ _ _ hcu (by decide))
      refine ⟨ko, cap, he3, hO3, ⟨WRs.of_ok hok hk3, ?_⟩, w0, w1, g, lb, ts, v, qs, mb, _, _, yg, lo, lc, us, v', qs', yo, M, yc, hn, hw', ⟨hp3, hd3, h.tx1, h.tx2, h.q1, h.q2, h.b0, h.b1, h.off⟩⟩
      rw [hwse] at hok ⊢
      exact hW3.rs (okT_few hok).1 (okT_few hok).2
    · rw [show disV s bs y hw = .agg #[.int .i64 0, .slice none 0 0] from by simp [disV, hc]] at he
      refine ⟨_, _, _, _, _, [], he, hO, rfl, fun w2 hf2 => Calls.mono (yfDis_any (hd.keep hf2) y) ?_⟩
      rintro e w3 ⟨he3, hd3, hf3⟩
      rw [show disV s bs y hw' = .agg #[.int .i64 0, .slice none 0 0] from by simp [disV, hc]] at he3
      obtain ⟨hO3, hp3⟩ := doc_own (hp.keep hf2) (hd.keep hf2) h.b1 (fun k hk => (h.off k hk).1) hf3 (by intro k hk; simp at hk; exact Or.inl hk)
      exact ⟨none, 0, he3, hO3, ⟨WRs.nil _ _, WRs.nil _ _⟩, w0, w1, g, lb, ts, v, qs, mb, _, _, yg, lo, lc, us, v', qs', yo, M, yc, hn, hw', ⟨hp3, hd3, h.tx1, h.tx2, h.q1, h.q2, h.b0, h.b1, h.off⟩⟩
  close := fun n w ⟨w0, w1, g, lb, ts, v, qs, mb, s, hw, yg, lo, lc, us, v', qs', yo, M, yc, hn, hw', h⟩ => by
    refine Calls.mono (fClose_any h.pro) ?_
    rintro e wa ⟨he, hp, hf⟩
    obtain ⟨hO, hd⟩ := h.own1 hf (by intro k hk; simp at hk; exact Or.inl hk)
    refine ⟨he, hO, fun w2 hf2 => Calls.mono (yfClose_any (hd.keep hf2)) ?_⟩
    rintro e w3 ⟨he3, hd3, hf3⟩
    obtain ⟨hO3, hp3⟩ := doc_own (hp.keep hf2) (hd.keep hf2) h.b1 (fun k hk => (h.off k hk).1) hf3 (by intro k hk; simp at hk; exact Or.inl hk)
    exact ⟨he3, hO3, w0, w1, g, lb, ts, v, qs, mb, _, hw, yg, lo, lc, us, v', qs', yo, M, yc, hn, hw', ⟨hp3, hd3, h.tx1, h.tx2, h.q1, h.q2, h.b0, h.b1, h.off⟩⟩
  held := fun n w ⟨w0, w1, g, lb, ts, v, qs, mb, s, hw, yg, lo, lc, us, v', qs', yo, M, yc, hn, hw', h⟩ => by
    refine Calls.mono (fHeld_any h.pro) ?_
    rintro e wa ⟨he, rfl⟩
    exact ⟨_, he, rfl, yfHeld_any h.doc⟩
  fed := fun n w ⟨w0, w1, g, lb, ts, v, qs, mb, s, hw, yg, lo, lc, us, v', qs', yo, M, yc, hn, hw', h⟩ => by
    refine Calls.mono (fFed_any h.pro) ?_
    rintro e wa ⟨he, rfl⟩
    exact ⟨_, he, rfl, yfFed_any h.doc⟩
end Go.Proofs.Ytibgdfjfhjckoaa
