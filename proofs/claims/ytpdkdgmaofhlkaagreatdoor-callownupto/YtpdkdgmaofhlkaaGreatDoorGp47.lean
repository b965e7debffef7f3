/- Texts of this claim laid together, one behind the other: contracts and plain lemmas; conditions as each names them. -/
import Derived.Test.YtpdkdgmaofhlkaaGreatDoorGp46
/- One round of a task beside a Book. Conditions as each names them. -/
namespace Go.Proofs.YtpdkdgmaofhlkaaGreatDoor
open Go.ChangeShapes Go.WideShapes Go.ChangeAt Go.RowKit Go.Lib Go.Sort
set_option linter.unusedVariables false
set_option linter.unusedSimpArgs false

/-- A task beside a Book that was told at most m lists; what the task took came with the asks ps. -/
def Om (w0 w : World) (t bk m : Nat) (ps : List Aj) : Prop := ∃ (B KB : List Nat) (T : Tk) (bs : List Int) (xs : List Rx) (n : Nat), Pk w0 w t bk B KB T bs xs n ∧ n ≤ m ∧ T.n < 0 ∧ Cf.may ⟨T.l, T.s, T.x, T.q⟩ ∧ okC T.k T.key T.en ∧ T.ak ≤ T.nR ∧ xs.length ≤ T.ak ∧ (xs.flatMap Rx.es).length ≤ (ps.flatMap Aj.es).length ∧ (xs.flatMap Rx.hs).length ≤ (ps.flatMap Aj.hs).length ∧ ∀ x ∈ xs, ∀ h ∈ x.hs, h.vs.length ≤ 1048576
theorem Om.fr {w0 w : World} {t bk m : Nat} {ps : List Aj} (h : Om w0 w t bk m ps) : Fr [] w0 w := by
  obtain ⟨B, KB, T, bs, xs, n, hP, _⟩ := h
  exact hP.fr
theorem Om.keep {w0 w w' : World} {t bk m : Nat} {ps : List Aj} (h : Om w0 w t bk m ps) (hf : Fr [] w w') : Om w0 w' t bk m ps := by
  obtain ⟨B, KB, T, bs, xs, n, hP, q⟩ := h
  exact ⟨B, KB, T, bs, xs, n, hP.keep hf, q⟩
theorem Om.more {w0 w : World} {t bk m : Nat} {ps : List Aj} (h : Om w0 w t bk m ps) (a : Aj) : Om w0 w t bk m (ps ++ [a]) := by
  obtain ⟨B, KB, T, bs, xs, n, hP, q1, q2, q3, q4, q5, q6, q7, q8, q9⟩ := h
  refine ⟨B, KB, T, bs, xs, n, hP, q1, q2, q3, q4, q5, q6, ?_, ?_, q9⟩
  · rw [List.flatMap_append, List.length_append]; omega
  · rw [List.flatMap_append, List.length_append]; omega
theorem om_sent {w0 w : World} {t bk m : Nat} {ps : List Aj} (h : Om w0 w t bk m ps) : Calls Tryz.prog 9 #[.pointer (some ⟨t, 0, none⟩)] w fun e w' => (∃ E : Int, e = .returned (.int .i64 E)) ∧ Om w0 w' t bk m ps := by
  obtain ⟨B, KB, T, bs, xs, n, hP, q1, q2, q3, q4, q5, q6, q7, q8, q9⟩ := h
  have hnR := T.nR_le q3
  refine (qSent_any hP.pm.tk q2 q3 q4 (by omega)).mono ?_
  rintro e w' ⟨rfl, h1, h2⟩
  refine ⟨⟨_, rfl⟩, B, KB, _, bs, xs, n, hP.setP (hP.pm.sent h1 h2) (fun b hb => Or.inl hb) h2 (fun z hz => by rw [List.mem_singleton.1 hz]; exact List.mem_cons_self ..), q1, q2, q3, q4, ?_, ?_, q7, q8, q9⟩
  · by_cases hc : T.bg = true ∧ T.ak < T.nR
    · rw [if_pos hc]; exact hc.2
    · rw [if_neg hc]; exact q5
  · by_cases hc : T.bg = true ∧ T.ak < T.nR
    · rw [if_pos hc]; exact Nat.le_trans q6 (Nat.le_succ _)
    · rw [if_neg hc]; exact q6
theorem bg_ok {bg : Bool} {ma le : Int} {ns : List Int} (h : bgE bg ma le ns = 0) : bg = false ∧ mayBg ma le ns := by
  unfold bgE at h
  cases bg with
  | true => simp at h
  | false =>
    by_cases hm : mayBg ma le ns
    · exact ⟨rfl, hm⟩
    · simp [hm] at h
theorem om_begin {w0 w : World} {t bk m : Nat} {ps : List Aj} (h : Om w0 w t bk m ps) (a : Aj) (hA0 : AjB w0 a) : Calls Tryz.prog 6 #[.pointer (some ⟨t, 0, none⟩), .int .i64 a.ma, .int .i64 a.le, .slice a.bo a.bl a.bc] w fun e w' => (∃ E : Int, e = .returned (.int .i64 E)) ∧ Om w0 w' t bk m ps := by
  obtain ⟨B, KB, T, bs, xs, n, hP, q1, q2, q3, q4, q5, q6, q7, q8, q9⟩ := h
  have hI := hA0.is.keep hP.fr
  by_cases hE : bgE T.bg a.ma a.le a.ns = 0
  · obtain ⟨hbg, hm⟩ := bg_ok hE
    have hlong : (bsOf T.k a.ns).length ≤ 65536 := by
      unfold bsOf
      split
      · exact Ab.short (by have := hm.1; omega) hm.2.2.2.2
      · simp
    refine (qbegin_any2 hP.pm.tk q2 a.ma a.le a.bo a.bl a.bc a.ns hI hA0.bl hbg hm q4 (fun hp ad e => ?_)).mono ?_
    · obtain ⟨b', off, e1, e2, _⟩ := hA0.is.lies hp
      rw [e] at e1
      cases e1
      have := hP.f1 t (List.mem_cons_self ..)
      show b' ≠ t
      omega
    · rintro e w' ⟨r, rfl, h1, h2, h3, h4⟩
      obtain ⟨z1, z2⟩ := hP.pm.begun h1 h2.ebl (by rw [h2.ebl]; omega) h3 h4
      exact ⟨⟨_, rfl⟩, _, KB, _, _, xs, n, hP.setP z1 z2 h4 (fun z hz => by rw [List.mem_singleton.1 hz]; exact List.mem_cons_self ..), q1, q2, q3, q4, q5, q6, q7, q8, q9⟩
  · refine (qbegin_bad hP.pm.tk q2 a.ma a.le a.bo a.bl a.bc a.ns hI hA0.bl hE).mono ?_
    rintro e w' ⟨rfl, rfl⟩
    exact ⟨⟨_, rfl⟩, B, KB, T, bs, xs, n, hP, q1, q2, q3, q4, q5, q6, q7, q8, q9⟩
theorem om_got {w0 wA W : World} {t bk m : Nat} {ps : List Aj} (h : Om w0 W t bk m ps) (a : Aj) (hA0 : AjB w0 a) (me : a.r.el ≤ 4194304) (mh : a.r.hl ≤ 4194304) (mv : ∀ h ∈ a.hs, h.vs.length ≤ 1048576) {be bh : Nat} {ks : List Nat} (hT : TwR wA W a.r a.es a.hs be bh ks) (ht : t < wA.heap.size) : Calls Tryz.prog 7 #[.pointer (some ⟨t, 0, none⟩), .agg (twRp a.r be bh).a] W fun e w' => (∃ E : Int, e = .returned (.int .i64 E)) ∧ Om w0 w' t bk m (ps ++ [a]) := by
  have hmore := h.more a
  obtain ⟨B, KB, T, bs, xs, n, hP, q1, q2, q3, q4, q5, q6, q7, q8, q9⟩ := h
  have hnR := T.nR_le q3
  have hrp := hP.pm.rp
  by_cases he : T.rp = T.ak
  · refine (qGot_idle (twRp a.r be bh) hP.pm.tk q2 he).mono ?_
    rintro e w' ⟨rfl, hf⟩
    exact ⟨⟨_, rfl⟩, hmore.keep hf⟩
  · by_cases hto : a.r.to_ = T.n
    · refine (got_pm hP.pm q2 q4 he (by omega) (twRp a.r be bh) ⟨a.r, a.es, a.hs⟩ (twTs a.hs ks) hto (hT.rt ht (hA0.rp.keep hP.fr) me mh)).mono ?_
      rintro e w' ⟨rfl, T', B', z1, z2, ⟨ev, hv, ct, rfl⟩, z3, z4⟩
      refine ⟨⟨_, rfl⟩, B', KB, _, bs, _, n, hP.setP z1 z3 z4 (fun z hz => hz), q1, q2, q3, q4, q5, ?_, ?_, ?_, fun x hx h hh => ?_⟩
      · show (xs ++ [_]).length ≤ T.ak
        rw [List.length_append]
        simp only [List.length_cons, List.length_nil]
        omega
      · rw [List.flatMap_append, List.flatMap_append, List.length_append, List.length_append]
        simp only [List.flatMap_cons, List.flatMap_nil, List.append_nil]
        omega
      · rw [List.flatMap_append, List.flatMap_append, List.length_append, List.length_append]
        simp only [List.flatMap_cons, List.flatMap_nil, List.append_nil]
        omega
      · rcases List.mem_append.1 hx with e | e
        · exact q9 x e h hh
        · have e2 := List.mem_singleton.1 e
          subst e2
          exact mv h hh
    · refine (qGot_arg (twRp a.r be bh) hP.pm.tk q2 he hto).mono ?_
      rintro e w' ⟨rfl, hf⟩
      exact ⟨⟨_, rfl⟩, hmore.keep hf⟩
/-- What lies apart from a Book and from a task. -/
def Apt (w0 : World) (KB TB : List Nat) (k : Nat) : Prop := k ∉ KB ∧ k ∉ TB ∧ w0.heap.size ≤ k
/-- Behind Next and Answer: what is to be told yet. -/
structure U3 (w0 w : World) (t bk D : Nat) (o : Obj) (ps : List Aj) (m : Nat) (B KB : List Nat) (T : Tk) (bs : List Int) (xs : List Rx) (n : Nat) (eo : Option Addr) (en ec : Nat) (ho : Option Addr) (hn hc : Nat) (hs : List Hd) : Prop where
  pk : Pk w0 w t bk B KB T bs xs n
  le : n ≤ m
  rest : T.n < 0 ∧ Cf.may ⟨T.l, T.s, T.x, T.q⟩ ∧ okC T.k T.key T.en ∧ T.ak ≤ T.nR ∧ xs.length ≤ T.ak ∧ (xs.flatMap Rx.es).length ≤ (ps.flatMap Aj.es).length ∧ (xs.flatMap Rx.hs).length ≤ (ps.flatMap Aj.hs).length ∧ ∀ x ∈ xs, ∀ h ∈ x.hs, h.vs.length ≤ 1048576
  d : w.heap[D]? = some o ∧ D ∉ KB
  e : ∃ base vs, w.ownsRow base 102 2 (.slice eo en ec) en vs
  ea : ∀ k, (Value.slice eo en ec).ownBlock = some k → Apt w0 KB (t :: B) k
  em : en < 17179869184
  h : ∃ V, HOut V w ho hn hc hs
  ha : ∀ k, HoB ho hn hc hs k → Apt w0 KB (t :: B) k
  hv : ∀ x ∈ hs, x.vs.length ≤ 1048576
  hm : hn ≤ 1048576
/-- One thing more was told. -/
theorem U3.on {w0 w w' : World} {t bk D : Nat} {o : Obj} {ps : List Aj} {m : Nat} {B KB : List Nat} {T : Tk} {bs : List Int} {xs : List Rx} {n : Nat} {eo : Option Addr} {en ec : Nat} {ho : Option Addr} {hn hc : Nat} {hs : List Hd} (u : U3 w0 w t bk D o ps m B KB T bs xs n eo en ec ho hn hc hs) {KB' S : List Nat} (hP : Pk w0 w' t bk B KB' T bs xs (n + 1)) (hK : ∀ k ∈ KB', k ∈ KB ∨ (∃ cur, w.heap[k]? = some (.cells cur 3 (0, 0))) ∨ w.heap.size ≤ k) (hd : ∀ cur, o ≠ .cells cur 3 (0, 0)) (hf : Fr S w w') (hS : ∀ z ∈ S, z ∈ KB) : U3 w0 w' t bk D o ps (m + 1) B KB' T bs xs (n + 1) eo en ec ho hn hc hs := by
  obtain ⟨base, vs, he⟩ := u.e
  obtain ⟨V, hh⟩ := u.h
  have tyE : ∀ k, (Value.slice eo en ec).ownBlock = some k → ∃ cur, w.heap[k]? = some (.cells cur 102 (0, 0)) := fun k hk => (owns_cells he hk).2
  have tyH : ∀ k, HoB ho hn hc hs k → ∃ cur tt, w.heap[k]? = some (.cells cur tt (0, 0)) ∧ tt ≠ 3 := fun k hk => by
    rcases hk with hk | ⟨x, hx, hk⟩
    · obtain ⟨_, cur, q⟩ := owns_cells hh.row hk
      exact ⟨cur, _, q, by decide⟩
    · obtain ⟨_, cur, q⟩ := (hh.each x hx).blk k (Option.mem_toList.2 hk)
      exact ⟨cur, _, q, by decide⟩
  have nw : ∀ k, k ∉ KB → (∃ cur tt, w.heap[k]? = some (.cells cur tt (0, 0)) ∧ tt ≠ 3) → k ∉ KB' := fun k h1 ⟨cur, tt, h2, h3⟩ hm => by
    rcases hK k hm with q | ⟨cur', q⟩ | q
    · exact h1 q
    · rw [h2] at q
      simp only [Option.some.injEq, Obj.cells.injEq] at q
      exact h3 q.2.1
    · have := lt_of_block h2; omega
  refine ⟨hP, by have := u.le; omega, u.rest, ⟨hf.keep u.d.1 (fun hm => u.d.2 (hS _ hm)), fun hm => ?_⟩, ⟨base, vs, owns_keepB he hf (fun k hk hm => (u.ea k hk).1 (hS k hm))⟩, fun k hk => ⟨nw k (u.ea k hk).1 (by obtain ⟨cur, q⟩ := tyE k hk; exact ⟨cur, _, q, by decide⟩), (u.ea k hk).2⟩, u.em, ⟨V, hh.keepK hf (fun k hk hm => (u.ha k (Or.inl hk)).1 (hS k hm)) (fun x hx k hk hm => (u.ha k (Or.inr ⟨x, hx, hk⟩)).1 (hS k hm))⟩, fun k hk => ⟨nw k (u.ha k hk).1 (tyH k hk), (u.ha k hk).2⟩, u.hv, u.hm⟩
  rcases hK D hm with q | ⟨cur, q⟩ | q
  · exact u.d.2 q
  · rw [u.d.1] at q; exact hd cur (Option.some.inj q)
  · have hlt : D < w.heap.size := by
      rcases Nat.lt_or_ge D w.heap.size with h1 | h1
      · exact h1
      · have q2 := u.d.1
        rw [Array.getElem?_eq_none h1] at q2
        cases q2
    omega
end Go.Proofs.YtpdkdgmaofhlkaaGreatDoor
/- What a round tells the Book. Conditions as each names them. -/
namespace Go.Proofs.YtpdkdgmaofhlkaaGreatDoor
open Go.ChangeShapes Go.WideShapes Go.ChangeAt Go.RowKit Go.Lib Go.Sort
set_option linter.unusedVariables false
set_option linter.unusedSimpArgs false

theorem om_next {w0 w : World} {t bk m : Nat} {ps : List Aj} (h : Om w0 w t bk m ps) : Calls Tryz.prog 10 #[.pointer (some ⟨t, 0, none⟩)] w fun e w' => ∃ (s k f q : Int) (key en : ByteArray) (ro : Option Addr) (N rc : Nat) (bb : Bool), e = .returned (.tuple #[.int .i64 s, .agg #[.int .u8 k, .int .i64 f, .int .i64 q, .string ⟨#[]⟩, .string ⟨#[]⟩, .bool false, .string key, .string en, .slice ro N rc], .bool bb]) ∧ N ≤ 131072 ∧ (∃ vs, w'.ownsRow w.heap.size 3 1 (.slice ro N rc) N vs) ∧ Fr [] w w' := by
  obtain ⟨B, KB, T, bs, xs, n, hP, q1, q2, q3, q4, q5, q6, q7, q8, q9⟩ := h
  have hnR := T.nR_le q3
  refine (qNext_any hP.pm.tk q2 q3 q4 (by omega) hP.pm.irs hP.pm.bl hP.pm.bm).mono ?_
  rintro e w' ⟨ro, rc, rfl, ho, hf⟩
  refine ⟨_, _, _, _, _, _, ro, T.nxR.bl, rc, _, rfl, ?_, ⟨_, ho⟩, hf⟩
  by_cases hc : T.bg = true ∧ T.ak < T.nR
  · rw [show T.nxR = T.r from if_pos hc]; exact hP.pm.bm
  · rw [show T.nxR = Rv.zero from if_neg hc]; exact Nat.zero_le _
theorem one_le : ∀ xs : List Rx, (xs.flatMap (fun x => if x.es.length = 1 then x.es else [])).length ≤ (xs.flatMap Rx.es).length
  | [] => by simp
  | x :: xs => by
    have ih := one_le xs
    rw [List.flatMap_cons, List.flatMap_cons, List.length_append, List.length_append]
    refine Nat.add_le_add ?_ ih
    split
    · exact Nat.le_refl _
    · exact Nat.zero_le _
theorem ansE_le (k : Int) (xs : List Rx) : (ansE k xs).length ≤ (xs.flatMap Rx.es).length := by
  unfold ansE
  by_cases h1 : k = 1
  · rw [if_pos h1]; exact one_le xs
  · rw [if_neg h1]
    by_cases h3 : k = 2
    · rw [if_pos h3, sortB_length]; exact Nat.le_refl _
    · rw [if_neg h3]; simp
theorem ansH_le (k : Int) (xs : List Rx) : (ansH k xs).length ≤ (xs.flatMap Rx.hs).length := by
  unfold ansH
  by_cases h3 : k = 4
  · rw [if_pos h3, sortB_length]; exact Nat.le_refl _
  · rw [if_neg h3]; simp
theorem ansH_mem {k : Int} {xs : List Rx} {y : Hd} (h : y ∈ ansH k xs) : ∃ x ∈ xs, y ∈ x.hs := by
  unfold ansH at h
  by_cases h3 : k = 4
  · rw [if_pos h3] at h
    exact List.mem_flatMap.1 (sortB_mem Hd.key h)
  · rw [if_neg h3] at h; simp at h
/-- What Answer leaves: all that it answers is newer than w. -/
def AG (w0 wb w w' : World) (t bk m : Nat) (ps : List Aj) (eo : Option Addr) (en ec : Nat) (ho : Option Addr) (hn hc : Nat) (hs : List Hd) : Prop :=
  ∃ (B KB : List Nat) (T : Tk) (bs : List Int) (xs : List Rx) (n : Nat), Pk w0 w' t bk B KB T bs xs n ∧ n ≤ m ∧ (T.n < 0 ∧ Cf.may ⟨T.l, T.s, T.x, T.q⟩ ∧ okC T.k T.key T.en ∧ T.ak ≤ T.nR ∧ xs.length ≤ T.ak ∧ (xs.flatMap Rx.es).length ≤ (ps.flatMap Aj.es).length ∧ (xs.flatMap Rx.hs).length ≤ (ps.flatMap Aj.hs).length ∧ ∀ x ∈ xs, ∀ h ∈ x.hs, h.vs.length ≤ 1048576) ∧ (∀ k, k ∈ KB ∨ k ∈ t :: B → k < wb.heap.size) ∧ wb.heap.size ≤ w.heap.size ∧ (∃ vs, w'.ownsRow w.heap.size 102 2 (.slice eo en ec) en vs) ∧ en < 17179869184 ∧ (∃ V, w.heap.size ≤ V.heap.size ∧ HOut V w' ho hn hc hs) ∧ (∀ x ∈ hs, x.vs.length ≤ 1048576) ∧ hn ≤ 1048576
theorem om_answer {w0 wb w : World} {t bk m : Nat} {ps : List Aj} (h : Om w0 wb t bk m ps) (hb : Fr [] wb w) (hE : (ps.flatMap Aj.es).length ≤ 1048576) (hH : (ps.flatMap Aj.hs).length ≤ 1048576) : Calls Tryz.prog 11 #[.pointer (some ⟨t, 0, none⟩)] w fun e w' => ∃ (co er ma : Int) (ok : Bool) (eo : Option Addr) (en ec : Nat) (ct : Int) (ho : Option Addr) (hn hc : Nat) (hs : List Hd), e = .returned (.tuple #[.agg #[.int .i64 co, .int .i64 ma, .bool ok, .slice eo en ec, .int .i64 ct], .slice ho hn hc, .int .i64 er]) ∧ AG w0 wb w w' t bk m ps eo en ec ho hn hc hs ∧ Fr [] w w' := by
  obtain ⟨B, KB, T, bs, xs, n, hP, q1, q2, q3, q4, q5, q6, q7, q8, q9⟩ := h
  have hnR := T.nR_le q3
  have g1 := ansE_le T.k xs
  have g2 := ansH_le T.k xs
  refine (pans2 (hP.keep hb).pm q2 q3 q4 (by omega) (by omega) (fun hk => by have : T.nR = 1 := if_pos hk; omega) (by omega)).mono ?_
  rintro e w' ⟨co, er, ma, ok, eo, en, ec, ct, ro, hn, rc, hs', rfl, ⟨es, h1⟩, ⟨V, h2, h3⟩, h4, h5, h6, hf⟩
  refine ⟨co, er, ma, ok, eo, en, ec, ct, ro, hn, rc, hs', rfl, ⟨B, KB, T, bs, xs, n, (hP.keep hb).keep hf, q1, ⟨q2, q3, q4, q5, q6, q7, q8, q9⟩, fun k hk => ?_, hb.size, ⟨_, h1⟩, by omega, ⟨V, h2, h3⟩, fun x hx => ?_, by omega⟩, hf⟩
  · rcases hk with hk | hk
    · exact hP.lt k hk
    · exact hP.lt1 k hk
  · obtain ⟨y, hy, e⟩ := h5 x hx
    obtain ⟨z, hz, hyz⟩ := ansH_mem hy
    rw [← e]
    exact q9 z hz y hyz
/-- The answer is laid into a box. -/
theorem AG.box {w0 wb w w' : World} {t bk m : Nat} {ps : List Aj} {eo : Option Addr} {en ec : Nat} {ho : Option Addr} {hn hc : Nat} {hs : List Hd} (h : AG w0 wb w w' t bk m ps eo en ec ho hn hc hs) (o : Obj) : ∃ B KB T bs xs n, U3 w0 (w'.alloc o) t bk w'.heap.size o ps m B KB T bs xs n eo en ec ho hn hc hs ∧ ∀ k, k ∈ KB ∨ k ∈ t :: B → k < wb.heap.size := by
  obtain ⟨B, KB, T, bs, xs, n, hP, q1, q2, q3, qb, ⟨vs, q4⟩, q5, ⟨V, q6, q7⟩, q8, q9⟩ := h
  have hfa : Fr [] w' (w'.alloc o) := Fr.alloc [] _ _
  have fresh : ∀ k, w.heap.size ≤ k → w0.heap.size ≤ k → Apt w0 KB (t :: B) k := fun k hk hk0 => ⟨fun hm => by have := q3 k (Or.inl hm); omega, fun hm => by have := q3 k (Or.inr hm); omega, hk0⟩
  have hw0 : w0.heap.size ≤ w.heap.size := by
    have h1 := hP.f1 t (List.mem_cons_self ..)
    have h2 := q3 t (Or.inr (List.mem_cons_self ..))
    omega
  refine ⟨B, KB, T, bs, xs, n, ⟨hP.keep hfa, q1, q2, ⟨heap_alloc_new w' o, fun hm => by have := hP.lt _ hm; omega⟩, ⟨_, _, owns_keepB q4 hfa (by simp)⟩, fun k hk => ?_, q5, ⟨V, q7.keepK hfa (by simp) (by simp)⟩, fun k hk => ?_, q8, q9⟩, q3⟩
  · have := (owns_cells q4 hk).1
    exact fresh k this (by omega)
  · have : w.heap.size ≤ k := by
      rcases hk with hk | ⟨x, hx, hk⟩
      · have := (owns_cells q7.row hk).1; omega
      · have := ((q7.each x hx).blk k (Option.mem_toList.2 hk)).1; omega
    exact fresh k this (by omega)
/-- The request is told. -/
theorem u_req {w0 w : World} {t bk D : Nat} {o : Obj} {ps : List Aj} {m : Nat} {B KB : List Nat} {T : Tk} {bs : List Int} {xs : List Rx} {n : Nat} {eo : Option Addr} {en ec : Nat} {ho : Option Addr} {hn hc : Nat} {hs : List Hd} (u : U3 w0 w t bk D o ps m B KB T bs xs n eo en ec ho hn hc hs) (hd : ∀ cur, o ≠ .cells cur 3 (0, 0)) (k f q : Int) (key en' : ByteArray) (ro : Option Addr) (N rc : Nat) {base : Nat} {vs : List Value} (hr : w.ownsRow base 3 1 (.slice ro N rc) N vs) (hk : ∀ k, (Value.slice ro N rc).ownBlock = some k → Apt w0 KB (t :: B) k) (hN : N ≤ 131072) (hm : m < 67100000) :
    Calls Tryz.prog 12 #[.pointer (some ⟨bk, 0, none⟩), .agg #[.int .u8 k, .int .i64 f, .int .i64 q, .string ⟨#[]⟩, .string ⟨#[]⟩, .bool false, .string key, .string en', .slice ro N rc]] w fun e w' => e = .returned (.tuple #[]) ∧ ∃ KB', U3 w0 w' t bk D o ps (m + 1) B KB' T bs xs (n + 1) eo en ec ho hn hc hs := by
  refine (pk_req u.pk k f q key en' ro N rc hr hk (by omega) (by have := u.le; omega)).mono ?_
  rintro e w' ⟨rfl, KB', S, z1, z2, z3, z4⟩
  refine ⟨rfl, KB', u.on z1 (fun k hk => ?_) hd z3 z4⟩
  rcases z2 k hk with e | e | e
  · exact Or.inl e
  · exact Or.inr (Or.inl (owns_cells hr e).2)
  · exact Or.inr (Or.inr e)
/-- Behind the answer: the helds are to be told yet. -/
def U1 (w0 w : World) (t bk m : Nat) (ps : List Aj) (ho : Option Addr) (hn hc : Nat) (hs : List Hd) : Prop := ∃ (B KB : List Nat) (T : Tk) (bs : List Int) (xs : List Rx) (n : Nat), Pk w0 w t bk B KB T bs xs n ∧ n ≤ m ∧ (T.n < 0 ∧ Cf.may ⟨T.l, T.s, T.x, T.q⟩ ∧ okC T.k T.key T.en ∧ T.ak ≤ T.nR ∧ xs.length ≤ T.ak ∧ (xs.flatMap Rx.es).length ≤ (ps.flatMap Aj.es).length ∧ (xs.flatMap Rx.hs).length ≤ (ps.flatMap Aj.hs).length ∧ ∀ x ∈ xs, ∀ h ∈ x.hs, h.vs.length ≤ 1048576) ∧ (∃ V, HOut V w ho hn hc hs) ∧ (∀ k, HoB ho hn hc hs k → Apt w0 KB (t :: B) k) ∧ (∀ x ∈ hs, x.vs.length ≤ 1048576) ∧ hn ≤ 1048576
theorem u_ans {w0 w : World} {t bk D : Nat} {o : Obj} {ps : List Aj} {m : Nat} {B KB : List Nat} {T : Tk} {bs : List Int} {xs : List Rx} {n : Nat} {eo : Option Addr} {en ec : Nat} {ho : Option Addr} {hn hc : Nat} {hs : List Hd} (u : U3 w0 w t bk D o ps m B KB T bs xs n eo en ec ho hn hc hs) (co ma : Int) (ok : Bool) (ct : Int) (hm : m < 67100000) :
    Calls Tryz.prog 13 #[.pointer (some ⟨bk, 0, none⟩), .agg #[.int .i64 co, .int .i64 ma, .bool ok, .slice eo en ec, .int .i64 ct]] w fun e w' => e = .returned (.tuple #[]) ∧ U1 w0 w' t bk (m + 1) ps ho hn hc hs := by
  obtain ⟨base, vs, he⟩ := u.e
  obtain ⟨V, hh⟩ := u.h
  refine (pk_ans u.pk co ma ok eo en ec ct he u.ea u.em (by have := u.le; omega)).mono ?_
  rintro e w' ⟨rfl, KB', S, z1, z2, z3, z4⟩
  refine ⟨rfl, B, KB', T, bs, xs, n + 1, z1, by have := u.le; omega, u.rest, ⟨V, hh.keepK z3 (fun k hk hm => (u.ha k (Or.inl hk)).1 (z4 k hm)) (fun x hx k hk hm => (u.ha k (Or.inr ⟨x, hx, hk⟩)).1 (z4 k hm))⟩, fun k hk => ⟨fun hm => ?_, (u.ha k hk).2⟩, u.hv, u.hm⟩
  obtain ⟨cur, tt, q, ht⟩ : ∃ cur tt, w.heap[k]? = some (.cells cur tt (0, 0)) ∧ tt ≠ 102 := by
    rcases hk with hk | ⟨x, hx, hk⟩
    · obtain ⟨_, cur, q⟩ := owns_cells hh.row hk
      exact ⟨cur, _, q, by decide⟩
    · obtain ⟨_, cur, q⟩ := (hh.each x hx).blk k (Option.mem_toList.2 hk)
      exact ⟨cur, _, q, by decide⟩
  rcases z2 k hm with e | e | e
  · exact (u.ha k hk).1 e
  · obtain ⟨_, cur', q2⟩ := owns_cells he e
    rw [q] at q2
    simp only [Option.some.injEq, Obj.cells.injEq] at q2
    exact ht q2.2.1
  · have := lt_of_block q; omega
theorem u_helds {w0 w : World} {t bk m : Nat} {ps : List Aj} {ho : Option Addr} {hn hc : Nat} {hs : List Hd} (u : U1 w0 w t bk m ps ho hn hc hs) (hm : m < 66000000) :
    Calls Tryz.prog 14 #[.pointer (some ⟨bk, 0, none⟩), .slice ho hn hc] w fun e w' => e = .returned (.tuple #[]) ∧ Om w0 w' t bk (m + 1048577) ps := by
  obtain ⟨B, KB, T, bs, xs, n, hP, q1, q2, ⟨V, q3⟩, q4, q5, q6⟩ := u
  refine (pk_helds hP q3 q5 q4 (by omega) (by omega)).mono ?_
  rintro e w' ⟨rfl, KB', S, z1, z2, z3, z4⟩
  exact ⟨rfl, B, KB', T, bs, xs, _, z1, by omega, q2⟩
theorem om_apart {w0 w : World} {t bk m : Nat} {ps : List Aj} (h : Om w0 w t bk m ps) (ht : Bq.Tab w0) : Calls Tryz.prog 15 #[.pointer (some ⟨bk, 0, none⟩)] w fun e w' => e = .returned (.bool true) ∧ Fr [] w0 w' := by
  obtain ⟨B, KB, T, bs, xs, n, hP, _⟩ := h
  exact pk_apart hP ht
theorem new_all {n l s x q k : Int} {key en : ByteArray} (hnew : newE n l s x q k key en = 0) : n < 0 ∧ Cf.may ⟨l, s, x, q⟩ ∧ okC k key en := by
  unfold newE at hnew
  have a1 : ¬ 0 ≤ n := fun h => by rw [if_pos h] at hnew; cases hnew
  rw [if_neg a1] at hnew
  by_cases a2 : Cf.may ⟨l, s, x, q⟩
  · rw [if_neg (not_not_intro a2)] at hnew
    refine ⟨by omega, a2, ?_⟩
    by_cases a3 : okC k key en
    · exact a3
    · unfold ckE at hnew; rw [if_neg a3] at hnew; cases hnew
  · rw [if_pos a2] at hnew; cases hnew
/-- A task and a Book as they are made. -/
theorem Om.new {w w1 : World} {t : Nat} {n l s x q k : Int} {key en : ByteArray} (hnew : newE n l s x q k key en = 0) (ht : w.heap.size ≤ t) (hT : TkM w1 t (Tk.new n l s x q k key en)) (hf1 : Fr [] w w1) : Om w (w1.alloc (.cells Bq.newBk 47)) t w1.heap.size 0 [] := by
  obtain ⟨a1, a2, a3⟩ := new_all hnew
  have hlt := hT.lt
  have hsz := hf1.size
  have hfa : Fr [] w1 (w1.alloc (.cells Bq.newBk 47)) := Fr.alloc [] _ _
  have hk : ∀ b ∈ Bq.kbs w1.heap.size (.slice none 0 0) (.slice none 0 0) (.slice none 0 0) (.slice none 0 0) [] [] [] [], b = w1.heap.size := fun b hb => by
    rcases Bq.mem_kbs.1 hb with e | (e | e) | (e | e) | (e | e) | (e | e)
    · exact e
    all_goals (simp [Value.ownBlock, Bq.lbs] at e)
  refine ⟨[], _, _, [], [], 0, ⟨PM.new (hT.keep hfa (by simp)), ⟨_, _, _, _, _, _, _, _, Bq.B4.new (heap_alloc_new w1 _) hsz, rfl⟩, fun b hb hm => ?_, fun b hb => ?_, fun b hb => ?_, hf1.then hfa⟩, Nat.le_refl _, a1, a2, a3, Nat.zero_le _, Nat.le_refl _, by simp, by simp, by simp⟩
  · have e1 := List.mem_singleton.1 hb
    have e2 := hk b hm
    omega
  · have e1 := List.mem_singleton.1 hb
    omega
  · have e2 := hk b hb
    omega
end Go.Proofs.YtpdkdgmaofhlkaaGreatDoor
