/- One round of a task beside a Book. Conditions as each names them. -/
import Derived.Test.YtpdkdgmaofhlkaaGreatDoorPy17
import Derived.Test.YtpdkdgmaofhlkaaGreatDoorBi17
namespace Go.Proofs.YtpdkdgmaofhlkaaGreatDoor
open Go.ChangeShapes Go.WideShapes Go.ChangeAt Go.RowKit Go.Lib Go.Sort
set_option linter.unusedVariables false
set_option linter.unusedSimpArgs false

/-- A task beside a Book that was told at most m lists; what the task took came with the asks ps. -/
def Om (w0 w : World) (t bk m : Nat) (ps : List Aj) : Prop := ∃ (B KB : List Nat) (T : Tk) (bs : List Int) (xs : List Rx) (n : Nat), Pk w0 w t bk B KB T bs xs n ∧ n ≤ m ∧ T.n < 0 ∧ Cf.may ⟨T.l, T.s, T.x, T.q⟩ ∧ okC T.k T.key T.en ∧ T.ak ≤ T.nR ∧ xs.length ≤ T.ak ∧ (xs.flatMap Rx.es).length ≤ (ps.flatMap Aj.es).length ∧ (xs.flatMap Rx.hs).length ≤ (ps.flatMap Aj.hs).length ∧ ∀ x ∈ xs, ∀ h ∈ x.hs, h.vs.length ≤ 1048576
theorem Om.fr {w0 w : World} {t bk m : Nat} {ps : List Aj} (h : Om w0 w t bk m ps) : Fr [] w0 w := by
  obtain ⟨B, KB, T, bs, xs, n, hP, _⟩ := h
  exact hP.fr
theorem Om.keep {w0 w w' : World} {t bk m : Nat} {ps : List Aj} (h : Om w0 w t bk m ps) (hf : Fr [] w w') : Om w0 w' t bk m ps := by
  obtain ⟨B, KB, T, bs, xs, n, hP, q⟩ := h
  exact ⟨B, KB, T, bs, xs, n, hP.keep hf, q⟩
theorem Om.more {w0 w : World} {t bk m : Nat} {ps : List Aj} (h : Om w0 w t bk m ps) (a : Aj) : Om w0 w t bk m (ps ++ [a]) := by
  obtain ⟨B, KB, T, bs, xs, n, hP, q1, q2, q3, q4, q5, q6, q7, q8, q9⟩ := h
  refine ⟨B, KB, T, bs, xs, n, hP, q1, q2, q3, q4, q5, q6, ?_, ?_, q9⟩
  · rw [List.flatMap_append, List.length_append]; omega
  · rw [List.flatMap_append, List.length_append]; omega
theorem om_sent {w0 w : World} {t bk m : Nat} {ps : List Aj} (h : Om w0 w t bk m ps) : Calls Tryz.prog 9 #[.pointer (some ⟨t, 0, none⟩)] w fun e w' => (∃ E : Int, e = .returned (.int .i64 E)) ∧ Om w0 w' t bk m ps := by
  obtain ⟨B, KB, T, bs, xs, n, hP, q1, q2, q3, q4, q5, q6, q7, q8, q9⟩ := h
  have hnR := T.nR_le q3
  refine (qSent_any hP.pm.tk q2 q3 q4 (by omega)).mono ?_
  rintro e w' ⟨rfl, h1, h2⟩
  refine ⟨⟨_, rfl⟩, B, KB, _, bs, xs, n, hP.setP (hP.pm.sent h1 h2) (fun b hb => Or.inl hb) h2 (fun z hz => by rw [List.mem_singleton.1 hz]; exact List.mem_cons_self ..), q1, q2, q3, q4, ?_, ?_, q7, q8, q9⟩
  · by_cases hc : T.bg = true ∧ T.ak < T.nR
    · rw [if_pos hc]; exact hc.2
    · rw [if_neg hc]; exact q5
  · by_cases hc : T.bg = true ∧ T.ak < T.nR
    · rw [if_pos hc]; exact Nat.le_trans q6 (Nat.le_succ _)
    · rw [if_neg hc]; exact q6
theorem bg_ok {bg : Bool} {ma le : Int} {ns : List Int} (h : bgE bg ma le ns = 0) : bg = false ∧ mayBg ma le ns := by
  unfold bgE at h
  cases bg with
  | true => simp at h
  | false =>
    by_cases hm : mayBg ma le ns
    · exact ⟨rfl, hm⟩
    · simp [hm] at h
theorem om_begin {w0 w : World} {t bk m : Nat} {ps : List Aj} (h : Om w0 w t bk m ps) (a : Aj) (hA0 : AjB w0 a) : Calls Tryz.prog 6 #[.pointer (some ⟨t, 0, none⟩), .int .i64 a.ma, .int .i64 a.le, .slice a.bo a.bl a.bc] w fun e w' => (∃ E : Int, e = .returned (.int .i64 E)) ∧ Om w0 w' t bk m ps := by
  obtain ⟨B, KB, T, bs, xs, n, hP, q1, q2, q3, q4, q5, q6, q7, q8, q9⟩ := h
  have hI := hA0.is.keep hP.fr
  by_cases hE : bgE T.bg a.ma a.le a.ns = 0
  · obtain ⟨hbg, hm⟩ := bg_ok hE
    have hlong : (bsOf T.k a.ns).length ≤ 65536 := by
      unfold bsOf
      split
      · exact Ab.short (by have := hm.1; omega) hm.2.2.2.2
      · simp
    refine (qbegin_any2 hP.pm.tk q2 a.ma a.le a.bo a.bl a.bc a.ns hI hA0.bl hbg hm q4 (fun hp ad e => ?_)).mono ?_
    · obtain ⟨b', off, e1, e2, _⟩ := hA0.is.lies hp
      rw [e] at e1
      cases e1
      have := hP.f1 t (List.mem_cons_self ..)
      show b' ≠ t
      omega
    · rintro e w' ⟨r, rfl, h1, h2, h3, h4⟩
      obtain ⟨z1, z2⟩ := hP.pm.begun h1 h2.ebl (by rw [h2.ebl]; omega) h3 h4
      exact ⟨⟨_, rfl⟩, _, KB, _, _, xs, n, hP.setP z1 z2 h4 (fun z hz => by rw [List.mem_singleton.1 hz]; exact List.mem_cons_self ..), q1, q2, q3, q4, q5, q6, q7, q8, q9⟩
  · refine (qbegin_bad hP.pm.tk q2 a.ma a.le a.bo a.bl a.bc a.ns hI hA0.bl hE).mono ?_
    rintro e w' ⟨rfl, rfl⟩
    exact ⟨⟨_, rfl⟩, B, KB, T, bs, xs, n, hP, q1, q2, q3, q4, q5, q6, q7, q8, q9⟩
theorem om_got {w0 wA W : World} {t bk m : Nat} {ps : List Aj} (h : Om w0 W t bk m ps) (a : Aj) (hA0 : AjB w0 a) (me : a.r.el ≤ 4194304) (mh : a.r.hl ≤ 4194304) (mv : ∀ h ∈ a.hs, h.vs.length ≤ 1048576) {be bh : Nat} {ks : List Nat} (hT : TwR wA W a.r a.es a.hs be bh ks) (ht : t < wA.heap.size) : Calls Tryz.prog 7 #[.pointer (some ⟨t, 0, none⟩), .agg (twRp a.r be bh).a] W fun e w' => (∃ E : Int, e = .returned (.int .i64 E)) ∧ Om w0 w' t bk m (ps ++ [a]) := by
  have hmore := h.more a
  obtain ⟨B, KB, T, bs, xs, n, hP, q1, q2, q3, q4, q5, q6, q7, q8, q9⟩ := h
  have hnR := T.nR_le q3
  have hrp := hP.pm.rp
  by_cases he : T.rp = T.ak
  · refine (qGot_idle (twRp a.r be bh) hP.pm.tk q2 he).mono ?_
    rintro e w' ⟨rfl, hf⟩
    exact ⟨⟨_, rfl⟩, hmore.keep hf⟩
  · by_cases hto : a.r.to_ = T.n
    · refine (got_pm hP.pm q2 q4 he (by omega) (twRp a.r be bh) ⟨a.r, a.es, a.hs⟩ (twTs a.hs ks) hto (hT.rt ht (hA0.rp.keep hP.fr) me mh)).mono ?_
      rintro e w' ⟨rfl, T', B', z1, z2, ⟨ev, hv, ct, rfl⟩, z3, z4⟩
      refine ⟨⟨_, rfl⟩, B', KB, _, bs, _, n, hP.setP z1 z3 z4 (fun z hz => hz), q1, q2, q3, q4, q5, ?_, ?_, ?_, fun x hx h hh => ?_⟩
      · show (xs ++ [_]).length ≤ T.ak
        rw [List.length_append]
        simp only [List.length_cons, List.length_nil]
        omega
      · rw [List.flatMap_append, List.flatMap_append, List.length_append, List.length_append]
        simp only [List.flatMap_cons, List.flatMap_nil, List.append_nil]
        omega
      · rw [List.flatMap_append, List.flatMap_append, List.length_append, List.length_append]
        simp only [List.flatMap_cons, List.flatMap_nil, List.append_nil]
        omega
      · rcases List.mem_append.1 hx with e | e
        · exact q9 x e h hh
        · have e2 := List.mem_singleton.1 e
          subst e2
          exact mv h hh
    · refine (qGot_arg (twRp a.r be bh) hP.pm.tk q2 he hto).mono ?_
      rintro e w' ⟨rfl, hf⟩
      exact ⟨⟨_, rfl⟩, hmore.keep hf⟩
/-- What lies apart from a Book and from a task. -/
def Apt (w0 : World) (KB TB : List Nat) (k : Nat) : Prop := k ∉ KB ∧ k ∉ TB ∧ w0.heap.size ≤ k
/-- Behind Next and Answer: what is to be told yet. -/
structure U3 (w0 w : World) (t bk D : Nat) (o : Obj) (ps : List Aj) (m : Nat) (B KB : List Nat) (T : Tk) (bs : List Int) (xs : List Rx) (n : Nat) (eo : Option Addr) (en ec : Nat) (ho : Option Addr) (hn hc : Nat) (hs : List Hd) : Prop where
  pk : Pk w0 w t bk B KB T bs xs n
  le : n ≤ m
  rest : T.n < 0 ∧ Cf.may ⟨T.l, T.s, T.x, T.q⟩ ∧ okC T.k T.key T.en ∧ T.ak ≤ T.nR ∧ xs.length ≤ T.ak ∧ (xs.flatMap Rx.es).length ≤ (ps.flatMap Aj.es).length ∧ (xs.flatMap Rx.hs).length ≤ (ps.flatMap Aj.hs).length ∧ ∀ x ∈ xs, ∀ h ∈ x.hs, h.vs.length ≤ 1048576
  d : w.heap[D]? = some o ∧ D ∉ KB
  e : ∃ base vs, w.ownsRow base 102 2 (.slice eo en ec) en vs
  ea : ∀ k, (Value.slice eo en ec).ownBlock = some k → Apt w0 KB (t :: B) k
  em : en < 17179869184
  h : ∃ V, HOut V w ho hn hc hs
  ha : ∀ k, HoB ho hn hc hs k → Apt w0 KB (t :: B) k
  hv : ∀ x ∈ hs, x.vs.length ≤ 1048576
  hm : hn ≤ 1048576
/-- One thing more was told. -/
theorem U3.on {w0 w w' : World} {t bk D : Nat} {o : Obj} {ps : List Aj} {m : Nat} {B KB : List Nat} {T : Tk} {bs : List Int} {xs : List Rx} {n : Nat} {eo : Option Addr} {en ec : Nat} {ho : Option Addr} {hn hc : Nat} {hs : List Hd} (u : U3 w0 w t bk D o ps m B KB T bs xs n eo en ec ho hn hc hs) {KB' S : List Nat} (hP : Pk w0 w' t bk B KB' T bs xs (n + 1)) (hK : ∀ k ∈ KB', k ∈ KB ∨ (∃ cur, w.heap[k]? = some (.cells cur 3 (0, 0))) ∨ w.heap.size ≤ k) (hd : ∀ cur, o ≠ .cells cur 3 (0, 0)) (hf : Fr S w w') (hS : ∀ z ∈ S, z ∈ KB) : U3 w0 w' t bk D o ps (m + 1) B KB' T bs xs (n + 1) eo en ec ho hn hc hs := by
  obtain ⟨base, vs, he⟩ := u.e
  obtain ⟨V, hh⟩ := u.h
  have tyE : ∀ k, (Value.slice eo en ec).ownBlock = some k → ∃ cur, w.heap[k]? = some (.cells cur 102 (0, 0)) := fun k hk => (owns_cells he hk).2
  have tyH : ∀ k, HoB ho hn hc hs k → ∃ cur tt, w.heap[k]? = some (.cells cur tt (0, 0)) ∧ tt ≠ 3 := fun k hk => by
    rcases hk with hk | ⟨x, hx, hk⟩
    · obtain ⟨_, cur, q⟩ := owns_cells hh.row hk
      exact ⟨cur, _, q, by decide⟩
    · obtain ⟨_, cur, q⟩ := (hh.each x hx).blk k (Option.mem_toList.2 hk)
      exact ⟨cur, _, q, by decide⟩
  have nw : ∀ k, k ∉ KB → (∃ cur tt, w.heap[k]? = some (.cells cur tt (0, 0)) ∧ tt ≠ 3) → k ∉ KB' := fun k h1 ⟨cur, tt, h2, h3⟩ hm => by
    rcases hK k hm with q | ⟨cur', q⟩ | q
    · exact h1 q
    · rw [h2] at q
      simp only [Option.some.injEq, Obj.cells.injEq] at q
      exact h3 q.2.1
    · have := lt_of_block h2; omega
  refine ⟨hP, by have := u.le; omega, u.rest, ⟨hf.keep u.d.1 (fun hm => u.d.2 (hS _ hm)), fun hm => ?_⟩, ⟨base, vs, owns_keepB he hf (fun k hk hm => (u.ea k hk).1 (hS k hm))⟩, fun k hk => ⟨nw k (u.ea k hk).1 (by obtain ⟨cur, q⟩ := tyE k hk; exact ⟨cur, _, q, by decide⟩), (u.ea k hk).2⟩, u.em, ⟨V, hh.keepK hf (fun k hk hm => (u.ha k (Or.inl hk)).1 (hS k hm)) (fun x hx k hk hm => (u.ha k (Or.inr ⟨x, hx, hk⟩)).1 (hS k hm))⟩, fun k hk => ⟨nw k (u.ha k hk).1 (tyH k hk), (u.ha k hk).2⟩, u.hv, u.hm⟩
  rcases hK D hm with q | ⟨cur, q⟩ | q
  · exact u.d.2 q
  · rw [u.d.1] at q; exact hd cur (Option.some.inj q)
  · have hlt : D < w.heap.size := by
      rcases Nat.lt_or_ge D w.heap.size with h1 | h1
      · exact h1
      · have q2 := u.d.1
        rw [Array.getElem?_eq_none h1] at q2
        cases q2
    omega
end Go.Proofs.YtpdkdgmaofhlkaaGreatDoor
