/- Mathematics of the statements on tables: a list of transactions as a log; who waits for whom there. Plain lemmas; Last and there, which leave the world as it was. -/
import Derived.Test.YtdcmjoildfofcaaAl11
import Derived.Test.YtdcmjoildfofcaaSz11
import Derived.Test.YtdcmjoildfofcaaIn10
namespace Go.Proofs.Ytdcmjoildfofcaa
open Go.ChangeShapes Go.WideShapes Go.ChangeAt Go.RowKit Go.Lib Go.Maps
set_option linter.unusedVariables false
set_option linter.unusedSimpArgs false

/-- The log that the first i of the transactions are. -/
def LT (ts : List Tm) (i : Nat) : Lg := (ts.take i).map fun t => (t.n, keysW t.ws)
theorem LT_zero (ts : List Tm) : LT ts 0 = [] := rfl
theorem LT_snoc (ts : List Tm) (i : Nat) (h : i < ts.length) : LT ts (i + 1) = LT ts i ++ [((ts.getD i Tm.zero).n, keysW (ts.getD i Tm.zero).ws)] := by
  unfold LT
  rw [List.take_add_one, List.map_append]
  congr 1
  simp [List.getD, h]
/-- The first i are numbered. -/
def Num (ts : List Tm) (i : Nat) : Prop := ∀ j, j < i → (ts.getD j Tm.zero).n = (j : Int) + 1
theorem LT_mem (ts : List Tm) (i : Nat) (hi : i ≤ ts.length) (p : Int × List ByteArray) : p ∈ LT ts i ↔ ∃ j, j < i ∧ p = ((ts.getD j Tm.zero).n, keysW (ts.getD j Tm.zero).ws) := by
  unfold LT
  rw [List.mem_map]
  constructor
  · rintro ⟨t, ht, rfl⟩
    obtain ⟨j, hj, e⟩ := List.mem_iff_getElem.1 ht
    rw [List.getElem_take] at e
    rw [List.length_take] at hj
    have hj2 : j < ts.length := by omega
    exact ⟨j, by omega, by rw [← e]; simp [List.getD, hj2]⟩
  · rintro ⟨j, hj, rfl⟩
    have hj2 : j < ts.length := by omega
    exact ⟨ts.getD j Tm.zero, by rw [List.mem_iff_getElem]; exact ⟨j, by rw [List.length_take]; omega, by rw [List.getElem_take]; simp [List.getD, hj2]⟩, rfl⟩
theorem LT_num (ts : List Tm) (i : Nat) (hi : i ≤ ts.length) (hN : Num ts i) (x : Int) : (∃ p ∈ LT ts i, p.1 = x) ↔ ∃ j : Nat, j < i ∧ x = (j : Int) + 1 := by
  constructor
  · rintro ⟨p, hp, rfl⟩
    obtain ⟨j, hj, rfl⟩ := (LT_mem ts i hi p).1 hp
    exact ⟨j, hj, hN j hj⟩
  · rintro ⟨j, hj, rfl⟩
    exact ⟨_, (LT_mem ts i hi _).2 ⟨j, hj, rfl⟩, hN j hj⟩
theorem LT_lt (ts : List Tm) (i : Nat) (hi : i ≤ ts.length) (hN : Num ts i) : ∀ p ∈ LT ts i, p.1 < (i : Int) + 1 := fun p hp => by
  obtain ⟨j, hj, e⟩ := (LT_num ts i hi hN p.1).1 ⟨p, hp, rfl⟩
  omega
theorem Num.snoc {ts : List Tm} {i : Nat} (h : Num ts i) (hi : (ts.getD i Tm.zero).n = (i : Int) + 1) : Num ts (i + 1) := fun j hj => by
  by_cases e : j = i
  · rw [e]; exact hi
  · exact h j (by omega)
/-- The least open one waits for none. -/
theorem least_free {L : Lg} {en : Int → Prop} (hr : RisL L) {y : Int} (hy : ∀ x, Op11 L en x → y ≤ x) : ∀ m, Op11 L en m → ¬ Dep L y m := fun m hm hd => by
  have := (hd.lt hr).2.1
  have := hy m hm
  omega
theorem ris_head {ys : List Int} (h : Ris ys) (h0 : 0 < ys.length) : ∀ x ∈ ys, ys.getD 0 0 ≤ x := by
  cases ys with
  | nil => simp at h0
  | cons y r =>
    intro x hx
    rcases List.mem_cons.1 hx with rfl | hx
    · simp
    · have := (List.pairwise_cons.1 h).1 x hx
      simp
      omega
/-- What a new one waits for, told twice. -/
theorem add_waits {L : Lg} {en : Int → Prop} {n : Int} {ks : List ByteArray} {xs zs : List Int} (hr : RisL (L ++ [(n, ks)])) (hx : AdT L en ks xs) (hz : WtT (L ++ [(n, ks)]) (Op11 (L ++ [(n, ks)]) en) n zs) : zs = xs := by
  obtain ⟨hrL, hlt, hpos⟩ := hr.init
  refine Ris.one hz.1 hx.1 (fun m => ?_)
  rw [hz.2 m, hx.2 m, dep_snoc]
  constructor
  · rintro ⟨⟨⟨p, hp, e⟩, h2⟩, h3⟩
    rcases h3 with h3 | ⟨_, h4, k, hk, h5⟩
    · obtain ⟨A, js, C, e2, _⟩ := h3
      have := hlt (n, js) (by rw [e2]; simp)
      simp at this
    · refine ⟨⟨?_, h2⟩, k, hk, h5⟩
      obtain ⟨js, h6, _⟩ := lst_some L k hrL (by rw [h5]; exact h4)
      exact ⟨_, h6, h5⟩
  · rintro ⟨⟨⟨p, hp, e⟩, h2⟩, k, hk, h5⟩
    exact ⟨⟨⟨p, by simp [hp], e⟩, h2⟩, Or.inr ⟨rfl, by have := hrL.pos p hp; omega, k, hk, h5⟩⟩
theorem add_filter {L : Lg} {en : Int → Prop} {ks : List ByteArray} {xs ys : List Int} {p : Int → Bool} (hx : AdT L en ks xs) (hy : Ris ys) (hm : ∀ x, x ∈ ys ↔ Op11 L en x) (hp : ∀ x, p x = true ↔ ∃ k ∈ ks, lst L k = x) : xs = ys.filter p := by
  refine Ris.one hx.1 (hy.filter p) (fun m => ?_)
  rw [hx.2 m, List.mem_filter, hm, hp]
theorem drop_filter (ys : List Int) (p : Int → Bool) (r : Nat) (h : r < ys.length) : ((ys.drop r).filter p).reverse = if p (ys.getD r 0) = true then ((ys.drop (r + 1)).filter p).reverse ++ [ys.getD r 0] else ((ys.drop (r + 1)).filter p).reverse := by
  rw [List.drop_eq_getElem_cons h]
  have e : ys.getD r 0 = ys[r] := by simp [List.getD, h]
  rw [e]
  generalize ys[r] = y
  by_cases hp : p y = true
  · simp [hp]
  · simp [hp]
theorem rev_getD (xs : List Int) (k : Nat) (h : k < xs.length) : xs.reverse.getD (xs.length - 1 - k) 0 = xs.getD k 0 := by
  have h2 : xs.length - 1 - k < xs.reverse.length := by rw [List.length_reverse]; omega
  rw [List.getD, List.getElem?_eq_getElem h2, List.getElem_reverse]
  have e : xs.length - 1 - (xs.length - 1 - k) = k := by omega
  simp [List.getD, h, e]
theorem tthere_same {tb : Nat} {B : List Nat} {n : Nat} {D : Dt} (w : World) (h : Tb w tb B n D) : Calls Try.prog 22 #[.pointer (some ⟨tb, 0, none⟩)] w fun e w' => e = .returned (.bool true) ∧ w = w' := by
  have qT : ∀ (w : World) (r : Option Nat), (binOp .neq 52 (.map r) (.map none)).run Try.prog w = .ok (.bool (!r.isNone)) w := fun w r => run_neq_map_nil w _ _ _ r Try.undLMap
  obtain ⟨lb, ob, wb, E, h⟩ := h
  have c0 := h.c0
  go_enter Try.func22, Try.ntmps22
  go_wp2
  go_ret
  exact ⟨rfl, rfl⟩
theorem tlast_same {tb : Nat} {B : List Nat} {n : Nat} {D : Dt} (key : ByteArray) (w : World) (h : Tb w tb B n D) (hk : key.size ≤ 140737488355328) : Calls Try.prog 17 #[.pointer (some ⟨tb, 0, none⟩), .string key] w fun e w' => e = .returned (.int .i64 (D.last key)) ∧ w' = w := by
  have HT : Hid (Calls _ _ _ _ _) := tthere_same w h
  obtain ⟨lb, ob, wb, E, h⟩ := h
  have c0 := h.c0
  have hl := h.lookL key (by unfold maxLen; omega)
  clear h
  go_enter Try.func17, Try.ntmps17
  go_wp2_with fail
  refine Calls.mono HT.out ?_
  rintro e w1 ⟨rfl, rfl⟩
  clear HT
  go_wp2
  go_ret
  exact ⟨rfl, rfl⟩
theorem tl_last_same {w : World} {tb : Nat} {B : List Nat} {n : Nat} {L : Lg} {en : Int → Prop} (key : ByteArray) (h : Tl w tb B n L en) (hk : key.size ≤ 140737488355328) : Calls Try.prog 17 #[.pointer (some ⟨tb, 0, none⟩), .string key] w fun e w' => e = .returned (.int .i64 (lst L key)) ∧ w' = w := by
  obtain ⟨D, h1, h2, h3⟩ := h
  rw [← h2.last]
  exact tlast_same key w h1 hk
end Go.Proofs.Ytdcmjoildfofcaa
