/- Texts of this claim laid together, one behind the other: contracts and plain lemmas; conditions as each names them. -/
import Derived.Test.YtdojhkgnnbdfkaaGreatGp32
import Derived.Test.YtdojhkgnnbdfkaaGreatGp30
import Derived.Test.YtdojhkgnnbdfkaaGreatGp18
import Derived.Test.YtdojhkgnnbdfkaaGreatGp6
import Derived.Test.YtdojhkgnnbdfkaaGreatGp5
import Derived.Laws.BitsAllLaws
/- The law DumpDecodes answers true. Conditions: its argument lies as it came in; the library's table of powers lies as the program lays it. -/
namespace Go.Proofs.YtdojhkgnnbdfkaaGreat
open BigFrame Go.ChangeShapes Go.WideShapes Go.ChangeAt Go.RowKit Go.Lib Go.Maps
set_option linter.unusedVariables false
set_option linter.unusedSimpArgs false

/-- What Decode answers of such bytes. -/
def AnsD (xs : List Nat) (c : Nat) (m : Int) (bs : List Int) (ps : List Kv) : Prop := (c ≠ 0 ∧ DeT xs c ∧ m = 0 ∧ bs = [] ∧ ps = []) ∨ (c = 0 ∧ dS xs = .ok (⟨m, bs, ps⟩, []) ∧ OkS m bs ps)
theorem DeT.uniq {xs : List Nat} {c d : Nat} (h : DeT xs c) (k : DeT xs d) : c = d := by
  rcases h with h | ⟨rfl, s, r, h, hr⟩ | ⟨rfl, s, h, hn⟩ <;> rcases k with k | ⟨rfl, s', r', k, kr⟩ | ⟨rfl, s', k, kn⟩
  · rw [h] at k; simpa using k
  · rw [h] at k; cases k
  · rw [h] at k; cases k
  · rw [h] at k; cases k
  · rfl
  · rw [h] at k
    simp only [Except.ok.injEq, Prod.mk.injEq] at k
    rw [k.2] at hr
    simp at hr
  · rw [h] at k; cases k
  · rw [h] at k
    simp only [Except.ok.injEq, Prod.mk.injEq] at k
    rw [← k.2] at kr
    simp at kr
  · rfl
theorem DeT.no {xs : List Nat} {c : Nat} {s : Sd} (h : DeT xs c) (k : dS xs = .ok (s, [])) (ho : OkS s.m s.bs s.ps) : False := by
  rcases h with h | ⟨rfl, s', r, h, hr⟩ | ⟨rfl, s', h, hn⟩
  · rw [h] at k; cases k
  · rw [h] at k
    simp only [Except.ok.injEq, Prod.mk.injEq] at k
    rw [k.2] at hr
    simp at hr
  · rw [h] at k
    simp only [Except.ok.injEq, Prod.mk.injEq] at k
    rw [k.1] at hn
    exact hn ho
theorem AnsD.uniq {xs : List Nat} {c d : Nat} {m n : Int} {bs cs : List Int} {ps qs : List Kv} (h : AnsD xs c m bs ps) (k : AnsD xs d n cs qs) : c = d ∧ m = n ∧ bs = cs ∧ ps = qs := by
  rcases h with ⟨h1, h2, rfl, rfl, rfl⟩ | ⟨rfl, h2, h3⟩ <;> rcases k with ⟨k1, k2, rfl, rfl, rfl⟩ | ⟨rfl, k2, k3⟩
  · exact ⟨h2.uniq k2, rfl, rfl, rfl⟩
  · exact (h2.no k2 k3).elim
  · exact (k2.no h2 h3).elim
  · rw [h2] at k2
    simp only [Except.ok.injEq, Prod.mk.injEq, Sd.mk.injEq] at k2
    exact ⟨rfl, k2.1.1, k2.1.2.1, k2.1.2.2⟩
/-- Both ways by one word. -/
theorem DeP.one {xs : List Nat} {w w' : World} {e : Ending} (h : DeP xs w e w') (hb : ∀ y ∈ xs, y < 256) : ∃ (c : Nat) (m : Int) (bo : Option Addr) (Lb cb : Nat) (ho : Option Addr) (Lh ch : Nat) (bs : List Int) (hs : List Hd), e = .returned (.tuple #[.agg #[.int .i64 m, .slice bo Lb cb, .slice ho Lh ch], .int .i64 (c : Int)]) ∧ AnsD xs c m bs (hs.map Hd.kv) ∧ Lb ≤ 65536 ∧ Lh ≤ 65536 ∧ (∀ p ∈ hs.map Hd.kv, limK p) ∧ IOw w.heap.size w' bo Lb cb bs ∧ HOut w w' ho Lh ch hs ∧ Fr [] w w' := by
  rcases h with ⟨c, h1, h2, rfl, h3⟩ | ⟨m, bo, Lb, cb, ho, Lh, ch, bs, hs, h1, h2, h3, h4, rfl, h5, h6, h7⟩
  · exact ⟨c, 0, none, 0, 0, none, 0, 0, [], [], rfl, Or.inl ⟨h2, h1, rfl, rfl, rfl⟩, by omega, by omega, by simp, IOw.nil _ _, ⟨rfl, ⟨rfl, .inl ⟨rfl, rfl⟩⟩, by simp, List.Pairwise.nil⟩, h3⟩
  · exact ⟨0, m, bo, Lb, cb, ho, Lh, ch, bs, hs, rfl, Or.inr ⟨rfl, h1, h2⟩, h3, h4, dS_lim hb h1, h5, h6, h7⟩
theorem twin_owns18 {w : World} {b L : Nat} {xs : List Nat} (h : w.heap[b]? = some (.cells (bts (xs ++ [77])).toArray 5 (0, 0))) (hL : L = xs.length) (hm : L < 2^40) : w.ownsRow 0 5 1 (.slice (some ⟨b, 0, none⟩) L (L + 1)) L (bts xs) := by
  refine ⟨by rw [bts_length, hL, Nat.mul_one], .inr ⟨b, L + 1, (bts (xs ++ [77])).toArray, rfl, Nat.zero_le _, h, by omega, by simp only [maxLen]; omega, by simp [bts_length]; omega, ?_⟩⟩
  simp only [bts_append]
  rw [List.take_append_of_le_length (by rw [bts_length]; omega), List.take_of_length_le (by rw [bts_length]; omega)]
theorem twin_barg18 {w : World} {b L : Nat} {xs : List Nat} (h : w.heap[b]? = some (.cells (bts (xs ++ [77])).toArray 5 (0, 0))) (hL : L = xs.length) (hm : L < 2^40) (hb : ∀ x ∈ xs, x < 256) : BArg w (some ⟨b, 0, none⟩) L (L + 1) xs := by
  have hR := own_rs (twin_owns18 h hL hm) hL (by omega)
  refine ⟨hL, hb, by omega, by omega, fun h0 => ?_⟩
  obtain ⟨b', off, e, hc⟩ := hR.lies (by omega)
  cases e
  exact ⟨_, _, rfl, lt_of_block h, fun j hj => hc j (by omega)⟩
end Go.Proofs.YtdojhkgnnbdfkaaGreat
/- A checkpoint's head, and what a slot's bytes say. Plain lemmas. -/
namespace Go.Proofs.YtdojhkgnnbdfkaaGreat
open Go.ChangeShapes Go.WideShapes Go.ChangeAt Go.RowKit Go.Lib
set_option linter.unusedVariables false
set_option linter.unusedSimpArgs false

/-- What stands between the sign and the sum. -/
def midB (g n : Nat) : List Nat := leB 8 g ++ leB 4 n
def sumH (g : Nat) (xs : List Nat) : Nat := more (more 0 (midB g xs.length)) xs
/-- The head ahead of such bytes, of a generation. -/
def hdB (g : Nat) (xs : List Nat) : List Nat := leB 4 1464880980 ++ (midB g xs.length ++ leB 4 (sumH g xs))
theorem midB_length (g n : Nat) : (midB g n).length = 12 := by simp [midB, leB_length]
theorem hdB_length (g : Nat) (xs : List Nat) : (hdB g xs).length = 20 := by simp [hdB, leB_length, midB_length]
theorem midB_lt (g n : Nat) : ∀ x ∈ midB g n, x < 256 := by
  intro x hx
  rcases List.mem_append.1 hx with h | h
  · exact leB_lt _ _ x h
  · exact leB_lt _ _ x h
theorem hdB_lt (g : Nat) (xs : List Nat) : ∀ x ∈ hdB g xs, x < 256 := by
  intro x hx
  rcases List.mem_append.1 hx with h | h
  · exact leB_lt _ _ x h
  · rcases List.mem_append.1 h with h | h
    · exact midB_lt _ _ x h
    · exact leB_lt _ _ x h
theorem leB_leN : ∀ (xs : List Nat), (∀ x ∈ xs, x < 256) → leB xs.length (leN xs) = xs := by
  intro xs
  induction xs with
  | nil => intro _; rfl
  | cons x r ih =>
    intro h
    have hx := h x (by simp)
    simp only [List.length_cons, leB, leN]
    rw [show (x + 256 * leN r) % 256 = x by omega, show (x + 256 * leN r) / 256 = leN r by omega, ih (fun y hy => h y (by simp [hy]))]
theorem leB_mod (k n : Nat) : leB k (n % 256 ^ k) = leB k n := by
  induction k generalizing n with
  | zero => rfl
  | succ k ih =>
    simp only [leB]
    have e1 : n % 256 ^ (k + 1) % 256 = n % 256 := by rw [Nat.pow_succ, Nat.mul_comm]; exact Nat.mod_mul_right_mod _ _ _
    have e2 : n % 256 ^ (k + 1) / 256 = n / 256 % 256 ^ k := by rw [Nat.pow_succ, Nat.mul_comm]; exact Nat.mod_mul_right_div_self _ _ _
    rw [e1, e2, ih]
/-- A slot's bytes are a checkpoint's head and bytes. -/
structure Good (ys : List Nat) (g : Nat) (xs : List Nat) : Prop where
  eq : ys = hdB g xs ++ xs
  lo : 1 ≤ g
  hi : g ≤ 4611686018427387904
theorem Good.drop {ys xs : List Nat} {g : Nat} (h : Good ys g xs) : ys.drop 20 = xs := by rw [h.eq, List.drop_left' (hdB_length g xs)]
theorem Good.take {ys xs : List Nat} {g : Nat} (h : Good ys g xs) : ys.take 20 = hdB g xs := by rw [h.eq, List.take_left' (hdB_length g xs)]
theorem hd_gen (g : Nat) (xs r : List Nat) (hg : g < 256 ^ 8) : leN (((hdB g xs ++ r).drop 4).take 8) = g := by
  have e : hdB g xs ++ r = leB 4 1464880980 ++ (leB 8 g ++ (leB 4 xs.length ++ (leB 4 (sumH g xs) ++ r))) := by simp [hdB, midB]
  rw [e, List.drop_left' (leB_length 4 _), List.take_left' (leB_length 8 _), leN_leB 8 g hg]
theorem Good.gen {ys xs : List Nat} {g : Nat} (h : Good ys g xs) : leN ((ys.drop 4).take 8) = g := by
  rw [h.eq]
  exact hd_gen g xs xs (by have := h.hi; omega)
theorem Good.uniq {ys xs xs' : List Nat} {g g' : Nat} (h : Good ys g xs) (k : Good ys g' xs') : g = g' ∧ xs = xs' := ⟨h.gen.symm.trans k.gen, h.drop.symm.trans k.drop⟩
theorem Good.len {ys xs : List Nat} {g : Nat} (h : Good ys g xs) : ys.length = 20 + xs.length := by rw [h.eq, List.length_append, hdB_length]
theorem Good.of {ys : List Nat} {g : Nat} (h : ys.take 20 = hdB g (ys.drop 20)) (h1 : 1 ≤ g) (h2 : g ≤ 4611686018427387904) : Good ys g (ys.drop 20) := ⟨by rw [← h, List.take_append_drop], h1, h2⟩
/-- What a slot's bytes say. -/
def Wh (ys : List Nat) (ok : Bool) (g : Nat) (m : Int) (bs : List Int) (ps : List Kv) : Prop :=
  (ok = true ∧ ∃ xs, Good ys g xs ∧ AnsD xs 0 m bs ps) ∨ (ok = false ∧ g = 0 ∧ m = 0 ∧ bs = [] ∧ ps = [] ∧ ∀ g' xs m' bs' ps', Good ys g' xs → ¬ AnsD xs 0 m' bs' ps')
theorem Wh.uniq {ys : List Nat} {ok ok' : Bool} {g g' : Nat} {m m' : Int} {bs bs' : List Int} {ps ps' : List Kv} (h : Wh ys ok g m bs ps) (k : Wh ys ok' g' m' bs' ps') : ok = ok' ∧ g = g' ∧ m = m' ∧ bs = bs' ∧ ps = ps' := by
  rcases h with ⟨rfl, xs, h1, h2⟩ | ⟨rfl, rfl, rfl, rfl, rfl, h1⟩ <;> rcases k with ⟨rfl, xs', k1, k2⟩ | ⟨rfl, rfl, rfl, rfl, rfl, k1⟩
  · obtain ⟨rfl, rfl⟩ := h1.uniq k1
    obtain ⟨_, e1, e2, e3⟩ := h2.uniq k2
    exact ⟨rfl, rfl, e1, e2, e3⟩
  · exact (k1 _ _ _ _ _ h1 h2).elim
  · exact (h1 _ _ _ _ _ k1 k2).elim
  · exact ⟨rfl, rfl, rfl, rfl, rfl⟩
theorem Wh.short {ys : List Nat} (h : ys.length < 20) : Wh ys false 0 0 [] [] := Or.inr ⟨rfl, rfl, rfl, rfl, rfl, fun g' xs m' bs' ps' hG => by have := hG.len; omega⟩
theorem Wh.none {ys : List Nat} (h : ∀ g xs, ¬ Good ys g xs) : Wh ys false 0 0 [] [] := Or.inr ⟨rfl, rfl, rfl, rfl, rfl, fun g' xs m' bs' ps' hG => (h _ _ hG).elim⟩
theorem Wh.range {ys : List Nat} (h : leN ((ys.drop 4).take 8) < 1 ∨ 4611686018427387904 < leN ((ys.drop 4).take 8)) : Wh ys false 0 0 [] [] := Wh.none fun g xs hG => by
  have := hG.gen
  have := hG.lo
  have := hG.hi
  omega
theorem Wh.head {ys : List Nat} (h : ys.take 20 ≠ hdB (leN ((ys.drop 4).take 8)) (ys.drop 20)) : Wh ys false 0 0 [] [] := Wh.none fun g xs hG => h (by rw [hG.gen, hG.drop]; exact hG.take)
theorem Wh.bad {ys xs : List Nat} {g c : Nat} {m : Int} {bs : List Int} {ps : List Kv} (hG : Good ys g xs) (h : AnsD xs c m bs ps) (hc : c ≠ 0) : Wh ys false 0 0 [] [] := Or.inr ⟨rfl, rfl, rfl, rfl, rfl, fun g' xs' m' bs' ps' hG' h' => by
  obtain ⟨rfl, rfl⟩ := hG.uniq hG'
  exact hc (h.uniq h').1⟩
theorem Wh.ok {ys xs : List Nat} {g : Nat} {m : Int} {bs : List Int} {ps : List Kv} (hG : Good ys g xs) (h : AnsD xs 0 m bs ps) : Wh ys true g m bs ps := Or.inl ⟨rfl, xs, hG, h⟩
theorem Wh.g_le {ys : List Nat} {ok : Bool} {g : Nat} {m : Int} {bs : List Int} {ps : List Kv} (h : Wh ys ok g m bs ps) : g ≤ 4611686018427387904 := by
  rcases h with ⟨_, xs, h1, _⟩ | ⟨_, rfl, _⟩
  · exact h1.hi
  · omega
theorem Wh.g_ok {ys : List Nat} {ok : Bool} {g : Nat} {m : Int} {bs : List Int} {ps : List Kv} (h : Wh ys ok g m bs ps) : ok = true ↔ 0 < g := by
  rcases h with ⟨rfl, xs, h1, _⟩ | ⟨rfl, rfl, _⟩
  · have := h1.lo
    simp; omega
  · simp
/-- The newest of two slots. -/
def Nw (s0 s1 : List Nat) (ok : Bool) (g slot : Nat) (m : Int) (bs : List Int) (ps : List Kv) : Prop :=
  (slot = 0 ∧ Wh s0 ok g m bs ps ∧ ∃ ok1 g1 m1 bs1 ps1, Wh s1 ok1 g1 m1 bs1 ps1 ∧ g1 ≤ g) ∨ (slot = 1 ∧ Wh s1 ok g m bs ps ∧ ∃ ok0 g0 m0 bs0 ps0, Wh s0 ok0 g0 m0 bs0 ps0 ∧ g0 < g)
theorem Nw.uniq {s0 s1 : List Nat} {ok ok' : Bool} {g g' i i' : Nat} {m m' : Int} {bs bs' : List Int} {ps ps' : List Kv} (h : Nw s0 s1 ok g i m bs ps) (k : Nw s0 s1 ok' g' i' m' bs' ps') : ok = ok' ∧ g = g' ∧ i = i' ∧ m = m' ∧ bs = bs' ∧ ps = ps' := by
  rcases h with ⟨rfl, h1, o1, g1, m1, b1, p1, h2, h3⟩ | ⟨rfl, h1, o1, g1, m1, b1, p1, h2, h3⟩ <;> rcases k with ⟨rfl, k1, o2, g2, m2, b2, p2, k2, k3⟩ | ⟨rfl, k1, o2, g2, m2, b2, p2, k2, k3⟩
  · obtain ⟨e1, e2, e3, e4, e5⟩ := h1.uniq k1
    exact ⟨e1, e2, rfl, e3, e4, e5⟩
  · have e := (h1.uniq k2).2.1
    have f := (h2.uniq k1).2.1
    omega
  · have e := (h1.uniq k2).2.1
    have f := (h2.uniq k1).2.1
    omega
  · obtain ⟨e1, e2, e3, e4, e5⟩ := h1.uniq k1
    exact ⟨e1, e2, rfl, e3, e4, e5⟩
theorem Nw.slot {s0 s1 : List Nat} {ok : Bool} {g i : Nat} {m : Int} {bs : List Int} {ps : List Kv} (h : Nw s0 s1 ok g i m bs ps) : (i = 0 ∨ i = 1) ∧ g ≤ 4611686018427387904 ∧ (ok = true ↔ 0 < g) := by
  rcases h with ⟨rfl, h1, _⟩ | ⟨rfl, h1, _⟩
  · exact ⟨Or.inl rfl, h1.g_le, h1.g_ok⟩
  · exact ⟨Or.inr rfl, h1.g_le, h1.g_ok⟩
end Go.Proofs.YtdojhkgnnbdfkaaGreat
/- Numbers laid into a head's array, and read off it: contracts of put, number, generation. Conditions: fewer than nine bytes. -/
namespace Go.Proofs.YtdojhkgnnbdfkaaGreat
open BigFrame Go.ChangeShapes Go.WideShapes Go.ChangeAt Go.RowKit Go.Lib Go.Maps
set_option linter.unusedVariables false
set_option linter.unusedSimpArgs false

/-- A head's array in memory. -/
structure Ha (w : World) (b : Nat) (ys : List Nat) : Prop where
  box : w.heap[b]? = some (.cells (bts ys).toArray 106 (0, 0))
  len : ys.length = 20
  low : ∀ x ∈ ys, x < 256
theorem Ha.keep {S : List Nat} {w w' : World} {b : Nat} {ys : List Nat} (h : Ha w b ys) (hf : Fr S w w') (hn : b ∉ S) : Ha w' b ys := ⟨hf.keep h.box hn, h.len, h.low⟩
theorem Ha.cell {w : World} {b : Nat} {ys : List Nat} (h : Ha w b ys) (j : Nat) (hj : j < 20) : w.cell? ⟨b, j, none⟩ = some (.int .u8 ((ys.getD j 0 : Nat) : Int)) := by
  rw [cell_of_row _ _ _ _ _ _ h.box]
  simpa using bts_get ys j (by rw [h.len]; exact hj)
theorem Ha.free {w : World} {b : Nat} {ys : List Nat} (h : Ha w b ys) (j : Nat) : w.frozen? ⟨b, j, none⟩ = false := by simp [World.frozen?, h.box]
theorem bts_set (ys : List Nat) (j x : Nat) : bts (ys.set j x) = (bts ys).set j (.int .u8 (x : Int)) := by simp [bts, List.map_set]
theorem Ha.put {w : World} {b : Nat} {ys : List Nat} (h : Ha w b ys) (j x : Nat) (hx : x < 256) : Ha (w.setCell ⟨b, j, none⟩ (.int .u8 (x : Int))) b (ys.set j x) := by
  refine ⟨?_, by simpa using h.len, fun y hy => ?_⟩
  · rw [row_setCell _ h.box, bts_set]
    simp
  · rcases List.mem_or_eq_of_mem_set hy with e | e
    · exact h.low y e
    · rw [e]; exact hx
theorem leB_snoc (i N : Nat) : leB (i + 1) N = leB i N ++ [N / 256 ^ i % 256] := by
  induction i generalizing N with
  | zero => simp [leB]
  | succ i ih =>
    rw [show leB (i + 1 + 1) N = N % 256 :: leB (i + 1) (N / 256) from rfl, ih, show leB (i + 1) N = N % 256 :: leB i (N / 256) from rfl, Nat.div_div_eq_div_mul, ← Nat.pow_succ']
    simp
/-- A number's bytes put into a row. -/
def layH (ys : List Nat) (off i N : Nat) : List Nat := ys.take off ++ (leB i N ++ ys.drop (off + i))
theorem layH_zero (ys : List Nat) (off N : Nat) : layH ys off 0 N = ys := by simp [layH, leB]
theorem layH_step (ys : List Nat) (off i N : Nat) (h : off + i < ys.length) : (layH ys off i N).set (off + i) (N / 256 ^ i % 256) = layH ys off (i + 1) N := by
  have h1 : (ys.take off).length = off := by simp; omega
  have h2 : (leB i N).length = i := leB_length i N
  unfold layH
  rw [List.set_append_right _ _ (by omega), h1, List.set_append_right _ _ (by omega), h2, show off + i - off - i = 0 by omega, leB_snoc, List.drop_eq_getElem_cons h]
  simp [Nat.add_assoc]
theorem shr_nat (N i : Nat) : ((N : Int) / 2 ^ (8 * (i : Int)).toNat) % 256 = ((N / 256 ^ i % 256 : Nat) : Int) := by
  have e : (8 * (i : Int)).toNat = 8 * i := by omega
  have e2 : (256 : Nat) ^ i = 2 ^ (8 * i) := by rw [Nat.pow_mul]
  rw [e, e2, Int.natCast_emod, Int.natCast_ediv, Int.natCast_pow]
  rfl
set_option maxHeartbeats 2000000 in
set_option maxRecDepth 100000 in
theorem put_any (b off n cap N : Nat) (ys : List Nat) (w : World) (h : Ha w b ys) (hn : n ≤ 8) (ho : off + n ≤ 20) (hN : N < 2^64) :
    Calls Tryz.prog 77 #[.slice (some ⟨b, off, none⟩) n cap, .int .u64 (N : Int)] w fun e w' => e = .returned (.tuple #[]) ∧ Ha w' b (layH ys off n N) ∧ Fr [b] w w' := by
  have HH : Hid (Ha w b (layH ys off 0 N)) := by rw [layH_zero]; exact h
  have HY : Hid (ys.length = 20) := h.len
  clear h
  go_enter Tryz.func77, Tryz.ntmps77
  go_wp2_with fail
  go_loopw [7] (fun ii wr => ∃ i : Nat, ii = .int .i64 i ∧ i ≤ n ∧ Hid (Ha wr b (layH ys off i N)) ∧ Hid (Fr [b] w wr)) (fun ii _ => n - (RowKit.intOf ii).toNat)
  case atStart => exact ⟨0, rfl, Nat.zero_le _, HH, Fr.refl _ _⟩
  case round =>
    clear HH
    obtain ⟨i, rfl, hin, HA, HF⟩ := hrel
    by_cases hi : i < n
    · have hlt : (i : Int) < n := by omega
      have c0 := HA.out.cell (off + i) (by omega)
      have f0 := HA.out.free (off + i)
      have HN : Hid (Ha (wr.setCell ⟨b, off + i, none⟩ (.int .u8 ((N / 256 ^ i % 256 : Nat) : Int))) b (layH ys off (i + 1) N) ∧ Fr [b] w (wr.setCell ⟨b, off + i, none⟩ (.int .u8 ((N / 256 ^ i % 256 : Nat) : Int)))) := by
        refine ⟨?_, HF.out.then (Fr.set _ _ _ (by simp))⟩
        rw [← layH_step ys off i N (by rw [HY.out]; omega)]
        exact HA.out.put (off + i) _ (Nat.mod_lt _ (by decide))
      rw [← shr_nat] at HN
      go_wp2_with fail
      go_roundw
      case rel => exact ⟨i + 1, by simp, by omega, HN.out.1, HN.out.2⟩
      case measure => simp [RowKit.intOf]; omega
    · have hin2 : i = n := by omega
      have HR : Hid (Ha wr b (layH ys off n N) ∧ Fr [b] w wr) := by rw [← hin2]; exact ⟨HA.out, HF.out⟩
      have hlt : ¬ (i : Int) < n := by omega
      clear hin2 HA HF
      go_wp2_with fail
      go_end0
      exact ⟨rfl, HR.out⟩
set_option maxHeartbeats 2000000 in
set_option maxRecDepth 100000 in
theorem num_any (b off n cap : Nat) (ys : List Nat) (w : World) (hc : ∀ j, j < n → w.cell? ⟨b, off + j, none⟩ = some (.int .u8 ((ys.getD j 0 : Nat) : Int))) (hl : n = ys.length) (hn : n ≤ 8) (hlow : ∀ x ∈ ys, x < 256) :
    Calls Tryz.prog 104 #[.slice (some ⟨b, off, none⟩) n cap] w fun e w' => e = .returned (.int .u64 (leN ys : Int)) ∧ Fr [] w w' := by
  have HL : Hid (n = ys.length) := hl
  have HC : Hid (∀ j, j < n → w.cell? ⟨b, off + j, none⟩ = some (.int .u8 ((ys.getD j 0 : Nat) : Int))) := hc
  clear hl hc
  go_enter Tryz.func104, Tryz.ntmps104
  go_wp2_with fail
  go_loop [3, 8] (fun vv ii => ∃ (m i : Nat), vv = .int .u64 m ∧ ii = .int .i64 i ∧ i ≤ n ∧ m < 256 ^ i ∧ Hid (m = leN (ys.take i))) (fun _ ii => n - (RowKit.intOf ii).toNat)
  case atStart => exact ⟨0, 0, rfl, rfl, Nat.zero_le _, by omega, rfl⟩
  case round =>
    obtain ⟨m, i, rfl, rfl, hiX, hm, E⟩ := hrel
    by_cases hi : i < n
    · have hlt : (i : Int) < n := by omega
      have hcx := HC.out i hi
      obtain ⟨x, hx⟩ : ∃ x, x = ys.getD i 0 := ⟨_, rfl⟩
      rw [← hx] at hcx
      have hget : ys[i]? = some x := by rw [hx, List.getD, List.getElem?_eq_getElem (by rw [← HL.out]; omega)]; rfl
      have hx256 : x < 256 := hlow x (List.mem_of_getElem? hget)
      have hg := byt m x i hm (by omega) hx256
      have HG : Hid (_ = _) := hg.1
      have HB : Hid (m + x * 256 ^ i < 256 ^ (i + 1)) := hg.2
      have HE : Hid (m + x * 256 ^ i = leN (ys.take (i + 1))) := by
        show _ = _
        have e : ys.take (i + 1) = ys.take i ++ [x] := by rw [List.take_add_one, hget]; rfl
        rw [e, leN_snoc, ← E.out, List.length_take, ← HL.out, Nat.min_eq_left (by omega)]
      clear hg hget hx
      go_wp2
      go_round
      case rel => exact ⟨_, i + 1, congrArg (Value.int .u64) HG.out, by simp, by omega, HB.out, HE⟩
      case measure => simp [RowKit.intOf]; omega
    · have hlt : ¬ (i : Int) < n := by omega
      have hiX' : i = n := by omega
      have HV : Hid (m = leN ys) := by
        have := E.out
        rw [hiX', List.take_of_length_le (by rw [← HL.out]; exact Nat.le_refl _)] at this
        exact this
      clear hiX'
      go_wp2
      go_ret
      rw [HV.out]
      exact ⟨rfl, Fr.refl _ _⟩
set_option maxHeartbeats 1000000 in
theorem gen_any (ys : List Nat) (w : World) (hl : ys.length = 20) (hlow : ∀ x ∈ ys, x < 256) :
    Calls Tryz.prog 89 #[.agg (bts ys).toArray] w fun e w' => e = .returned (.int .u64 (leN ((ys.drop 4).take 8) : Int)) ∧ Fr [] w w' := by
  obtain ⟨w1, HW1⟩ : ∃ w1, Hid (w.alloc (.cells (bts ys).toArray 106) = w1) := ⟨_, rfl⟩
  have hF1 : Fr [] w w1 := by rw [← HW1.out]; exact Fr.alloc [] w _
  have hA : Ha w1 w.heap.size ys := ⟨by rw [← HW1.out]; exact heap_alloc_new w _, hl, hlow⟩
  have HC : Hid (Calls _ _ _ _ _) := num_any w.heap.size 4 8 16 ((ys.drop 4).take 8) w1 (fun j hj => by
    rw [hA.cell (4 + j) (by omega)]
    simp [List.getD, hj]) (by simp; omega) (Nat.le_refl _) (fun x hx => hlow x (List.mem_of_mem_drop (List.mem_of_mem_take hx)))
  clear hA hlow
  go_enter Tryz.func89, Tryz.ntmps89
  go_upto_region 1 with fail
  rw [HW1.out]
  clear HW1
  go_wp2_with fail
  refine Calls.mono HC.out ?_
  rintro e w2 ⟨rfl, hF2⟩
  go_wp2
  go_ret
  exact ⟨rfl, hF1.then hF2⟩
end Go.Proofs.YtdojhkgnnbdfkaaGreat
/- What one step of the program's sum answers. Conditions: a number of 32 bits. -/
namespace Go.Proofs.YtdojhkgnnbdfkaaGreat
open Go.ChangeShapes Go.WideShapes Go.ChangeAt Go.RowKit Go.Lib

theorem and_one (c : Nat) (h : c < 4294967296) : bits .and .u32 (c : Int) 1 = ((c % 2 : Nat) : Int) := by
  rw [show (1 : Int) = ((1 : Nat) : Int) from rfl, u32_and_nat c 1 h (by omega), Nat.and_one_is_mod]

set_option maxHeartbeats 1000000 in
theorem shift_any (c : Nat) (w : World) (h : c < 4294967296) :
    Calls Tryz.prog 112 #[.int .u32 (c : Int)] w fun e w' => e = .returned (.int .u32 ((sh c : Nat) : Int)) ∧ w = w' := by
  have hand := and_one c h
  by_cases hp : c % 2 = 1
  · have E : Hid (sh c = (c / 2) ^^^ 2197175160) := by show _ = _; unfold sh; rw [if_pos hp]
    rw [hp] at hand
    have hx : bits .xor .u32 ((c : Int) / 2) 2197175160 = (((c / 2) ^^^ 2197175160 : Nat) : Int) := by
      have := u32_xor_nat (c / 2) 2197175160 (by omega) (by omega)
      simpa using this
    have HX : Hid (bits .xor .u32 ((c : Int) / 2) 2197175160 = (((c / 2) ^^^ 2197175160 : Nat) : Int)) := hx
    clear hx
    go_enter Tryz.func112, Tryz.ntmps112
    go_wp2
    go_ret
    rw [E.out]
    exact ⟨by rw [← HX.out]; rfl, rfl⟩
  · have E : Hid (sh c = c / 2) := by show _ = _; unfold sh; rw [if_neg hp]
    rw [show c % 2 = 0 by omega] at hand
    go_enter Tryz.func112, Tryz.ntmps112
    go_wp2
    go_ret
    rw [E.out]
    exact ⟨by simp, rfl⟩
end Go.Proofs.YtdojhkgnnbdfkaaGreat
