/- The law DumpDecodes answers true. Conditions: its argument lies as it came in; the library's table of powers lies as the program lays it. -/
import Derived.Test.YtdojhkgnnbdfkaaGreatYo18
import Derived.Test.YtdojhkgnnbdfkaaGreatTe18
import Derived.Test.YtdojhkgnnbdfkaaGreatTwin
namespace Go.Proofs.YtdojhkgnnbdfkaaGreat
open BigFrame Go.ChangeShapes Go.WideShapes Go.ChangeAt Go.RowKit Go.Lib Go.Maps
set_option linter.unusedVariables false
set_option linter.unusedSimpArgs false

/-- What Decode answers of such bytes. -/
def AnsD (xs : List Nat) (c : Nat) (m : Int) (bs : List Int) (ps : List Kv) : Prop := (c ≠ 0 ∧ DeT xs c ∧ m = 0 ∧ bs = [] ∧ ps = []) ∨ (c = 0 ∧ dS xs = .ok (⟨m, bs, ps⟩, []) ∧ OkS m bs ps)
theorem DeT.uniq {xs : List Nat} {c d : Nat} (h : DeT xs c) (k : DeT xs d) : c = d := by
  rcases h with h | ⟨rfl, s, r, h, hr⟩ | ⟨rfl, s, h, hn⟩ <;> rcases k with k | ⟨rfl, s', r', k, kr⟩ | ⟨rfl, s', k, kn⟩
  · rw [h] at k; simpa using k
  · rw [h] at k; cases k
  · rw [h] at k; cases k
  · rw [h] at k; cases k
  · rfl
  · rw [h] at k
    simp only [Except.ok.injEq, Prod.mk.injEq] at k
    rw [k.2] at hr
    simp at hr
  · rw [h] at k; cases k
  · rw [h] at k
    simp only [Except.ok.injEq, Prod.mk.injEq] at k
    rw [← k.2] at kr
    simp at kr
  · rfl
theorem DeT.no {xs : List Nat} {c : Nat} {s : Sd} (h : DeT xs c) (k : dS xs = .ok (s, [])) (ho : OkS s.m s.bs s.ps) : False := by
  rcases h with h | ⟨rfl, s', r, h, hr⟩ | ⟨rfl, s', h, hn⟩
  · rw [h] at k; cases k
  · rw [h] at k
    simp only [Except.ok.injEq, Prod.mk.injEq] at k
    rw [k.2] at hr
    simp at hr
  · rw [h] at k
    simp only [Except.ok.injEq, Prod.mk.injEq] at k
    rw [k.1] at hn
    exact hn ho
theorem AnsD.uniq {xs : List Nat} {c d : Nat} {m n : Int} {bs cs : List Int} {ps qs : List Kv} (h : AnsD xs c m bs ps) (k : AnsD xs d n cs qs) : c = d ∧ m = n ∧ bs = cs ∧ ps = qs := by
  rcases h with ⟨h1, h2, rfl, rfl, rfl⟩ | ⟨rfl, h2, h3⟩ <;> rcases k with ⟨k1, k2, rfl, rfl, rfl⟩ | ⟨rfl, k2, k3⟩
  · exact ⟨h2.uniq k2, rfl, rfl, rfl⟩
  · exact (h2.no k2 k3).elim
  · exact (k2.no h2 h3).elim
  · rw [h2] at k2
    simp only [Except.ok.injEq, Prod.mk.injEq, Sd.mk.injEq] at k2
    exact ⟨rfl, k2.1.1, k2.1.2.1, k2.1.2.2⟩
/-- Both ways by one word. -/
theorem DeP.one {xs : List Nat} {w w' : World} {e : Ending} (h : DeP xs w e w') (hb : ∀ y ∈ xs, y < 256) : ∃ (c : Nat) (m : Int) (bo : Option Addr) (Lb cb : Nat) (ho : Option Addr) (Lh ch : Nat) (bs : List Int) (hs : List Hd), e = .returned (.tuple #[.agg #[.int .i64 m, .slice bo Lb cb, .slice ho Lh ch], .int .i64 (c : Int)]) ∧ AnsD xs c m bs (hs.map Hd.kv) ∧ Lb ≤ 65536 ∧ Lh ≤ 65536 ∧ (∀ p ∈ hs.map Hd.kv, limK p) ∧ IOw w.heap.size w' bo Lb cb bs ∧ HOut w w' ho Lh ch hs ∧ Fr [] w w' := by
  rcases h with ⟨c, h1, h2, rfl, h3⟩ | ⟨m, bo, Lb, cb, ho, Lh, ch, bs, hs, h1, h2, h3, h4, rfl, h5, h6, h7⟩
  · exact ⟨c, 0, none, 0, 0, none, 0, 0, [], [], rfl, Or.inl ⟨h2, h1, rfl, rfl, rfl⟩, by omega, by omega, by simp, IOw.nil _ _, ⟨rfl, ⟨rfl, .inl ⟨rfl, rfl⟩⟩, by simp, List.Pairwise.nil⟩, h3⟩
  · exact ⟨0, m, bo, Lb, cb, ho, Lh, ch, bs, hs, rfl, Or.inr ⟨rfl, h1, h2⟩, h3, h4, dS_lim hb h1, h5, h6, h7⟩
theorem twin_owns18 {w : World} {b L : Nat} {xs : List Nat} (h : w.heap[b]? = some (.cells (bts (xs ++ [77])).toArray 5 (0, 0))) (hL : L = xs.length) (hm : L < 2^40) : w.ownsRow 0 5 1 (.slice (some ⟨b, 0, none⟩) L (L + 1)) L (bts xs) := by
  refine ⟨by rw [bts_length, hL, Nat.mul_one], .inr ⟨b, L + 1, (bts (xs ++ [77])).toArray, rfl, Nat.zero_le _, h, by omega, by simp only [maxLen]; omega, by simp [bts_length]; omega, ?_⟩⟩
  simp only [bts_append]
  rw [List.take_append_of_le_length (by rw [bts_length]; omega), List.take_of_length_le (by rw [bts_length]; omega)]
theorem twin_barg18 {w : World} {b L : Nat} {xs : List Nat} (h : w.heap[b]? = some (.cells (bts (xs ++ [77])).toArray 5 (0, 0))) (hL : L = xs.length) (hm : L < 2^40) (hb : ∀ x ∈ xs, x < 256) : BArg w (some ⟨b, 0, none⟩) L (L + 1) xs := by
  have hR := own_rs (twin_owns18 h hL hm) hL (by omega)
  refine ⟨hL, hb, by omega, by omega, fun h0 => ?_⟩
  obtain ⟨b', off, e, hc⟩ := hR.lies (by omega)
  cases e
  exact ⟨_, _, rfl, lt_of_block h, fun j hj => hc j (by omega)⟩