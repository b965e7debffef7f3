/- For every number, configuration, call and mark the law CallShards returns true, and all read as they did. No conditions. -/
import Derived.Test.YtpdkdgmaofhlkaaIn17
namespace Go.Proofs.Ytpdkdgmaofhlkaa.callShards
open Go.ChangeShapes Go.WideShapes Go.ChangeAt Go.RowKit Go.Lib Go.ChangeMaps
set_option linter.unusedVariables false

/-- A key's shard is one of the shards. -/
theorem shard_in (l s x q : Int) (key : ByteArray) (hm : Cf.may ⟨l, s, x, q⟩) (hk : okK key) : 0 ≤ (Cf.shard ⟨l, s, x, q⟩ key).1 ∧ (Cf.shard ⟨l, s, x, q⟩ key).1 < s := by
  have hs : 1 ≤ s ∧ s ≤ 16 := hm.2.1
  have E : Cf.shard ⟨l, s, x, q⟩ key = (shN13 s key, 0) := by
    unfold Cf.shard
    rw [if_neg (not_not_intro hm), if_neg (not_not_intro (show 1 ≤ key.size ∧ key.size ≤ 64 from hk))]
  rw [E]
  unfold shN13
  exact ⟨Int.emod_nonneg _ (by omega), Int.emod_lt_of_pos _ (by omega)⟩
theorem rq_cells {W : World} {b : Nat} {v0 v1 v2 v3 v4 v5 v6 v7 v8 : Value} {ty : TypeId} (h : W.heap[b]? = some (.cells #[v0, v1, v2, v3, v4, v5, v6, v7, v8] ty (0, 0))) : W.cell? ⟨b, 0, none⟩ = some v0 ∧ W.cell? ⟨b, 1, none⟩ = some v1 ∧ W.cell? ⟨b, 2, none⟩ = some v2 ∧ W.cell? ⟨b, 3, none⟩ = some v3 ∧ W.cell? ⟨b, 4, none⟩ = some v4 ∧ W.cell? ⟨b, 5, none⟩ = some v5 ∧ W.cell? ⟨b, 6, none⟩ = some v6 ∧ W.cell? ⟨b, 7, none⟩ = some v7 ∧ W.cell? ⟨b, 8, none⟩ = some v8 := by
  refine ⟨?_, ?_, ?_, ?_, ?_, ?_, ?_, ?_, ?_⟩ <;> (rw [cell_of_row _ _ _ _ _ _ h]; rfl)
theorem md_cells {W : World} {b : Nat} {v0 v1 v2 v3 v4 v5 v6 v7 : Value} {ty : TypeId} (h : W.heap[b]? = some (.cells #[v0, v1, v2, v3, v4, v5, v6, v7] ty (0, 0))) : W.cell? ⟨b, 0, none⟩ = some v0 ∧ W.cell? ⟨b, 2, none⟩ = some v2 ∧ W.cell? ⟨b, 5, none⟩ = some v5 := by
  refine ⟨?_, ?_, ?_⟩ <;> (rw [cell_of_row _ _ _ _ _ _ h]; rfl)
theorem sh_facts (T : Tk) (hm : Cf.may ⟨T.l, T.s, T.x, T.q⟩) (hc : okC T.k T.key T.en) (i : Nat) (hi : i < T.nR) : 0 ≤ T.sh i ∧ T.sh i < T.s ∧ (T.k ≠ 1 → T.sh i = (i : Int)) := by
  unfold Tk.nR at hi
  unfold Tk.sh
  have hs1 := hm.2.1
  simp only at hs1
  by_cases hk1 : T.k = 1
  · rw [if_pos hk1]
    have hkk : okK T.key := by
      rcases hc with ⟨_, a, _⟩ | ⟨a, _⟩ | ⟨a | a, _⟩
      · exact a
      · omega
      · omega
      · omega
    have := shard_in T.l T.s T.x T.q T.key hm hkk
    exact ⟨this.1, this.2, fun h => absurd hk1 h⟩
  · rw [if_neg hk1]
    rw [if_neg hk1] at hi
    exact ⟨by omega, by omega, fun _ => rfl⟩
theorem nR_facts (T : Tk) (hm : Cf.may ⟨T.l, T.s, T.x, T.q⟩) : (T.k = 1 → T.nR = 1) ∧ (T.k ≠ 1 → (T.nR : Int) = T.s) := by
  have hs1 := hm.2.1
  simp only at hs1
  unfold Tk.nR
  refine ⟨fun h => ?_, fun h => ?_⟩
  · rw [if_pos h]
  · rw [if_neg h]; omega
set_option maxHeartbeats 4000000 in
set_option maxRecDepth 100000 in
theorem walk (n l s x q k : Int) (key en : ByteArray) (mark : Int) (w : World) (hI : I6 n ∧ Cf.ok ⟨l, s, x, q⟩) (hk : 0 ≤ k ∧ k ≤ 255) (h1 : key.size ≤ reachBytes) (h2 : en.size ≤ reachBytes) (hmk : -9223372036854775808 ≤ mark ∧ mark ≤ 9223372036854775807) :
    Calls Try.prog 6 #[.agg #[.int .i64 n, .int .i64 l, .int .i64 s, .int .i64 x, .int .i64 q, .int .u8 k, .string key, .string en], .int .i64 mark] w fun e w' => e = .returned (.bool true) ∧ Fr [] w w' := by
  have HL : Hid (∀ W, Calls Try.prog 9 #[] W fun e w' => e = .returned (.bool true) ∧ Fr [] W w') := fun W => lives_any W
  have HQ : Hid (∀ W, Fr [] (w.alloc (.cells #[.int .i64 n, .int .i64 l, .int .i64 s, .int .i64 x, .int .i64 q, .int .u8 k, .string key, .string en] 32)) W → W.heap[w.heap.size]? = some (.cells #[.int .i64 n, .int .i64 l, .int .i64 s, .int .i64 x, .int .i64 q, .int .u8 k, .string key, .string en] 32 (0, 0))) := fun W hW => hW.keep (heap_alloc_new w _) (by simp)
  by_cases hnew : newE n l s x q k key en = 0
  · have HN : Hid (∀ W, Calls Try.prog 10 #[.int .i64 n, .agg #[.int .i64 l, .int .i64 s, .int .i64 x, .int .i64 q], .agg #[.int .u8 k, .string key, .string en]] W fun e w' => ∃ t, e = .returned (.tuple #[.pointer (some ⟨t, 0, none⟩), .int .i64 0]) ∧ W.heap.size ≤ t ∧ TkM w' t (Tk.new n l s x q k key en) ∧ Fr [] W w') := fun W => qnew_any n l s x q k key en W hk hnew
    have hall : n < 0 ∧ Cf.may ⟨l, s, x, q⟩ ∧ okC k key en := by
      unfold newE at hnew
      have a1 : ¬ 0 ≤ n := fun h => by rw [if_pos h] at hnew; cases hnew
      rw [if_neg a1] at hnew
      by_cases a2 : Cf.may ⟨l, s, x, q⟩
      · rw [if_neg (not_not_intro a2)] at hnew
        refine ⟨by omega, a2, ?_⟩
        by_cases a3 : okC k key en
        · exact a3
        · unfold ckE at hnew; rw [if_neg a3] at hnew; cases hnew
      · rw [if_pos a2] at hnew; cases hnew
    obtain ⟨hn, hm, hc⟩ := hall
    by_cases hbg : mayBg mark mark []
    · have hdum : True := trivial
      have hmk2 : 0 ≤ mark ∧ mark ≤ 65536 := ⟨hbg.1, hbg.2.1⟩
      go_enter Try.func6, Try.ntmps6
      go_wp2_with fail
      refine (HN.out _).mono ?_
      rintro e w1 ⟨t, rfl, ht, hT, hf1⟩
      have HF1 : Hid (Fr [] (w.alloc (.cells #[.int .i64 n, .int .i64 l, .int .i64 s, .int .i64 x, .int .i64 q, .int .u8 k, .string key, .string en] 32)) w1) := hf1
      have HT0 : Hid (w.heap.size + 1 ≤ t) := (by have h := ht; simp at h; exact h : w.heap.size + 1 ≤ t)
      have HB : Hid (Calls Try.prog 14 #[.pointer (some ⟨t, 0, none⟩), .int .i64 mark, .int .i64 mark, .slice none 0 0] w1 fun e w' => ∃ r, e = .returned (.int .i64 0) ∧ TkM w' t { Tk.new n l s x q k key en with bg := true, ma := mark, r := r } ∧ RqOf k n mark mark key en [] r ∧ Fr [t] w1 w') := by
        refine (qbegin_any hT hn mark mark none 0 0 [] ⟨fun h => by simp at h, by simp⟩ rfl rfl hbg hc (fun a e => by cases e)).mono ?_
        rintro e w' ⟨r, a1, a2, a3, _, a5⟩
        exact ⟨r, a1, a2, a3, a5⟩
      clear hT hf1 ht HN
      go_wp2_with fail
      refine HB.out.mono ?_
      rintro e w2 ⟨r, rfl, hT, hR, hf2⟩
      have HF2 : Hid (Fr [] (w.alloc (.cells #[.int .i64 n, .int .i64 l, .int .i64 s, .int .i64 x, .int .i64 q, .int .u8 k, .string key, .string en] 32)) w2) := HF1.out.on hf2 (fun y hy => by simp at hy ⊢; have := HT0.out; omega)
      obtain ⟨rk, rf, rn, rkey, ren, ro, rl, rc⟩ := r
      have hrf : rf = n := hR.ef
      have hrn : rn = mark := by have := hR.eN; simp only at this; rw [this]; split <;> rfl
      have hrl : rl = 0 := by have := hR.ebl; simp [bsOf] at this; exact this
      subst hrf hrn hrl
      -- how many requests
      obtain ⟨T, HTT⟩ : ∃ T : Tk, Hid (T = { Tk.new rf l s x q k key en with bg := true, ma := rn, r := ⟨rk, rf, rn, rkey, ren, ro, 0, rc⟩ }) := ⟨_, rfl⟩
      obtain ⟨R, HR⟩ : ∃ R, Hid (R = T.nR) := ⟨_, rfl⟩
      have hR16 : R ≤ 16 := by rw [HR.out]; exact Tk.nR_le T (by rw [HTT.out]; exact hm)
      have HT2 : Hid (TkM w2 t T) := by rw [HTT.out]; exact hT
      -- each step's calls
      have HX : Hid (∀ (i : Nat) (W : World), i ≤ R → TkM W t { T with ak := i } → Calls Try.prog 15 #[.pointer (some ⟨t, 0, none⟩)] W fun e w' => ∃ ro' rc', e = .returned (.tuple #[.int .i64 (if i < R then T.sh i else 0), Rv.v (if i < R then ⟨rk, rf, rn, rkey, ren, ro', 0, rc'⟩ else ⟨0, 0, 0, ⟨#[]⟩, ⟨#[]⟩, ro', 0, rc'⟩), .bool (decide (i < R))]) ∧ Fr [] W w') := by
        intro i W hi hW
        have hh := HTT.out
        have hQ := qNext_any (bs := []) hW (by rw [hh]; exact hn) (by rw [hh]; exact hm) (by rw [hh]; exact hc) (by show i ≤ 16; omega) ⟨fun h => by simp at h, by simp⟩ (by rw [hh]; rfl) (by rw [hh]; exact Nat.zero_le _)
        have hnR : Tk.nR { T with ak := i } = R := HR.out.symm
        have hbgT : T.bg = true := by rw [hh]
        refine hQ.mono ?_
        rintro e w' ⟨ro', rc', he, _, hf⟩
        refine ⟨ro', rc', ?_, hf⟩
        rw [he]
        by_cases hlt : i < R
        · have hy : ({ T with ak := i } : Tk).bg = true ∧ ({ T with ak := i } : Tk).ak < Tk.nR { T with ak := i } := ⟨hbgT, by rw [hnR]; exact hlt⟩
          rw [show Tk.nxS { T with ak := i } = T.sh i from if_pos hy, show Tk.nxR { T with ak := i } = T.r from if_pos hy, show Tk.nxB { T with ak := i } = true from decide_eq_true hy, if_pos hlt, if_pos hlt, decide_eq_true hlt, hh]
        · have hy : ¬ (({ T with ak := i } : Tk).bg = true ∧ ({ T with ak := i } : Tk).ak < Tk.nR { T with ak := i }) := fun hx => hlt (by rw [hnR] at hx; exact hx.2)
          rw [show Tk.nxS { T with ak := i } = 0 from if_neg hy, show Tk.nxR { T with ak := i } = Rv.zero from if_neg hy, show Tk.nxB { T with ak := i } = false from decide_eq_false hy, if_neg hlt, if_neg hlt, decide_eq_false hlt]
          rfl
      have HA : Hid (∀ (i : Nat) (W : World), i < R → TkM W t { T with ak := i } → Calls Try.prog 17 #[.pointer (some ⟨t, 0, none⟩)] W fun e w' => e = .returned (.bool false) ∧ Fr [] W w') := by
        intro i W hi hW
        have hh := HTT.out
        have hQ := qAll_any hW (by rw [hh]; exact hn) (by rw [hh]; exact hm) (by rw [hh]; exact hc) (by show i ≤ 16; omega) (by rw [hh]; exact Nat.zero_le _)
        have hnR : Tk.nR { T with ak := i } = R := HR.out.symm
        rw [show Tk.al { T with ak := i } = false from decide_eq_false (fun hx => hx.2.1 (by rw [hnR]; exact hi))] at hQ
        exact hQ
      have HS : Hid (∀ (i : Nat) (W : World), i < R → TkM W t { T with ak := i } → Calls Try.prog 18 #[.pointer (some ⟨t, 0, none⟩)] W fun e w' => e = .returned (.int .i64 0) ∧ TkM w' t { T with ak := i + 1 } ∧ Fr [t] W w') := by
        intro i W hi hW
        have hh := HTT.out
        have hQ := qSent_any hW (by rw [hh]; exact hn) (by rw [hh]; exact hm) (by rw [hh]; exact hc) (by show i ≤ 16; omega)
        have hnR : Tk.nR { T with ak := i } = R := HR.out.symm
        have hy : ({ T with ak := i } : Tk).bg = true ∧ ({ T with ak := i } : Tk).ak < Tk.nR { T with ak := i } := ⟨by rw [hh], by rw [hnR]; exact hi⟩
        rw [show Tk.seE { T with ak := i } = 0 from if_pos hy, if_pos hy] at hQ
        exact hQ
      have HSH : Hid (∀ i : Nat, i < R → 0 ≤ T.sh i ∧ T.sh i < s ∧ (k ≠ 1 → T.sh i = (i : Int))) := by
        intro i hi
        have hh := HTT.out
        have e1 : T.s = s := by rw [hh]; rfl
        have e2 : T.k = k := by rw [hh]; rfl
        have h := sh_facts T (by rw [hh]; exact hm) (by rw [hh]; exact hc) i (by rw [← HR.out]; exact hi)
        rw [e1, e2] at h
        exact h
      have HEND : Hid ((k = 1 → R = 1) ∧ (k ≠ 1 → (R : Int) = s)) := by
        have hh := HTT.out
        have e1 : T.s = s := by rw [hh]; rfl
        have e2 : T.k = k := by rw [hh]; rfl
        have h := nR_facts T (by rw [hh]; exact hm)
        rw [e1, e2, ← HR.out] at h
        exact h
      clear hT hR hf2 HB hc hm hbg hnew
      go_wp2
      go_loopg [7, 8] (17 : Nat) (fun kx s7 s8 wr => ∃ i : Nat, s7 = .int .i64 i ∧ s8 = .int .i64 i ∧ i ≤ R ∧ 17 - i ≤ kx ∧ Aside (TkM wr t { T with ak := i }) ∧ Hid (Fr [] (w.alloc (.cells #[.int .i64 rf, .int .i64 l, .int .i64 s, .int .i64 x, .int .i64 q, .int .u8 k, .string key, .string en] 32)) wr))
      case atStart => exact ⟨0, by simp, by simp, Nat.zero_le _, by omega, (by have := HT2.out; rw [HTT.out] at this ⊢; exact this), HF2⟩
      case round =>
        obtain ⟨i, rfl, rfl, hiR, hkx, TK, HFr⟩ := hrel
        have hi16 : (i : Int) ≤ 16 := by omega
        by_cases hlt : i < R
        · have HXX : Hid (∀ W, Fr [] wr W → Calls Try.prog 15 #[.pointer (some ⟨t, 0, none⟩)] W fun e w' => ∃ ro' rc', e = .returned (.tuple #[.int .i64 (T.sh i), .agg #[.int .u8 rk, .int .i64 rf, .int .i64 rn, .string ⟨#[]⟩, .string ⟨#[]⟩, .bool false, .string rkey, .string ren, .slice ro' 0 rc'], .bool true]) ∧ Fr [] W w') := by
            intro W hW
            refine (HX.out i W hiR (TkM.keep TK hW (by simp))).mono ?_
            rintro e w' ⟨ro', rc', he, hf⟩
            rw [if_pos hlt, if_pos hlt, decide_eq_true hlt] at he
            exact ⟨ro', rc', he, hf⟩
          have hSH := HSH.out i hlt
          generalize T.sh i = S at HXX hSH
          obtain ⟨hS0, hS1, hS2⟩ := hSH
          go_wp2_with fail
          refine (HXX.out wr (Fr.refl _ _)).mono ?_
          rintro e w3 ⟨ro3, rc3, rfl, hf3⟩
          have HF3 : Hid (Fr [] wr (w3.alloc (.cells #[.int .u8 rk, .int .i64 rf, .int .i64 rn, .string ⟨#[]⟩, .string ⟨#[]⟩, .bool false, .string rkey, .string ren, .slice ro3 0 rc3] 55))) := hf3.then (Fr.alloc [] w3 _)
          clear hf3
          go_wp2_with fail
          refine (HXX.out _ HF3.out).mono ?_
          rintro e w4 ⟨ro4, rc4, rfl, hf4⟩
          have HF4 : Hid (Fr [] wr (w4.alloc (.cells #[.int .u8 rk, .int .i64 rf, .int .i64 rn, .string ⟨#[]⟩, .string ⟨#[]⟩, .bool false, .string rkey, .string ren, .slice ro4 0 rc4] 55))) := (HF3.out.then hf4).then (Fr.alloc [] w4 _)
          have hb3 : (w4.alloc (.cells #[.int .u8 rk, .int .i64 rf, .int .i64 rn, .string ⟨#[]⟩, .string ⟨#[]⟩, .bool false, .string rkey, .string ren, .slice ro4 0 rc4] 55)).heap[w3.heap.size]? = some (.cells #[.int .u8 rk, .int .i64 rf, .int .i64 rn, .string ⟨#[]⟩, .string ⟨#[]⟩, .bool false, .string rkey, .string ren, .slice ro3 0 rc3] 55 (0, 0)) := (hf4.then (Fr.alloc [] w4 _)).keep (heap_alloc_new w3 _) (by simp)
          obtain ⟨p0, p1, p2, p3, p4, p5, p6, p7, p8⟩ := rq_cells hb3
          have HB3 : Hid ((w4.alloc (.cells #[.int .u8 rk, .int .i64 rf, .int .i64 rn, .string ⟨#[]⟩, .string ⟨#[]⟩, .bool false, .string rkey, .string ren, .slice ro4 0 rc4] 55)).heap[w3.heap.size]? = some (.cells #[.int .u8 rk, .int .i64 rf, .int .i64 rn, .string ⟨#[]⟩, .string ⟨#[]⟩, .bool false, .string rkey, .string ren, .slice ro3 0 rc3] 55 (0, 0))) := hb3
          have HSR : Hid (∀ W, Calls Try.prog 16 #[(.agg #[.int .u8 rk, .int .i64 rf, .int .i64 rn, .string ⟨#[]⟩, .string ⟨#[]⟩, .bool false, .string rkey, .string ren, .slice ro3 0 rc3]), (.agg #[.int .u8 rk, .int .i64 rf, .int .i64 rn, .string ⟨#[]⟩, .string ⟨#[]⟩, .bool false, .string rkey, .string ren, .slice ro4 0 rc4])] W fun e w' => e = .returned (.bool true) ∧ Fr [] W w') := fun W => sameRq_any ⟨rk, rf, rn, rkey, ren, ro3, 0, rc3⟩ ⟨rk, rf, rn, rkey, ren, ro4, 0, rc4⟩ [] W ⟨rfl, rfl, rfl, rfl, rfl, rfl⟩ ⟨fun h => by simp at h, by simp⟩ ⟨fun h => by simp at h, by simp⟩ rfl (by show (0 : Nat) < _; decide)
          clear hf4 hb3
          go_wp2_with fail
          refine (HSR.out _).mono ?_
          rintro e w5 ⟨rfl, hf5⟩
          have HF5 : Hid (Fr [] wr w5) := HF4.out.then hf5
          have hb5 := hf5.keep HB3.out (by simp)
          obtain ⟨_, r1, r2, _, _, _, _, _, _⟩ := rq_cells hb5
          have hq5 := HQ.out w5 (HFr.out.then HF5.out)
          obtain ⟨m0, m2, m5⟩ := md_cells hq5
          clear p0 p1 p2 p3 p4 p5 p6 p7 p8 hf5 hb5 hq5
          have HA5 := (HA.out i w5 hlt (TkM.keep TK HF5.out (by simp)))
          replace HA5 : Hid (Calls _ _ _ _ _) := HA5
          have HSS : Hid (∀ W, Fr [] wr W → Calls Try.prog 18 #[.pointer (some ⟨t, 0, none⟩)] W fun e w' => e = .returned (.int .i64 0) ∧ TkM w' t { T with ak := i + 1 } ∧ Fr [t] W w') := fun W hW => HS.out i W hlt (TkM.keep TK hW (by simp))
          have hways : ((k != 1) = false) ∨ ((k != 1) = true ∧ S = (i : Int)) := by
            by_cases hk1 : k = 1
            · exact Or.inl (by simp [hk1])
            · exact Or.inr ⟨by simp [hk1], hS2 hk1⟩
          clear HX HXX HSR HB3 HF3 HF4 HSH HA HS HTT HR HT2 HF2 hS2
          rcases hways with hkB | ⟨hkB, rfl⟩
          all_goals (
            go_wp2_with fail
            refine HA5.out.mono ?_
            rintro e w6 ⟨rfl, hf6⟩
            have HF6 : Hid (Fr [] wr w6) := HF5.out.then hf6
            clear hf6
            clear HA5
            go_wp2_with fail
            refine (HSS.out w6 HF6.out).mono ?_
            rintro e w7 ⟨rfl, hT7, hf7⟩
            have HF7 := (HFr.out.then HF6.out).on hf7 (fun y hy => by simp at hy ⊢; have := HT0.out; omega)
            replace HF7 : Hid _ := HF7
            have HT7 : Hid (TkM w7 t { T with ak := i + 1 }) := hT7
            clear hf7 hT7 HSS
            go_wp2
            go_roundg (17 - (i + 1)))
          all_goals first | (case measure => omega) | (case rel => exact ⟨i + 1, by simp, by simp, by omega, by omega, HT7.out, HF7⟩)
        · have hiE : Hid (i = R) := (by omega : i = R)
          have HXX : Hid (∀ W, Fr [] wr W → Calls Try.prog 15 #[.pointer (some ⟨t, 0, none⟩)] W fun e w' => ∃ ro' rc', e = .returned (.tuple #[.int .i64 0, .agg #[.int .u8 0, .int .i64 0, .int .i64 0, .string ⟨#[]⟩, .string ⟨#[]⟩, .bool false, .string ⟨#[]⟩, .string ⟨#[]⟩, .slice ro' 0 rc'], .bool false]) ∧ Fr [] W w') := by
            intro W hW
            refine (HX.out i W hiR (TkM.keep TK hW (by simp))).mono ?_
            rintro e w' ⟨ro', rc', he, hf⟩
            rw [if_neg hlt, if_neg hlt, decide_eq_false hlt] at he
            exact ⟨ro', rc', he, hf⟩
          go_wp2_with fail
          refine (HXX.out wr (Fr.refl _ _)).mono ?_
          rintro e w3 ⟨ro3, rc3, rfl, hf3⟩
          have HF3 : Hid (Fr [] wr (w3.alloc (.cells #[.int .u8 0, .int .i64 0, .int .i64 0, .string ⟨#[]⟩, .string ⟨#[]⟩, .bool false, .string ⟨#[]⟩, .string ⟨#[]⟩, .slice ro3 0 rc3] 55))) := hf3.then (Fr.alloc [] w3 _)
          clear hf3
          go_wp2_with fail
          refine (HXX.out _ HF3.out).mono ?_
          rintro e w4 ⟨ro4, rc4, rfl, hf4⟩
          have HF4 : Hid (Fr [] wr (w4.alloc (.cells #[.int .u8 0, .int .i64 0, .int .i64 0, .string ⟨#[]⟩, .string ⟨#[]⟩, .bool false, .string ⟨#[]⟩, .string ⟨#[]⟩, .slice ro4 0 rc4] 55))) := (HF3.out.then hf4).then (Fr.alloc [] w4 _)
          have hb3 : (w4.alloc (.cells #[.int .u8 0, .int .i64 0, .int .i64 0, .string ⟨#[]⟩, .string ⟨#[]⟩, .bool false, .string ⟨#[]⟩, .string ⟨#[]⟩, .slice ro4 0 rc4] 55)).heap[w3.heap.size]? = some (.cells #[.int .u8 0, .int .i64 0, .int .i64 0, .string ⟨#[]⟩, .string ⟨#[]⟩, .bool false, .string ⟨#[]⟩, .string ⟨#[]⟩, .slice ro3 0 rc3] 55 (0, 0)) := (hf4.then (Fr.alloc [] w4 _)).keep (heap_alloc_new w3 _) (by simp)
          obtain ⟨p0, p1, p2, p3, p4, p5, p6, p7, p8⟩ := rq_cells hb3
          have HSR : Hid (∀ W, Calls Try.prog 16 #[(.agg #[.int .u8 0, .int .i64 0, .int .i64 0, .string ⟨#[]⟩, .string ⟨#[]⟩, .bool false, .string ⟨#[]⟩, .string ⟨#[]⟩, .slice ro3 0 rc3]), (.agg #[.int .u8 0, .int .i64 0, .int .i64 0, .string ⟨#[]⟩, .string ⟨#[]⟩, .bool false, .string ⟨#[]⟩, .string ⟨#[]⟩, .slice ro4 0 rc4])] W fun e w' => e = .returned (.bool true) ∧ Fr [] W w') := fun W => sameRq_any ⟨0, 0, 0, ⟨#[]⟩, ⟨#[]⟩, ro3, 0, rc3⟩ ⟨0, 0, 0, ⟨#[]⟩, ⟨#[]⟩, ro4, 0, rc4⟩ [] W ⟨rfl, rfl, rfl, rfl, rfl, rfl⟩ ⟨fun h => by simp at h, by simp⟩ ⟨fun h => by simp at h, by simp⟩ rfl (by show (0 : Nat) < _; decide)
          clear hf4 hb3
          go_wp2_with fail
          refine (HSR.out _).mono ?_
          rintro e w5 ⟨rfl, hf5⟩
          have HF5 : Hid (Fr [] (w.alloc (.cells #[.int .i64 rf, .int .i64 l, .int .i64 s, .int .i64 x, .int .i64 q, .int .u8 k, .string key, .string en] 32)) w5) := (HFr.out.then HF4.out).then hf5
          have hq5 := HQ.out w5 HF5.out
          obtain ⟨m0, m2, m5⟩ := md_cells hq5
          have HFw : Hid (Fr [] w w5) := (Fr.alloc [] w _).then HF5.out
          clear p0 p1 p2 p3 p4 p5 p6 p7 p8 hf5 hq5 HX HXX HSR HF3 HF4 HSH HA HS HTT HR HT2 HF2 HFr HF5
          have HE := HEND.out
          rw [← hiE.out] at HE
          by_cases hk1 : k = 1
          · have hii : i = 1 := HE.1 hk1
            subst hii hk1
            clear HE HEND
            go_wp2_with fail
            refine (HL.out _).mono ?_
            rintro e w6 ⟨rfl, hf6⟩
            have HF6 : Hid (Fr [] w w6) := HFw.out.then hf6
            clear hf6
            go_wp2
            go_ret
            exact ⟨rfl, HF6.out⟩
          · have hii : (i : Int) = s := HE.2 hk1
            have hkB : (k == 1) = false := by simp [hk1]
            subst hii
            clear HE HEND
            go_wp2_with fail
            refine (HL.out _).mono ?_
            rintro e w6 ⟨rfl, hf6⟩
            have HF6 : Hid (Fr [] w w6) := HFw.out.then hf6
            clear hf6
            go_wp2
            go_ret
            exact ⟨rfl, HF6.out⟩
    · have hbe : bgE false mark mark [] = 1 := by unfold bgE; rw [if_neg (by simp), if_neg hbg]
      go_enter Try.func6, Try.ntmps6
      go_wp2_with fail
      refine (HN.out _).mono ?_
      rintro e w1 ⟨t, rfl, ht, hT, hf1⟩
      have HF1 : Hid (Fr [] w w1) := (Fr.alloc [] w _).then hf1
      have hB := qbegin_bad hT hn mark mark none 0 0 [] ⟨fun h => by simp at h, by simp⟩ rfl (by show bgE false mark mark [] ≠ 0; rw [hbe]; decide)
      have HB : Hid (Calls Try.prog 14 #[.pointer (some ⟨t, 0, none⟩), .int .i64 mark, .int .i64 mark, .slice none 0 0] w1 fun e w' => e = .returned (.int .i64 1) ∧ w1 = w') := by
        rw [show (Tk.new n l s x q k key en).bg = false from rfl, hbe] at hB
        exact hB
      clear hT hf1 ht HN hB hbe hbg hm hc
      go_wp2_with fail
      refine HB.out.mono ?_
      rintro e w2 ⟨rfl, rfl⟩
      go_wp2_with fail
      refine (HL.out _).mono ?_
      rintro e w3 ⟨rfl, hf3⟩
      have HF3 : Hid (Fr [] w w3) := HF1.out.then hf3
      clear hf3
      go_wp2
      go_ret
      exact ⟨rfl, HF3.out⟩
  · have HN : Hid (∀ W, Calls Try.prog 10 #[.int .i64 n, .agg #[.int .i64 l, .int .i64 s, .int .i64 x, .int .i64 q], .agg #[.int .u8 k, .string key, .string en]] W fun e w' => e = .returned (.tuple #[.pointer none, .int .i64 (newE n l s x q k key en)]) ∧ Fr [] W w') := fun W => qnew_no n l s x q k key en W hk hnew
    generalize newE n l s x q k key en = c at hnew HN
    have hcB : (c != 0) = true := by simp [hnew]
    go_enter Try.func6, Try.ntmps6
    go_wp2_with fail
    refine (HN.out _).mono ?_
    rintro e w1 ⟨rfl, hf1⟩
    have HF1 : Hid (Fr [] w w1) := (Fr.alloc [] w _).then hf1
    clear hf1 HN
    go_wp2_with fail
    refine (HL.out _).mono ?_
    rintro e w3 ⟨rfl, hf3⟩
    have HF3 : Hid (Fr [] w w3) := HF1.out.then hf3
    clear hf3
    go_wp2
    go_ret
    exact ⟨rfl, HF3.out⟩

theorem own : ownKnob Try.prog.godebug = none := by kernel_rfl
theorem laidOut : laidOutB Try.prog = true := by kernel_rfl
set_option maxHeartbeats 4000000 in
set_option maxRecDepth 100000 in
theorem lifted (os : Os) (started : os.Started) (H : Type) (enc : TypeId × Value → H) :
    ReturnsInHanded {} Try.checked os 6 .any (Rows.callShardsSpec.pre6 enc Try.prog Try.f6 Rows.callShardsRow.domain false) (Rows.callShardsSpec.post enc Try.prog Try.f6 false true false false) := by
  refine returnsInHanded_of_change_sized (C := Try.checked) own started (by kernel_rfl) Try.func6
    (ChangeSpec.witness6 (enc := enc) (C := Try.checked) false ⟨#[], #[.agg #[.int .i64 0, .int .i64 0, .int .i64 0, .int .i64 0, .int .i64 0, .int .u8 0, .string ⟨#[]⟩, .string ⟨#[]⟩], .int .i64 0], []⟩ 8 (by kernel_rfl) (by kernel_rfl) (by kernel_rfl) (by kernel_rfl)) ?_
  intro W base args ds gs before hval0 hW hcnd hsz0 _
  have hval : ∀ (j : Nat) t v, Try.f6.params[j]? = some t → args[j]? = some v → Value.okWide Try.prog W .any base t v := hval0
  have hsz : (DataW.weightsEach Try.prog (Try.f6.params.toList ++ Rows.callShardsSpec.plain.varTypes Try.prog) (ds ++ gs)).all (· ≤ reachBytes) = true := hsz0
  have hW' := hW
  obtain ⟨p, q, hA0, hV, rfl, hfz, hnd⟩ := hW
  have hA : DataW.TrodAll enc Try.prog W 0 (fun _ => true) true Try.f6.params.toList args.toList ds p := hA0
  rw [Try.params6] at hA hval hsz
  obtain ⟨v0, vs0, d0, ds0, p0, q0, hargs, rfl, rfl, h0, r0⟩ := trodAll_cons hA
  obtain ⟨v1, vs1, d1, ds1, p1, q1, rfl, rfl, rfl, h1, r1⟩ := trodAll_cons r0
  obtain ⟨rfl, rfl, rfl⟩ := trodAll_nil r1
  obtain rfl : args = #[v0, v1] := by cases args; simp_all
  obtain ⟨rfl, rfl⟩ := trodVars_none hV
  obtain ⟨cs0, rfl, _⟩ := okWide_struct Try.underlying32 (hval 0 32 v0 rfl rfl)
  have k0 := h0
  have lt0 : ∀ x ∈ p0, x.block < W.heap.size := by obtain ⟨m, hm⟩ := k0; exact DataW.trod_lt m _ _ _ hm
  obtain ⟨mn0, ml0, ms0, mx0, mq0, ck0, key0, en0, rfl, hI0, hB0, hK0, hE0⟩ : ∃ (n l s x q k : Int) (key en : ByteArray), cs0 = #[.int .i64 n, .int .i64 l, .int .i64 s, .int .i64 x, .int .i64 q, .int .u8 k, .string key, .string en] ∧ (I6 n ∧ Cf.ok ⟨l, s, x, q⟩) ∧ (0 ≤ k ∧ k ≤ 255) ∧ key.size ≤ reachBytes ∧ en.size ≤ reachBytes := by
    obtain ⟨fuel, hf⟩ := h0
    obtain ⟨n, l, s, x, q, k, key, en, e, h0, h1, h2, h3⟩ := made17_open hf (fun n hn => of_decide_eq_true (List.all_eq_true.1 hsz n (DataW.weights_mem_each (j := 0) (t := 32) rfl rfl n hn)))
    exact ⟨n, l, s, x, q, k, key, en, by cases cs0; simpa [Value.cells] using e, h0, h1, h2, h3⟩
  obtain ⟨n1, rfl, rfl, rfl, w1⟩ := open_int Try.underlying3 (hval 1 3 v1 rfl rfl) h1
  have b1 := bounds_i64 w1
  clear hA0 hval0
  refine (walk mn0 ml0 ms0 mx0 mq0 ck0 key0 en0 n1 W hI0 hB0 hK0 hE0 b1).mono fun e W' ⟨he, hf⟩ => ?_
  subst he
  have bel : Below W.heap.size W W' := hf.below (Nat.le_refl _) (by simp)
  exact ⟨_, rfl, _, _, _, [], _, [], hW', trodAll_mk1 (shut_bool Try.underlying4 _), (trodAll_cons_mk (Below.trod laidOut (by kernel_rfl) (of_decide_eq_true (by kernel_rfl)) k0 bel lt0) (trodAll_cons_mk (shut_int Try.underlying3 w1) trodAll_mk0)), rfl, bel.frame _, fun h => by cases h⟩

theorem over : Rows.callShardsRow.holds Try.pinned (OpenSpec.ofChange Rows.callShardsSpec) :=
  OpenClaim.holds_of_wide 6 Try.f6 rfl rfl rfl rfl rfl rfl rfl ⟨rfl, rfl, rfl, rfl, rfl⟩ rfl rfl rfl rfl rfl (by kernel_rfl) Try.func6 (by kernel_rfl)
    (of_decide_eq_true (by kernel_rfl)) (by unfold Func.isWrapper; first | (rw [if_pos (by decide +kernel)]; kernel_rfl) | (rw [if_neg (by decide +kernel)]; exact ⟨rfl, rfl⟩))
    (fun os started H enc _ => lifted os started H enc)
end Go.Proofs.Ytpdkdgmaofhlkaa.callShards
namespace Go.Proofs.Ytpdkdgmaofhlkaa
theorem callshards_holds : Rows.CallShardsSaid := callShards.over
#print axioms callshards_holds
end Go.Proofs.Ytpdkdgmaofhlkaa
