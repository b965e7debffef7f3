/- The document's Bytes: contract. Conditions: fewer than 2^31 bytes. -/
import Derived.Test.YtdojhkgnnbdfkaaGreatZn19
import Derived.Test.YtdojhkgnnbdfkaaGreatYe18
namespace Go.Proofs.YtdojhkgnnbdfkaaGreat
open BigFrame Go.ChangeShapes Go.WideShapes Go.ChangeAt Go.RowKit Go.Lib Go.Maps
set_option linter.unusedVariables false
set_option linter.unusedSimpArgs false

theorem WT.quiet {w0 w w' : World} {v : Value} {us : List Nat} (h : WT w0 w v us) (hf : Fr [] w w') : WT w0 w' v us := WT.of ⟨h.it.wn.keep hf (by simp), h.fr.then hf, h.it.mv⟩
theorem WT.app {w0 w w1 : World} {v v1 : Value} {us ys : List Nat} {n : Nat} (h : WT w0 w v us) (hn : n = ys.length) (ho : w1.ownsRow 0 5 1 v1 n (bts ys)) (hg : w.grownBy w1 v.ownBlock) (hm : Moved w.heap.size v v1) : WT w0 w1 v1 ys := by
  subst hn
  exact h.then ⟨ho, Fr.grown hg (by intro k hk _; rw [hk]; simp), hm⟩
theorem WT.row {w0 w : World} {ao : Option Addr} {n cap : Nat} {us : List Nat} (h : WT w0 w (.slice ao n cap) us) : n = us.length ∧ w.ownsRow w0.heap.size 5 1 (.slice ao n cap) n (bts us) := by
  have e : n = us.length := by
    obtain ⟨a, c, e⟩ := h.it.wn.slice
    cases e
    rfl
  subst e
  refine ⟨rfl, h.it.wn.1, ?_⟩
  rcases h.it.wn.2 with h0 | ⟨g, cp, cur, hv, _, hr⟩
  · exact Or.inl h0
  · cases hv
    refine Or.inr ⟨g, cap, cur, rfl, ?_, hr⟩
    rcases h.it.mv with q | ⟨k, q1, q2⟩
    · simp [Value.ownBlock] at q
    · simp [Value.ownBlock] at q1
      omega
set_option maxHeartbeats 8000000 in
set_option maxRecDepth 100000 in
theorem zbytes_any (g : Nat) (ao : Option Addr) (L cap : Nat) (xs : List Nat) (w : World) (hA : BArg w ao L cap xs) (hg : g < 2^64) (hL : L < 2^31) :
    Calls Tryz.prog 37 #[.int .u64 (g : Int), .slice ao L cap] w fun e w' => ∃ zo zc, e = .returned (.slice zo (20 + L) zc) ∧ WT w w' (.slice zo (20 + L) zc) (hdB g xs ++ xs) := by
  have HA : Hid (∀ W, Fr [] w W → BArg W ao L cap xs) := fun W hf => hA.keep hf
  have HL : Hid (L = xs.length) := hA.len
  have H1 : Hid (Calls _ _ _ _ _) := refFixed_loop none 0 0 [] 1464880980 4 w (own_row_nil w) (by omega) (by omega) (by intro _; omega) (by omega) (by simp)
  clear hA
  go_enter Tryz.func37, Tryz.ntmps37
  go_wp2_with fail
  refine Calls.mono H1.out ?_
  rintro e w1 ⟨b1, n1, k1, rfl, hT1⟩
  have HB1 : Hid (WT w w1 (.slice b1 n1 k1) (leB 4 1464880980)) := WT.of (by simpa using hT1)
  have H2 : Hid (Calls _ _ _ _ _) := refFixed_loop none 0 0 [] g 8 w1 (own_row_nil w1) (by omega) (by omega) (by intro h; omega) hg (by simp)
  clear H1 hT1
  go_wp2_with fail
  refine Calls.mono H2.out ?_
  rintro e w2 ⟨b2, n2, k2, rfl, hT2⟩
  have HB2 : Hid (WT w1 w2 (.slice b2 n2 k2) (leB 8 g)) := WT.of (by simpa using hT2)
  have H3 : Hid (Calls _ _ _ _ _) := refFixed_loop b2 n2 k2 (leB 8 g) L 4 w2 HB2.out.it.wn (by omega) (by omega) (by intro _; omega) (by omega) (by rw [leB_length]; omega)
  have hwL : IntKind.u64.wrap (L : Int) = (L : Int) := u64_nat _ (by omega) (by omega)
  clear H2 hT2
  go_wp2_with fail
  refine Calls.mono H3.out ?_
  rintro e w3 ⟨b3, n3, k3, rfl, hT3⟩
  have HB3 : Hid (WT w1 w3 (.slice b3 n3 k3) (midB g L)) := HB2.out.then hT3
  have HN3 : Hid (n3 = 12) := HB3.out.row.1.trans (midB_length g L)
  have HA3 : Hid (BArg w3 b3 n3 k3 (midB g L)) := own_arg (own_base HB3.out.row.2 (Nat.zero_le _)) (midB_lt _ _) (by have := HN3.out; omega)
  obtain ⟨C, HC⟩ : ∃ C, Hid (more 0 (midB g L) = C) := ⟨_, rfl⟩
  obtain ⟨M, HM⟩ : ∃ M, Hid (more C xs = M) := ⟨_, rfl⟩
  have hC32 : C < 4294967296 := by rw [← HC.out]; exact more_lt _ _
  have hM32 : M < 4294967296 := by rw [← HM.out]; exact more_lt _ _
  have H4 : Hid (Calls _ _ _ _ _) := refCrc_any C b3 n3 k3 (midB g L) w3 HA3.out HC.out
  clear H3 hT3 HB2
  go_wp2_with fail
  refine Calls.mono H4.out ?_
  rintro e w4 ⟨rfl, hF4⟩
  have HF14 : Hid (Fr [] w1 w4 ∧ Fr [] w3 w4) := ⟨HB3.out.fr.then hF4, hF4⟩
  have H5 : Hid (Calls _ _ _ _ _) := refMore_any C M ao L cap xs w4 hC32 (HA.out _ (HB1.out.fr.then HF14.out.1)) HM.out
  clear H4 hF4
  go_wp2_with fail
  refine Calls.mono H5.out ?_
  rintro e w5 ⟨rfl, hF5⟩
  have HF15 : Hid (Fr [] w1 w5 ∧ Fr [] w3 w5) := ⟨HF14.out.1.then hF5, HF14.out.2.then hF5⟩
  have HB15 : Hid (WT w w5 (.slice b1 n1 k1) (leB 4 1464880980)) := HB1.out.quiet HF15.out.1
  have HA5 : Hid (BArg w5 b3 n3 k3 (midB g L)) := HA3.out.keep HF15.out.2
  have HN1 : Hid (n1 = 4) := HB15.out.row.1.trans (leB_length 4 _)
  have HO5 : Hid (w5.ownsRow 0 5 1 (.slice b1 n1 k1) n1 (bts (leB 4 1464880980))) := own_base HB15.out.row.2 (Nat.zero_le _)
  clear H5 hF5 HF14 HA3 HB1
  go_wp2_with (at_builtin; refine wpList_appB w5 rfl (.tmp 31) (.tmp 32) rfl (.slice b1 n1 k1) n1 (leB 4 1464880980) rfl HO5.out b3 n3 k3 (midB g L) rfl HA5.out (by have := HN1.out; have := HN3.out; omega) ?_)
  intro b6 n6 k6 w6 hn6 hO6 hg6 hm6
  have HB6 : Hid (WT w w6 (.slice b6 n6 k6) (leB 4 1464880980 ++ midB g L)) := HB15.out.app (by rw [List.length_append, leB_length, midB_length, hn6, HN1.out, HN3.out]) hO6 hg6 hm6
  have H7 : Hid (Calls _ _ _ _ _) := refFixed_loop b6 n6 k6 _ M 4 w6 HB6.out.it.wn (by omega) (by omega) (by intro _; omega) (by omega) (by rw [List.length_append, leB_length, midB_length]; omega)
  have hwM : IntKind.u64.wrap (M : Int) = (M : Int) := u64_nat _ (by omega) (by omega)
  clear hn6 hO6 hg6 hm6 HB15 HO5 HA5
  go_wp2_with fail
  refine Calls.mono H7.out ?_
  rintro e w7 ⟨b7, n7, k7, rfl, hT7⟩
  have HB7 : Hid (WT w w7 (.slice b7 n7 k7) (hdB g xs)) := by
    have h9 := HB6.out.then hT7
    have e9 : hdB g xs = leB 4 1464880980 ++ midB g L ++ leB 4 M := by
      unfold hdB sumH
      rw [← HL.out, HC.out, HM.out, List.append_assoc]
    show WT _ _ _ _
    rw [e9]
    exact h9
  have HN7 : Hid (n7 = 20) := HB7.out.row.1.trans (hdB_length _ _)
  have HO7 : Hid (w7.ownsRow 0 5 1 (.slice b7 n7 k7) n7 (bts (hdB g xs))) := own_base HB7.out.row.2 (Nat.zero_le _)
  have HA7 : Hid (BArg w7 ao L cap xs) := HA.out _ HB7.out.fr
  clear H7 hT7 HB6
  go_wp2_with (at_builtin; refine wpList_appB w7 rfl (.tmp 41) (.tmp 42) rfl (.slice b7 n7 k7) n7 (hdB g xs) rfl HO7.out ao L cap xs rfl HA7.out (by have := HN7.out; omega) ?_)
  intro b8 n8 k8 w8 hn8 hO8 hg8 hm8
  have HB8 : Hid (WT w w8 (.slice b8 n8 k8) (hdB g xs ++ xs)) := HB7.out.app (by rw [List.length_append, hdB_length, hn8, HN7.out, HL.out]) hO8 hg8 hm8
  have HN8 : Hid (n8 = 20 + L) := by show _ = _; rw [hn8, HN7.out]
  clear hn8 hO8 hg8 hm8 HB7 HO7 HA7
  go_wp2
  go_ret
  exact ⟨b8, k8, by rw [HN8.out]; rfl, by rw [← HN8.out]; exact HB8.out⟩
end Go.Proofs.YtdojhkgnnbdfkaaGreat
