/- What the statements' helpers TwinTxns and LeftTxns answer. Conditions: fewer than 2^21 transactions, of fewer than 2^21 writes each. -/
import Derived.Test.YtdojhkgnnbdfkaaTwW
namespace Go.Proofs.Ytdojhkgnnbdfkaa
open Go.ChangeShapes Go.WideShapes Go.ChangeAt Go.RowKit Go.Lib
set_option linter.unusedVariables false
set_option linter.unusedSimpArgs false

/-- The transaction that stands in a twin's spare room. -/
def spT : Tm := ⟨7777, none, 0, 0, []⟩
/-- The twin of a transaction, its writes in block b. -/
def twT (t : Tm) (b : Nat) : Tm := ⟨t.n, some ⟨b, 0, none⟩, t.L, t.L + 1, t.ws⟩
def twTs (ts : List Tm) (ks : List Nat) : List Tm := List.zipWith twT ts ks
theorem twTs_length (ts : List Tm) (ks : List Nat) (h : ks.length = ts.length) : (twTs ts ks).length = ts.length := by simp [twTs, h]
theorem twTs_snoc (ts : List Tm) (ks : List Nat) (t : Tm) (k : Nat) (h : ks.length = ts.length) : twTs (ts ++ [t]) (ks ++ [k]) = twTs ts ks ++ [twT t k] := by
  unfold twTs
  rw [List.zipWith_append h.symm]
  rfl
theorem twTs_get {ts : List Tm} {ks : List Nat} {i : Nat} {u : Tm} (h : (twTs ts ks)[i]? = some u) : ∃ t k, ts[i]? = some t ∧ ks[i]? = some k ∧ u = twT t k := by
  unfold twTs at h
  rw [List.getElem?_zipWith] at h
  cases ht : ts[i]? with
  | none => simp [ht] at h
  | some t =>
    cases hk : ks[i]? with
    | none => simp [ht, hk] at h
    | some k => simp [ht, hk] at h; exact ⟨t, k, rfl, rfl, h.symm⟩
theorem txs_twTs (ts : List Tm) (ks : List Nat) (h : ks.length = ts.length) : txs (twTs ts ks) = txs ts := by
  apply List.ext_getElem?
  intro i
  unfold txs
  rw [List.getElem?_map, List.getElem?_map]
  by_cases hi : i < ts.length
  · have h1 : i < (twTs ts ks).length := by rw [twTs_length ts ks h]; exact hi
    obtain ⟨u, hu⟩ : ∃ u, (twTs ts ks)[i]? = some u := ⟨_, List.getElem?_eq_getElem h1⟩
    obtain ⟨t, k, ht, hk, rfl⟩ := twTs_get hu
    rw [hu, ht]
    rfl
  · rw [List.getElem?_eq_none (by rw [twTs_length ts ks h]; omega), List.getElem?_eq_none (by omega)]
/-- The twins' writes lie in blocks of their own, made since w. -/
structure Twd (w w' : World) (ts : List Tm) (ks : List Nat) : Prop where
  len : ks.length = ts.length
  new : ∀ k ∈ ks, w.heap.size ≤ k
  row : ∀ (i : Nat) (t : Tm) (k : Nat), ts[i]? = some t → ks[i]? = some k → w'.heap[k]? = some (.cells (wtsC (t.ws ++ [spW])).toArray 51 (0, 0))
  apart : ks.Nodup
theorem Twd.nil (w w' : World) : Twd w w' [] [] := ⟨rfl, by simp, by simp, by simp⟩
theorem Twd.keep {S : List Nat} {w w1 w2 : World} {ts : List Tm} {ks : List Nat} (h : Twd w w1 ts ks) (hf : Fr S w1 w2) (hn : ∀ k ∈ ks, k ∉ S) : Twd w w2 ts ks :=
  ⟨h.len, h.new, fun i t k ht hk => hf.keep (h.row i t k ht hk) (hn k (List.mem_of_getElem? hk)), h.apart⟩
theorem Twd.lt {w w' : World} {ts : List Tm} {ks : List Nat} (h : Twd w w' ts ks) : ∀ k ∈ ks, k < w'.heap.size := by
  intro k hk
  obtain ⟨i, hi⟩ := List.getElem?_of_mem hk
  have hl : i < ts.length := by rw [← h.len]; exact (List.getElem?_eq_some_iff.1 hi).1
  exact lt_of_block (h.row i _ k (List.getElem?_eq_getElem hl) hi)
theorem Twd.snoc {w w1 w2 : World} {ts : List Tm} {ks : List Nat} (h : Twd w w1 ts ks) (hf : Fr [] w1 w2) (hw : w.heap.size ≤ w1.heap.size) (t : Tm) (k : Nat) (hk : w1.heap.size ≤ k) (hr : w2.heap[k]? = some (.cells (wtsC (t.ws ++ [spW])).toArray 51 (0, 0))) : Twd w w2 (ts ++ [t]) (ks ++ [k]) := by
  have hl := h.len
  refine ⟨by simp [hl], ?_, ?_, ?_⟩
  · intro j hj
    rcases List.mem_append.1 hj with hj | hj
    · exact h.new j hj
    · simp at hj; omega
  · intro i u j hu hj
    by_cases hi : i < ts.length
    · rw [List.getElem?_append_left hi] at hu
      rw [List.getElem?_append_left (by omega)] at hj
      exact hf.keep (h.row i u j hu hj) (by simp)
    · have hi2 : i = ts.length := by have := (List.getElem?_eq_some_iff.1 hu).1; simp at this; omega
      subst hi2
      rw [List.getElem?_append_right (Nat.le_refl _)] at hu
      rw [← hl, List.getElem?_append_right (Nat.le_refl _)] at hj
      simp at hu hj
      subst hu hj
      exact hr
  · rw [List.nodup_append]
    refine ⟨h.apart, by simp, ?_⟩
    intro a ha b hb
    simp at hb
    have := h.lt a ha
    omega
/-- All writes of a row are few. -/
def Few (ts : List Tm) : Prop := ∀ t ∈ ts, t.L < 2^21
theorem tms_full {w : World} {g n : Nat} {xs : List Value} (h : w.ownsRow 0 24 2 (.slice (some ⟨g, 0, none⟩) n n) n xs) : w.heap[g]? = some (.cells xs.toArray 24 (0, 0)) := by
  have hl := h.1
  rcases h.2 with ⟨hh, _⟩ | ⟨g', cap', cur, hh, _, hg, _, _, hcs, ht⟩
  · cases hh
  · cases hh
    rw [hg]
    congr 2
    rw [← Array.toList_inj]
    simp only
    rw [← ht, List.take_of_length_le (by simp [hcs])]
theorem own_typeT {w : World} {e : TypeId} {size : Nat} {v : Value} {n : Nat} {vs : List Value} (h : w.ownsRow 0 e size v n vs) : ∀ k, v.ownBlock = some k → ∃ cs, w.heap[k]? = some (.cells cs e (0, 0)) := by
  intro k hk
  rcases h.2 with ⟨rfl, _⟩ | ⟨g, cap, cur, rfl, _, hg, _⟩
  · simp [Value.ownBlock] at hk
  · simp [Value.ownBlock] at hk
    subst hk
    exact ⟨_, hg⟩
theorem Try.infoTW : (Try.prog.info? 24).map (fun i => (i.zero, i.size, i.bytes)) = some (some (.agg #[.int .i64 0, .slice none 0 0]), 2, 32) := by kernel_rfl
theorem Try.undTsW : Try.prog.underlying 30 = some (.slice 24) := by kernel_rfl

set_option maxHeartbeats 8000000 in
set_option maxRecDepth 100000 in
theorem twinTs_any (ao : Option Addr) (L cap : Nat) (ts : List Tm) (w : World) (h : TRs w ao ts) (hLe : L = ts.length) (hL : L < 2^21) (hfew : Few ts) :
    Calls Try.prog 10 #[.slice ao L cap] w fun e w' => ∃ b ks, e = .returned (.slice (some ⟨b, 0, none⟩) L (L + 1)) ∧ w.heap.size ≤ b ∧ w'.heap[b]? = some (.cells (tmsC (twTs ts ks ++ [spT])).toArray 24 (0, 0)) ∧ Twd w w' ts ks ∧ Fr [] w w' := by
  obtain ⟨i0, hi, hz0, hz1, hz2⟩ := info_parts Try.infoTW
  have HL : Hid (L = ts.length) := hLe
  have HFew : Hid (Few ts) := hfew
  clear hLe hfew
  go_enter Try.func10, Try.ntmps10
  go_wp2_with (at_make; refine wpList_make_own _ rfl (.const (.int .i64 0)) (.tmp 7) 30 rfl 0 24 i0 _ 2 Try.undTsW hi hz0 hz1 .i64 .i64 ((L : Int) + 1) (L + 1) rfl rfl ?bC ?b2 ?b3 ?b4 ?_)
  case bC => simp
  case b2 => rw [hz2]; omega
  case b3 => unfold maxLen; omega
  case b4 => exact Nat.zero_le _
  intro w1 hown hgrow
  obtain ⟨g, hg⟩ : ∃ g, g = w.heap.size := ⟨_, rfl⟩
  have hgw : w.heap.size ≤ g := by omega
  rw [← hg] at hown ⊢
  have h01 : Fr [] w w1 := Fr.grown (S := []) hgrow (by simp)
  clear hgrow hg
  go_wp2_with fail
  go_loopw [3, 4] (fun vv ii wr => ∃ (i : Nat) (ks : List Nat), vv = .slice (some ⟨g, 0, none⟩) i (L + 1) ∧ ii = .int .i64 i ∧ i ≤ L ∧ wr.ownsRow 0 24 2 (.slice (some ⟨g, 0, none⟩) i (L + 1)) i (tmsC (twTs (ts.take i) ks)) ∧ Hid (Twd w wr (ts.take i) ks) ∧ Fr [] w wr) (fun _ ii _ => L - (intOf ii).toNat)
  case atStart => exact ⟨0, [], rfl, rfl, Nat.zero_le _, by simpa [twTs, tmsC] using hown, Twd.nil _ _, h01⟩
  case round =>
    obtain ⟨i, ks, rfl, rfl, hiL, hO, HW, hF⟩ := hrel
    have hsz := (hO.lt g rfl).2
    by_cases hil : i < L
    · have hi' : i < ts.length := by rw [← HL.out]; exact hil
      obtain ⟨b, off, e, _, hc⟩ := (h.keep hF).lies (by omega)
      subst e
      obtain ⟨d0, d1⟩ := hc i hi'
      have hat := (h.keep hF).each _ (tgetD_mem ts i hi')
      have hfw := HFew.out _ (tgetD_mem ts i hi')
      obtain ⟨x, hx⟩ : ∃ x, x = ts.getD i Tm.zero := ⟨_, rfl⟩
      rw [← hx] at d0 d1 hat hfw
      have HTK : Hid (ts.take (i + 1) = ts.take i ++ [x]) := by show _ = _; rw [ttake_snoc ts i hi', hx]
      clear hc hx
      obtain ⟨n, xo, M, cm, ws⟩ := x
      simp only at d0 d1 hfw
      have hat' : TArg wr n xo M cm ws := hat
      go_wp2_with fail
      refine (twinTxn_any n xo M cm ws _ hat'.rs hat'.len hfw).mono ?_
      rintro e w2 ⟨k, rfl, hk, hrow2, hF2⟩
      have hO2 := owns_keep hO hF2 (by simp)
      have HW2 : Hid (Twd w w2 (ts.take (i + 1)) (ks ++ [k])) := by
        show Twd _ _ _ _
        rw [HTK.out]
        exact HW.out.snoc hF2 hF.size ⟨n, xo, M, cm, ws⟩ k hk hrow2
      have HE : Hid (tmsC (twTs (ts.take (i + 1)) (ks ++ [k])) = tmsC (twTs (ts.take i) ks) ++ [.int .i64 n, .slice (some ⟨k, 0, none⟩) M (M + 1)]) := by
        show _ = _
        rw [HTK.out, twTs_snoc _ _ _ _ HW.out.len, tmsC_append]
        rfl
      have hG2 := hF.then hF2
      have hs2 := hF2.size
      have hgk : g ∉ (ks ++ [k]) := by
        intro hm
        obtain ⟨j, hj⟩ := List.getElem?_of_mem hm
        have hl : j < (ts.take (i + 1)).length := by rw [← HW2.out.len]; exact (List.getElem?_eq_some_iff.1 hj).1
        have h1 := HW2.out.row j _ g (List.getElem?_eq_getElem hl) hj
        obtain ⟨cs, h2⟩ := own_typeT hO2 g rfl
        rw [h1] at h2
        simp at h2
      clear hat hat' hO hrow2 hF2 d0 d1 hF HW
      go_wp2_with (at_builtin; refine wpList_append_fits _ rfl (.tmp 15) (.tmp 21) 30 rfl 0 24 i0 2 Try.undTsW hi hz1 g i (L + 1) _ rfl (hO2.alloc _) ⟨w2.heap.size, 0, none⟩ 1 1 [.int .i64 n, .slice (some ⟨k, 0, none⟩) M (M + 1)] rfl rfl ?c1 ?c2 ?c3 ?_)
      case c1 => intro j u hj; match j, hj with | 0, hj => simp at hj; subst hj; simp [Addr.add] | 1, hj => simp at hj; subst hj; simp [Addr.add]
      case c2 => intro u hu; simp at hu; rcases hu with rfl | rfl <;> rfl
      case c3 => omega
      intro w3 hO3 hg3
      rw [← HE.out] at hO3
      have hF3 : Fr [g] w2 w3 := ((Fr.alloc [] w2 _).mono (by simp)).then (Fr.grown (S := [g]) hg3 (by intro k hk _; cases hk; simp))
      have HW3 : Hid (Twd w w3 (ts.take (i + 1)) (ks ++ [k])) := HW2.out.keep hF3 (fun j hj => by intro hh; simp at hh; subst hh; exact hgk hj)
      have hG3 : Fr [] w w3 := hG2.on hF3 (by intro y hy; simp at hy; omega)
      clear hO2 hg3 hF3 hG2 HW2 hgk
      go_wp2
      go_roundw
      case rel => exact ⟨i + 1, ks ++ [k], rfl, by simp, by omega, hO3, HW3, hG3⟩
      case measure => simp [intOf]; omega
    · have hiL' : L ≤ i := by omega
      obtain rfl : i = L := by omega
      have HTK : Hid (ts.take i = ts) := List.take_of_length_le (by rw [← HL.out]; omega)
      have HE : Hid (tmsC (twTs ts ks ++ [spT]) = tmsC (twTs (ts.take i) ks) ++ [.int .i64 7777, .slice none 0 0]) := by
        show _ = _
        rw [HTK.out, tmsC_append]; rfl
      have hgk : g ∉ ks := by
        intro hm
        obtain ⟨j, hj⟩ := List.getElem?_of_mem hm
        have hl : j < (ts.take i).length := by rw [← HW.out.len]; exact (List.getElem?_eq_some_iff.1 hj).1
        have h1 := HW.out.row j _ g (List.getElem?_eq_getElem hl) hj
        obtain ⟨cs, h2⟩ := own_typeT hO g rfl
        rw [h1] at h2
        simp at h2
      go_wp2_with (at_builtin; refine wpList_append_fits _ rfl (.tmp 23) (.tmp 25) 30 rfl 0 24 i0 2 Try.undTsW hi hz1 g i (i + 1) _ rfl (hO.alloc _) ⟨wr.heap.size, 0, none⟩ 1 1 [.int .i64 7777, .slice none 0 0] rfl rfl ?c1 ?c2 ?c3 ?_)
      case c1 => intro j u hj; match j, hj with | 0, hj => simp at hj; subst hj; simp [Addr.add] | 1, hj => simp at hj; subst hj; simp [Addr.add]
      case c2 => intro u hu; simp at hu; rcases hu with rfl | rfl <;> rfl
      case c3 => omega
      intro w2 hO2 hg2
      rw [← HE.out] at hO2
      have hF1 : Fr [g] wr w2 := ((Fr.alloc [] wr _).mono (by simp)).then (Fr.grown (S := [g]) hg2 (by intro k hk _; cases hk; simp))
      have hF2 : Fr [] w w2 := hF.on hF1 (by intro y hy; simp at hy; omega)
      have HRow : Hid (w2.heap[g]? = some (.cells (tmsC (twTs ts ks ++ [spT])).toArray 24 (0, 0))) := tms_full hO2
      have HW2 : Hid (Twd w w2 ts ks) := by
        have := HW.out.keep hF1 (fun j hj => by intro hh; simp at hh; subst hh; exact hgk hj)
        rw [HTK.out] at this
        exact this
      clear hO hg2 hF hO2 hF1 HW hgk
      go_wp2
      go_ret
      exact ⟨g, ks, rfl, hgw, HRow.out, HW2.out, hF2⟩
end Go.Proofs.Ytdojhkgnnbdfkaa
