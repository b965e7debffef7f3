/- Texts of this claim laid together, one behind the other: contracts and plain lemmas; conditions as each names them. -/
import Derived.Test.YtdojhkgnnbdfkaaGreatGp22
import Derived.Test.YtdojhkgnnbdfkaaGreatGp14
import Derived.Test.YtdojhkgnnbdfkaaGreatGp18
import Derived.Test.YtdojhkgnnbdfkaaGreatGp23
/- What the statements' helpers TwinHelds, LeftHelds and HeldsSize answer. Conditions: fewer than 2^21 keys, of fewer than 2^21 versions each. -/
namespace Go.Proofs.YtdojhkgnnbdfkaaGreat
open Go.ChangeShapes Go.WideShapes Go.ChangeAt Go.RowKit Go.Lib
set_option linter.unusedVariables false
set_option linter.unusedSimpArgs false

namespace Bq
theorem res_c1 {fn : Func} {p : Tmp} {t : TypeId} (h : fn.results = #[.cell p t]) (tmps : Array Value) (P : Program) (w : World) :
    (results fn tmps).run P w = ((asAddr (tmps.getD p undef)).run P w).andThen fun a w₁ => (loadVar t a).run P w₁ := by
  simp only [results, h]
  simp [Sem.run_bind, Result.andThen]
end Bq
theorem hdsC_append (a b : List Hd) : hdsC (a ++ b) = hdsC a ++ hdsC b := by simp [hdsC]
/-- Keys with versions that came in, however many. -/
structure HRg (w : World) (ao : Option Addr) (hs : List Hd) : Prop where
  lies : 0 < hs.length → ∃ b off, ao = some ⟨b, off, none⟩ ∧ b < w.heap.size ∧ ∀ i, i < hs.length → ∀ j, j < 2 → w.cell? ⟨b, off + i * 2 + j, none⟩ = (hdC (hs.getD i Hd.zero))[j]?
  few : hs.length ≤ 140737488355328
  each : ∀ h ∈ hs, HEach w h
theorem HRg.rs {w : World} {ao : Option Addr} {hs : List Hd} (h : HRg w ao hs) (hf : hs.length ≤ 3518437208882) : HRs w ao hs := by
  refine ⟨fun h0 => ?_, hf, h.each⟩
  obtain ⟨b, off, e, hb, hc⟩ := h.lies h0
  exact ⟨b, off, e, hb, fun i hi => ⟨hc i hi 0 (by omega), hc i hi 1 (by omega)⟩⟩
theorem HRg.keep {w w' : World} {ao : Option Addr} {hs : List Hd} (h : HRg w ao hs) (hf : Fr [] w w') : HRg w' ao hs := by
  refine ⟨fun h0 => ?_, h.few, fun x hx => (h.each x hx).keep hf⟩
  obtain ⟨b, off, e, hb, hc⟩ := h.lies h0
  exact ⟨b, off, e, Nat.lt_of_lt_of_le hb hf.size, fun i hi j hj => (World.cell?_of_block (hf.block b hb (by simp))).trans (hc i hi j hj)⟩
set_option maxHeartbeats 4000000 in
set_option maxRecDepth 100000 in
theorem twinHeld_any (n : ByteArray) (ao : Option Addr) (L cap : Nat) (ws : List Vn) (w : World) (h : VRs w ao ws) (hLe : L = ws.length) (hL : L < 2^21) :
    Calls Tryz.prog 23 #[.agg #[.string n, .slice ao L cap]] w fun e w' => ∃ b, e = .returned (.agg #[.string n, .slice (some ⟨b, 0, none⟩) L (L + 1)]) ∧ w.heap.size ≤ b ∧ w'.heap[b]? = some (.cells (vnsC (ws ++ [spV])).toArray 74 (0, 0)) ∧ Fr [] w w' := by
  have HLe : Hid (L = ws.length) := hLe
  clear hLe
  obtain ⟨w0, HW0⟩ : ∃ w0, Hid ((w.alloc (.cells #[.string n, .slice ao L cap] 58)).alloc (.cells #[.string ⟨#[]⟩, .slice none 0 0] 58) = w0) := ⟨_, rfl⟩
  have hF0 : Fr [] w w0 := by rw [← HW0.out]; exact (Fr.alloc [] w _).then (Fr.alloc [] _ _)
  have hb0 : w0.heap[w.heap.size]? = some (.cells #[.string n, .slice ao L cap] 58 (0, 0)) := by rw [← HW0.out]; exact (Fr.alloc [] _ _).keep (heap_alloc_new w _) (by simp)
  have hb1 : w0.heap[w.heap.size + 1]? = some (.cells #[.string ⟨#[]⟩, .slice none 0 0] 58 (0, 0)) := by
    rw [← HW0.out]
    have := heap_alloc_new (w.alloc (.cells #[.string n, .slice ao L cap] 58)) (.cells #[.string ⟨#[]⟩, .slice none 0 0] 58)
    simpa using this
  have HB : Hid (∀ W, Fr [] w0 W → W.heap[w.heap.size]? = some (.cells #[.string n, .slice ao L cap] 58 (0, 0)) ∧ W.heap[w.heap.size + 1]? = some (.cells #[.string ⟨#[]⟩, .slice none 0 0] 58 (0, 0))) := fun W hf => ⟨hf.keep hb0 (by simp), hf.keep hb1 (by simp)⟩
  have hcell : ∀ W, Fr [] w0 W → W.cell? ⟨w.heap.size, 0, none⟩ = some (.string n) ∧ W.cell? ⟨w.heap.size, 1, none⟩ = some (.slice ao L cap) ∧ W.cell? ⟨w.heap.size + 1, 0, none⟩ = some (.string ⟨#[]⟩) ∧ W.cell? ⟨w.heap.size + 1, 1, none⟩ = some (.slice none 0 0) ∧ W.frozen? ⟨w.heap.size + 1, 0, none⟩ = false ∧ W.frozen? ⟨w.heap.size + 1, 1, none⟩ = false := by
    intro W hf
    obtain ⟨a, b⟩ := HB.out W hf
    refine ⟨?_, ?_, ?_, ?_, ?_, ?_⟩
    · rw [cell_of_row _ _ _ _ _ _ a]; rfl
    · rw [cell_of_row _ _ _ _ _ _ a]; rfl
    · rw [cell_of_row _ _ _ _ _ _ b]; rfl
    · rw [cell_of_row _ _ _ _ _ _ b]; rfl
    · simp [World.frozen?, b]
    · simp [World.frozen?, b]
  have HCe : Hid (∀ W, Fr [] w0 W → _) := hcell
  obtain ⟨k0, k1, k2, k3, k4, k5⟩ := hcell _ (Fr.drew [] w0)
  have hT := twinVs_any ao L cap ws w0.drew (h.keep (hF0.then (Fr.drew [] w0))) HLe.out hL
  clear hcell hb0 hb1
  have hs0 : w0.heap.size = w.heap.size + 2 := by rw [← HW0.out]; simp
  go_enter Tryz.func23, Tryz.ntmps23
  go_upto_region 1 with fail
  rw [HW0.out]
  first
    | go_loud (go_region_held3 (fun W => W.cell? ⟨w.heap.size, 0, none⟩ = some (.string n) ∧ W.cell? ⟨w.heap.size, 1, none⟩ = some (.slice ao L cap)) (go_keep)
        (first
        | (go_at_call 43; with_reducible refine hT.mono ?_; rintro e w1 ⟨b, rfl, hb, hrow, hF1⟩; have hG1 := (Fr.drew [] w0).then hF1; obtain ⟨j0, j1, j2, j3, j4, j5⟩ := HCe.out _ hG1)))
    | fail
  have hbb : b ≠ w.heap.size + 1 := by have : w0.drew.heap.size = w0.heap.size := rfl; omega
  have hFs : Fr [w.heap.size + 1] w1 ((w1.setCell ⟨w.heap.size + 1, 0, none⟩ (.string n)).setCell ⟨w.heap.size + 1, 1, none⟩ (.slice (some ⟨b, 0, none⟩) L (L + 1))) := (Fr.set w1 ⟨w.heap.size + 1, 0, none⟩ _ (by simp)).then (Fr.set _ ⟨w.heap.size + 1, 1, none⟩ _ (by simp))
  have HR : Hid (_ ∧ _) := ⟨hFs.keep hrow (by simp; exact hbb), (hF0.then hG1).on hFs (by intro x hx; simp at hx; omega)⟩
  have hbw : w.heap.size ≤ b := by have : w0.drew.heap.size = w0.heap.size := rfl; omega
  clear hFs hrow hF1 hG1 hT
  go_wp2
  refine bodyPost_ret (v := (.agg #[.string n, .slice (some ⟨b, 0, none⟩) L (L + 1)])) (by rw [Bq.res_c1 rfl]; go_simp) rfl ⟨b, rfl, hbw, HR.out.1, HR.out.2⟩

set_option maxHeartbeats 2000000 in
set_option maxRecDepth 100000 in
theorem leftHeld_any (n : ByteArray) (t : Nat) (ao : Option Addr) (L cap : Nat) (ws : List Vn) (w : World) (h : VRs w ao ws) (hLe : L = ws.length) (hL : L < 2^21) (hrow : w.heap[t]? = some (.cells (vnsC (ws ++ [spV])).toArray 74 (0, 0))) :
    Calls Tryz.prog 40 #[.agg #[.string n, .slice (some ⟨t, 0, none⟩) L (L + 1)], .agg #[.string n, .slice ao L cap]] w fun e w' => e = .returned (.bool true) ∧ Fr [] w w' := by
  have HL : Hid (L = ws.length) := hLe
  clear hLe
  have hF0 : Fr [] w ((w.alloc (.cells #[.string n, .slice (some ⟨t, 0, none⟩) L (L + 1)] 58)).alloc (.cells #[.string n, .slice ao L cap] 58)) := (Fr.alloc [] w _).then (Fr.alloc [] _ _)
  have hX := leftVs_any t ao L cap ws _ (h.keep hF0) HL.out hL (hF0.keep hrow (by simp))
  have hnn : (n.toList == n.toList) = true := by simp
  go_enter Tryz.func40, Tryz.ntmps40
  go_wp2_with fail
  refine hX.mono ?_
  rintro e w1 ⟨rfl, hF1⟩
  have HG : Hid (Fr [] w w1) := hF0.then hF1
  clear hX hF1
  go_wp2
  go_ret
  exact ⟨by simp, HG.out⟩
/-- The key with its versions that stands in a twin's spare room. -/
def spK : ByteArray := ⟨#[115, 112, 97, 114, 101]⟩
def spT : Hd := ⟨spK, none, 0, 0, []⟩
/-- The twin of a key with its versions, its writes in block b. -/
def twT (t : Hd) (b : Nat) : Hd := ⟨t.key, some ⟨b, 0, none⟩, t.L, t.L + 1, t.vs⟩
def twTs (ts : List Hd) (ks : List Nat) : List Hd := List.zipWith twT ts ks
theorem twTs_length (ts : List Hd) (ks : List Nat) (h : ks.length = ts.length) : (twTs ts ks).length = ts.length := by simp [twTs, h]
theorem twTs_snoc (ts : List Hd) (ks : List Nat) (t : Hd) (k : Nat) (h : ks.length = ts.length) : twTs (ts ++ [t]) (ks ++ [k]) = twTs ts ks ++ [twT t k] := by
  unfold twTs
  rw [List.zipWith_append h.symm]
  rfl
theorem twTs_get {ts : List Hd} {ks : List Nat} {i : Nat} {u : Hd} (h : (twTs ts ks)[i]? = some u) : ∃ t k, ts[i]? = some t ∧ ks[i]? = some k ∧ u = twT t k := by
  unfold twTs at h
  rw [List.getElem?_zipWith] at h
  cases ht : ts[i]? with
  | none => simp [ht] at h
  | some t =>
    cases hk : ks[i]? with
    | none => simp [ht, hk] at h
    | some k => simp [ht, hk] at h; exact ⟨t, k, rfl, rfl, h.symm⟩
/-- The twins' writes lie in blocks of their own, made since w. -/
structure Twd (w w' : World) (ts : List Hd) (ks : List Nat) : Prop where
  len : ks.length = ts.length
  new : ∀ k ∈ ks, w.heap.size ≤ k
  row : ∀ (i : Nat) (t : Hd) (k : Nat), ts[i]? = some t → ks[i]? = some k → w'.heap[k]? = some (.cells (vnsC (t.vs ++ [spV])).toArray 74 (0, 0))
  apart : ks.Nodup
theorem Twd.nil (w w' : World) : Twd w w' [] [] := ⟨rfl, by simp, by simp, by simp⟩
theorem Twd.keep {S : List Nat} {w w1 w2 : World} {ts : List Hd} {ks : List Nat} (h : Twd w w1 ts ks) (hf : Fr S w1 w2) (hn : ∀ k ∈ ks, k ∉ S) : Twd w w2 ts ks :=
  ⟨h.len, h.new, fun i t k ht hk => hf.keep (h.row i t k ht hk) (hn k (List.mem_of_getElem? hk)), h.apart⟩
theorem Twd.lt {w w' : World} {ts : List Hd} {ks : List Nat} (h : Twd w w' ts ks) : ∀ k ∈ ks, k < w'.heap.size := by
  intro k hk
  obtain ⟨i, hi⟩ := List.getElem?_of_mem hk
  have hl : i < ts.length := by rw [← h.len]; exact (List.getElem?_eq_some_iff.1 hi).1
  exact lt_of_block (h.row i _ k (List.getElem?_eq_getElem hl) hi)
theorem Twd.snoc {w w1 w2 : World} {ts : List Hd} {ks : List Nat} (h : Twd w w1 ts ks) (hf : Fr [] w1 w2) (hw : w.heap.size ≤ w1.heap.size) (t : Hd) (k : Nat) (hk : w1.heap.size ≤ k) (hr : w2.heap[k]? = some (.cells (vnsC (t.vs ++ [spV])).toArray 74 (0, 0))) : Twd w w2 (ts ++ [t]) (ks ++ [k]) := by
  have hl := h.len
  refine ⟨by simp [hl], ?_, ?_, ?_⟩
  · intro j hj
    rcases List.mem_append.1 hj with hj | hj
    · exact h.new j hj
    · simp at hj; omega
  · intro i u j hu hj
    by_cases hi : i < ts.length
    · rw [List.getElem?_append_left hi] at hu
      rw [List.getElem?_append_left (by omega)] at hj
      exact hf.keep (h.row i u j hu hj) (by simp)
    · have hi2 : i = ts.length := by have := (List.getElem?_eq_some_iff.1 hu).1; simp at this; omega
      subst hi2
      rw [List.getElem?_append_right (Nat.le_refl _)] at hu
      rw [← hl, List.getElem?_append_right (Nat.le_refl _)] at hj
      simp at hu hj
      subst hu hj
      exact hr
  · rw [List.nodup_append]
    refine ⟨h.apart, by simp, ?_⟩
    intro a ha b hb
    simp at hb
    have := h.lt a ha
    omega
/-- All writes of a row are few. -/
def Few (ts : List Hd) : Prop := ∀ t ∈ ts, t.L < 2^21
theorem tms_full {w : World} {g n : Nat} {xs : List Value} (h : w.ownsRow 0 58 2 (.slice (some ⟨g, 0, none⟩) n n) n xs) : w.heap[g]? = some (.cells xs.toArray 58 (0, 0)) := by
  have hl := h.1
  rcases h.2 with ⟨hh, _⟩ | ⟨g', cap', cur, hh, _, hg, _, _, hcs, ht⟩
  · cases hh
  · cases hh
    rw [hg]
    congr 2
    rw [← Array.toList_inj]
    simp only
    rw [← ht, List.take_of_length_le (by simp [hcs])]
theorem Tryz.infoHdW : (Tryz.prog.info? 58).map (fun i => (i.zero, i.size, i.bytes)) = some (some (.agg #[.string ⟨#[]⟩, .slice none 0 0]), 2, 40) := by kernel_rfl
theorem Tryz.undHdsW : Tryz.prog.underlying 25 = some (.slice 58) := by kernel_rfl

set_option maxHeartbeats 8000000 in
set_option maxRecDepth 100000 in
theorem twinHs_any (ao : Option Addr) (L cap : Nat) (ts : List Hd) (w : World) (h : HRs w ao ts) (hLe : L = ts.length) (hL : L < 2^21) (hfew : Few ts) :
    Calls Tryz.prog 10 #[.slice ao L cap] w fun e w' => ∃ b ks, e = .returned (.slice (some ⟨b, 0, none⟩) L (L + 1)) ∧ w.heap.size ≤ b ∧ w'.heap[b]? = some (.cells (hdsC (twTs ts ks ++ [spT])).toArray 58 (0, 0)) ∧ Twd w w' ts ks ∧ Fr [] w w' := by
  obtain ⟨i0, hi, hz0, hz1, hz2⟩ := info_parts Tryz.infoHdW
  have HL : Hid (L = ts.length) := hLe
  have HFew : Hid (Few ts) := hfew
  clear hLe hfew
  go_enter Tryz.func10, Tryz.ntmps10
  go_wp2_with (at_make; refine wpList_make_own _ rfl (.const (.int .i64 0)) (.tmp 7) 25 rfl 0 58 i0 _ 2 Tryz.undHdsW hi hz0 hz1 .i64 .i64 ((L : Int) + 1) (L + 1) rfl rfl ?bC ?b2 ?b3 ?b4 ?_)
  case bC => simp
  case b2 => rw [hz2]; omega
  case b3 => unfold maxLen; omega
  case b4 => exact Nat.zero_le _
  intro w1 hown hgrow
  obtain ⟨g, hg⟩ : ∃ g, g = w.heap.size := ⟨_, rfl⟩
  have hgw : w.heap.size ≤ g := by omega
  rw [← hg] at hown ⊢
  have h01 : Fr [] w w1 := Fr.grown (S := []) hgrow (by simp)
  clear hgrow hg
  go_wp2_with fail
  go_loopw [3, 4] (fun vv ii wr => ∃ (i : Nat) (ks : List Nat), vv = .slice (some ⟨g, 0, none⟩) i (L + 1) ∧ ii = .int .i64 i ∧ i ≤ L ∧ wr.ownsRow 0 58 2 (.slice (some ⟨g, 0, none⟩) i (L + 1)) i (hdsC (twTs (ts.take i) ks)) ∧ Hid (Twd w wr (ts.take i) ks) ∧ Fr [] w wr) (fun _ ii _ => L - (Lib.intOf ii).toNat)
  case atStart => exact ⟨0, [], rfl, rfl, Nat.zero_le _, by simpa [twTs, hdsC] using hown, Twd.nil _ _, h01⟩
  case round =>
    obtain ⟨i, ks, rfl, rfl, hiL, hO, HW, hF⟩ := hrel
    have hsz := (hO.lt g rfl).2
    by_cases hil : i < L
    · have hi' : i < ts.length := by rw [← HL.out]; exact hil
      obtain ⟨b, off, e, _, hc⟩ := (h.keep hF).lies (by omega)
      subst e
      obtain ⟨d0, d1⟩ := hc i hi'
      have hat := (h.keep hF).each _ (hgetD_mem ts i hi')
      have hfw := HFew.out _ (hgetD_mem ts i hi')
      obtain ⟨x, hx⟩ : ∃ x, x = ts.getD i Hd.zero := ⟨_, rfl⟩
      rw [← hx] at d0 d1 hat hfw
      have HTK : Hid (ts.take (i + 1) = ts.take i ++ [x]) := by show _ = _; rw [htake_snoc ts i hi', hx]
      clear hc hx
      obtain ⟨n, xo, M, cm, ws⟩ := x
      simp only at d0 d1 hfw
      have hat' : HEach wr ⟨n, xo, M, cm, ws⟩ := hat
      go_wp2_with fail
      refine (twinHeld_any n xo M cm ws _ hat'.rs hat'.len hfw).mono ?_
      rintro e w2 ⟨k, rfl, hk, hrow2, hF2⟩
      have hO2 := owns_keep hO hF2 (by simp)
      have HW2 : Hid (Twd w w2 (ts.take (i + 1)) (ks ++ [k])) := by
        show Twd _ _ _ _
        rw [HTK.out]
        exact HW.out.snoc hF2 hF.size ⟨n, xo, M, cm, ws⟩ k hk hrow2
      have HE : Hid (hdsC (twTs (ts.take (i + 1)) (ks ++ [k])) = hdsC (twTs (ts.take i) ks) ++ [.string n, .slice (some ⟨k, 0, none⟩) M (M + 1)]) := by
        show _ = _
        rw [HTK.out, twTs_snoc _ _ _ _ HW.out.len, hdsC_append]
        rfl
      have hG2 := hF.then hF2
      have hs2 := hF2.size
      have hgk : g ∉ (ks ++ [k]) := by
        intro hm
        obtain ⟨j, hj⟩ := List.getElem?_of_mem hm
        have hl : j < (ts.take (i + 1)).length := by rw [← HW2.out.len]; exact (List.getElem?_eq_some_iff.1 hj).1
        have h1 := HW2.out.row j _ g (List.getElem?_eq_getElem hl) hj
        obtain ⟨cs, h2⟩ := own_type hO2 g rfl
        rw [h1] at h2
        simp at h2
      clear hat hat' hO hrow2 hF2 d0 d1 hF HW
      go_wp2_with (at_builtin; refine wpList_append_fits _ rfl (.tmp 15) (.tmp 21) 25 rfl 0 58 i0 2 Tryz.undHdsW hi hz1 g i (L + 1) _ rfl (hO2.alloc _) ⟨w2.heap.size, 0, none⟩ 1 1 [.string n, .slice (some ⟨k, 0, none⟩) M (M + 1)] rfl rfl ?c1 ?c2 ?c3 ?_)
      case c1 => intro j u hj; match j, hj with | 0, hj => simp at hj; subst hj; simp [Addr.add] | 1, hj => simp at hj; subst hj; simp [Addr.add]
      case c2 => intro u hu; simp at hu; rcases hu with rfl | rfl <;> rfl
      case c3 => omega
      intro w3 hO3 hg3
      rw [← HE.out] at hO3
      have hF3 : Fr [g] w2 w3 := ((Fr.alloc [] w2 _).mono (by simp)).then (Fr.grown (S := [g]) hg3 (by intro k hk _; cases hk; simp))
      have HW3 : Hid (Twd w w3 (ts.take (i + 1)) (ks ++ [k])) := HW2.out.keep hF3 (fun j hj => by intro hh; simp at hh; subst hh; exact hgk hj)
      have hG3 : Fr [] w w3 := hG2.on hF3 (by intro y hy; simp at hy; omega)
      clear hO2 hg3 hF3 hG2 HW2 hgk
      go_wp2
      go_roundw
      case rel => exact ⟨i + 1, ks ++ [k], rfl, by simp, by omega, hO3, HW3, hG3⟩
      case measure => simp [Lib.intOf]; omega
    · have hiL' : L ≤ i := by omega
      obtain rfl : i = L := by omega
      have HTK : Hid (ts.take i = ts) := List.take_of_length_le (by rw [← HL.out]; omega)
      have HE : Hid (hdsC (twTs ts ks ++ [spT]) = hdsC (twTs (ts.take i) ks) ++ [.string spK, .slice none 0 0]) := by
        show _ = _
        rw [HTK.out, hdsC_append]; rfl
      have hgk : g ∉ ks := by
        intro hm
        obtain ⟨j, hj⟩ := List.getElem?_of_mem hm
        have hl : j < (ts.take i).length := by rw [← HW.out.len]; exact (List.getElem?_eq_some_iff.1 hj).1
        have h1 := HW.out.row j _ g (List.getElem?_eq_getElem hl) hj
        obtain ⟨cs, h2⟩ := own_type hO g rfl
        rw [h1] at h2
        simp at h2
      go_wp2_with (at_builtin; refine wpList_append_fits _ rfl (.tmp 23) (.tmp 25) 25 rfl 0 58 i0 2 Tryz.undHdsW hi hz1 g i (i + 1) _ rfl (hO.alloc _) ⟨wr.heap.size, 0, none⟩ 1 1 [.string spK, .slice none 0 0] rfl rfl ?c1 ?c2 ?c3 ?_)
      case c1 => intro j u hj; match j, hj with | 0, hj => simp at hj; subst hj; simp [Addr.add, spK] | 1, hj => simp at hj; subst hj; simp [Addr.add]
      case c2 => intro u hu; simp at hu; rcases hu with rfl | rfl <;> rfl
      case c3 => omega
      intro w2 hO2 hg2
      rw [← HE.out] at hO2
      have hF1 : Fr [g] wr w2 := ((Fr.alloc [] wr _).mono (by simp)).then (Fr.grown (S := [g]) hg2 (by intro k hk _; cases hk; simp))
      have hF2 : Fr [] w w2 := hF.on hF1 (by intro y hy; simp at hy; omega)
      have HRow : Hid (w2.heap[g]? = some (.cells (hdsC (twTs ts ks ++ [spT])).toArray 58 (0, 0))) := tms_full hO2
      have HW2 : Hid (Twd w w2 ts ks) := by
        have := HW.out.keep hF1 (fun j hj => by intro hh; simp at hh; subst hh; exact hgk hj)
        rw [HTK.out] at this
        exact this
      clear hO hg2 hF hO2 hF1 HW hgk
      go_wp2
      go_ret
      exact ⟨g, ks, rfl, hgw, HRow.out, HW2.out, hF2⟩
set_option maxHeartbeats 8000000 in
set_option maxRecDepth 100000 in
theorem leftHs_any (b : Nat) (ks : List Nat) (w0 : World) (ao : Option Addr) (L cap : Nat) (ts : List Hd) (w : World) (h : HRs w ao ts) (hLe : L = ts.length) (hL : L < 2^21) (hfew : Few ts) (hT : Twd w0 w ts ks) (hrow : w.heap[b]? = some (.cells (hdsC (twTs ts ks ++ [spT])).toArray 58 (0, 0))) :
    Calls Tryz.prog 21 #[.slice (some ⟨b, 0, none⟩) L (L + 1), .slice ao L cap] w fun e w' => e = .returned (.bool true) ∧ Fr [] w w' := by
  have HL : Hid (L = ts.length) := hLe
  have HFew : Hid (Few ts) := hfew
  have HT : Hid (Twd w0 w ts ks) := hT
  have hcl : ∀ j c, j < L + 1 → c < 2 → w.cell? ⟨b, j * 2 + c, none⟩ = (hdC ((twTs ts ks ++ [spT]).getD j Hd.zero))[c]? := by
    intro j c hj hc
    rw [cell_of_row _ _ _ _ _ _ hrow]
    have := hdsC_get (twTs ts ks ++ [spT]) j (by rw [List.length_append, twTs_length ts ks hT.len, ← hLe]; simpa using hj)
    obtain rfl | rfl : c = 0 ∨ c = 1 := by omega
    · simpa [hdC] using this.1
    · simpa [hdC] using this.2
  have hlb := lt_of_block hrow
  have hct : ∀ j t k, ts[j]? = some t → ks[j]? = some k → w.cell? ⟨b, j * 2, none⟩ = some (.string t.key) ∧ w.cell? ⟨b, j * 2 + 1, none⟩ = some (.slice (some ⟨k, 0, none⟩) t.L (t.L + 1)) := by
    intro j t k ht hk
    have hj : j < ts.length := (List.getElem?_eq_some_iff.1 ht).1
    have hu : (twTs ts ks)[j]? = some (twT t k) := by
      unfold twTs
      rw [List.getElem?_zipWith, ht, hk]
    have e : (twTs ts ks ++ [spT]).getD j Hd.zero = twT t k := by
      rw [List.getD, List.getElem?_append_left (by rw [twTs_length ts ks hT.len]; exact hj), hu]
      rfl
    have a := hcl j 0 (by omega) (by omega)
    have c := hcl j 1 (by omega) (by omega)
    rw [e] at a c
    exact ⟨a, c⟩
  have hsp : w.cell? ⟨b, L * 2, none⟩ = some (.string spK) ∧ w.cell? ⟨b, L * 2 + 1, none⟩ = some (.slice none 0 0) := by
    have e : (twTs ts ks ++ [spT]).getD L Hd.zero = spT := by
      rw [List.getD, List.getElem?_append_right (by rw [twTs_length ts ks hT.len]; omega), twTs_length ts ks hT.len, hLe]
      simp
    have a := hcl L 0 (by omega) (by omega)
    have c := hcl L 1 (by omega) (by omega)
    rw [e] at a c
    exact ⟨a, c⟩
  have HCT : Hid (∀ j t k, ts[j]? = some t → ks[j]? = some k → _) := hct
  have hne : ((L : Int) != L) = false := by simp
  clear hLe hfew hT hrow hcl hct
  go_enter Tryz.func21, Tryz.ntmps21
  go_wp2_with fail
  go_loopw [5] (fun ii wr => ∃ (i : Nat), ii = .int .i64 i ∧ i ≤ L ∧ Fr [] w wr) (fun ii _ => L - (Lib.intOf ii).toNat)
  case atStart => exact ⟨0, rfl, Nat.zero_le _, Fr.refl _ _⟩
  case round =>
    obtain ⟨i, rfl, hiL, hFr⟩ := hrel
    by_cases hi : i < L
    · have hix : i < ts.length := by rw [← HL.out]; exact hi
      have hik : i < ks.length := by rw [HT.out.len]; exact hix
      obtain ⟨b2, o2, rfl, hlt2, hc2⟩ := (h.keep hFr).lies (by omega)
      have hy := hc2 i hix
      have haty := (h.keep hFr).each _ (hgetD_mem ts i hix)
      have hfw := HFew.out _ (hgetD_mem ts i hix)
      have hty : ts[i]? = some (ts.getD i Hd.zero) := by simp [List.getD, hix]
      obtain ⟨k, hk⟩ : ∃ k, ks[i]? = some k := ⟨_, List.getElem?_eq_getElem hik⟩
      obtain ⟨c0, c1⟩ := HCT.out i _ k hty hk
      have hrowk := HT.out.row i _ k hty hk
      obtain ⟨y, hyy⟩ : ∃ y, y = ts.getD i Hd.zero := ⟨_, rfl⟩
      rw [← hyy] at hy haty c0 c1 hrowk hfw
      clear hyy hc2 hty hk
      obtain ⟨n2, x2, m2, k2, ws2⟩ := y
      obtain ⟨d0, d1⟩ := hy
      simp only at c0 c1 d0 d1 hrowk hfw
      have hay : HEach wr ⟨n2, x2, m2, k2, ws2⟩ := haty
      have hST := leftHeld_any n2 k x2 m2 k2 ws2 wr.drew (hay.rs.keep (Fr.drew [] wr)) hay.len hfw ((hFr.then (Fr.drew [] wr)).keep hrowk (by simp))
      have p0 : wr.drew.cell? ⟨b, i * 2, none⟩ = some (.string n2) := (World.cell?_of_block ((hFr.then (Fr.drew [] wr)).block b hlb (by simp))).trans c0
      have p1 : wr.drew.cell? ⟨b, i * 2 + 1, none⟩ = some (.slice (some ⟨k, 0, none⟩) m2 (m2 + 1)) := (World.cell?_of_block ((hFr.then (Fr.drew [] wr)).block b hlb (by simp))).trans c1
      have g0 : wr.drew.cell? ⟨b2, o2 + i * 2, none⟩ = some (.string n2) := d0
      have g1 : wr.drew.cell? ⟨b2, o2 + i * 2 + 1, none⟩ = some (.slice x2 m2 k2) := d1
      have hq1 : b < wr.drew.heap.size := by have := (hFr.then (Fr.drew [] wr)).size; omega
      have hq2 : b2 < wr.drew.heap.size := hlt2
      have r0 : wr.cell? ⟨b, i * 2, none⟩ = some (.string n2) := p0
      have r1 : wr.cell? ⟨b, i * 2 + 1, none⟩ = some (.slice (some ⟨k, 0, none⟩) m2 (m2 + 1)) := p1
      clear haty hay hlt2 c0 c1 hrowk
      go_wp2_with fail
      go_region_held3 (fun W => W.cell? ⟨b, i * 2, none⟩ = some (.string n2) ∧ W.cell? ⟨b, i * 2 + 1, none⟩ = some (.slice (some ⟨k, 0, none⟩) m2 (m2 + 1)) ∧ W.cell? ⟨b2, o2 + i * 2, none⟩ = some (.string n2) ∧ W.cell? ⟨b2, o2 + i * 2 + 1, none⟩ = some (.slice x2 m2 k2)) (go_keep)
        (with_reducible refine hST.mono ?_; rintro e w2 ⟨rfl, hF2⟩; have z0 := (World.cell?_of_block (hF2.block b hq1 (by simp))).trans p0; have z1 := (World.cell?_of_block (hF2.block b hq1 (by simp))).trans p1; have z2 := (World.cell?_of_block (hF2.block b2 hq2 (by simp))).trans g0; have z3 := (World.cell?_of_block (hF2.block b2 hq2 (by simp))).trans g1)
      have hG2 := hFr.then ((Fr.drew [] wr).then hF2)
      clear hST hF2 d0 d1 p0 p1 g0 g1 r0 r1 z0 z1 z2 z3
      go_wp2
      go_roundw
      case rel => exact ⟨i + 1, by simp, by omega, hG2⟩
      case measure => simp [Lib.intOf]; omega
    · obtain rfl : i = L := by omega
      have c0 : wr.cell? ⟨b, i * 2, none⟩ = some (.string spK) := (World.cell?_of_block (hFr.block b hlb (by simp))).trans hsp.1
      have c1 : wr.cell? ⟨b, i * 2 + 1, none⟩ = some (.slice none 0 0) := (World.cell?_of_block (hFr.block b hlb (by simp))).trans hsp.2
      go_wp2
      go_ret
      exact ⟨by simp [show spK.toList = [115, 112, 97, 114, 101] from by decide +kernel], hFr.then (Fr.alloc [] _ _)⟩
end Go.Proofs.YtdojhkgnnbdfkaaGreat
