/- What is held is dispatched. Conditions as each names them. -/
import Derived.Test.YtakbodlicfmkjaaGreatKf20
import Derived.Test.YtakbodlicfmkjaaGreatFr20
namespace Go.Proofs.YtakbodlicfmkjaaGreat
open Go.ChangeShapes Go.WideShapes Go.ChangeAt Go.RowKit Go.Lib Go.Maps
set_option linter.unusedVariables false
set_option linter.unusedSimpArgs false
section
variable {w0 w w' : World} {c : Cf} {T : List Tx} {Z : Lay} {s : Ms}
/-- A transaction's box. -/
def Xb (W : World) (x : Nat) (n : Int) (B K : Nat) : Prop := W.heap[x]? = some (.cells #[.int .i64 n, .slice (some ⟨B, 0, none⟩) K K] 59 (0, 0))
theorem wtF_add (T : List Tx) (kb : Int → Nat) (wt : Int → Prop) (n : Int) : updF (wtF T kb wt) n (some (some (n, kb n, (wsAt T n).length))) = wtF T kb (fun m => wt m ∨ m = n) := by
  funext m
  by_cases e : m = n
  · subst e; rw [updF_same]; unfold wtF; rw [if_pos (Or.inr rfl)]
  · rw [updF_other _ _ e]
    unfold wtF
    by_cases hm : wt m
    · rw [if_pos hm, if_pos (Or.inl hm)]
    · rw [if_neg hm, if_neg (fun x => x.elim hm e)]
/-- Behind the feed's answer. -/
def Z1D (Z : Lay) (n : Int) (B : Nat) : Lay := { Z with hw := .slice none 0 0, kb := kbU Z.kb n B, nr := Z.nr + 1 }
def s1D (s : Ms) : Ms := { s with hv := false }
set_option maxHeartbeats 4000000 in
set_option maxRecDepth 100000 in
theorem mdisp_any (h : MaM w0 w c T Z s) (hnr : Z.nr = s.d) (hW : Wf c T s) (hv : s.hv = true) (hnear : (s.rd : Int) ≤ s.ma + c.w) (hk : s.k < 16000000) :
    Calls Tryz.prog 254 #[.pointer (some ⟨Z.z.kd, 0, none⟩)] w fun e w' => e = .returned (.tuple #[.int .i64 (s.rd : Int), .int .i64 (((wtsOf T s).length : Nat) : Int)]) ∧ ∃ Z', Dn w0 c T w Z s w' Z' (dispM T s) ∧ Z'.nr = (dispM T s).d := by
  have hrd := hW.hol hv
  have hrdi : (s.rd : Int) = ((s.d + 1 : Nat) : Int) := by omega
  have hopn : ∀ n, Opn T s n → n ≤ (s.d : Int) := fun n hn => ((hW.op).1 hn).1.2
  have hwt : ¬ s.wt (s.rd : Int) := fun x => by have := hopn _ ((hW.wait _).1 x).1; omega
  have hline : (s.rd : Int) ∉ s.line := fun x => by have := hopn _ (hW.line _ x).1; omega
  have hT := hW.fdl
  have hok : okT (s.rd : Int) (wsAt T s.rd) := hW.txn (by omega) (by omega)
  have hfbl : Z.z.fb < w.heap.size := h.fe.m.lt
  obtain ⟨B, hB⟩ : ∃ B, Z.hw = .slice (some ⟨B, 0, none⟩) (wsAt T s.rd).length (wsAt T s.rd).length := h.heldB hv hrd
  obtain ⟨K, hK⟩ : ∃ K, (wsAt T s.rd).length = K := ⟨_, rfl⟩
  obtain ⟨N, hN⟩ : ∃ N : Int, (s.rd : Int) = N := ⟨_, rfl⟩
  obtain ⟨ma, hma⟩ : ∃ ma : Int, s.ma = ma := ⟨_, rfl⟩
  have HRg : Hid (∀ (Q : Exit → Act → World → Prop) (a0 : Act) (id : Nat), a0.tmps.size = 66 → env a0 0 = .pointer (some ⟨Z.z.kd, 0, none⟩) →
      (∀ x w', (Dn w0 c T w Z s w' (Z1D Z N B) (s1D s) ∧ ∀ b, w.heap.size ≤ b → MaM.off w0 w' c T (Z1D Z N B) (s1D s) b) → w.heap.size ≤ x → w'.heap[x]? = some (.cells #[.int .i64 0, .slice none 0 0] 59 (0, 0)) → Q .normal (puts a0 (Kf.pairs Z.z.kd Z.z.mb Z.z.fb Z.z.gb B K ma N x)) ((w'.setCell ⟨x, 0, none⟩ (.int .i64 N)).setCell ⟨x, 1, none⟩ (.slice (some ⟨B, 0, none⟩) K K))) → (Code.region id Kf.ops true).wp Tryz.prog Q a0 w) := fun Q a0 id e1 e2 e3 => by
    refine Kf.reg (J0 := fun W => Fr [] w W) (J1 := fun W => Dn w0 c T w Z s W (Z1D Z N B) (s1D s) ∧ ∀ b, w.heap.size ≤ b → MaM.off w0 W c T (Z1D Z N B) (s1D s) b) e1 e2 (fun W W' hD hf => hD.then hf) (fun W W' hD hf => ⟨hD.1.trans (hD.1.m.dn hf), fun b hb => hD.1.m.otherO hf (by simp) (hD.2 b hb)⟩) (Fr.refl _ _) (fun W hD => ⟨(h.quiet hD).kdc.1, (h.quiet hD).mc rfl, (h.quiet hD).mc rfl⟩) (fun W hD => ?_) (fun W hD => ?_) e3
    · rw [← hma]
      exact gg_mark (h.quiet hD).ga
    · rw [← hma]
      refine ((h.quiet hD).disF hnr hv hrd hwt hline hnear).mono ?_
      rintro e W' ⟨B', hB', rfl, _, hD', hf, hoff⟩
      have eB : B' = B := by rw [hB] at hB'; cases hB'; rfl
      subst eB
      rw [hN] at hD' hoff hK
      refine ⟨by rw [hN, hK], ⟨(h.dn hD).trans hD', fun b hb => ?_⟩, hf.size, fun x o hx ho => ?_⟩
      · by_cases hbl : b < W.heap.size
        · exact hD'.off hbl (h.otherO hD (by simp) (h.offNew hb))
        · exact hoff b (by omega)
      · exact hf.keep ho (by simp; omega)
  have hrowB : ∀ W, Dn w0 c T w Z s W (Z1D Z N B) (s1D s) → W.heap[B]? = some (.cells (wtsC (wsAt T s.rd)).toArray 56 (0, 0)) := fun W hD => by
    have h2 := (hD.m.re (s.rd : Int) (by omega) (by show (s.rd : Int) ≤ ((Z.nr + 1 : Nat) : Int); omega)).1
    have e : (Z1D Z N B).kb (s.rd : Int) = B := by show kbU Z.kb N B (s.rd : Int) = B; rw [hN, kbU_same]
    rw [e] at h2
    exact h2
  have hroom : s.line.length < c.w.toNat := by
    have := near_few (l := s.line ++ [(s.rd : Int)]) (a := s.ma) (q := c.w) (by
      rw [List.nodup_append]
      refine ⟨hW.nd1, by simp, fun a ha b hb e => ?_⟩
      rw [List.mem_singleton.1 hb] at e
      exact hline (e ▸ ha)) (fun x hx => by
      rcases List.mem_append.1 hx with hx | hx
      · exact hW.near (hW.line x hx).1
      · rw [List.mem_singleton.1 hx]
        refine ⟨?_, hnear⟩
        apply Classical.byContradiction
        intro h5
        have := hW.enl _ ((hW.en (s.rd : Int)).2 ⟨by omega, Or.inl (by omega)⟩)
        omega)
    rw [List.length_append] at this
    simp only [List.length_cons, List.length_nil] at this
    omega
  obtain ⟨xs, hxs⟩ : ∃ xs, wtsOf T s = xs := ⟨_, rfl⟩
  have HC2 : Hid (∀ W x, Dn w0 c T w Z s W (Z1D Z N B) (s1D s) → MaM.off w0 W c T (Z1D Z N B) (s1D s) x → Xb W x N B K → Calls Tryz.prog 257 #[.pointer (some ⟨Z.z.tb, 0, none⟩), .agg #[.int .i64 N, .slice (some ⟨B, 0, none⟩) K K]] W fun e w' => e = .returned (.tuple #[.int .i64 ((xs.length : Nat) : Int), .int .i64 0]) ∧ w'.cell? ⟨Z.z.kd, 0, none⟩ = some (.pointer (some ⟨Z.z.mb, 0, none⟩)) ∧ w'.cell? ⟨Z.z.mb, 6, none⟩ = some (.pointer (some ⟨Z.z.tb, 0, none⟩)) ∧ w'.cell? ⟨x, 0, none⟩ = some (.int .i64 N) ∧ w'.cell? ⟨x, 1, none⟩ = some (.slice (some ⟨B, 0, none⟩) K K) ∧ w'.cell? ⟨Z.z.mb, 7, none⟩ = some (.map (some Z.z.wb)) ∧ ∃ Z2, Dn w0 c T w Z s w' Z2 { s1D s with d := s.d + 1, k := s.k + 1 } ∧ Z2.nr = Z.nr + 1 ∧ Z2.kb = kbU Z.kb N B ∧ Z2.nw = Z.nw ∧ MaM.off w0 w' c T Z2 { s1D s with d := s.d + 1, k := s.k + 1 } x ∧ Xb w' x N B K) := fun W x hD ho hx => by
    have hde := hD.m.de
    have hr := hrowB W hD
    have hne : 0 < (wsAt T s.rd).length → ∀ a, some (⟨B, 0, none⟩ : Addr) = some a → a.block ∉ (Z1D Z N B).B := fun _ a e hm => by
      cases e
      have h1 : (mP w0 c T (Z1D Z N B) (s1D s) .de).O W B := hm
      have h2 : (mP w0 c T (Z1D Z N B) (s1D s) .re).O W B := ⟨(s.rd : Int), by omega, by show (s.rd : Int) ≤ ((Z.nr + 1 : Nat) : Int); omega, by show B = kbU Z.kb N B (s.rd : Int); rw [hN, kbU_same]⟩
      have := hD.m.m.ap .de .re B h1 h2
      cases this
    refine Calls.mono (tl_add N (some ⟨B, 0, none⟩) K K (wsAt T s.rd) W hde (WRs.of_ok hok hr) hK.symm (by rw [← hN]; exact hok) (fun p hp => ?_) (by have := hD.m.few.1; have : (Z1D Z N B).nd ≤ 65 * s.k := this; omega) hne) ?_
    · have := (lgT_mem T _).1 hp
      have : p.1 ≤ (s.d : Int) := this.1.2
      omega
    · rintro e w' ⟨ys, B', rfl, hA, hTl, hnew, hf⟩
      have eL : lgT T (s1D s).d ++ [(N, keysW (wsAt T s.rd))] = lgT T (s.d + 1) := by rw [lgT_succ, ← hrdi, hN]; rfl
      rw [eL] at hTl
      have ey : ys = xs := by
        rw [← hxs]
        exact (adx_eq hA).symm
      subst ey
      have hD2 := hD.m.setDe (k := s.k + 1) hf (fun b hb _ => hb) hTl hnew (by have : (Z1D Z N B).nd ≤ 65 * s.k := hD.m.few.1; omega) (Nat.le_succ _) (by show s.d + 1 ≤ Z.nr + 1; omega)
      have hDD := hD.trans hD2
      have hx' := hD2.keep hx ho
      exact ⟨rfl, by have := hDD.m.kdc.1; rw [hDD.z] at this; exact this, hDD.mc rfl, by rw [cell_of_row _ _ _ _ _ _ hx']; rfl, by rw [cell_of_row _ _ _ _ _ _ hx']; rfl, hDD.mc rfl, _, hDD, rfl, rfl, rfl, hD2.off (lt_of_block hx) ho, hx'⟩
  have HC3 : Hid (∀ W3 Z2 x, Dn w0 c T w Z s W3 Z2 { s1D s with d := s.d + 1, k := s.k + 1 } → Z2.nr = Z.nr + 1 → Z2.kb = kbU Z.kb N B → Z2.nw = Z.nw → MaM.off w0 W3 c T Z2 { s1D s with d := s.d + 1, k := s.k + 1 } x → Xb W3 x N B K → ∃ w4, (Instr.mapUpdate 67 (.map (some Z.z.wb)) (.int .i64 N) (.agg #[.int .i64 N, .slice (some ⟨B, 0, none⟩) K K])).run Tryz.prog W3 = .ok () w4 ∧ ∀ W5, Fr [] w4 W5 → W5.cell? ⟨Z.z.kd, 0, none⟩ = some (.pointer (some ⟨Z.z.mb, 0, none⟩)) ∧ W5.cell? ⟨Z.z.mb, 7, none⟩ = some (.map (some Z.z.wb)) ∧ Xb W5 x N B K ∧ (xs ≠ [] → ∃ Z', Dn w0 c T w Z s W5 Z' (dispM T s) ∧ Z'.nr = (dispM T s).d) ∧ (xs = [] → Calls Tryz.prog 258 #[.pointer (some ⟨Z.z.mb, 0, none⟩), .int .i64 N] W5 fun e w' => (∃ v, e = .returned v) ∧ w'.cell? ⟨Z.z.kd, 0, none⟩ = some (.pointer (some ⟨Z.z.mb, 0, none⟩)) ∧ w'.cell? ⟨x, 0, none⟩ = some (.int .i64 N) ∧ ∃ Z', Dn w0 c T w Z s w' Z' (dispM T s) ∧ Z'.nr = (dispM T s).d)) := fun W3 Z2 x hD e1 e2 e3 ho hx => by
    have hwa := hD.m.wa
    have hnw := hD.m.few.2.1
    have hin : i64 N := .of ⟨by rw [← hN]; exact hok.1, by rw [← hN]; exact hok.2.1⟩
    obtain ⟨w4, r1, r2, r3⟩ := hwa.store N (some (N, B, K)) hin (by show Z2.nw < maxLen; have : Z2.nw ≤ s.k + 1 := hnw; unfold maxLen; omega)
    have ekb : Z2.kb N = B := by rw [e2, kbU_same]
    have eK : (wsAt T N).length = K := by rw [← hK, hN]
    have ewt : updF (wtF T Z2.kb s.wt) N (some (some (N, B, K))) = wtF T Z2.kb (fun m => s.wt m ∨ m = N) := by
      rw [← wtF_add, ekb, eK]
    have r2' : MapG kTx w4 Z2.z.wb (Z2.nw + 1) (wtF T Z2.kb (fun m => s.wt m ∨ m = N)) := by rw [← ewt]; exact r2
    have hwbl : w4.heap.size ≥ W3.heap.size := r3.size
    have hD3 := hD.m.setWa (wt := fun m => s.wt m ∨ m = N) (k := s.k + 1) r3 r2' (by have : Z2.nw ≤ s.k := by rw [e3]; exact h.few.2.1
                                                                                     omega) (Nat.le_refl _)
    have hx4 := hD3.keep hx ho
    have ho4 := hD3.off (lt_of_block hx) ho
    refine ⟨w4, by have := hD.z; rw [this] at r1; exact r1, fun W5 hf => ?_⟩
    have hD5 := (hD.trans hD3).trans (hD3.m.dn hf)
    have hx5 : Xb W5 x N B K := hf.keep hx4 (by simp)
    have ho5 := hD3.m.otherO hf (by simp) ho4
    refine ⟨by have := hD5.m.kdc.1; rw [hD5.z] at this; exact this, hD5.mc rfl, hx5, fun hne => ?_, fun hem => ?_⟩
    · have es : dispM T s = { s with hv := false, d := s.d + 1, wt := fun m => s.wt m ∨ m = N, k := s.k + 1 } := by
        unfold dispM
        rw [hxs, if_neg hne, if_neg hne, hN]
      rw [es]
      exact ⟨_, hD5, by show Z2.nr = s.d + 1; omega⟩
    · have hfree := mfree_any hD5.m (n := N) hin (Or.inr rfl) hroom
      have em : Z2.z.mb = Z.z.mb := by rw [hD.z]
      rw [← em]
      refine hfree.mono ?_
      rintro e w6 ⟨hv6, p', hD6⟩
      have hD7 := hD5.trans hD6
      refine ⟨hv6, by rw [em]; have := hD7.m.kdc.1; rw [hD7.z] at this; exact this, by rw [cell_of_row _ _ _ _ _ _ (hD6.keep hx5 ho5)]; rfl, ?_⟩
      have es : dispM T s = { s with hv := false, d := s.d + 1, line := s.line ++ [N], wt := fun m => (s.wt m ∨ m = N) ∧ m ≠ N, k := s.k + 1 } := by
        unfold dispM
        rw [hxs, if_pos hem, if_pos hem, hN]
        congr 1
        funext m
        apply propext
        constructor
        · intro a
          exact ⟨Or.inl a, fun e => hwt (by rw [hN, ← e]; exact a)⟩
        · rintro ⟨a | a, b⟩
          · exact a
          · exact absurd a b
      rw [es]
      exact ⟨_, hD5.trans hD6, by show Z2.nr = s.d + 1; omega⟩
  have HX : Hid (∀ x w', (Dn w0 c T w Z s w' (Z1D Z N B) (s1D s) ∧ ∀ b, w.heap.size ≤ b → MaM.off w0 w' c T (Z1D Z N B) (s1D s) b) → w.heap.size ≤ x → w'.heap[x]? = some (.cells #[.int .i64 0, .slice none 0 0] 59 (0, 0)) → ∀ W, Fr [] ((w'.setCell ⟨x, 0, none⟩ (.int .i64 N)).setCell ⟨x, 1, none⟩ (.slice (some ⟨B, 0, none⟩) K K)) W → Dn w0 c T w Z s W (Z1D Z N B) (s1D s) ∧ MaM.off w0 W c T (Z1D Z N B) (s1D s) x ∧ Xb W x N B K ∧ W.cell? ⟨Z.z.kd, 0, none⟩ = some (.pointer (some ⟨Z.z.mb, 0, none⟩)) ∧ W.cell? ⟨Z.z.mb, 6, none⟩ = some (.pointer (some ⟨Z.z.tb, 0, none⟩))) := fun x w' hD hx hb W hf => by
    have f1 : Fr [x] w' ((w'.setCell ⟨x, 0, none⟩ (.int .i64 N)).setCell ⟨x, 1, none⟩ (.slice (some ⟨B, 0, none⟩) K K)) := (Fr.set _ _ _ (by simp)).then (Fr.set _ _ _ (by simp))
    have hox := hD.2 x hx
    have hD2 := hD.1.finS h (Fr.refl _ _) (S := [x]) (fun b hb' => by rw [List.mem_singleton.1 hb']; exact ⟨hx, hox⟩) f1
    have ho2 := hD.1.m.otherO f1 (fun b hb' => by rw [List.mem_singleton.1 hb']; exact ⟨by have := h.fr.size; omega, hox⟩) hox
    have hb2 : Xb ((w'.setCell ⟨x, 0, none⟩ (.int .i64 N)).setCell ⟨x, 1, none⟩ (.slice (some ⟨B, 0, none⟩) K K)) x N B K := row_putE _ (row_putE _ hb)
    have hD3 := hD2.trans (hD2.m.dn hf)
    exact ⟨hD3, hD2.m.otherO hf (by simp) ho2, hf.keep hb2 (by simp), by have := hD3.m.kdc.1; rw [hD3.z] at this; exact this, hD3.mc rfl⟩
  rw [hN, hxs]
  clear h hnr hW hv hnear hk hrd hrdi hopn hwt hline hT hok hB hK hN hma hrowB hroom hxs hfbl
  go_enter Tryz.func254, Tryz.ntmps254
  go_upto_region 1 with fail
  refine HRg.out _ _ _ rfl rfl ?_
  clear HRg
  rintro x w' hD hx hb
  obtain ⟨w2, HW2⟩ : ∃ w2, Hid ((w'.setCell ⟨x, 0, none⟩ (.int .i64 N)).setCell ⟨x, 1, none⟩ (.slice (some ⟨B, 0, none⟩) K K) = w2) := ⟨_, rfl⟩
  have hX := HX.out x w' hD hx hb
  rw [HW2.out] at hX ⊢
  have HX2 : Hid (∀ W, Fr [] w2 W → _) := hX
  clear hX HX HW2 hD hx hb
  simp only [Kf.pairs, puts, Act.put]
  rename_i KK hKK
  show KK _ _
  refine hKK _ _ ?_
  obtain ⟨hD2, ho2, hx2, y0, y6⟩ := HX2.out w2 (Fr.refl _ _)
  have x0 : w2.cell? ⟨x, 0, none⟩ = some (.int .i64 N) := by rw [cell_of_row _ _ _ _ _ _ hx2]; rfl
  have x1 : w2.cell? ⟨x, 1, none⟩ = some (.slice (some ⟨B, 0, none⟩) K K) := by rw [cell_of_row _ _ _ _ _ _ hx2]; rfl
  obtain ⟨hD3, ho3, hx3, _, _⟩ := HX2.out w2.drew (Fr.drew _ _)
  have HCA : Hid (Calls _ _ _ _ _) := HC2.out w2.drew x hD3 ho3 hx3
  clear hD2 ho2 hx2 hD3 ho3 hx3 HX2 HC2
  go_upto_region 2 with fail
  go_region_held3 (fun W => W.cell? ⟨Z.z.kd, 0, none⟩ = some (.pointer (some ⟨Z.z.mb, 0, none⟩)) ∧ W.cell? ⟨Z.z.mb, 6, none⟩ = some (.pointer (some ⟨Z.z.tb, 0, none⟩)) ∧ W.cell? ⟨x, 0, none⟩ = some (.int .i64 N) ∧ W.cell? ⟨x, 1, none⟩ = some (.slice (some ⟨B, 0, none⟩) K K)) (go_keep)
    (first
      | (with_reducible refine Calls.mono HCA.out ?_; rintro e w3 ⟨rfl, a0, a6, ax0, ax1, a7, Z2, g1, g2, g3, g4, g5, g6⟩))
  have HD3 : Hid (Dn w0 c T w Z s w3.drew Z2 { s1D s with d := s.d + 1, k := s.k + 1 }) := g1.trans (g1.m.dn (Fr.drew _ _))
  have ho3 := g1.m.otherO (Fr.drew [] w3) (by simp) g5
  have hx3 : Xb w3.drew x N B K := (Fr.drew [] w3).keep g6 (by simp)
  obtain ⟨w4, hmu, hN4⟩ := HC3.out w3.drew Z2 x HD3.out g2 g3 g4 ho3 hx3
  have HN4 : Hid (∀ W5, Fr [] w4 W5 → _) := hN4
  obtain ⟨b0, b7, bx, _, _⟩ := hN4 w4 (Fr.refl _ _)
  have bx0 : w4.cell? ⟨x, 0, none⟩ = some (.int .i64 N) := by rw [cell_of_row _ _ _ _ _ _ bx]; rfl
  have bx1 : w4.cell? ⟨x, 1, none⟩ = some (.slice (some ⟨B, 0, none⟩) K K) := by rw [cell_of_row _ _ _ _ _ _ bx]; rfl
  clear g1 g2 g3 g4 g5 g6 HD3 ho3 hx3 hN4 bx HC3 HCA y0 y6 x0 x1
  go_upto_region 3 with fail
  go_region_held3 (fun W => W.cell? ⟨Z.z.kd, 0, none⟩ = some (.pointer (some ⟨Z.z.mb, 0, none⟩)) ∧ W.cell? ⟨Z.z.mb, 7, none⟩ = some (.map (some Z.z.wb)) ∧ W.cell? ⟨x, 0, none⟩ = some (.int .i64 N) ∧ W.cell? ⟨x, 1, none⟩ = some (.slice (some ⟨B, 0, none⟩) K K)) (go_keep) (fail)
  clear hmu a0 a6 ax0 ax1 a7
  by_cases hxs : xs = []
  · subst hxs
    simp only [List.length_nil]
    have HXS : Hid (([] : List Int) = []) := rfl
    obtain ⟨_, _, _, _, hC⟩ := HN4.out w4.drew (Fr.drew _ _)
    have HC : Hid (Calls _ _ _ _ _) := hC HXS.out
    clear HN4 hC b7
    go_wp2_with fail
    go_region_held3 (fun W => W.cell? ⟨Z.z.kd, 0, none⟩ = some (.pointer (some ⟨Z.z.mb, 0, none⟩)) ∧ W.cell? ⟨x, 0, none⟩ = some (.int .i64 N)) (go_keep)
      (first
        | (with_reducible refine Calls.mono HC.out ?_; rintro e w5 ⟨⟨vv, rfl⟩, c50, c5x, hfin⟩))
    have HFin : Hid (∃ Z', _) := hfin
    clear hfin
    go_wp2_with fail
    refine bodyPost_ret (results_tt20 rfl _ _ _) rfl ?_
    exact ⟨rfl, HFin.out⟩
  · obtain ⟨_, _, _, hC, _⟩ := HN4.out w4 (Fr.refl _ _)
    have HFin : Hid (∃ Z', _) := hC hxs
    have hL0 : 0 < xs.length := List.length_pos_iff.2 hxs
    obtain ⟨L, hL⟩ : ∃ L, xs.length = L := ⟨_, rfl⟩
    have HL : Hid (xs.length = L) := hL
    rw [hL] at hL0 ⊢
    clear HN4 hC hxs hL b7 b0
    go_wp2_with fail
    refine bodyPost_ret (results_tt20 rfl _ _ _) rfl ?_
    exact ⟨by rw [HL.out]; rfl, HFin.out⟩
end
end Go.Proofs.YtakbodlicfmkjaaGreat
