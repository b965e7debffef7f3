/- Contracts and plain lemmas of this claim. -/
import Derived.Test.YtembflnhhfliaaaGreatDoorGp43
import Derived.Test.YtembflnhhfliaaaGreatDoorGp30
set_option linter.unusedSimpArgs false
set_option linter.unusedVariables false
set_option maxHeartbeats 8000000
set_option maxRecDepth 100000
namespace Go.Proofs.YtembflnhhfliaaaGreatDoor
open BigFrame Go.ChangeShapes Go.WideShapes Go.ChangeAt Go.RowKit Go.Lib Go.Maps
theorem WT.quiet {w0 w w' : World} {v : Value} {us : List Nat} (h : WT w0 w v us) (hf : Fr [] w w') : WT w0 w' v us := WT.of ⟨h.it.wn.keep hf (by simp), h.fr.then hf, h.it.mv⟩
theorem WT.app {w0 w w1 : World} {v v1 : Value} {us ys : List Nat} {n : Nat} (h : WT w0 w v us) (hn : n = ys.length) (ho : w1.ownsRow 0 5 1 v1 n (bts ys)) (hg : w.grownBy w1 v.ownBlock) (hm : Moved w.heap.size v v1) : WT w0 w1 v1 ys := by
  subst hn
  exact h.then ⟨ho, Fr.grown hg (by intro k hk _; rw [hk]; simp), hm⟩
theorem WT.row {w0 w : World} {ao : Option Addr} {n cap : Nat} {us : List Nat} (h : WT w0 w (.slice ao n cap) us) : n = us.length /\ w.ownsRow w0.heap.size 5 1 (.slice ao n cap) n (bts us) := by
  have e : n = us.length := by
    obtain ⟨a, c, e⟩ := h.it.wn.slice
    cases e
    rfl
  subst e
  refine ⟨rfl, h.it.wn.1, ?_⟩
  rcases h.it.wn.2 with h0 | ⟨g, cp, cur, hv, _, hr⟩
  · exact Or.inl h0
  · cases hv
    refine Or.inr ⟨g, cap, cur, rfl, ?_, hr⟩
    rcases h.it.mv with q | ⟨k, q1, q2⟩
    · simp [Value.ownBlock] at q
    · simp [Value.ownBlock] at q1
      omega
theorem zkq (g : Nat) (ao : Option Addr) (L cap : Nat) (xs : List Nat) (w : World) (hA : BArg w ao L cap xs) (hg : g < 2^64) (hL : L < 2^31) :
    Calls Tryz.prog 82 #[.int .u64 (g : Int), .slice ao L cap] w fun e w' => ∃ zo zc, e = .returned (.slice zo (20 + L) zc) /\ WT w w' (.slice zo (20 + L) zc) (hdB g xs ++ xs) := by
  have HA : Hid (∀ W, Fr [] w W -> BArg W ao L cap xs) := fun W hf => hA.keep hf
  have HL : Hid (L = xs.length) := hA.len
  have H1 : Hid (Calls _ _ _ _ _) := zcz none 0 0 [] 1464880980 4 w (zbk w) (by omega) (by omega) (by intro _; omega) (by omega) (by simp)
  clear hA
  go_enter Tryz.func82, Tryz.ntmps82
  go_wp2_with fail
  refine Calls.mono H1.out ?_
  rintro e w1 ⟨b1, n1, k1, rfl, hT1⟩
  have HB1 : Hid (WT w w1 (.slice b1 n1 k1) (leB 4 1464880980)) := WT.of (by simpa using hT1)
  have H2 : Hid (Calls _ _ _ _ _) := zcz none 0 0 [] g 8 w1 (zbk w1) (by omega) (by omega) (by intro h; omega) hg (by simp)
  clear H1 hT1
  go_wp2_with fail
  refine Calls.mono H2.out ?_
  rintro e w2 ⟨b2, n2, k2, rfl, hT2⟩
  have HB2 : Hid (WT w1 w2 (.slice b2 n2 k2) (leB 8 g)) := WT.of (by simpa using hT2)
  have H3 : Hid (Calls _ _ _ _ _) := zcz b2 n2 k2 (leB 8 g) L 4 w2 HB2.out.it.wn (by omega) (by omega) (by intro _; omega) (by omega) (by rw [zax]; omega)
  have hwL : IntKind.u64.wrap (L : Int) = (L : Int) := zeh _ (by omega) (by omega)
  clear H2 hT2
  go_wp2_with fail
  refine Calls.mono H3.out ?_
  rintro e w3 ⟨b3, n3, k3, rfl, hT3⟩
  have HB3 : Hid (WT w1 w3 (.slice b3 n3 k3) (midB g L)) := HB2.out.then hT3
  have HN3 : Hid (n3 = 12) := HB3.out.row.1.trans (zcw g L)
  have HA3 : Hid (BArg w3 b3 n3 k3 (midB g L)) := zbr (zby HB3.out.row.2 (Nat.zero_le _)) (zqd _ _) (by have := HN3.out; omega)
  obtain ⟨C, HC⟩ : ∃ C, Hid (more 0 (midB g L) = C) := ⟨_, rfl⟩
  obtain ⟨M, HM⟩ : ∃ M, Hid (more C xs = M) := ⟨_, rfl⟩
  have hC32 : C < 4294967296 := by rw [<- HC.out]; exact zdk _ _
  have hM32 : M < 4294967296 := by rw [<- HM.out]; exact zdk _ _
  have H4 : Hid (Calls _ _ _ _ _) := zko C b3 n3 k3 (midB g L) w3 HA3.out HC.out
  clear H3 hT3 HB2
  go_wp2_with fail
  refine Calls.mono H4.out ?_
  rintro e w4 ⟨rfl, hF4⟩
  have HF14 : Hid (Fr [] w1 w4 /\ Fr [] w3 w4) := ⟨HB3.out.fr.then hF4, hF4⟩
  have H5 : Hid (Calls _ _ _ _ _) := zfn C M ao L cap xs w4 hC32 (HA.out _ (HB1.out.fr.then HF14.out.1)) HM.out
  clear H4 hF4
  go_wp2_with fail
  refine Calls.mono H5.out ?_
  rintro e w5 ⟨rfl, hF5⟩
  have HF15 : Hid (Fr [] w1 w5 /\ Fr [] w3 w5) := ⟨HF14.out.1.then hF5, HF14.out.2.then hF5⟩
  have HB15 : Hid (WT w w5 (.slice b1 n1 k1) (leB 4 1464880980)) := HB1.out.quiet HF15.out.1
  have HA5 : Hid (BArg w5 b3 n3 k3 (midB g L)) := HA3.out.keep HF15.out.2
  have HN1 : Hid (n1 = 4) := HB15.out.row.1.trans (zax 4 _)
  have HO5 : Hid (w5.ownsRow 0 5 1 (.slice b1 n1 k1) n1 (bts (leB 4 1464880980))) := zby HB15.out.row.2 (Nat.zero_le _)
  clear H5 hF5 HF14 HA3 HB1
  go_wp2_with (at_builtin; refine zay w5 rfl (.tmp 31) (.tmp 32) rfl (.slice b1 n1 k1) n1 (leB 4 1464880980) rfl HO5.out b3 n3 k3 (midB g L) rfl HA5.out (by have := HN1.out; have := HN3.out; omega) ?_)
  intro b6 n6 k6 w6 hn6 hO6 hg6 hm6
  have HB6 : Hid (WT w w6 (.slice b6 n6 k6) (leB 4 1464880980 ++ midB g L)) := HB15.out.app (by rw [List.length_append, zax, zcw, hn6, HN1.out, HN3.out]) hO6 hg6 hm6
  have H7 : Hid (Calls _ _ _ _ _) := zcz b6 n6 k6 _ M 4 w6 HB6.out.it.wn (by omega) (by omega) (by intro _; omega) (by omega) (by rw [List.length_append, zax, zcw]; omega)
  have hwM : IntKind.u64.wrap (M : Int) = (M : Int) := zeh _ (by omega) (by omega)
  clear hn6 hO6 hg6 hm6 HB15 HO5 HA5
  go_wp2_with fail
  refine Calls.mono H7.out ?_
  rintro e w7 ⟨b7, n7, k7, rfl, hT7⟩
  have HB7 : Hid (WT w w7 (.slice b7 n7 k7) (hdB g xs)) := by
    have h9 := HB6.out.then hT7
    have e9 : hdB g xs = leB 4 1464880980 ++ midB g L ++ leB 4 M := by
      unfold hdB sumH
      rw [<- HL.out, HC.out, HM.out, List.append_assoc]
    show WT _ _ _ _
    rw [e9]
    exact h9
  have HN7 : Hid (n7 = 20) := HB7.out.row.1.trans (zbt _ _)
  have HO7 : Hid (w7.ownsRow 0 5 1 (.slice b7 n7 k7) n7 (bts (hdB g xs))) := zby HB7.out.row.2 (Nat.zero_le _)
  have HA7 : Hid (BArg w7 ao L cap xs) := HA.out _ HB7.out.fr
  clear H7 hT7 HB6
  go_wp2_with (at_builtin; refine zay w7 rfl (.tmp 41) (.tmp 42) rfl (.slice b7 n7 k7) n7 (hdB g xs) rfl HO7.out ao L cap xs rfl HA7.out (by have := HN7.out; omega) ?_)
  intro b8 n8 k8 w8 hn8 hO8 hg8 hm8
  have HB8 : Hid (WT w w8 (.slice b8 n8 k8) (hdB g xs ++ xs)) := HB7.out.app (by rw [List.length_append, zbt, hn8, HN7.out, HL.out]) hO8 hg8 hm8
  have HN8 : Hid (n8 = 20 + L) := by show _ = _; rw [hn8, HN7.out]
  clear hn8 hO8 hg8 hm8 HB7 HO7 HA7
  go_wp2
  go_ret
  exact ⟨b8, k8, by rw [HN8.out]; rfl, by rw [<- HN8.out]; exact HB8.out⟩
structure ZaM (w : World) (tb d ab ac slot : Nat) (zs : List Nat) (k : Nat) : Prop where
  box : w.heap[tb]? = some (.cells #[.pointer (some ⟨d, 0, none⟩), .int .i64 (slot : Int), .slice (some ⟨ab, 0, none⟩) zs.length ac, .int .i64 (k : Int)] 99 (0, 0))
  kle : k <= nB zs.length + 1
  byt : w.ownsRow 0 5 1 (.slice (some ⟨ab, 0, none⟩) zs.length ac) zs.length (bts zs)
  low : ∀ x ∈ zs, x < 256
  few : zs.length <= 16777216
  sl : slot <= 1
section
variable {w w' : World} {tb d ab ac slot : Nat} {zs : List Nat} {k : Nat}
theorem ZaM.keep {S : List Nat} (h : ZaM w tb d ab ac slot zs k) (hf : Fr S w w') (h1 : tb ∉ S) (h3 : ab ∉ S) : ZaM w' tb d ab ac slot zs k :=
  ⟨hf.keep h.box h1, h.kle, zab h.byt hf (fun q hq => by simp [Value.ownBlock] at hq; subst hq; exact h3), h.low, h.few, h.sl⟩
theorem ZaM.blocks (h : ZaM w tb d ab ac slot zs k) : tb < w.heap.size /\ ab < w.heap.size /\ tb ≠ ab := by
  obtain ⟨ca, ha⟩ := zaf h.byt ab rfl
  refine ⟨lt_of_block h.box, lt_of_block ha, ?_⟩
  rintro rfl; rw [h.box] at ha; simp at ha
theorem ZaM.c0 (h : ZaM w tb d ab ac slot zs k) : w.cell? ⟨tb, 0, none⟩ = some (.pointer (some ⟨d, 0, none⟩)) := by rw [cell_of_row _ _ _ _ _ _ h.box]; rfl
theorem ZaM.c1 (h : ZaM w tb d ab ac slot zs k) : w.cell? ⟨tb, 1, none⟩ = some (.int .i64 (slot : Int)) := by rw [cell_of_row _ _ _ _ _ _ h.box]; rfl
theorem ZaM.c2 (h : ZaM w tb d ab ac slot zs k) : w.cell? ⟨tb, 2, none⟩ = some (.slice (some ⟨ab, 0, none⟩) zs.length ac) := by rw [cell_of_row _ _ _ _ _ _ h.box]; rfl
theorem ZaM.c3 (h : ZaM w tb d ab ac slot zs k) : w.cell? ⟨tb, 3, none⟩ = some (.int .i64 (k : Int)) := by rw [cell_of_row _ _ _ _ _ _ h.box]; rfl
theorem ZaM.f3 (h : ZaM w tb d ab ac slot zs k) : w.frozen? ⟨tb, 3, none⟩ = false := by simp [World.frozen?, h.box]
theorem ZaM.step (h : ZaM w tb d ab ac slot zs k) (hk : k <= nB zs.length) : ZaM (w.setCell ⟨tb, 3, none⟩ (.int .i64 ((k : Int) + 1))) tb d ab ac slot zs (k + 1) /\ Fr [tb] w (w.setCell ⟨tb, 3, none⟩ (.int .i64 ((k : Int) + 1))) := by
  have hf : Fr [tb] w (w.setCell ⟨tb, 3, none⟩ (.int .i64 ((k : Int) + 1))) := Fr.set _ _ _ (by simp)
  obtain ⟨_, _, n2⟩ := h.blocks
  refine ⟨⟨?_, by omega, zab h.byt hf (fun q hq => by simp [Value.ownBlock] at hq; subst hq; simp; omega), h.low, h.few, h.sl⟩, hf⟩
  rw [zae _ h.box]
  rfl
theorem ZaM.chunk (h : ZaM w tb d ab ac slot zs k) (q : Nat) (hq : q < nB zs.length) : BArg w (some ⟨ab, 64 * q, none⟩) (min (64 * q + 64) zs.length - 64 * q) (ac - 64 * q) (chunk zs q) := by
  have hA : BArg w (some ⟨ab, 0, none⟩) zs.length ac zs := zbr h.byt h.low (by have := h.few; omega)
  have h1 := zig hq
  have h2 := hA.cut (64 * q) (min (64 * q + 64) zs.length) (by omega) (by omega)
  have h3 := hA.fits
  rw [show zav (some ⟨ab, 0, none⟩) ac (64 * q) = some ⟨ab, 64 * q, none⟩ from by unfold zav; rw [if_neg (by omega)]; simp [Addr.add_lit]] at h2
  exact h2
end
theorem zxe {w : World} {tb n c : Nat} {ao : Option Addr} (h : w.cell? ⟨tb, 2, none⟩ = some (.slice ao n c)) (hn : n <= 16777216) : Calls Tryz.prog 97 #[.pointer (some ⟨tb, 0, none⟩)] w fun e w' => e = .returned (.int .i64 ((nB n : Int) + 1)) /\ w = w' := by
  have hq : IntKind.i64.wrap (((n : Int) + 64 - 1).tdiv 64) = ((nB n : Nat) : Int) := by rw [IntKind.wrap_i64, Int.tdiv_eq_ediv_of_nonneg (by omega)]; unfold nB; omega
  have hb := zet hn
  obtain ⟨N, HN⟩ : ∃ N, Hid (nB n = N) := ⟨_, rfl⟩
  rw [HN.out] at hq hb ⊢
  rw [show (N : Int) + 1 = 1 + (N : Int) by omega]
  go_enter Tryz.func97, Tryz.ntmps97
  go_wp2
  go_ret
  exact ⟨rfl, rfl⟩
theorem zxf (w : World) : Calls Tryz.prog 31 #[.pointer none] w fun e w' => e = .returned (.int .i64 0) /\ w = w' := by
  go_enter Tryz.func31, Tryz.ntmps31
  go_wp2
  go_ret
  exact ⟨rfl, rfl⟩
theorem zxg (w : World) : Calls Tryz.prog 27 #[.pointer none] w fun e w' => e = .returned (.int .i64 2) /\ w = w' := by
  go_enter Tryz.func27, Tryz.ntmps27
  go_wp2
  go_ret
  exact ⟨rfl, rfl⟩
theorem zdf {w : World} {tb d ab ac slot : Nat} {zs : List Nat} {k n : Nat} (h : ZaM w tb d ab ac slot zs k) (hn : n = nB zs.length + 1 - k) : Calls Tryz.prog 31 #[.pointer (some ⟨tb, 0, none⟩)] w fun e w' => e = .returned (.int .i64 (n : Int)) /\ Fr [] w w' := by
  have c3 := h.c3
  have HA : Hid (∀ q, Calls Tryz.prog 97 #[.pointer (some ⟨tb, 0, none⟩)] (w.drewN q) fun e w' => e = .returned (.int .i64 ((nB zs.length : Int) + 1)) /\ w' = w.drewN q) := fun q => (zxe (h.keep (Fr.drewN [] w q) (by simp) (by simp)).c2 h.few).mono (fun _ _ ⟨a, b⟩ => ⟨a, b.symm⟩)
  have hk := h.kle
  have hb := zet h.few
  obtain ⟨N, HN⟩ : ∃ N, Hid (nB zs.length = N) := ⟨_, rfl⟩
  rw [HN.out] at HA hk hb hn
  have e1 : (N : Int) + 1 - (k : Int) = (n : Int) := by omega
  clear h hn
  go_enter Tryz.func31, Tryz.ntmps31
  go_wp2_with fail
  go_quiet ((go_at_call 97; exact Calls.quiet_of_same (HA.out _)))
  have HF : Hid (Fr [] w (w.drewN nq)) := Fr.drewN _ _ _
  go_wp2
  go_ret
  exact ⟨rfl, HF.out⟩
def ZtP (w0 w : World) (d tb ab ac slot : Nat) (S : List Nat) (zs : List Nat) (E : Int) (t' : Sk) (k' : Nat) (e : Ending) (w' : World) : Prop := e = .returned (.int .i64 E) /\ ∃ S', LR w0 w' d S' t' /\ ZaM w' tb d ab ac slot zs k' /\ (∀ q ∈ S', q ∈ S \/ w.heap.size <= q) /\ Fr (tb :: S) w w'
theorem zsp {w0 w : World} {d tb ab ac slot k : Nat} {S : List Nat} {t : Sk} {zs : List Nat} (h : LR w0 w d S t) (hs : ZaM w tb d ab ac slot zs k) (hk : k = nB zs.length + 1) :
    Calls Tryz.prog 27 #[.pointer (some ⟨tb, 0, none⟩)] w fun e w' => ZtP w0 w d tb ab ac slot S zs 9 t k e w' := by
  have HL : Hid (Calls _ _ _ _ _) := zdf (n := 0) hs (by omega)
  have HR : Hid (∀ W, Fr [] w W -> ZtP w0 w d tb ab ac slot S zs 9 t k (.returned (.int .i64 9)) W) := fun W hf => ⟨rfl, S, h.quiet hf, hs.keep hf (by simp) (by simp), fun q hq => Or.inl hq, hf.mono (by simp)⟩
  clear h hs hk
  go_enter Tryz.func27, Tryz.ntmps27
  go_wp2_with fail
  refine Calls.mono HL.out ?_
  rintro e w1 ⟨rfl, hF1⟩
  have HR1 : Hid (ZtP w0 w d tb ab ac slot S zs 9 t k (.returned (.int .i64 9)) w1) := HR.out w1 hF1
  clear HL HR hF1
  go_wp2
  go_ret
  exact HR1.out
theorem zok {w0 w : World} {d tb ab ac slot k : Nat} {S : List Nat} {t t' : Sk} {zs : List Nat} (h : LR w0 w d S t) (hs : ZaM w tb d ab ac slot zs k) (h1 : tb ∉ S) (h3 : ab ∉ S) (hnw : w0.heap.size <= tb) (hn : t.n < 2^40) (hk0 : k = 0) (hc : Cleared t (slot : Int) 0 t') :
    Calls Tryz.prog 27 #[.pointer (some ⟨tb, 0, none⟩)] w fun e w' => ZtP w0 w d tb ab ac slot S zs 0 t' (k + 1) e w' := by
  obtain ⟨n, hnn⟩ : ∃ n, n = nB zs.length + 1 - k := ⟨_, rfl⟩
  have HL : Hid (Calls _ _ _ _ _) := zdf hs hnn
  have hn0 : ((n : Int) == 0) = false := by simp; omega
  have hkb : k <= 262145 := by have := zet hs.few; have := hs.kle; omega
  have HK : Hid (k <= nB zs.length) := by show _ <= _; omega
  have HSm : Hid (∀ W, Fr [] w W -> ZaM W tb d ab ac slot zs k) := fun W hf => hs.keep hf (by simp) (by simp)
  have HLr : Hid (∀ W, Fr [] w W -> LR w0 W d S t) := fun W hf => h.quiet hf
  have HAp : Hid ((tb ∉ S /\ ab ∉ S) /\ w0.heap.size <= tb) := ⟨⟨h1, h3⟩, hnw⟩
  have HBl : Hid (tb < w.heap.size /\ ab < w.heap.size) := ⟨hs.blocks.1, hs.blocks.2.1⟩
  have hke : ((k : Int) == 0) = true := by simp; omega
  have HC : Hid (∀ W, Fr [] w W -> Calls Tryz.prog 22 #[.pointer (some ⟨d, 0, none⟩), .int .i64 (slot : Int)] W fun e w' => e = .returned (.int .i64 0) /\ ∃ S', LR w0 w' d S' t' /\ To S S' W w') := fun W hf => zoe (h.quiet hf) hn hc
  clear h hs h1 h3 hnn hk0 hc hnw hn
  go_enter Tryz.func27, Tryz.ntmps27
  go_wp2_with fail
  refine Calls.mono HL.out ?_
  rintro e w1 ⟨rfl, hF1⟩
  clear HL
  have hS1 := HSm.out w1 hF1
  have c3 := hS1.c3
  have hFd : Fr [] w w1.drew := hF1.then (Fr.drew [] w1)
  have hSd := HSm.out _ hFd
  have e0 := hS1.c0
  have e1 := hS1.c1
  have d0 := hSd.c0
  have d1 := hSd.c1
  have HCd : Hid (Calls Tryz.prog 22 #[.pointer (some ⟨d, 0, none⟩), .int .i64 (slot : Int)] w1.drew fun e w' => e = .returned (.int .i64 0) /\ ∃ S', LR w0 w' d S' t' /\ To S S' w1.drew w' /\ w'.cell? ⟨tb, 0, none⟩ = some (.pointer (some ⟨d, 0, none⟩)) /\ w'.cell? ⟨tb, 1, none⟩ = some (.int .i64 (slot : Int))) := (HC.out _ hFd).mono (fun e w' ⟨q1, S', q2, q3⟩ => by
    have h9 := hSd.keep q3.fr HAp.out.1.1 HAp.out.1.2
    exact ⟨q1, S', q2, q3, h9.c0, h9.c1⟩)
  have HFd : Hid (Fr [] w w1.drew) := hFd
  clear hS1 hSd hFd hF1 HC
  go_upto_region 7 with fail
  go_loud (go_region_held3 (fun W => W.cell? ⟨tb, 0, none⟩ = some (.pointer (some ⟨d, 0, none⟩)) /\ W.cell? ⟨tb, 1, none⟩ = some (.int .i64 (slot : Int))) (go_keep)
    (first
    | (go_at_call 22; with_reducible refine HCd.out.mono ?_; rintro e2 w2 ⟨rfl, S', hL, hT, l0, l1⟩)))
  have HS2 : Hid (ZaM w2 tb d ab ac slot zs k) := (HSm.out _ HFd.out).keep hT.fr HAp.out.1.1 HAp.out.1.2
  have HT2 : Hid (LR w0 w2 d S' t' /\ To S S' w w2) := ⟨hL, (To.quiet HFd.out).then hT⟩
  have c3' := HS2.out.c3
  have f3' := HS2.out.f3
  clear hL hT HCd HSm HLr
  have HR : Hid (ZtP w0 w d tb ab ac slot S zs 0 t' (k + 1) (.returned (.int .i64 0)) (w2.setCell ⟨tb, 3, none⟩ (.int .i64 ((k : Int) + 1)))) := by
    obtain ⟨q1, q2⟩ := HS2.out.step HK.out
    have hsS' : ∀ q ∈ [tb], q ∉ S' := fun q hq hm => by
      simp at hq
      subst hq
      rcases HT2.out.2.grew q hm with p | p
      · exact HAp.out.1.1 p
      · have := HBl.out.1; omega
    exact ⟨rfl, S', HT2.out.1.keepS q2 hsS' (fun q hq => by simp at hq; subst hq; exact HAp.out.2), q1, HT2.out.2.grew, (HT2.out.2.fr.mono (fun x hx _ => List.mem_cons_of_mem _ hx)).then (q2.mono (fun x hx _ => by simp at hx; subst hx; exact List.mem_cons_self))⟩
  go_wp2
  go_ret
  exact HR.out
theorem zol {w0 w : World} {d tb ab ac slot k : Nat} {S : List Nat} {t t' : Sk} {E : Int} {zs : List Nat} (h : LR w0 w d S t) (hs : ZaM w tb d ab ac slot zs k) (h1 : tb ∉ S) (h3 : ab ∉ S) (hnw : w0.heap.size <= tb) (hn : t.n < 2^40) (hk0 : k = 0) (hc : Cleared t (slot : Int) E t') (hne : E ≠ 0) :
    Calls Tryz.prog 27 #[.pointer (some ⟨tb, 0, none⟩)] w fun e w' => ZtP w0 w d tb ab ac slot S zs E t' k e w' := by
  obtain ⟨n, hnn⟩ : ∃ n, n = nB zs.length + 1 - k := ⟨_, rfl⟩
  have HL : Hid (Calls _ _ _ _ _) := zdf hs hnn
  have hn0 : ((n : Int) == 0) = false := by simp; omega
  have hkb : k <= 262145 := by have := zet hs.few; have := hs.kle; omega
  have HK : Hid (k <= nB zs.length) := by show _ <= _; omega
  have HSm : Hid (∀ W, Fr [] w W -> ZaM W tb d ab ac slot zs k) := fun W hf => hs.keep hf (by simp) (by simp)
  have HLr : Hid (∀ W, Fr [] w W -> LR w0 W d S t) := fun W hf => h.quiet hf
  have HAp : Hid ((tb ∉ S /\ ab ∉ S) /\ w0.heap.size <= tb) := ⟨⟨h1, h3⟩, hnw⟩
  have HBl : Hid (tb < w.heap.size /\ ab < w.heap.size) := ⟨hs.blocks.1, hs.blocks.2.1⟩
  have hke : ((k : Int) == 0) = true := by simp; omega
  have HC : Hid (∀ W, Fr [] w W -> Calls Tryz.prog 22 #[.pointer (some ⟨d, 0, none⟩), .int .i64 (slot : Int)] W fun e w' => e = .returned (.int .i64 E) /\ ∃ S', LR w0 w' d S' t' /\ To S S' W w') := fun W hf => zoe (h.quiet hf) hn hc
  clear h hs h1 h3 hnn hk0 hc hnw hn
  go_enter Tryz.func27, Tryz.ntmps27
  go_wp2_with fail
  refine Calls.mono HL.out ?_
  rintro e w1 ⟨rfl, hF1⟩
  clear HL
  have hS1 := HSm.out w1 hF1
  have c3 := hS1.c3
  have hFd : Fr [] w w1.drew := hF1.then (Fr.drew [] w1)
  have hSd := HSm.out _ hFd
  have e0 := hS1.c0
  have e1 := hS1.c1
  have d0 := hSd.c0
  have d1 := hSd.c1
  have HCd : Hid (Calls Tryz.prog 22 #[.pointer (some ⟨d, 0, none⟩), .int .i64 (slot : Int)] w1.drew fun e w' => e = .returned (.int .i64 E) /\ ∃ S', LR w0 w' d S' t' /\ To S S' w1.drew w' /\ w'.cell? ⟨tb, 0, none⟩ = some (.pointer (some ⟨d, 0, none⟩)) /\ w'.cell? ⟨tb, 1, none⟩ = some (.int .i64 (slot : Int))) := (HC.out _ hFd).mono (fun e w' ⟨q1, S', q2, q3⟩ => by
    have h9 := hSd.keep q3.fr HAp.out.1.1 HAp.out.1.2
    exact ⟨q1, S', q2, q3, h9.c0, h9.c1⟩)
  have HFd : Hid (Fr [] w w1.drew) := hFd
  clear hS1 hSd hFd hF1 HC
  go_upto_region 7 with fail
  go_loud (go_region_held3 (fun W => W.cell? ⟨tb, 0, none⟩ = some (.pointer (some ⟨d, 0, none⟩)) /\ W.cell? ⟨tb, 1, none⟩ = some (.int .i64 (slot : Int))) (go_keep)
    (first
    | (go_at_call 22; with_reducible refine HCd.out.mono ?_; rintro e2 w2 ⟨rfl, S', hL, hT, l0, l1⟩)))
  have HS2 : Hid (ZaM w2 tb d ab ac slot zs k) := (HSm.out _ HFd.out).keep hT.fr HAp.out.1.1 HAp.out.1.2
  have HT2 : Hid (LR w0 w2 d S' t' /\ To S S' w w2) := ⟨hL, (To.quiet HFd.out).then hT⟩
  have c3' := HS2.out.c3
  have f3' := HS2.out.f3
  clear hL hT HCd HSm HLr
  have HR : Hid (ZtP w0 w d tb ab ac slot S zs E t' k (.returned (.int .i64 E)) w2) := ⟨rfl, S', HT2.out.1, HS2.out, HT2.out.2.grew, HT2.out.2.fr.mono (fun x hx _ => List.mem_cons_of_mem _ hx)⟩
  have hE : (E == 0) = false := by simpa using hne
  go_wp2
  go_ret
  exact HR.out
theorem zom {w0 w : World} {d tb ab ac slot k : Nat} {S : List Nat} {t t' : Sk} {zs : List Nat} (h : LR w0 w d S t) (hs : ZaM w tb d ab ac slot zs k) (h1 : tb ∉ S) (h3 : ab ∉ S) (hnw : w0.heap.size <= tb) (hn : t.n < 2^40) (q : Nat) (hk : k = q + 1) (hq : q < nB zs.length) (hc : Wrote t (slot : Int) ((64 * q : Nat) : Int) (chunk zs q) 0 t') :
    Calls Tryz.prog 27 #[.pointer (some ⟨tb, 0, none⟩)] w fun e w' => ZtP w0 w d tb ab ac slot S zs 0 t' (k + 1) e w' := by
  obtain ⟨n, hnn⟩ : ∃ n, n = nB zs.length + 1 - k := ⟨_, rfl⟩
  have HL : Hid (Calls _ _ _ _ _) := zdf hs hnn
  have hn0 : ((n : Int) == 0) = false := by simp; omega
  have hkb : k <= 262145 := by have := zet hs.few; have := hs.kle; omega
  have HK : Hid (k <= nB zs.length) := by show _ <= _; omega
  have HSm : Hid (∀ W, Fr [] w W -> ZaM W tb d ab ac slot zs k) := fun W hf => hs.keep hf (by simp) (by simp)
  have HLr : Hid (∀ W, Fr [] w W -> LR w0 W d S t) := fun W hf => h.quiet hf
  have HAp : Hid ((tb ∉ S /\ ab ∉ S) /\ w0.heap.size <= tb) := ⟨⟨h1, h3⟩, hnw⟩
  have HBl : Hid (tb < w.heap.size /\ ab < w.heap.size) := ⟨hs.blocks.1, hs.blocks.2.1⟩
  have hke : ((k : Int) == 0) = false := by simp; omega
  have hq64 : 64 * q < zs.length /\ zs.length <= 16777216 := ⟨zig hq, hs.few⟩
  obtain ⟨a, haq⟩ : ∃ a, a = 64 * q := ⟨_, rfl⟩
  obtain ⟨L, hL⟩ : ∃ L, L = zs.length := ⟨_, rfl⟩
  obtain ⟨en, hen⟩ : ∃ en, en = min (a + 64) L := ⟨_, rfl⟩
  have HCh : Hid (∀ W, Fr [] w W -> BArg W (some ⟨ab, a, none⟩) (en - a) (ac - a) (chunk zs q)) := fun W hf => by
    have h9 := (hs.keep hf (by simp) (by simp)).chunk q hq
    rw [hen, haq, hL]
    exact h9
  have hka : ((k : Int) - 1) * 64 = (a : Int) := by omega
  have hfit : L <= ac := by rw [hL]; exact (zbr hs.byt hs.low (by omega)).fits
  have HC : Hid (∀ W, Fr [] w W -> Calls Tryz.prog 20 #[.pointer (some ⟨d, 0, none⟩), .int .i64 (slot : Int), .int .i64 (a : Int), .slice (some ⟨ab, a, none⟩) (en - a) (ac - a)] W fun e w' => e = .returned (.int .i64 0) /\ ∃ S', LR w0 w' d S' t' /\ To S S' W w') := fun W hf => zjc (h.quiet hf) hn (by omega) (HCh.out W hf) (fun _ p hp => by cases hp; exact h3) (by rw [haq]; exact hc)
  have hb1 : a < L := by omega
  have hb2 : L <= 16777216 := by omega
  have hsl : ∀ W : World, (Instr.sliceAt 58 (.slice (some ⟨ab, 0, none⟩) L ac) (some (.int .i64 (a : Int))) (some (.int .i64 (en : Int))) none).run Tryz.prog W = .ok (.slice (some ⟨ab, a, none⟩) (en - a) (ac - a)) W := fun W => by
    rw [zgi (some ⟨ab, 0, none⟩) L ac a en (by omega) (by omega) W]
    unfold zav
    rw [if_neg (by omega)]
    simp [Addr.add_lit]
  have HL9 : Hid (L = zs.length) := hL
  have HEn : Hid (en = min (a + 64) L) := hen
  clear h hs h1 h3 hnn hk hc hnw hn hq haq hen hq64 hL HCh
  go_enter Tryz.func27, Tryz.ntmps27
  go_wp2_with fail
  refine Calls.mono HL.out ?_
  rintro e w1 ⟨rfl, hF1⟩
  clear HL
  have hS1 := HSm.out w1 hF1
  have c3 := hS1.c3
  have hFd : Fr [] w w1.drew := hF1.then (Fr.drew [] w1)
  have hSd := HSm.out _ hFd
  have e0 := hS1.c0
  have e1 := hS1.c1
  have d0 := hSd.c0
  have d1 := hSd.c1
  have e2 := hS1.c2
  have d2 := hSd.c2
  rw [<- HL9.out] at e2 d2
  have HCd : Hid (Calls Tryz.prog 20 #[.pointer (some ⟨d, 0, none⟩), .int .i64 (slot : Int), .int .i64 (a : Int), .slice (some ⟨ab, a, none⟩) (en - a) (ac - a)] w1.drew fun e w' => e = .returned (.int .i64 0) /\ ∃ S', LR w0 w' d S' t' /\ To S S' w1.drew w' /\ w'.cell? ⟨tb, 0, none⟩ = some (.pointer (some ⟨d, 0, none⟩)) /\ w'.cell? ⟨tb, 1, none⟩ = some (.int .i64 (slot : Int)) /\ w'.cell? ⟨tb, 2, none⟩ = some (.slice (some ⟨ab, 0, none⟩) L ac)) := (HC.out _ hFd).mono (fun e w' ⟨q1, S', q2, q3⟩ => by
    have h9 := hSd.keep q3.fr HAp.out.1.1 HAp.out.1.2
    exact ⟨q1, S', q2, q3, h9.c0, h9.c1, by rw [HL9.out]; exact h9.c2⟩)
  have HFd : Hid (Fr [] w w1.drew) := hFd
  clear hS1 hSd hFd hF1 HC
  by_cases hgt : L < a + 64
  · have hgt' : (L : Int) < (a : Int) + 64 := by omega
    have een : en = L := by have := HEn.out; omega
    rw [een] at hsl HCd
    clear een HEn hgt
    go_upto_region 12 with fail
    go_loud (go_region_held3 (fun W => W.cell? ⟨tb, 0, none⟩ = some (.pointer (some ⟨d, 0, none⟩)) /\ W.cell? ⟨tb, 1, none⟩ = some (.int .i64 (slot : Int)) /\ W.cell? ⟨tb, 2, none⟩ = some (.slice (some ⟨ab, 0, none⟩) L ac)) (go_keep)
      (first
      | (go_at_call 20; with_reducible refine HCd.out.mono ?_; rintro e2 w2 ⟨rfl, S', hL, hT, l0, l1, l2⟩)))
    have HS2 : Hid (ZaM w2 tb d ab ac slot zs k) := (HSm.out _ HFd.out).keep hT.fr HAp.out.1.1 HAp.out.1.2
    have HT2 : Hid (LR w0 w2 d S' t' /\ To S S' w w2) := ⟨hL, (To.quiet HFd.out).then hT⟩
    have c3' := HS2.out.c3
    have f3' := HS2.out.f3
    clear hL hT HCd HSm HLr
    have HR : Hid (ZtP w0 w d tb ab ac slot S zs 0 t' (k + 1) (.returned (.int .i64 0)) (w2.setCell ⟨tb, 3, none⟩ (.int .i64 ((k : Int) + 1)))) := by
      obtain ⟨q1, q2⟩ := HS2.out.step HK.out
      have hsS' : ∀ q ∈ [tb], q ∉ S' := fun q hq hm => by
        simp at hq
        subst hq
        rcases HT2.out.2.grew q hm with p | p
        · exact HAp.out.1.1 p
        · have := HBl.out.1; omega
      exact ⟨rfl, S', HT2.out.1.keepS q2 hsS' (fun q hq => by simp at hq; subst hq; exact HAp.out.2), q1, HT2.out.2.grew, (HT2.out.2.fr.mono (fun x hx _ => List.mem_cons_of_mem _ hx)).then (q2.mono (fun x hx _ => by simp at hx; subst hx; exact List.mem_cons_self))⟩
    go_wp2
    go_ret
    exact HR.out
  · have hgt' : ¬ (L : Int) < (a : Int) + 64 := by omega
    have een : en = a + 64 := by have := HEn.out; omega
    rw [een] at hsl HCd
    rw [show ((a + 64 : Nat) : Int) = (a : Int) + 64 from by omega, show a + 64 - a = 64 by omega] at hsl
    rw [show a + 64 - a = 64 by omega] at HCd
    clear een HEn hgt
    go_upto_region 12 with fail
    go_loud (go_region_held3 (fun W => W.cell? ⟨tb, 0, none⟩ = some (.pointer (some ⟨d, 0, none⟩)) /\ W.cell? ⟨tb, 1, none⟩ = some (.int .i64 (slot : Int)) /\ W.cell? ⟨tb, 2, none⟩ = some (.slice (some ⟨ab, 0, none⟩) L ac)) (go_keep)
      (first
      | (go_at_call 20; with_reducible refine HCd.out.mono ?_; rintro e2 w2 ⟨rfl, S', hL, hT, l0, l1, l2⟩)))
    have HS2 : Hid (ZaM w2 tb d ab ac slot zs k) := (HSm.out _ HFd.out).keep hT.fr HAp.out.1.1 HAp.out.1.2
    have HT2 : Hid (LR w0 w2 d S' t' /\ To S S' w w2) := ⟨hL, (To.quiet HFd.out).then hT⟩
    have c3' := HS2.out.c3
    have f3' := HS2.out.f3
    clear hL hT HCd HSm HLr
    have HR : Hid (ZtP w0 w d tb ab ac slot S zs 0 t' (k + 1) (.returned (.int .i64 0)) (w2.setCell ⟨tb, 3, none⟩ (.int .i64 ((k : Int) + 1)))) := by
      obtain ⟨q1, q2⟩ := HS2.out.step HK.out
      have hsS' : ∀ q ∈ [tb], q ∉ S' := fun q hq hm => by
        simp at hq
        subst hq
        rcases HT2.out.2.grew q hm with p | p
        · exact HAp.out.1.1 p
        · have := HBl.out.1; omega
      exact ⟨rfl, S', HT2.out.1.keepS q2 hsS' (fun q hq => by simp at hq; subst hq; exact HAp.out.2), q1, HT2.out.2.grew, (HT2.out.2.fr.mono (fun x hx _ => List.mem_cons_of_mem _ hx)).then (q2.mono (fun x hx _ => by simp at hx; subst hx; exact List.mem_cons_self))⟩
    go_wp2
    go_ret
    exact HR.out
theorem zon {w0 w : World} {d tb ab ac slot k : Nat} {S : List Nat} {t t' : Sk} {E : Int} {zs : List Nat} (h : LR w0 w d S t) (hs : ZaM w tb d ab ac slot zs k) (h1 : tb ∉ S) (h3 : ab ∉ S) (hnw : w0.heap.size <= tb) (hn : t.n < 2^40) (q : Nat) (hk : k = q + 1) (hq : q < nB zs.length) (hc : Wrote t (slot : Int) ((64 * q : Nat) : Int) (chunk zs q) E t') (hne : E ≠ 0) :
    Calls Tryz.prog 27 #[.pointer (some ⟨tb, 0, none⟩)] w fun e w' => ZtP w0 w d tb ab ac slot S zs E t' k e w' := by
  obtain ⟨n, hnn⟩ : ∃ n, n = nB zs.length + 1 - k := ⟨_, rfl⟩
  have HL : Hid (Calls _ _ _ _ _) := zdf hs hnn
  have hn0 : ((n : Int) == 0) = false := by simp; omega
  have hkb : k <= 262145 := by have := zet hs.few; have := hs.kle; omega
  have HK : Hid (k <= nB zs.length) := by show _ <= _; omega
  have HSm : Hid (∀ W, Fr [] w W -> ZaM W tb d ab ac slot zs k) := fun W hf => hs.keep hf (by simp) (by simp)
  have HLr : Hid (∀ W, Fr [] w W -> LR w0 W d S t) := fun W hf => h.quiet hf
  have HAp : Hid ((tb ∉ S /\ ab ∉ S) /\ w0.heap.size <= tb) := ⟨⟨h1, h3⟩, hnw⟩
  have HBl : Hid (tb < w.heap.size /\ ab < w.heap.size) := ⟨hs.blocks.1, hs.blocks.2.1⟩
  have hke : ((k : Int) == 0) = false := by simp; omega
  have hq64 : 64 * q < zs.length /\ zs.length <= 16777216 := ⟨zig hq, hs.few⟩
  obtain ⟨a, haq⟩ : ∃ a, a = 64 * q := ⟨_, rfl⟩
  obtain ⟨L, hL⟩ : ∃ L, L = zs.length := ⟨_, rfl⟩
  obtain ⟨en, hen⟩ : ∃ en, en = min (a + 64) L := ⟨_, rfl⟩
  have HCh : Hid (∀ W, Fr [] w W -> BArg W (some ⟨ab, a, none⟩) (en - a) (ac - a) (chunk zs q)) := fun W hf => by
    have h9 := (hs.keep hf (by simp) (by simp)).chunk q hq
    rw [hen, haq, hL]
    exact h9
  have hka : ((k : Int) - 1) * 64 = (a : Int) := by omega
  have hfit : L <= ac := by rw [hL]; exact (zbr hs.byt hs.low (by omega)).fits
  have HC : Hid (∀ W, Fr [] w W -> Calls Tryz.prog 20 #[.pointer (some ⟨d, 0, none⟩), .int .i64 (slot : Int), .int .i64 (a : Int), .slice (some ⟨ab, a, none⟩) (en - a) (ac - a)] W fun e w' => e = .returned (.int .i64 E) /\ ∃ S', LR w0 w' d S' t' /\ To S S' W w') := fun W hf => zjc (h.quiet hf) hn (by omega) (HCh.out W hf) (fun _ p hp => by cases hp; exact h3) (by rw [haq]; exact hc)
  have hb1 : a < L := by omega
  have hb2 : L <= 16777216 := by omega
  have hsl : ∀ W : World, (Instr.sliceAt 58 (.slice (some ⟨ab, 0, none⟩) L ac) (some (.int .i64 (a : Int))) (some (.int .i64 (en : Int))) none).run Tryz.prog W = .ok (.slice (some ⟨ab, a, none⟩) (en - a) (ac - a)) W := fun W => by
    rw [zgi (some ⟨ab, 0, none⟩) L ac a en (by omega) (by omega) W]
    unfold zav
    rw [if_neg (by omega)]
    simp [Addr.add_lit]
  have HL9 : Hid (L = zs.length) := hL
  have HEn : Hid (en = min (a + 64) L) := hen
  clear h hs h1 h3 hnn hk hc hnw hn hq haq hen hq64 hL HCh
  go_enter Tryz.func27, Tryz.ntmps27
  go_wp2_with fail
  refine Calls.mono HL.out ?_
  rintro e w1 ⟨rfl, hF1⟩
  clear HL
  have hS1 := HSm.out w1 hF1
  have c3 := hS1.c3
  have hFd : Fr [] w w1.drew := hF1.then (Fr.drew [] w1)
  have hSd := HSm.out _ hFd
  have e0 := hS1.c0
  have e1 := hS1.c1
  have d0 := hSd.c0
  have d1 := hSd.c1
  have e2 := hS1.c2
  have d2 := hSd.c2
  rw [<- HL9.out] at e2 d2
  have HCd : Hid (Calls Tryz.prog 20 #[.pointer (some ⟨d, 0, none⟩), .int .i64 (slot : Int), .int .i64 (a : Int), .slice (some ⟨ab, a, none⟩) (en - a) (ac - a)] w1.drew fun e w' => e = .returned (.int .i64 E) /\ ∃ S', LR w0 w' d S' t' /\ To S S' w1.drew w' /\ w'.cell? ⟨tb, 0, none⟩ = some (.pointer (some ⟨d, 0, none⟩)) /\ w'.cell? ⟨tb, 1, none⟩ = some (.int .i64 (slot : Int)) /\ w'.cell? ⟨tb, 2, none⟩ = some (.slice (some ⟨ab, 0, none⟩) L ac)) := (HC.out _ hFd).mono (fun e w' ⟨q1, S', q2, q3⟩ => by
    have h9 := hSd.keep q3.fr HAp.out.1.1 HAp.out.1.2
    exact ⟨q1, S', q2, q3, h9.c0, h9.c1, by rw [HL9.out]; exact h9.c2⟩)
  have HFd : Hid (Fr [] w w1.drew) := hFd
  clear hS1 hSd hFd hF1 HC
  by_cases hgt : L < a + 64
  · have hgt' : (L : Int) < (a : Int) + 64 := by omega
    have een : en = L := by have := HEn.out; omega
    rw [een] at hsl HCd
    clear een HEn hgt
    go_upto_region 12 with fail
    go_loud (go_region_held3 (fun W => W.cell? ⟨tb, 0, none⟩ = some (.pointer (some ⟨d, 0, none⟩)) /\ W.cell? ⟨tb, 1, none⟩ = some (.int .i64 (slot : Int)) /\ W.cell? ⟨tb, 2, none⟩ = some (.slice (some ⟨ab, 0, none⟩) L ac)) (go_keep)
      (first
      | (go_at_call 20; with_reducible refine HCd.out.mono ?_; rintro e2 w2 ⟨rfl, S', hL, hT, l0, l1, l2⟩)))
    have HS2 : Hid (ZaM w2 tb d ab ac slot zs k) := (HSm.out _ HFd.out).keep hT.fr HAp.out.1.1 HAp.out.1.2
    have HT2 : Hid (LR w0 w2 d S' t' /\ To S S' w w2) := ⟨hL, (To.quiet HFd.out).then hT⟩
    have c3' := HS2.out.c3
    have f3' := HS2.out.f3
    clear hL hT HCd HSm HLr
    have HR : Hid (ZtP w0 w d tb ab ac slot S zs E t' k (.returned (.int .i64 E)) w2) := ⟨rfl, S', HT2.out.1, HS2.out, HT2.out.2.grew, HT2.out.2.fr.mono (fun x hx _ => List.mem_cons_of_mem _ hx)⟩
    have hE : (E == 0) = false := by simpa using hne
    go_wp2
    go_ret
    exact HR.out
  · have hgt' : ¬ (L : Int) < (a : Int) + 64 := by omega
    have een : en = a + 64 := by have := HEn.out; omega
    rw [een] at hsl HCd
    rw [show ((a + 64 : Nat) : Int) = (a : Int) + 64 from by omega, show a + 64 - a = 64 by omega] at hsl
    rw [show a + 64 - a = 64 by omega] at HCd
    clear een HEn hgt
    go_upto_region 12 with fail
    go_loud (go_region_held3 (fun W => W.cell? ⟨tb, 0, none⟩ = some (.pointer (some ⟨d, 0, none⟩)) /\ W.cell? ⟨tb, 1, none⟩ = some (.int .i64 (slot : Int)) /\ W.cell? ⟨tb, 2, none⟩ = some (.slice (some ⟨ab, 0, none⟩) L ac)) (go_keep)
      (first
      | (go_at_call 20; with_reducible refine HCd.out.mono ?_; rintro e2 w2 ⟨rfl, S', hL, hT, l0, l1, l2⟩)))
    have HS2 : Hid (ZaM w2 tb d ab ac slot zs k) := (HSm.out _ HFd.out).keep hT.fr HAp.out.1.1 HAp.out.1.2
    have HT2 : Hid (LR w0 w2 d S' t' /\ To S S' w w2) := ⟨hL, (To.quiet HFd.out).then hT⟩
    have c3' := HS2.out.c3
    have f3' := HS2.out.f3
    clear hL hT HCd HSm HLr
    have HR : Hid (ZtP w0 w d tb ab ac slot S zs E t' k (.returned (.int .i64 E)) w2) := ⟨rfl, S', HT2.out.1, HS2.out, HT2.out.2.grew, HT2.out.2.fr.mono (fun x hx _ => List.mem_cons_of_mem _ hx)⟩
    have hE : (E == 0) = false := by simpa using hne
    go_wp2
    go_ret
    exact HR.out
theorem zvd {w0 w : World} {d tb ab ac slot k k' : Nat} {S : List Nat} {t t' : Sk} {E : Int} {zs : List Nat} (h : LR w0 w d S t) (hs : ZaM w tb d ab ac slot zs k) (h1 : tb ∉ S) (h3 : ab ∉ S) (hnw : w0.heap.size <= tb) (hn : t.n < 2^40) (hr : StepR t slot zs k E t' k') :
    Calls Tryz.prog 27 #[.pointer (some ⟨tb, 0, none⟩)] w fun e w' => ZtP w0 w d tb ab ac slot S zs E t' k' e w' := by
  cases hr with
  | idle hk => exact zsp h hs hk
  | clear hk hc he => subst he; exact zok h hs h1 h3 hnw hn hk hc
  | clearNo hk hc he => exact zol h hs h1 h3 hnw hn hk hc he
  | write q hk hq hc he => subst he; exact zom h hs h1 h3 hnw hn q hk hq hc
  | writeNo q hk hq hc he => exact zon h hs h1 h3 hnw hn q hk hq hc he
end Go.Proofs.YtembflnhhfliaaaGreatDoor
