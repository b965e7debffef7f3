/- Contracts and plain lemmas of this claim. -/
import Derived.Test.YtembflnhhfliaaaGreatDoorGp10
import Derived.Test.YtembflnhhfliaaaGreatDoorGp27
import Derived.Test.YtembflnhhfliaaaGreatDoorGp31
import Derived.Test.YtembflnhhfliaaaGreatDoorGp33
import Derived.Test.YtembflnhhfliaaaGreatDoorGp14
import Derived.Test.YtembflnhhfliaaaGreatDoorGp5
import Derived.Test.YtembflnhhfliaaaGreatDoorGp4
import Derived.Laws.BitsAllLaws
set_option linter.unusedSimpArgs false
set_option linter.unusedVariables false
set_option maxHeartbeats 4000000
set_option maxRecDepth 100000
namespace Go.Proofs.YtembflnhhfliaaaGreatDoor
open Go.ChangeShapes Go.WideShapes Go.ChangeAt Go.RowKit Go.Lib Go.Maps
theorem znx (key : ByteArray) (vo vo' : Option Addr) (L c c' : Nat) (vs : List Vn) (w : World) (h1 : VRs w vo vs) (h2 : VRs w vo' vs) (hL : L = vs.length) :
    Calls Tryz.prog 147 #[.agg #[.string key, .slice vo L c], .agg #[.string key, .slice vo' L c']] w fun e w' => e = .returned (.bool true) /\ Fr [] w w' := by
  have HV : Hid (∀ W, Fr [] w W -> Calls Tryz.prog 177 #[.slice vo L c, .slice vo' L c'] W fun e w' => e = .returned (.bool true) /\ Fr [] W w') := fun W hf => zqz vo vo' L L c c' true vs vs W (h1.keep hf) (h2.keep hf) hL hL ⟨fun _ => rfl, fun _ => rfl⟩
  have HFr : Hid (Fr [] w ((w.alloc (.cells #[.string key, .slice vo L c] 147)).alloc (.cells #[.string key, .slice vo' L c'] 147))) := (Fr.alloc [] _ _).then (Fr.alloc [] _ _)
  have HC : Hid (Calls _ _ _ _ _) := HV.out _ HFr.out
  clear h1 h2 hL HV
  go_enter Tryz.func147, Tryz.ntmps147
  go_wp2_with fail
  refine Calls.mono HC.out ?_
  rintro e w1 ⟨rfl, hF1⟩
  go_wp2
  go_ret
  exact ⟨rfl, HFr.out.then hF1⟩
def hkv (h : Hd) : ByteArray × List Vn := (h.key, h.vs)
theorem zmi (ro ro' : Option Addr) (N rc rc' : Nat) (hs hs' : List Hd) (w : World) (h1 : HRs w ro hs) (h2 : HRs w ro' hs') (hN : N = hs.length) (he : hs.map hkv = hs'.map hkv) :
    Calls Tryz.prog 96 #[.slice ro N rc, .slice ro' N rc'] w fun e w' => e = .returned (.bool true) /\ Fr [] w w' := by
  have hl : hs.length = hs'.length := by have := congrArg List.length he; simpa using this
  have HN : Hid (N = hs.length /\ N = hs'.length) := ⟨hN, by omega⟩
  have hNf : N <= 3518437208882 := by rw [hN]; exact h1.few
  have HE : Hid (∀ W, Fr [] w W -> HRs W ro hs /\ HRs W ro' hs') := fun W hf => ⟨h1.keep hf, h2.keep hf⟩
  have HEq : Hid (∀ i, i < N -> hkv (hs.getD i Hd.zero) = hkv (hs'.getD i Hd.zero)) := fun i hi => by
    have e1 : (hs.map hkv)[i]? = (hs'.map hkv)[i]? := by rw [he]
    simp only [List.getElem?_map, List.getElem?_eq_getElem (show i < hs.length by omega), List.getElem?_eq_getElem (show i < hs'.length by omega), Option.map_some, Option.some.injEq] at e1
    simpa [List.getD, show i < hs.length by omega, show i < hs'.length by omega] using e1
  clear hN h1 h2 he hl
  go_enter Tryz.func96, Tryz.ntmps96
  go_wp2_with fail
  go_loopw [5] (fun ii wr => ∃ (i : Nat), ii = .int .i64 i /\ i <= N /\ Hid (Fr [] w wr)) (fun ii _ => N - (RowKit.intOf ii).toNat)
  case atStart => exact ⟨0, rfl, Nat.zero_le _, Fr.refl _ _⟩
  case round =>
    obtain ⟨i, rfl, hiN, HF⟩ := hrel
    by_cases hi : i < N
    · have hi1 : i < hs.length := by rw [<- HN.out.1]; exact hi
      have hi2 : i < hs'.length := by rw [<- HN.out.2]; exact hi
      obtain ⟨r1, r2⟩ := HE.out _ HF.out
      obtain ⟨g, off, rfl, _, hat⟩ := r1.lies (by omega)
      obtain ⟨g', off', rfl, _, hat'⟩ := r2.lies (by omega)
      obtain ⟨d0, d1⟩ := hat i hi1
      obtain ⟨d2, d3⟩ := hat' i hi2
      have HEa : Hid (∀ W, Fr [] w W -> HEach W (hs.getD i Hd.zero) /\ HEach W (hs'.getD i Hd.zero)) := fun W hf => ⟨(HE.out W hf).1.each _ (zbc hs i hi1), (HE.out W hf).2.each _ (zbc hs' i hi2)⟩
      have heq := HEq.out i hi
      obtain ⟨x, hx⟩ : ∃ x, x = hs.getD i Hd.zero := ⟨_, rfl⟩
      obtain ⟨y, hy⟩ : ∃ y, y = hs'.getD i Hd.zero := ⟨_, rfl⟩
      rw [<- hx] at d0 d1 HEa heq
      rw [<- hy] at d2 d3 HEa heq
      clear hx hy hat hat' r1 r2
      obtain ⟨k1, vo1, L1, c1, vs1⟩ := x
      obtain ⟨k2, vo2, L2, c2, vs2⟩ := y
      simp only [hkv, Prod.mk.injEq] at heq
      obtain ⟨rfl, rfl⟩ := heq
      have hLL : L1 = L2 := by
        have := (HEa.out wr HF.out).1.len
        have := (HEa.out wr HF.out).2.len
        simp only at *
        omega
      subst hLL
      simp only at d0 d1 d2 d3
      have HS : Hid (∀ W, Fr [] wr W -> Calls Tryz.prog 147 #[.agg #[.string k1, .slice vo1 L1 c1], .agg #[.string k1, .slice vo2 L1 c2]] W fun e w' => e = .returned (.bool true) /\ (w'.cell? ⟨g, off + i * 2, none⟩ = some (.string k1) /\ w'.cell? ⟨g, off + i * 2 + 1, none⟩ = some (.slice vo1 L1 c1) /\ w'.cell? ⟨g', off' + i * 2, none⟩ = some (.string k1) /\ w'.cell? ⟨g', off' + i * 2 + 1, none⟩ = some (.slice vo2 L1 c2)) /\ Fr [] w w') := by
        intro W hW
        have hFW := HF.out.then hW
        refine (znx k1 vo1 vo2 L1 c1 c2 vs1 W (HEa.out W hFW).1.rs (HEa.out W hFW).2.rs (HEa.out W hFW).1.len).mono ?_
        rintro e w' ⟨rfl, hf⟩
        have hG := hW.then hf
        have hb : ∀ {q o : Nat} {v : Value}, wr.cell? ⟨q, o, none⟩ = some v -> w'.cell? ⟨q, o, none⟩ = some v := fun {q o v} hc => zbq hG hc (World.block_lt_of_cell? wr ⟨q, o, none⟩ (by rw [hc])) (by simp)
        exact ⟨rfl, ⟨hb d0, hb d1, hb d2, hb d3⟩, hFW.then hf⟩
      go_wp2_with fail
      go_region_held3 (fun W => W.cell? ⟨g, off + i * 2, none⟩ = some (.string k1) /\ W.cell? ⟨g, off + i * 2 + 1, none⟩ = some (.slice vo1 L1 c1) /\ W.cell? ⟨g', off' + i * 2, none⟩ = some (.string k1) /\ W.cell? ⟨g', off' + i * 2 + 1, none⟩ = some (.slice vo2 L1 c2)) (go_keep)
        (first | (go_at_call 147; with_reducible refine (HS.out _ (Fr.drew _ _)).mono ?_; rintro e w2 ⟨rfl, ⟨j0, j1, j2, j3⟩, hF2⟩))
      have HF2 : Hid (Fr [] w w2) := hF2
      clear hF2
      go_wp2_with fail
      go_roundw
      case rel => exact ⟨i + 1, by simp, by omega, HF2⟩
      case measure => simp [RowKit.intOf]; omega
    · go_wp2
      go_ret
      exact ⟨rfl, HF.out⟩
theorem zyi (a b : Option Addr) (L ca cb : Nat) (xs : List Int) (w : World) (ha : IRs w a xs) (hb : IRs w b xs) (hL : L = xs.length) (hLl : L < 2 ^ 40) :
    Calls Tryz.prog 95 #[.slice a L ca, .slice b L cb] w fun e w' => e = .returned (.bool true) /\ Fr [] w w' := by
  have HL : Hid (L = xs.length) := hL
  have hne : ((L : Int) != L) = false := by simp
  clear hL
  by_cases h0 : 0 < L
  · obtain ⟨ba, oa, rfl, _, hca⟩ := ha.lies (by rw [<- HL.out]; exact h0)
    obtain ⟨bb, ob, rfl, _, hcb⟩ := hb.lies (by rw [<- HL.out]; exact h0)
    rw [<- HL.out] at hca hcb
    go_enter Tryz.func95, Tryz.ntmps95
    go_wp2_with fail
    go_loopw [5] (fun ii wr => ∃ (i q : Nat), ii = .int .i64 i /\ i <= L /\ wr = w.drewN q) (fun ii _ => L - (RowKit.intOf ii).toNat)
    case atStart => exact ⟨0, 0, rfl, Nat.zero_le _, rfl⟩
    case round =>
      obtain ⟨i, q, rfl, hiL, rfl⟩ := hrel
      by_cases hi : i < L
      · have hx := hca i hi
        have hy := hcb i hi
        obtain ⟨x, hxx⟩ : ∃ x, x = xs.getD i 0 := ⟨_, rfl⟩
        rw [<- hxx] at hx hy
        clear hxx hca hcb
        have hb1 : (x != x) = false := by simp
        go_wp2_with fail
        go_quiet (fail)
        go_wp2
        go_roundw
        case rel => exact ⟨i + 1, q + nq, by simp, by omega, by simp⟩
        case measure => simp [RowKit.intOf]; omega
      · go_wp2
        go_ret
        exact ⟨rfl, Fr.drewN _ _ _⟩
  · obtain rfl : L = 0 := by omega
    go_enter Tryz.func95, Tryz.ntmps95
    go_wp2_with fail
    refine wp_loop_rounds 1 ?_
    rw [rounds_succ]
    go_wp2
    go_ret
    exact ⟨rfl, Fr.refl _ _⟩
theorem zsf (w : World) (m : Int) (bo ho bo' ho' : Option Addr) (Lb cb Lh ch cb' ch' : Nat) (bs : List Int) (hs hs' : List Hd) (hI : IRs w bo bs) (hI' : IRs w bo' bs) (hLb : Lb = bs.length) (hH : HRs w ho hs) (hH' : HRs w ho' hs') (hLh : Lh = hs.length) (he : hs.map Hd.kv = hs'.map Hd.kv) (hl : Lb < 2^40) :
    Calls Tryz.prog 30 #[.agg #[.int .i64 m, .slice bo Lb cb, .slice ho Lh ch], .agg #[.int .i64 m, .slice bo' Lb cb', .slice ho' Lh ch']] w fun e w' => e = .returned (.bool true) /\ Fr [] w w' := by
  have HE : Hid (∀ W, Fr [] w W -> Calls Tryz.prog 95 #[.slice bo Lb cb, .slice bo' Lb cb'] W fun e w' => e = .returned (.bool true) /\ Fr [] W w') := fun W hW => (zyi bo bo' Lb cb cb' bs W (hI.keep hW) (hI'.keep hW) hLb hl).mono (fun e w' h => h)
  have HH : Hid (∀ W, Fr [] w W -> Calls Tryz.prog 96 #[.slice ho Lh ch, .slice ho' Lh ch'] W fun e w' => e = .returned (.bool true) /\ Fr [] W w') := fun W hW => zmi ho ho' Lh ch ch' hs hs' W (hH.keep hW) (hH'.keep hW) hLh he
  clear hI hH hI' hH' hLb hLh he
  obtain ⟨W0, HW0⟩ : ∃ W0, Hid (((w.alloc (.cells #[.int .i64 m, .slice bo Lb cb, .slice ho Lh ch] 57)).alloc (.cells #[.int .i64 m, .slice bo' Lb cb', .slice ho' Lh ch'] 57)) = W0) := ⟨_, rfl⟩
  have h1 : W0.heap[w.heap.size]? = some (.cells #[.int .i64 m, .slice bo Lb cb, .slice ho Lh ch] 57 (0, 0)) := by
    rw [<- HW0.out]; exact (Fr.alloc [] _ _).keep (heap_alloc_new w _) (by simp)
  have h2 : W0.heap[w.heap.size + 1]? = some (.cells #[.int .i64 m, .slice bo' Lb cb', .slice ho' Lh ch'] 57 (0, 0)) := by
    rw [<- HW0.out]
    have := heap_alloc_new (w.alloc (.cells #[.int .i64 m, .slice bo Lb cb, .slice ho Lh ch] 57)) (.cells #[.int .i64 m, .slice bo' Lb cb', .slice ho' Lh ch'] 57)
    simpa using this
  have HC : Hid (∀ W, Fr [] W0 W -> W.heap[w.heap.size]? = some (.cells #[.int .i64 m, .slice bo Lb cb, .slice ho Lh ch] 57 (0, 0)) /\ W.heap[w.heap.size + 1]? = some (.cells #[.int .i64 m, .slice bo' Lb cb', .slice ho' Lh ch'] 57 (0, 0))) := fun W hW => ⟨hW.keep h1 (by simp), hW.keep h2 (by simp)⟩
  have HF0 : Hid (Fr [] w W0) := by rw [<- HW0.out]; exact (Fr.alloc [] w _).then (Fr.alloc [] _ _)
  clear h1 h2
  go_enter Tryz.func30, Tryz.ntmps30
  go_upto_region 1 with fail
  rw [HW0.out]
  obtain ⟨q1, q2⟩ := HC.out W0 (Fr.refl _ _)
  obtain ⟨a0, a1, a2⟩ := zai q1
  obtain ⟨b0, b1, b2⟩ := zai q2
  clear q1 q2 HW0
  go_wp2_with fail
  refine (HE.out _ HF0.out).mono ?_
  rintro e' w1 ⟨rfl, hf1⟩
  have HF1 : Hid (Fr [] W0 w1) := hf1
  obtain ⟨q1, q2⟩ := HC.out w1 hf1
  clear a0 a1 a2 b0 b1 b2 hf1
  obtain ⟨a0, a1, a2⟩ := zai q1
  obtain ⟨b0, b1, b2⟩ := zai q2
  clear q1 q2
  go_wp2_with fail
  refine (HH.out _ (HF0.out.then HF1.out)).mono ?_
  rintro e' w2 ⟨rfl, hf2⟩
  have HF2 : Hid (Fr [] W0 w2) := HF1.out.then hf2
  clear a0 a1 a2 b0 b1 b2 hf2
  go_wp2
  go_ret
  exact ⟨by simp, HF0.out.then HF2.out⟩
open BigFrame
theorem HOut.dts {V w : World} {ro : Option Addr} {N rc : Nat} {hs : List Hd} (h : HOut V w ro N rc hs) (hr : ∀ x ∈ hs, x.vs.length <= 131072) (hN : N < 2097152) : Bq.Dts w ro N rc (dsOf hs) := by
  refine ⟨by rw [zui]; exact Bq.own_base8 h.row, by rw [h.len]; simp [dsOf], hN, fun i d hd => ?_, fun i j a b ha hb hij k hka hkb => ?_⟩
  · obtain ⟨x, hx, rfl⟩ := zck hd
    have hm := List.mem_of_getElem? hx
    obtain ⟨n, vs, h1, h2⟩ := Bq.P0.of_out (n := 0) (h.each x hm) (by have := (h.each x hm).len; have := hr x hm; omega)
    exact ⟨n, vs, h1, h2⟩
  · obtain ⟨x, hx, rfl⟩ := zck ha
    obtain ⟨y, hy, rfl⟩ := zck hb
    obtain ⟨p, hp, e1⟩ := zja hka
    obtain ⟨q, hq, e2⟩ := zja hkb
    have hil := (List.getElem?_eq_some_iff.1 hx).1
    have hjl := (List.getElem?_eq_some_iff.1 hy).1
    have hxe := (List.getElem?_eq_some_iff.1 hx).2
    have hye := (List.getElem?_eq_some_iff.1 hy).2
    rcases Nat.lt_or_gt_of_ne hij with hlt | hlt
    · have := List.pairwise_iff_getElem.1 h.apart i j hil hjl hlt
      rw [hxe, hye] at this
      exact this p q hp hq (e1.trans e2.symm)
    · have := List.pairwise_iff_getElem.1 h.apart j i hjl hil hlt
      rw [hxe, hye] at this
      exact this q p hq hp (e2.trans e1.symm)
def AnsD (xs : List Nat) (c : Nat) (m : Int) (bs : List Int) (ps : List Kv) : Prop := (c ≠ 0 /\ DeT xs c /\ m = 0 /\ bs = [] /\ ps = []) \/ (c = 0 /\ dS xs = .ok (⟨m, bs, ps⟩, []) /\ OkS m bs ps)
theorem DeT.uniq {xs : List Nat} {c d : Nat} (h : DeT xs c) (k : DeT xs d) : c = d := by
  rcases h with h | ⟨rfl, s, r, h, hr⟩ | ⟨rfl, s, h, hn⟩ <;> rcases k with k | ⟨rfl, s', r', k, kr⟩ | ⟨rfl, s', k, kn⟩
  · rw [h] at k; simpa using k
  · rw [h] at k; cases k
  · rw [h] at k; cases k
  · rw [h] at k; cases k
  · rfl
  · rw [h] at k
    simp only [Except.ok.injEq, Prod.mk.injEq] at k
    rw [k.2] at hr
    simp at hr
  · rw [h] at k; cases k
  · rw [h] at k
    simp only [Except.ok.injEq, Prod.mk.injEq] at k
    rw [<- k.2] at kr
    simp at kr
  · rfl
theorem DeT.no {xs : List Nat} {c : Nat} {s : Sd} (h : DeT xs c) (k : dS xs = .ok (s, [])) (ho : OkS s.m s.bs s.ps) : False := by
  rcases h with h | ⟨rfl, s', r, h, hr⟩ | ⟨rfl, s', h, hn⟩
  · rw [h] at k; cases k
  · rw [h] at k
    simp only [Except.ok.injEq, Prod.mk.injEq] at k
    rw [k.2] at hr
    simp at hr
  · rw [h] at k
    simp only [Except.ok.injEq, Prod.mk.injEq] at k
    rw [k.1] at hn
    exact hn ho
theorem AnsD.uniq {xs : List Nat} {c d : Nat} {m n : Int} {bs cs : List Int} {ps qs : List Kv} (h : AnsD xs c m bs ps) (k : AnsD xs d n cs qs) : c = d /\ m = n /\ bs = cs /\ ps = qs := by
  rcases h with ⟨h1, h2, rfl, rfl, rfl⟩ | ⟨rfl, h2, h3⟩ <;> rcases k with ⟨k1, k2, rfl, rfl, rfl⟩ | ⟨rfl, k2, k3⟩
  · exact ⟨h2.uniq k2, rfl, rfl, rfl⟩
  · exact (h2.no k2 k3).elim
  · exact (k2.no h2 h3).elim
  · rw [h2] at k2
    simp only [Except.ok.injEq, Prod.mk.injEq, Sd.mk.injEq] at k2
    exact ⟨rfl, k2.1.1, k2.1.2.1, k2.1.2.2⟩
theorem DeP.one {xs : List Nat} {w w' : World} {e : Ending} (h : DeP xs w e w') (hb : ∀ y ∈ xs, y < 256) : ∃ (c : Nat) (m : Int) (bo : Option Addr) (Lb cb : Nat) (ho : Option Addr) (Lh ch : Nat) (bs : List Int) (hs : List Hd), e = .returned (.tuple #[.agg #[.int .i64 m, .slice bo Lb cb, .slice ho Lh ch], .int .i64 (c : Int)]) /\ AnsD xs c m bs (hs.map Hd.kv) /\ Lb <= 65536 /\ Lh <= 65536 /\ (∀ p ∈ hs.map Hd.kv, limK p) /\ IOw w.heap.size w' bo Lb cb bs /\ HOut w w' ho Lh ch hs /\ Fr [] w w' := by
  rcases h with ⟨c, h1, h2, rfl, h3⟩ | ⟨m, bo, Lb, cb, ho, Lh, ch, bs, hs, h1, h2, h3, h4, rfl, h5, h6, h7⟩
  · exact ⟨c, 0, none, 0, 0, none, 0, 0, [], [], rfl, Or.inl ⟨h2, h1, rfl, rfl, rfl⟩, by omega, by omega, by simp, IOw.nil _ _, ⟨rfl, ⟨rfl, .inl ⟨rfl, rfl⟩⟩, by simp, List.Pairwise.nil⟩, h3⟩
  · exact ⟨0, m, bo, Lb, cb, ho, Lh, ch, bs, hs, rfl, Or.inr ⟨rfl, h1, h2⟩, h3, h4, zum hb h1, h5, h6, h7⟩
def midB (g n : Nat) : List Nat := leB 8 g ++ leB 4 n
def sumH (g : Nat) (xs : List Nat) : Nat := more (more 0 (midB g xs.length)) xs
def hdB (g : Nat) (xs : List Nat) : List Nat := leB 4 1464880980 ++ (midB g xs.length ++ leB 4 (sumH g xs))
theorem zcw (g n : Nat) : (midB g n).length = 12 := by simp [midB, zax]
theorem zbt (g : Nat) (xs : List Nat) : (hdB g xs).length = 20 := by simp [hdB, zax, zcw]
theorem zqd (g n : Nat) : ∀ x ∈ midB g n, x < 256 := by
  intro x hx
  rcases List.mem_append.1 hx with h | h
  · exact zje _ _ x h
  · exact zje _ _ x h
theorem zkg (g : Nat) (xs : List Nat) : ∀ x ∈ hdB g xs, x < 256 := by
  intro x hx
  rcases List.mem_append.1 hx with h | h
  · exact zje _ _ x h
  · rcases List.mem_append.1 h with h | h
    · exact zqd _ _ x h
    · exact zje _ _ x h
theorem zyj : ∀ (xs : List Nat), (∀ x ∈ xs, x < 256) -> leB xs.length (leN xs) = xs := by
  intro xs
  induction xs with
  | nil => intro _; rfl
  | cons x r ih =>
    intro h
    have hx := h x (by simp)
    simp only [List.length_cons, leB, leN]
    rw [show (x + 256 * leN r) % 256 = x by omega, show (x + 256 * leN r) / 256 = leN r by omega, ih (fun y hy => h y (by simp [hy]))]
structure Good (ys : List Nat) (g : Nat) (xs : List Nat) : Prop where
  eq : ys = hdB g xs ++ xs
  lo : 1 <= g
  hi : g <= 4611686018427387904
theorem Good.drop {ys xs : List Nat} {g : Nat} (h : Good ys g xs) : ys.drop 20 = xs := by rw [h.eq, List.drop_left' (zbt g xs)]
theorem Good.take {ys xs : List Nat} {g : Nat} (h : Good ys g xs) : ys.take 20 = hdB g xs := by rw [h.eq, List.take_left' (zbt g xs)]
theorem zzm (g : Nat) (xs r : List Nat) (hg : g < 256 ^ 8) : leN (((hdB g xs ++ r).drop 4).take 8) = g := by
  have e : hdB g xs ++ r = leB 4 1464880980 ++ (leB 8 g ++ (leB 4 xs.length ++ (leB 4 (sumH g xs) ++ r))) := by simp [hdB, midB]
  rw [e, List.drop_left' (zax 4 _), List.take_left' (zax 8 _), zhv 8 g hg]
theorem Good.gen {ys xs : List Nat} {g : Nat} (h : Good ys g xs) : leN ((ys.drop 4).take 8) = g := by
  rw [h.eq]
  exact zzm g xs xs (by have := h.hi; omega)
theorem Good.uniq {ys xs xs' : List Nat} {g g' : Nat} (h : Good ys g xs) (k : Good ys g' xs') : g = g' /\ xs = xs' := ⟨h.gen.symm.trans k.gen, h.drop.symm.trans k.drop⟩
theorem Good.len {ys xs : List Nat} {g : Nat} (h : Good ys g xs) : ys.length = 20 + xs.length := by rw [h.eq, List.length_append, zbt]
theorem Good.of {ys : List Nat} {g : Nat} (h : ys.take 20 = hdB g (ys.drop 20)) (h1 : 1 <= g) (h2 : g <= 4611686018427387904) : Good ys g (ys.drop 20) := ⟨by rw [<- h, List.take_append_drop], h1, h2⟩
def Wh (ys : List Nat) (ok : Bool) (g : Nat) (m : Int) (bs : List Int) (ps : List Kv) : Prop :=
  (ok = true /\ ∃ xs, Good ys g xs /\ AnsD xs 0 m bs ps) \/ (ok = false /\ g = 0 /\ m = 0 /\ bs = [] /\ ps = [] /\ ∀ g' xs m' bs' ps', Good ys g' xs -> ¬ AnsD xs 0 m' bs' ps')
theorem Wh.uniq {ys : List Nat} {ok ok' : Bool} {g g' : Nat} {m m' : Int} {bs bs' : List Int} {ps ps' : List Kv} (h : Wh ys ok g m bs ps) (k : Wh ys ok' g' m' bs' ps') : ok = ok' /\ g = g' /\ m = m' /\ bs = bs' /\ ps = ps' := by
  rcases h with ⟨rfl, xs, h1, h2⟩ | ⟨rfl, rfl, rfl, rfl, rfl, h1⟩ <;> rcases k with ⟨rfl, xs', k1, k2⟩ | ⟨rfl, rfl, rfl, rfl, rfl, k1⟩
  · obtain ⟨rfl, rfl⟩ := h1.uniq k1
    obtain ⟨_, e1, e2, e3⟩ := h2.uniq k2
    exact ⟨rfl, rfl, e1, e2, e3⟩
  · exact (k1 _ _ _ _ _ h1 h2).elim
  · exact (h1 _ _ _ _ _ k1 k2).elim
  · exact ⟨rfl, rfl, rfl, rfl, rfl⟩
theorem Wh.short {ys : List Nat} (h : ys.length < 20) : Wh ys false 0 0 [] [] := Or.inr ⟨rfl, rfl, rfl, rfl, rfl, fun g' xs m' bs' ps' hG => by have := hG.len; omega⟩
theorem Wh.none {ys : List Nat} (h : ∀ g xs, ¬ Good ys g xs) : Wh ys false 0 0 [] [] := Or.inr ⟨rfl, rfl, rfl, rfl, rfl, fun g' xs m' bs' ps' hG => (h _ _ hG).elim⟩
theorem Wh.range {ys : List Nat} (h : leN ((ys.drop 4).take 8) < 1 \/ 4611686018427387904 < leN ((ys.drop 4).take 8)) : Wh ys false 0 0 [] [] := Wh.none fun g xs hG => by
  have := hG.gen
  have := hG.lo
  have := hG.hi
  omega
theorem Wh.head {ys : List Nat} (h : ys.take 20 ≠ hdB (leN ((ys.drop 4).take 8)) (ys.drop 20)) : Wh ys false 0 0 [] [] := Wh.none fun g xs hG => h (by rw [hG.gen, hG.drop]; exact hG.take)
theorem Wh.bad {ys xs : List Nat} {g c : Nat} {m : Int} {bs : List Int} {ps : List Kv} (hG : Good ys g xs) (h : AnsD xs c m bs ps) (hc : c ≠ 0) : Wh ys false 0 0 [] [] := Or.inr ⟨rfl, rfl, rfl, rfl, rfl, fun g' xs' m' bs' ps' hG' h' => by
  obtain ⟨rfl, rfl⟩ := hG.uniq hG'
  exact hc (h.uniq h').1⟩
theorem Wh.ok {ys xs : List Nat} {g : Nat} {m : Int} {bs : List Int} {ps : List Kv} (hG : Good ys g xs) (h : AnsD xs 0 m bs ps) : Wh ys true g m bs ps := Or.inl ⟨rfl, xs, hG, h⟩
theorem Wh.g_le {ys : List Nat} {ok : Bool} {g : Nat} {m : Int} {bs : List Int} {ps : List Kv} (h : Wh ys ok g m bs ps) : g <= 4611686018427387904 := by
  rcases h with ⟨_, xs, h1, _⟩ | ⟨_, rfl, _⟩
  · exact h1.hi
  · omega
theorem Wh.g_ok {ys : List Nat} {ok : Bool} {g : Nat} {m : Int} {bs : List Int} {ps : List Kv} (h : Wh ys ok g m bs ps) : ok = true ↔ 0 < g := by
  rcases h with ⟨rfl, xs, h1, _⟩ | ⟨rfl, rfl, _⟩
  · have := h1.lo
    simp; omega
  · simp
def Nw (s0 s1 : List Nat) (ok : Bool) (g slot : Nat) (m : Int) (bs : List Int) (ps : List Kv) : Prop :=
  (slot = 0 /\ Wh s0 ok g m bs ps /\ ∃ ok1 g1 m1 bs1 ps1, Wh s1 ok1 g1 m1 bs1 ps1 /\ g1 <= g) \/ (slot = 1 /\ Wh s1 ok g m bs ps /\ ∃ ok0 g0 m0 bs0 ps0, Wh s0 ok0 g0 m0 bs0 ps0 /\ g0 < g)
theorem Nw.uniq {s0 s1 : List Nat} {ok ok' : Bool} {g g' i i' : Nat} {m m' : Int} {bs bs' : List Int} {ps ps' : List Kv} (h : Nw s0 s1 ok g i m bs ps) (k : Nw s0 s1 ok' g' i' m' bs' ps') : ok = ok' /\ g = g' /\ i = i' /\ m = m' /\ bs = bs' /\ ps = ps' := by
  rcases h with ⟨rfl, h1, o1, g1, m1, b1, p1, h2, h3⟩ | ⟨rfl, h1, o1, g1, m1, b1, p1, h2, h3⟩ <;> rcases k with ⟨rfl, k1, o2, g2, m2, b2, p2, k2, k3⟩ | ⟨rfl, k1, o2, g2, m2, b2, p2, k2, k3⟩
  · obtain ⟨e1, e2, e3, e4, e5⟩ := h1.uniq k1
    exact ⟨e1, e2, rfl, e3, e4, e5⟩
  · have e := (h1.uniq k2).2.1
    have f := (h2.uniq k1).2.1
    omega
  · have e := (h1.uniq k2).2.1
    have f := (h2.uniq k1).2.1
    omega
  · obtain ⟨e1, e2, e3, e4, e5⟩ := h1.uniq k1
    exact ⟨e1, e2, rfl, e3, e4, e5⟩
theorem Nw.slot {s0 s1 : List Nat} {ok : Bool} {g i : Nat} {m : Int} {bs : List Int} {ps : List Kv} (h : Nw s0 s1 ok g i m bs ps) : (i = 0 \/ i = 1) /\ g <= 4611686018427387904 /\ (ok = true ↔ 0 < g) := by
  rcases h with ⟨rfl, h1, _⟩ | ⟨rfl, h1, _⟩
  · exact ⟨Or.inl rfl, h1.g_le, h1.g_ok⟩
  · exact ⟨Or.inr rfl, h1.g_le, h1.g_ok⟩
structure Ha (w : World) (b : Nat) (ys : List Nat) : Prop where
  box : w.heap[b]? = some (.cells (bts ys).toArray 92 (0, 0))
  len : ys.length = 20
  low : ∀ x ∈ ys, x < 256
theorem Ha.keep {S : List Nat} {w w' : World} {b : Nat} {ys : List Nat} (h : Ha w b ys) (hf : Fr S w w') (hn : b ∉ S) : Ha w' b ys := ⟨hf.keep h.box hn, h.len, h.low⟩
theorem Ha.cell {w : World} {b : Nat} {ys : List Nat} (h : Ha w b ys) (j : Nat) (hj : j < 20) : w.cell? ⟨b, j, none⟩ = some (.int .u8 ((ys.getD j 0 : Nat) : Int)) := by
  rw [cell_of_row _ _ _ _ _ _ h.box]
  simpa using zch ys j (by rw [h.len]; exact hj)
theorem Ha.free {w : World} {b : Nat} {ys : List Nat} (h : Ha w b ys) (j : Nat) : w.frozen? ⟨b, j, none⟩ = false := by simp [World.frozen?, h.box]
theorem zyk (ys : List Nat) (j x : Nat) : bts (ys.set j x) = (bts ys).set j (.int .u8 (x : Int)) := by simp [bts, List.map_set]
theorem Ha.put {w : World} {b : Nat} {ys : List Nat} (h : Ha w b ys) (j x : Nat) (hx : x < 256) : Ha (w.setCell ⟨b, j, none⟩ (.int .u8 (x : Int))) b (ys.set j x) := by
  refine ⟨?_, by simpa using h.len, fun y hy => ?_⟩
  · rw [zae _ h.box, zyk]
    simp
  · rcases List.mem_or_eq_of_mem_set hy with e | e
    · exact h.low y e
    · rw [e]; exact hx
theorem zwo (i N : Nat) : leB (i + 1) N = leB i N ++ [N / 256 ^ i % 256] := by
  induction i generalizing N with
  | zero => simp [leB]
  | succ i ih =>
    rw [show leB (i + 1 + 1) N = N % 256 :: leB (i + 1) (N / 256) from rfl, ih, show leB (i + 1) N = N % 256 :: leB i (N / 256) from rfl, Nat.div_div_eq_div_mul, <- Nat.pow_succ']
    simp
def layH (ys : List Nat) (off i N : Nat) : List Nat := ys.take off ++ (leB i N ++ ys.drop (off + i))
theorem zun (ys : List Nat) (off N : Nat) : layH ys off 0 N = ys := by simp [layH, leB]
theorem zuo (ys : List Nat) (off i N : Nat) (h : off + i < ys.length) : (layH ys off i N).set (off + i) (N / 256 ^ i % 256) = layH ys off (i + 1) N := by
  have h1 : (ys.take off).length = off := by simp; omega
  have h2 : (leB i N).length = i := zax i N
  unfold layH
  rw [List.set_append_right _ _ (by omega), h1, List.set_append_right _ _ (by omega), h2, show off + i - off - i = 0 by omega, zwo, List.drop_eq_getElem_cons h]
  simp [Nat.add_assoc]
theorem zyl (N i : Nat) : ((N : Int) / 2 ^ (8 * (i : Int)).toNat) % 256 = ((N / 256 ^ i % 256 : Nat) : Int) := by
  have e : (8 * (i : Int)).toNat = 8 * i := by omega
  have e2 : (256 : Nat) ^ i = 2 ^ (8 * i) := by rw [Nat.pow_mul]
  rw [e, e2, Int.natCast_emod, Int.natCast_ediv, Int.natCast_pow]
  rfl
theorem zie (b off n cap N : Nat) (ys : List Nat) (w : World) (h : Ha w b ys) (hn : n <= 8) (ho : off + n <= 20) (hN : N < 2^64) :
    Calls Tryz.prog 127 #[.slice (some ⟨b, off, none⟩) n cap, .int .u64 (N : Int)] w fun e w' => e = .returned (.tuple #[]) /\ Ha w' b (layH ys off n N) /\ Fr [b] w w' := by
  have HH : Hid (Ha w b (layH ys off 0 N)) := by rw [zun]; exact h
  have HY : Hid (ys.length = 20) := h.len
  clear h
  go_enter Tryz.func127, Tryz.ntmps127
  go_wp2_with fail
  go_loopw [7] (fun ii wr => ∃ i : Nat, ii = .int .i64 i /\ i <= n /\ Hid (Ha wr b (layH ys off i N)) /\ Hid (Fr [b] w wr)) (fun ii _ => n - (RowKit.intOf ii).toNat)
  case atStart => exact ⟨0, rfl, Nat.zero_le _, HH, Fr.refl _ _⟩
  case round =>
    clear HH
    obtain ⟨i, rfl, hin, HA, HF⟩ := hrel
    by_cases hi : i < n
    · have hlt : (i : Int) < n := by omega
      have c0 := HA.out.cell (off + i) (by omega)
      have f0 := HA.out.free (off + i)
      have HN : Hid (Ha (wr.setCell ⟨b, off + i, none⟩ (.int .u8 ((N / 256 ^ i % 256 : Nat) : Int))) b (layH ys off (i + 1) N) /\ Fr [b] w (wr.setCell ⟨b, off + i, none⟩ (.int .u8 ((N / 256 ^ i % 256 : Nat) : Int)))) := by
        refine ⟨?_, HF.out.then (Fr.set _ _ _ (by simp))⟩
        rw [<- zuo ys off i N (by rw [HY.out]; omega)]
        exact HA.out.put (off + i) _ (Nat.mod_lt _ (by decide))
      rw [<- zyl] at HN
      go_wp2_with fail
      go_roundw
      case rel => exact ⟨i + 1, by simp, by omega, HN.out.1, HN.out.2⟩
      case measure => simp [RowKit.intOf]; omega
    · have hin2 : i = n := by omega
      have HR : Hid (Ha wr b (layH ys off n N) /\ Fr [b] w wr) := by rw [<- hin2]; exact ⟨HA.out, HF.out⟩
      have hlt : ¬ (i : Int) < n := by omega
      clear hin2 HA HF
      go_wp2_with fail
      go_end0
      exact ⟨rfl, HR.out⟩
theorem zym (b off n cap : Nat) (ys : List Nat) (w : World) (hc : ∀ j, j < n -> w.cell? ⟨b, off + j, none⟩ = some (.int .u8 ((ys.getD j 0 : Nat) : Int))) (hl : n = ys.length) (hn : n <= 8) (hlow : ∀ x ∈ ys, x < 256) :
    Calls Tryz.prog 164 #[.slice (some ⟨b, off, none⟩) n cap] w fun e w' => e = .returned (.int .u64 (leN ys : Int)) /\ Fr [] w w' := by
  have HL : Hid (n = ys.length) := hl
  have HC : Hid (∀ j, j < n -> w.cell? ⟨b, off + j, none⟩ = some (.int .u8 ((ys.getD j 0 : Nat) : Int))) := hc
  clear hl hc
  go_enter Tryz.func164, Tryz.ntmps164
  go_wp2_with fail
  go_loop [3, 8] (fun vv ii => ∃ (m i : Nat), vv = .int .u64 m /\ ii = .int .i64 i /\ i <= n /\ m < 256 ^ i /\ Hid (m = leN (ys.take i))) (fun _ ii => n - (RowKit.intOf ii).toNat)
  case atStart => exact ⟨0, 0, rfl, rfl, Nat.zero_le _, by omega, rfl⟩
  case round =>
    obtain ⟨m, i, rfl, rfl, hiX, hm, E⟩ := hrel
    by_cases hi : i < n
    · have hlt : (i : Int) < n := by omega
      have hcx := HC.out i hi
      obtain ⟨x, hx⟩ : ∃ x, x = ys.getD i 0 := ⟨_, rfl⟩
      rw [<- hx] at hcx
      have hget : ys[i]? = some x := by rw [hx, List.getD, List.getElem?_eq_getElem (by rw [<- HL.out]; omega)]; rfl
      have hx256 : x < 256 := hlow x (List.mem_of_getElem? hget)
      have hg := byt m x i hm (by omega) hx256
      have HG : Hid (_ = _) := hg.1
      have HB : Hid (m + x * 256 ^ i < 256 ^ (i + 1)) := hg.2
      have HE : Hid (m + x * 256 ^ i = leN (ys.take (i + 1))) := by
        show _ = _
        have e : ys.take (i + 1) = ys.take i ++ [x] := by rw [List.take_add_one, hget]; rfl
        rw [e, zmo, <- E.out, List.length_take, <- HL.out, Nat.min_eq_left (by omega)]
      clear hg hget hx
      go_wp2
      go_round
      case rel => exact ⟨_, i + 1, congrArg (Value.int .u64) HG.out, by simp, by omega, HB.out, HE⟩
      case measure => simp [RowKit.intOf]; omega
    · have hlt : ¬ (i : Int) < n := by omega
      have hiX' : i = n := by omega
      have HV : Hid (m = leN ys) := by
        have := E.out
        rw [hiX', List.take_of_length_le (by rw [<- HL.out]; exact Nat.le_refl _)] at this
        exact this
      clear hiX'
      go_wp2
      go_ret
      rw [HV.out]
      exact ⟨rfl, Fr.refl _ _⟩
theorem zyn (ys : List Nat) (w : World) (hl : ys.length = 20) (hlow : ∀ x ∈ ys, x < 256) :
    Calls Tryz.prog 142 #[.agg (bts ys).toArray] w fun e w' => e = .returned (.int .u64 (leN ((ys.drop 4).take 8) : Int)) /\ Fr [] w w' := by
  obtain ⟨w1, HW1⟩ : ∃ w1, Hid (w.alloc (.cells (bts ys).toArray 92) = w1) := ⟨_, rfl⟩
  have hF1 : Fr [] w w1 := by rw [<- HW1.out]; exact Fr.alloc [] w _
  have hA : Ha w1 w.heap.size ys := ⟨by rw [<- HW1.out]; exact heap_alloc_new w _, hl, hlow⟩
  have HC : Hid (Calls _ _ _ _ _) := zym w.heap.size 4 8 16 ((ys.drop 4).take 8) w1 (fun j hj => by
    rw [hA.cell (4 + j) (by omega)]
    simp [List.getD, hj]) (by simp; omega) (Nat.le_refl _) (fun x hx => hlow x (List.mem_of_mem_drop (List.mem_of_mem_take hx)))
  clear hA hlow
  go_enter Tryz.func142, Tryz.ntmps142
  go_upto_region 1 with fail
  rw [HW1.out]
  clear HW1
  go_wp2_with fail
  refine Calls.mono HC.out ?_
  rintro e w2 ⟨rfl, hF2⟩
  go_wp2
  go_ret
  exact ⟨rfl, hF1.then hF2⟩
theorem zyo (c : Nat) (h : c < 4294967296) : bits .and .u32 (c : Int) 1 = ((c % 2 : Nat) : Int) := by
  rw [show (1 : Int) = ((1 : Nat) : Int) from rfl, u32_and_nat c 1 h (by omega), Nat.and_one_is_mod]
theorem zup (c : Nat) (w : World) (h : c < 4294967296) :
    Calls Tryz.prog 185 #[.int .u32 (c : Int)] w fun e w' => e = .returned (.int .u32 ((sh c : Nat) : Int)) /\ w = w' := by
  have hand := zyo c h
  by_cases hp : c % 2 = 1
  · have E : Hid (sh c = (c / 2) ^^^ 2197175160) := by show _ = _; unfold sh; rw [if_pos hp]
    rw [hp] at hand
    have hx : bits .xor .u32 ((c : Int) / 2) 2197175160 = (((c / 2) ^^^ 2197175160 : Nat) : Int) := by
      have := u32_xor_nat (c / 2) 2197175160 (by omega) (by omega)
      simpa using this
    have HX : Hid (bits .xor .u32 ((c : Int) / 2) 2197175160 = (((c / 2) ^^^ 2197175160 : Nat) : Int)) := hx
    clear hx
    go_enter Tryz.func185, Tryz.ntmps185
    go_wp2
    go_ret
    rw [E.out]
    exact ⟨by rw [<- HX.out]; rfl, rfl⟩
  · have E : Hid (sh c = c / 2) := by show _ = _; unfold sh; rw [if_neg hp]
    rw [show c % 2 = 0 by omega] at hand
    go_enter Tryz.func185, Tryz.ntmps185
    go_wp2
    go_ret
    rw [E.out]
    exact ⟨by simp, rfl⟩
end Go.Proofs.YtembflnhhfliaaaGreatDoor
