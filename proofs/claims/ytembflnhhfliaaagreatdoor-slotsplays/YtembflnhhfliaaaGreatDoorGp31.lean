/- Contracts and plain lemmas of this claim. -/
import Derived.Test.YtembflnhhfliaaaGreatDoorGp8
import Derived.Deep.RegionHeld3
import Derived.Test.YtembflnhhfliaaaGreatDoorGp4
import Derived.Test.YtembflnhhfliaaaGreatDoorGp27
import Derived.Test.YtembflnhhfliaaaGreatDoorGp30
import Derived.Test.YtembflnhhfliaaaGreatDoorGp17
set_option linter.unusedSimpArgs false
set_option linter.unusedVariables false
set_option maxHeartbeats 4000000
set_option maxRecDepth 100000
namespace Go.Proofs.YtembflnhhfliaaaGreatDoor
open Go.ChangeShapes Go.WideShapes Go.ChangeAt Go.RowKit Go.Lib Go.Maps
theorem zxt (vs : List Vn) : szXs vs = vs.length + (vs.map (fun v => v.val.size)).sum := by
  induction vs with
  | nil => rfl
  | cons v r ih =>
    simp only [szXs, List.map_cons, List.sum_cons, List.length_cons] at ih ⊢
    rw [ih]
    unfold szX
    omega
theorem zpv (ao : Option Addr) (L cap : Nat) (vs : List Vn) (w : World) (hV : VRs w ao vs) (hL : L = vs.length) :
    Calls Tryz.prog 120 #[.slice ao L cap] w fun e w' => ∃ N : Nat, e = .returned (.int .i64 (N : Int)) /\ L <= N /\ N <= 9007199254740992 /\ (N <= 1048576 -> N = szXs vs) /\ w = w' := by
  have HL : Hid (L = vs.length) := hL
  have HV : Hid (VRs w ao vs) := hV
  have hLL : L <= 4398046511104 := by have := hV.few; omega
  clear hV hL
  go_enter Tryz.func120, Tryz.ntmps120
  go_wp2_with fail
  go_loop [3, 4] (fun nn ii => ∃ (N i : Nat), nn = .int .i64 N /\ ii = .int .i64 i /\ i <= L /\ L <= N /\ N <= 9007199254740992 /\ Hid (N = L + ((vs.take i).map (fun v => v.val.size)).sum)) (fun _ ii => L - (RowKit.intOf ii).toNat)
  case atStart => exact ⟨L, 0, rfl, rfl, Nat.zero_le _, Nat.le_refl _, by omega, by simp [Hid]⟩
  case round =>
    obtain ⟨N, i, rfl, rfl, hiL, hLN, hN, HE⟩ := hrel
    by_cases hi : i < L
    · by_cases hN2 : N <= 1048576
      · have hi' : i < vs.length := by rw [<- HL.out]; exact hi
        obtain ⟨b, off, rfl, hbl, hat⟩ := HV.out.lies (by omega)
        obtain ⟨_, c1, _⟩ := hat i hi'
        have hE := (HV.out.each _ (zbn vs i hi')).v
        have hsn := zcb vs i hi'
        obtain ⟨x, hx⟩ : ∃ x, x = vs.getD i Vn.zero := ⟨_, rfl⟩
        rw [<- hx] at c1 hE hsn
        have HE2 : Hid (N + x.val.size = L + ((vs.take (i + 1)).map (fun v => v.val.size)).sum) := by
          show _ = _
          rw [hsn, HE.out]
          simp
          omega
        obtain ⟨num, val, drop⟩ := x
        simp only at c1 hE HE2
        clear hat hx hsn HE
        have hN3 : (N : Int) <= 1048576 := by omega
        go_wp2
        refine ⟨⟨N + val.size, i + 1, by simp, by simp, by omega, by omega, by omega, HE2⟩, ?_⟩
        simp [RowKit.intOf]
        omega
      · have hN3 : (1048576 : Int) < N := by omega
        have HR : Hid (N <= 1048576 -> N = szXs vs) := fun h => absurd h hN2
        clear hN2
        go_wp2
        go_ret
        exact ⟨N, rfl, hLN, hN, HR.out, rfl⟩
    · have HR : Hid (N <= 1048576 -> N = szXs vs) := fun _ => by
        have h1 := HL.out
        have h2 := HE.out
        rw [List.take_of_length_le (by omega)] at h2
        rw [zxt]
        omega
      clear HE
      go_wp2
      go_ret
      exact ⟨N, rfl, hLN, hN, HR.out, rfl⟩
theorem zxu (ps : List Kv) : szKs ps = ps.length + (ps.map (fun p => p.1.size + szXs p.2)).sum := by
  induction ps with
  | nil => rfl
  | cons v r ih =>
    simp only [szKs, List.map_cons, List.sum_cons, List.length_cons] at ih ⊢
    rw [ih]
    unfold szK
    omega
theorem zpw (ao : Option Addr) (L cap : Nat) (hs : List Hd) (w : World) (hH : HRs w ao hs) (hL : L = hs.length) :
    Calls Tryz.prog 73 #[.slice ao L cap] w fun e w' => ∃ N : Nat, e = .returned (.int .i64 (N : Int)) /\ N <= 18014398509481984 /\ L <= N /\ (N <= 1048576 -> N = szKs (hs.map Hd.kv)) /\ Fr [] w w' := by
  have HL : Hid (L = hs.length) := hL
  have hLm : L <= 3518437208882 := by have := hH.few; omega
  have HH : Hid (∀ W, Fr [] w W -> HRs W ao hs) := fun W hf => hH.keep hf
  clear hL hH
  go_enter Tryz.func73, Tryz.ntmps73
  go_wp2_with fail
  go_loopw [3, 4] (fun nn ii wr => ∃ (n i : Nat), nn = .int .i64 n /\ ii = .int .i64 i /\ i <= L /\ n <= 18014398509481984 /\ L <= n /\ Hid (n <= 1048576 -> n = L + (((hs.take i).map Hd.kv).map (fun p => p.1.size + szXs p.2)).sum) /\ Hid (Fr [] w wr)) (fun _ ii _ => L - (RowKit.intOf ii).toNat)
  case atStart => exact ⟨L, 0, rfl, rfl, Nat.zero_le _, by omega, Nat.le_refl _, by simp [Hid], Fr.refl _ _⟩
  case round =>
    obtain ⟨n, i, rfl, rfl, hiL, hn, hLn, HE, HF⟩ := hrel
    by_cases hi : i < L
    · by_cases hbig : n <= 1048576
      · have hi' : i < hs.length := by rw [<- HL.out]; exact hi
        have hb' : (n : Int) <= 1048576 := by omega
        have hHr := HH.out _ HF.out
        obtain ⟨bb, off, rfl, hbl, hc⟩ := hHr.lies (by omega)
        obtain ⟨c0, c1⟩ := hc i hi'
        have hat := hHr.each _ (zaw hs i hi')
        have hsn := zcc hs i hi'
        obtain ⟨x, hxx⟩ : ∃ x, x = hs.getD i Hd.zero := ⟨_, rfl⟩
        rw [<- hxx] at c0 c1 hat hsn
        have HSn : Hid (hs.take (i + 1) = hs.take i ++ [x]) := hsn
        clear hxx hc hHr hsn
        obtain ⟨key, xo, M, cm, vs⟩ := x
        simp only at c0 c1
        have hks : key.size <= 140737488355328 := hat.k
        have HV : Hid (∀ V, Fr [] wr V -> Calls Tryz.prog 120 #[.slice xo M cm] V fun e w' => (∃ K : Nat, e = .returned (.int .i64 (K : Int)) /\ K <= 9007199254740992 /\ Hid (K <= 1048576 -> K = szXs vs)) /\ V = w') := fun V hf => (zpv xo M cm vs V (hat.rs.keep hf) hat.len).mono fun e w' h => by obtain ⟨K, h1, h2, h3, h4, h5⟩ := h; exact ⟨⟨K, h1, h3, h4⟩, h5⟩
        clear hat
        go_wp2_with fail
        go_region_held3 (fun W => W.cell? ⟨bb, off + i * 2, none⟩ = some (.string key) /\ W.cell? ⟨bb, off + i * 2 + 1, none⟩ = some (.slice xo M cm)) (first | exact ⟨c0, c1⟩ | go_keep)
          (first | (go_at_call 120; with_reducible refine Calls.mono (HV.out _ (Fr.drew _ _)) ?_; rintro e wA ⟨⟨K, rfl, hK2, HK3⟩, rfl⟩))
        obtain ⟨V, hV⟩ : ∃ V : Nat, V = n + key.size + K := ⟨_, rfl⟩
        have e1 : IntKind.i64.wrap ((n : Int) + (key.size : Int)) = ((n + key.size : Nat) : Int) := by rw [IntKind.wrap_i64]; omega
        have e2 : IntKind.i64.wrap (((n + key.size : Nat) : Int) + (K : Int)) = (V : Int) := by rw [IntKind.wrap_i64]; omega
        rw [e1, e2]
        have HE2 : Hid (V <= 1048576 -> V = L + (((hs.take (i + 1)).map Hd.kv).map (fun p => p.1.size + szXs p.2)).sum) := fun hv => by
          have h1 := HE.out hbig
          have h2 := HK3.out (by omega)
          rw [HSn.out, hV, h1, h2]
          simp [Hd.kv]
          omega
        have HG2 : Hid (Fr [] w wr.drew) := HF.out.then (Fr.drew [] _)
        have hV1 : V <= 18014398509481984 := by omega
        have hV2 : L <= V := by omega
        clear e1 e2 HV HE HSn HK3 hV
        go_wp2
        go_roundw
        case rel => exact ⟨V, i + 1, rfl, by simp, by omega, hV1, hV2, HE2, HG2⟩
        case measure => simp [RowKit.intOf]; omega
      · have hb' : (1048576 : Int) < n := by omega
        have HR : Hid (n <= 1048576 -> n = szKs (hs.map Hd.kv)) := fun h => absurd h hbig
        have hb2 : ¬ ((n : Int) <= 1048576) := by omega
        clear hbig HE
        go_wp2
        go_ret
        exact ⟨n, rfl, hn, hLn, HR.out, HF.out⟩
    · have HR : Hid (n <= 1048576 -> n = szKs (hs.map Hd.kv)) := fun h => by
        have h1 := HL.out
        have h2 := HE.out h
        rw [List.take_of_length_le (by omega)] at h2
        rw [zxu, List.length_map]
        omega
      clear HE
      go_wp2
      go_ret
      exact ⟨n, rfl, hn, hLn, HR.out, HF.out⟩
theorem zlv (m : Int) (bo ho : Option Addr) (Lb cb Lh ch : Nat) (bs : List Int) (hs : List Hd) (w : World) (hI : IRs w bo bs) (hLb : Lb = bs.length) (hH : HRs w ho hs) (hLh : Lh = hs.length) :
    Calls Tryz.prog 13 #[.agg #[.int .i64 m, .slice bo Lb cb, .slice ho Lh ch]] w fun e w' => ∃ N : Nat, e = .returned (.int .i64 (N : Int)) /\ N <= 36028797018963968 /\ (N <= 1048576 -> N = bs.length + szKs (hs.map Hd.kv)) /\ Fr [] w w' := by
  have HLb : Hid (Lb = bs.length) := hLb
  have hLb1 : Lb <= 17592186044416 := by have := hI.few; omega
  obtain ⟨w1, HW1⟩ : ∃ w1, Hid (w.alloc (.cells #[.int .i64 m, .slice bo Lb cb, .slice ho Lh ch] 57) = w1) := ⟨_, rfl⟩
  have hF1 : Fr [] w w1 := by rw [<- HW1.out]; exact Fr.alloc [] w _
  have hb1 : w1.heap[w.heap.size]? = some (.cells #[.int .i64 m, .slice bo Lb cb, .slice ho Lh ch] 57 (0, 0)) := by rw [<- HW1.out]; exact heap_alloc_new w _
  have HBx : Hid (∀ W, Fr [] w1 W -> W.cell? ⟨w.heap.size, 1, none⟩ = some (.slice bo Lb cb) /\ W.cell? ⟨w.heap.size, 2, none⟩ = some (.slice ho Lh ch)) := fun W hf => by
    have hr := hf.keep hb1 (by simp)
    exact ⟨by rw [cell_of_row _ _ _ _ _ _ hr]; rfl, by rw [cell_of_row _ _ _ _ _ _ hr]; rfl⟩
  obtain ⟨k1, k2⟩ := HBx.out _ (Fr.refl _ _)
  have HC : Hid (∀ W, Fr [] w1 W -> Calls Tryz.prog 73 #[.slice ho Lh ch] W fun e w' => (∃ N : Nat, e = .returned (.int .i64 (N : Int)) /\ N <= 18014398509481984 /\ Hid (N <= 1048576 -> N = szKs (hs.map Hd.kv))) /\ (w'.cell? ⟨w.heap.size, 1, none⟩ = some (.slice bo Lb cb) /\ w'.cell? ⟨w.heap.size, 2, none⟩ = some (.slice ho Lh ch)) /\ Hid (Fr [] w w')) := fun W hf => by
    refine (zpw ho Lh ch hs W (hH.keep (hF1.then hf)) hLh).mono ?_
    rintro e w' ⟨N, rfl, h1, _, h2, h3⟩
    exact ⟨⟨N, rfl, h1, h2⟩, HBx.out _ (hf.then h3), hF1.then (hf.then h3)⟩
  clear hI hH hLh hLb hb1 hF1
  go_enter Tryz.func13, Tryz.ntmps13
  go_upto_region 1 with fail
  rw [HW1.out]
  go_region_held3 (fun W => W.cell? ⟨w.heap.size, 1, none⟩ = some (.slice bo Lb cb) /\ W.cell? ⟨w.heap.size, 2, none⟩ = some (.slice ho Lh ch)) (go_keep)
    (first | (go_at_call 73; with_reducible refine Calls.mono (HC.out _ (Fr.drew _ _)) ?_; rintro e w2 ⟨⟨N, rfl, hN, HN3⟩, ⟨j1, j2⟩, HF2⟩))
  obtain ⟨V, hV⟩ : ∃ V : Nat, V = Lb + N := ⟨_, rfl⟩
  have e1 : IntKind.i64.wrap ((Lb : Int) + (N : Int)) = (V : Int) := by rw [IntKind.wrap_i64]; omega
  have HR : Hid (V <= 36028797018963968 /\ (V <= 1048576 -> V = bs.length + szKs (hs.map Hd.kv))) := ⟨by omega, fun h => by have h1 := HN3.out (by omega); have := HLb.out; omega⟩
  rw [e1]
  clear hV e1
  go_wp2
  go_ret
  exact ⟨V, rfl, HR.out.1, HR.out.2, HF2.out⟩
structure Wd13 (w1 : World) where
  W : World
  h : Fr [] w1 W
instance (w1 : World) : Nonempty (Wd13 w1) := ⟨⟨w1, Fr.refl _ _⟩⟩
theorem zck {P : Program} {w1 wr : World} {id : Nat} {Q : Exit -> Act -> World -> Prop} {a : Act} {l : List Oper} (hm : P.follows .mixedOrders = true) (hB : Region.lexB .any l.toArray = true) (hf : Fr [] w1 wr)
    (h : wpQuiet P l.toArray (fun w' => ∃ x : Wd13 w1, w' = x.W) (fun a' => ∀ w', (∃ x : Wd13 w1, w' = x.W) -> Q .normal a' w') l a) : (Code.region id l.toArray true).wp P Q a wr :=
  wp_region_quiet (C := fun w' => ∃ x : Wd13 w1, w' = x.W) hm hB ⟨⟨_, hf.then (Fr.drew [] wr)⟩, rfl⟩ (by simpa using h)
section
variable {H : Type} {enc : TypeId × Value -> H}
end
open BigFrame
def ToldD (m : Int) (bs : List Int) (ps : List Kv) (c : Nat) (ys : List Nat) : Prop := (OkS m bs ps /\ c = 0 /\ ys = encD m bs ps) \/ (¬ OkS m bs ps /\ c = 1 /\ ys = [])
theorem ToldD.ex (m : Int) (bs : List Int) (ps : List Kv) : ∃ c ys, ToldD m bs ps c ys := by
  by_cases h : OkS m bs ps
  · exact ⟨0, _, Or.inl ⟨h, rfl, rfl⟩⟩
  · exact ⟨1, _, Or.inr ⟨h, rfl, rfl⟩⟩
theorem ToldD.len {m : Int} {bs : List Int} {ps : List Kv} {c : Nat} {ys : List Nat} (h : ToldD m bs ps c ys) (hz : bs.length + szKs ps <= 1048576) : ys.length < 2^26 := by
  rcases h with ⟨a, _, rfl⟩ | ⟨_, _, rfl⟩
  · have := (zeo m bs ps).2
    omega
  · simp
theorem zxv {w : World} {k N : Nat} {ys : List Nat} (h : w.heap[k]? = some (.cells (bts ys).toArray 5 (0, 0))) (hN : N = ys.length) (hm : N < 2^40) : w.ownsRow 0 5 1 (.slice (some ⟨k, 0, none⟩) N N) N (bts ys) := by
  refine ⟨by rw [zab]; omega, .inr ⟨k, N, (bts ys).toArray, rfl, Nat.zero_le _, h, Nat.le_refl _, by simp only [maxLen]; omega, by simp [zab]; omega, ?_⟩⟩
  simp only [Nat.mul_one]
  rw [List.take_of_length_le (by rw [zab]; omega)]
theorem Rs.fr5 {w w' : World} {ao : Option Addr} {xs : List Nat} (h : Rs w ao xs) (hf : Fr [] w w') : Rs w' ao xs := by
  refine ⟨fun h0 => ?_, h.len⟩
  obtain ⟨b, off, e, hc⟩ := h.lies h0
  exact ⟨b, off, e, fun j hj => by
    have hlt := World.block_lt_of_cell? w _ (hc j hj)
    rw [World.cell?_of_block (hf.block b hlt (by simp))]
    exact hc j hj⟩
theorem zpx (m : Int) (bo ho : Option Addr) (Lb cb Lh ch c N : Nat) (bs : List Int) (hs : List Hd) (ps : List Kv) (ys : List Nat) (w : World) (hI : IRs w bo bs) (hLb : Lb = bs.length) (hH : HRs w ho hs) (hLh : Lh = hs.length) (hp : hs.map Hd.kv = ps) (hT : ToldD m bs ps c ys) (hN : N = ys.length) (hz : bs.length + szKs ps <= 1048576) :
    Calls Tryz.prog 76 #[.agg #[.int .i64 m, .slice bo Lb cb, .slice ho Lh ch]] w fun e w' => ∃ ao cap, e = .returned (.tuple #[.slice ao N cap, .int .i64 (c : Int)]) /\ w'.ownsRow 0 5 1 (.slice ao N cap) N (bts ys) /\ (∀ k, (Value.slice ao N cap).ownBlock = some k -> w.heap.size <= k) /\ Fr [] w w' := by
  have hl := hT.len hz
  subst hp
  rcases hT with ⟨hok, rfl, rfl⟩ | ⟨hno, rfl, rfl⟩
  · refine (zss m bo ho Lb cb Lh ch N bs hs _ w hI hLb hH hLh hok rfl hN (by omega)).mono ?_
    rintro e w' ⟨k, rfl, hk, hrow, hF⟩
    exact ⟨some ⟨k, 0, none⟩, N, rfl, zxv hrow hN (by omega), by intro j hj; simp [Value.ownBlock] at hj; omega, hF⟩
  · simp only [List.length_nil] at hN
    subst hN
    refine (zsr m bo ho Lb cb Lh ch bs hs w hI hLb hH hLh hno).mono ?_
    rintro e w' ⟨rfl, hF⟩
    exact ⟨none, 0, rfl, World.ownsRow_nil _ _ _ _, by intro j hj; simp [Value.ownBlock] at hj, hF⟩
theorem TwS.irs {w0 w w1 : World} {bs : List Int} {hs : List Hd} {bb bh : Nat} {ks : List Nat} {bo : Option Addr} (h : TwS w0 w bs hs bb bh ks) (hI : IRs w1 bo bs) : IRs w (some ⟨bb, 0, none⟩) bs := by
  refine ⟨fun h0 => ⟨bb, 0, rfl, lt_of_block h.rb, fun i hi => ?_⟩, hI.few⟩
  rw [cell_of_row _ _ _ _ _ _ h.rb, List.getElem?_toArray, Nat.zero_add, zgd _ _ (by simp; omega)]
  congr 2
  simp [List.getD, List.getElem?_append_left hi]
theorem TwS.hrs {w0 w w1 : World} {bs : List Int} {hs : List Hd} {bb bh : Nat} {ks : List Nat} {ho : Option Addr} (h : TwS w0 w bs hs bb bh ks) (hH : HRs w1 ho hs) : HRs w (some ⟨bh, 0, none⟩) (twTs hs ks) := zvh hH h.tw h.rh
theorem TwS.kv {w0 w : World} {bs : List Int} {hs : List Hd} {bb bh : Nat} {ks : List Nat} (h : TwS w0 w bs hs bb bh ks) : (twTs hs ks).map Hd.kv = hs.map Hd.kv := zxn h.tw
theorem TwS.iown {w0 w : World} {bs : List Int} {hs : List Hd} {bb bh L : Nat} {ks : List Nat} (h : TwS w0 w bs hs bb bh ks) (hL : L = bs.length) (hm : L < 2^21) : w.ownsRow 0 3 1 (.slice (some ⟨bb, 0, none⟩) L (L + 1)) L (zbf bs) := by
  refine ⟨by rw [zdf, hL, Nat.mul_one], .inr ⟨bb, L + 1, (zbf (bs ++ [7777])).toArray, rfl, Nat.zero_le _, h.rb, by omega, by simp only [maxLen]; omega, by simp [zdf]; omega, ?_⟩⟩
  have e : zbf (bs ++ [7777]) = zbf bs ++ zbf [7777] := by simp [zbf]
  simp only [e]
  rw [List.take_append_of_le_length (by rw [zdf]; omega), List.take_of_length_le (by rw [zdf]; omega)]
theorem zaag (vs : List Vn) : vs.length <= szXs vs := by
  induction vs with
  | nil => simp
  | cons v r ih =>
    have hz : szX v = 1 + v.val.size := rfl
    simp only [szXs, List.map_cons, List.sum_cons, List.length_cons] at *
    omega
theorem zabr (p : Kv) : 1 <= szK p /\ p.2.length <= szK p := by
  have := zaag p.2
  unfold szK
  omega
theorem zef {hs : List Hd} (h : szKs (hs.map Hd.kv) <= 1048576) : hs.length <= 1048576 /\ ∀ x ∈ hs, x.vs.length <= 1048576 := by
  have key : ∀ l : List Hd, l.length <= szKs (l.map Hd.kv) /\ ∀ x ∈ l, x.vs.length <= szKs (l.map Hd.kv) := by
    intro l
    induction l with
    | nil => simp [szKs]
    | cons b r ih =>
      have h1 : 1 <= szK b.kv /\ b.vs.length <= szK b.kv := zabr b.kv
      obtain ⟨i1, i2⟩ := ih
      have e : szKs ((b :: r).map Hd.kv) = szK b.kv + szKs (r.map Hd.kv) := by simp [szKs]
      rw [e]
      refine ⟨by simp only [List.length_cons]; omega, fun x hx => ?_⟩
      rcases List.mem_cons.1 hx with rfl | hx
      · omega
      · have := i2 x hx; omega
  obtain ⟨a, b⟩ := key hs
  exact ⟨by omega, fun x hx => by have := b x hx; omega⟩
namespace Bq
theorem zfu {n k : Nat} {v v' : Value} (h : Moved k v v') (hk : n <= k) : Moved n v v' := by
  rcases h with h | ⟨b, h1, h2⟩
  · exact Or.inl h
  · exact Or.inr ⟨b, h1, Nat.le_trans hk h2⟩
theorem saved_tell {w0 w : World} {bk T : Nat} {rB rI rW rT : Value} {hB hI hW hT : List HB} (h : B4 w0 w bk T rB rI rW rT hB hI hW hT) (m : Int) (io ho : Option Addr) (Lb cb Lh ch : Nat) (ds : List Dt) (hp : P0 kInt w ⟨.slice io Lb cb, .slice none 0 0, T + 1⟩) (hal : ∀ k, (Value.slice io Lb cb).ownBlock = some k -> k ∉ lbs hI) (hd : Dts w ho Lh ch ds) (hw : ∀ (i : Nat) (d : Dt), ds[i]? = some d -> ∀ k, d.2.ownBlock = some k -> k ∉ lbs hT) (ht : ∀ k, (Value.slice ho Lh ch).ownBlock = some k -> k ∉ lbs hW) (hTL : T + 1 + Lh < 67108000) :
    Calls Tryz.prog 18 #[.pointer (some ⟨bk, 0, none⟩), .agg #[.int .i64 m, .slice io Lb cb, .slice ho Lh ch]] w fun e w' => e = .returned (.tuple #[]) /\ ∃ rI' rT' rW', B4 w0 w' bk (T + 1 + Lh + 1) rB rI' rW' rT' hB (hI ++ [⟨.slice io Lb cb, .slice none 0 0, T + 1⟩]) (hW ++ [⟨.slice ho Lh ch, .slice none 0 0, T + 1 + Lh + 1⟩]) (hT ++ held (T + 1) ds) /\ Fr (bk :: (rI.ownBlock.toList ++ (rT.ownBlock.toList ++ rW.ownBlock.toList))) w w' /\ Moved w.heap.size rI rI' /\ Moved w.heap.size rT rT' /\ Moved w.heap.size rW rW' := by
  obtain ⟨wa, HWa⟩ : ∃ wa, Hid (w.alloc (.cells #[.int .i64 m, .slice io Lb cb, .slice ho Lh ch] 57) = wa) := ⟨_, rfl⟩
  have hFa : Fr [] w wa := by rw [<- HWa.out]; exact Fr.alloc [] w _
  have hba : wa.heap[w.heap.size]? = some (.cells #[.int .i64 m, .slice io Lb cb, .slice ho Lh ch] 57 (0, 0)) := by rw [<- HWa.out]; exact heap_alloc_new w _
  have hlt := h.lt
  have ha := h.keep hFa
  have hda := hd.keep hFa (by simp) (by simp)
  obtain ⟨k0, k1, k2⟩ := zaj hba
  have HI : Hid (Calls _ _ _ _ _) := zxm ha io Lb cb (hp.keep hFa (by simp)) hal (by omega)
  have HNx : Hid (∀ rv' w1, B4 w0 w1 bk (T + 1) rB rv' rW rT hB (hI ++ [⟨.slice io Lb cb, .slice none 0 0, T + 1⟩]) hW hT -> Fr (bk :: rI.ownBlock.toList) wa w1 -> Moved wa.heap.size rI rv' ->
      w1.cell? ⟨w.heap.size, 2, none⟩ = some (.slice ho Lh ch) /\ Calls Tryz.prog 87 #[.pointer (some ⟨bk, 0, none⟩), .slice ho Lh ch] w1 fun e w' => e = .returned (.tuple #[]) /\ ∃ rI' rT' rW', B4 w0 w' bk (T + 1 + Lh + 1) rB rI' rW' rT' hB (hI ++ [⟨.slice io Lb cb, .slice none 0 0, T + 1⟩]) (hW ++ [⟨.slice ho Lh ch, .slice none 0 0, T + 1 + Lh + 1⟩]) (hT ++ held (T + 1) ds) /\ Fr (bk :: (rI.ownBlock.toList ++ (rT.ownBlock.toList ++ rW.ownBlock.toList))) w w' /\ Moved w.heap.size rI rI' /\ Moved w.heap.size rT rT' /\ Moved w.heap.size rW rW') := fun rv' w1 h1 hF1 hM1 => by
    obtain ⟨cs, hX, _⟩ := ha.box
    have hnb : ∀ k cs' t, wa.heap[k]? = some (.cells cs' t (0, 0)) -> t ≠ 52 -> k ≠ bk := fun k cs' t hk hne e => by
      subst e
      rw [hX.box] at hk
      cases hk
      exact hne rfl
    have hnE : ∀ k cs', wa.heap[k]? = some (.cells cs' 147 (0, 0)) -> k ∉ bk :: rI.ownBlock.toList := fun k cs' hk hm => by
      rcases List.mem_cons.1 hm with e | e
      · exact hnb k cs' _ hk (by decide) e
      · exact (zca zir ha.sI.bl).notE hk e
    have hnV : ∀ k cs', wa.heap[k]? = some (.cells cs' 136 (0, 0)) -> k ∉ bk :: rI.ownBlock.toList := fun k cs' hk hm => by
      rcases List.mem_cons.1 hm with e | e
      · exact hnb k cs' _ hk (by decide) e
      · exact (zca zis ha.sI.bl).notE hk e
    have hd1 := hda.keep hF1 (fun k hk => by obtain ⟨c, hc⟩ := zag hda.row k hk; exact hnE k c hc) (fun i d hdi k hk => by
      obtain ⟨n, vs, q1, q2⟩ := hda.each i d hdi
      obtain ⟨c, hc⟩ := q1.type k hk
      exact hnV k c hc)
    refine ⟨?_, (zve h1 ho Lh ch ds hd1 hw ht (by omega)).mono ?_⟩
    · have hbk : w.heap.size ∉ bk :: rI.ownBlock.toList := fun hm => by
        rcases List.mem_cons.1 hm with e | e
        · have := hlt bk (mem_kbs.2 (Or.inl rfl)); omega
        · have := hlt w.heap.size (mem_kbs.2 (Or.inr (Or.inr (Or.inl (Or.inl (by simpa using e)))))); omega
      exact (zaj (hF1.keep hba hbk)).2.2
    · rintro e w2 ⟨rfl, rT', rW', h2, hF2, hM2, hM3⟩
      have hs1 := hFa.size
      have hs2 := hF1.size
      refine ⟨rfl, rv', rT', rW', h2, ((hFa.mono (T := bk :: rI.ownBlock.toList) (by simp)).then hF1).trans hF2 (fun x hx _ => ?_) (fun x hx _ => ?_), zfu hM1 hs1, zfu hM2 (by omega), zfu hM3 (by omega)⟩
      · rcases List.mem_cons.1 hx with rfl | hx
        · exact List.mem_cons_self
        · exact List.mem_cons_of_mem _ (List.mem_append_left _ hx)
      · rcases List.mem_cons.1 hx with rfl | hx
        · exact List.mem_cons_self
        · exact List.mem_cons_of_mem _ (List.mem_append_right _ hx)
  clear h hp hal hd hw ht ha hda hlt hba hFa
  go_enter Tryz.func18, Tryz.ntmps18
  go_upto_region 1 with fail
  rw [HWa.out]
  go_wp2_with fail
  refine Calls.mono HI.out ?_
  rintro e w1 ⟨rfl, rv', h1, hF1, hM1⟩
  obtain ⟨k3, hC⟩ := HNx.out rv' w1 h1 hF1 hM1
  have HC : Hid (Calls _ _ _ _ _) := hC
  clear hC h1 hF1 hM1 HNx HI k0 k1 k2
  go_wp2_with fail
  refine Calls.mono HC.out ?_
  rintro e w2 ⟨rfl, R⟩
  have HR : Hid _ := R
  clear R HC
  go_wp2_with fail
  go_end0
  exact ⟨rfl, HR.out⟩
end Bq
theorem zbu {w : World} {b : Nat} {cs : Array Value} {ty : TypeId} (hb : w.heap[b]? = some (.cells cs ty (0, 0))) {base : Nat} {e : TypeId} {size : Nat} {v : Value} {n : Nat} {xs : List Value} (ho : w.ownsRow base e size v n xs) (hne : e ≠ ty) : b ∉ v.ownBlock.toList := fun hh => by
  obtain ⟨_, cur, hc⟩ := zah ho (Option.mem_toList.1 hh)
  rw [hb] at hc
  simp only [Option.some.injEq, Obj.cells.injEq] at hc
  exact hne hc.2.1.symm
theorem St.box {w : World} {t : Nat} {ao : Option Addr} {L cap : Nat} {lv : Nat -> Prop} {de : Nat -> Prop} (h : St w t ao L cap lv de) : ∃ cs, w.heap[t]? = some (.cells cs 233 (0, 0)) := by
  rcases h with ⟨p, h3, h4⟩ | ⟨c, ⟨_, _, _, _, h3⟩, h4⟩
  · exact ⟨_, h3.ta.box⟩
  · exact ⟨_, h3.box⟩
structure Dy (w W : World) (b0 t sb : Nat) (x y z : Value) : Prop where
  i : DcI w W b0 sb x y z
  n0 : w.heap.size <= b0
  nt : w.heap.size <= t
  ns : w.heap.size <= sb
  d1 : b0 ≠ t
  d2 : sb ≠ t
  d3 : b0 ≠ sb
section
variable {w W W' : World} {b0 t sb : Nat} {x y z : Value}
theorem Dy.stepT (h : Dy w W b0 t sb x y z) (hF : Fr [t] W W') : Dy w W' b0 t sb x y z :=
  ⟨⟨h.i.rb.keep hF (by simp; exact h.d1), h.i.sv.keep hF (by simp; exact h.d2), h.i.fr.on hF (by intro k hk; simp at hk; have := h.nt; omega)⟩, h.n0, h.nt, h.ns, h.d1, h.d2, h.d3⟩
theorem Dy.step0 (h : Dy w W b0 t sb x y z) (hF : Fr [] W W') : Dy w W' b0 t sb x y z := h.stepT (hF.mono (by simp))
theorem Dy.row {S : List Nat} (h : Dy w W b0 t sb x y z) (hF : Fr S W W') (h0 : b0 ∉ S) (h1 : sb ∉ S) (hS : ∀ k ∈ S, w.heap.size <= k) : Dy w W' b0 t sb x y z :=
  ⟨⟨h.i.rb.keep hF h0, h.i.sv.keep hF h1, h.i.fr.on hF hS⟩, h.n0, h.nt, h.ns, h.d1, h.d2, h.d3⟩
theorem Dy.at1 (h : Dy w W b0 t sb x y z) (v : Value) : Dy w (W.setCell ⟨sb, 1, none⟩ v) b0 t sb x v z /\ Fr [sb] W (W.setCell ⟨sb, 1, none⟩ v) := by
  have hF : Fr [sb] W (W.setCell ⟨sb, 1, none⟩ v) := Fr.set _ _ _ (by simp)
  exact ⟨⟨⟨h.i.rb.keep hF (by simp; exact h.d3), h.i.sv.set1 v, h.i.fr.on hF (by intro k hk; simp at hk; have := h.ns; omega)⟩, h.n0, h.nt, h.ns, h.d1, h.d2, h.d3⟩, hF⟩
theorem Dy.at2 (h : Dy w W b0 t sb x y z) (v : Value) : Dy w (W.setCell ⟨sb, 2, none⟩ v) b0 t sb x y v /\ Fr [sb] W (W.setCell ⟨sb, 2, none⟩ v) := by
  have hF : Fr [sb] W (W.setCell ⟨sb, 2, none⟩ v) := Fr.set _ _ _ (by simp)
  exact ⟨⟨⟨h.i.rb.keep hF (by simp; exact h.d3), h.i.sv.set2 v, h.i.fr.on hF (by intro k hk; simp at hk; have := h.ns; omega)⟩, h.n0, h.nt, h.ns, h.d1, h.d2, h.d3⟩, hF⟩
end
theorem zst {w wr w2 w3 w4 : World} {b0 t sb : Nat} {x z : Value} {yo yo' : Option Addr} {i c c' : Nat} {bs : List Int} {n : Int} {ao : Option Addr} {L cap : Nat} {lv : Nat -> Prop} {de : Nat -> Prop}
    (h : Dy w wr b0 t sb x (.slice yo i c) z) (hO : IOw w.heap.size wr yo i c bs) (hT : ∃ cs, wr.heap[t]? = some (.cells cs 233 (0, 0))) (hF2 : Fr [t] wr w2) (hS2 : St w2 t ao L cap lv de) (hF3 : Fr [] w2 w3) :
    Dy w w3 b0 t sb x (.slice yo i c) z /\ IOw w.heap.size w3 yo i c bs /\
      (IOw w.heap.size w4 yo' (i + 1) c' (bs ++ [n]) -> Fr (Value.slice yo i c).ownBlock.toList w3 w4 -> Dy w w4 b0 t sb x (.slice yo i c) z /\ w4.frozen? ⟨sb, 1, none⟩ = false /\ w4.cell? ⟨sb, 1, none⟩ = some (.slice yo i c) /\
        Dy w (w4.setCell ⟨sb, 1, none⟩ (.slice yo' (i + 1) c')) b0 t sb x (.slice yo' (i + 1) c') z /\ IOw w.heap.size (w4.setCell ⟨sb, 1, none⟩ (.slice yo' (i + 1) c')) yo' (i + 1) c' (bs ++ [n]) /\ St (w4.setCell ⟨sb, 1, none⟩ (.slice yo' (i + 1) c')) t ao L cap lv de) := by
  obtain ⟨ct, hct⟩ := hT
  have hO2 : IOw w.heap.size w2 yo i c bs := hO.keepS hF2 (fun k hk hm => by
    simp at hm
    subst hm
    exact zbu hct hO.row (by decide) (Option.mem_toList.2 hk))
  have hO3 : IOw w.heap.size w3 yo i c bs := hO2.keepS hF3 (by simp)
  have hD3 := (h.stepT hF2).step0 hF3
  have hS3 := hS2.keep hF3 (by simp)
  refine ⟨hD3, hO3, fun hO4 hF4 => ?_⟩
  obtain ⟨c3, hc3⟩ := hS3.box
  have hD4 := hD3.row hF4 (zbu hD3.i.rb.box hO3.row (by decide)) (zbu hD3.i.sv.box hO3.row (by decide)) (fun k hk => (zah hO3.row (Option.mem_toList.1 hk)).1)
  have hS4 := hS3.keep hF4 (zbu hc3 hO3.row (by decide))
  obtain ⟨hD5, hF5⟩ := hD4.at1 (.slice yo' (i + 1) c')
  exact ⟨hD4, hD4.i.sv.fz 1, hD4.i.sv.c1, hD5, hO4.offS hD4.i.sv hF5, hS4.keep hF5 (by simp; exact fun e => hD4.d2 e.symm)⟩
end Go.Proofs.YtembflnhhfliaaaGreatDoor
