/- Texts of this claim laid together, one behind the other: contracts and plain lemmas; conditions as each names them. -/
import Derived.Test.YtldghdbfhikcoaaGreatDoorGp50
import Derived.Test.YtldghdbfhikcoaaGreatDoorGp15
import Derived.Test.YtldghdbfhikcoaaGreatDoorGp32
/- The document's Split: its contract. Conditions: its arguments lie as they came in. -/
namespace Go.Proofs.YtldghdbfhikcoaaGreatDoor
open BigFrame Go.ChangeShapes Go.WideShapes Go.ChangeAt Go.RowKit Go.Lib Go.Maps
set_option linter.unusedVariables false
set_option linter.unusedSimpArgs false

/-- The lists that are there. -/
structure OutI (w wr : World) (s : Int) (so : Option Addr) (n oc Lh : Nat) (hs : List Hd) (rs : List Lr) : Prop where
  row : wr.ownsRow w.heap.size 23 1 (.slice so n oc) n (rs.map Lr.v)
  len : n = rs.length
  each : ∀ j, j < n → HOut w wr (rs.getD j Lr.zero).ro (rs.getD j Lr.zero).N (rs.getD j Lr.zero).rc (rs.getD j Lr.zero).hs ∧ (rs.getD j Lr.zero).hs.map Hd.kv = livK s (j : Int) hs ∧ (rs.getD j Lr.zero).N ≤ Lh
  fr : Fr [] w wr
theorem OutI.keep {w wr w' : World} {s : Int} {so : Option Addr} {n oc Lh : Nat} {hs : List Hd} {rs : List Lr} (h : OutI w wr s so n oc Lh hs rs) (hf : Fr [] wr w') : OutI w w' s so n oc Lh hs rs :=
  ⟨owns_keepB h.row hf (by simp), h.len, fun j hj => ⟨(h.each j hj).1.keep hf, (h.each j hj).2⟩, h.fr.then hf⟩
theorem OutI.base {w w1 wr : World} {s : Int} {so : Option Addr} {n oc Lh : Nat} {hs : List Hd} {rs : List Lr} (h : OutI w1 wr s so n oc Lh hs rs) (hf : Fr [] w w1) : OutI w wr s so n oc Lh hs rs :=
  ⟨own_base h.row hf.size, h.len, fun j hj => ⟨(h.each j hj).1.later hf.size, (h.each j hj).2⟩, hf.then h.fr⟩
theorem OutI.app {w wr w4 : World} {s : Int} {so so' : Option Addr} {n oc c' Lh : Nat} {hs gs : List Hd} {rs : List Lr} {ro : Option Addr} {N rc : Nat} (h : OutI w wr s so n oc Lh hs rs) (hO : HOut w wr ro N rc gs) (hk : gs.map Hd.kv = livK s (n : Int) hs) (hN : N ≤ Lh) (hrow : w4.ownsRow w.heap.size 23 1 (.slice so' (n + 1) c') (n + 1) ((rs ++ [(⟨ro, N, rc, gs⟩ : Lr)]).map Lr.v)) (hF : Fr (Value.slice so n oc).ownBlock.toList wr w4) :
    OutI w w4 s so' (n + 1) c' Lh hs (rs ++ [(⟨ro, N, rc, gs⟩ : Lr)]) := by
  have hkp : ∀ {ro : Option Addr} {N rc : Nat} {gs : List Hd}, HOut w wr ro N rc gs → HOut w w4 ro N rc gs := fun hO => hO.keepS hF (fun k hk hm => by
    obtain ⟨_, cur, hc⟩ := owns_cells hO.row hk
    obtain ⟨_, c2, hc2⟩ := owns_cells h.row (Option.mem_toList.1 hm)
    rw [hc] at hc2
    simp only [Option.some.injEq, Obj.cells.injEq] at hc2
    exact absurd hc2.2.1 (by decide)) (fun q cur hq hm => by
    obtain ⟨_, c2, hc2⟩ := owns_cells h.row (Option.mem_toList.1 hm)
    rw [hq] at hc2
    simp only [Option.some.injEq, Obj.cells.injEq] at hc2
    exact absurd hc2.2.1 (by decide))
  refine ⟨hrow, by rw [h.len]; simp, fun j hj => ?_, h.fr.on hF (fun k hk => (owns_cells h.row (Option.mem_toList.1 hk)).1)⟩
  by_cases hjn : j < n
  · have e : (rs ++ [(⟨ro, N, rc, gs⟩ : Lr)]).getD j Lr.zero = rs.getD j Lr.zero := by simp [List.getD, List.getElem?_append_left (show j < rs.length by rw [← h.len]; exact hjn)]
    rw [e]
    exact ⟨hkp (h.each j hjn).1, (h.each j hjn).2⟩
  · have ej : j = rs.length := by have := h.len; omega
    have e : (rs ++ [(⟨ro, N, rc, gs⟩ : Lr)]).getD j Lr.zero = ⟨ro, N, rc, gs⟩ := by rw [ej]; simp [List.getD]
    rw [e]
    refine ⟨hkp hO, ?_, hN⟩
    rw [hk]
    congr 1
    have := h.len
    omega
/-- What the document's Split answers. -/
def SqP (c : Cf) (m : Int) (bs : List Int) (hs : List Hd) (Lh : Nat) (w : World) (e : Ending) (w' : World) : Prop :=
  (¬ c.may ∧ e = .returned (.tuple #[.slice none 0 0, .int .i64 7]) ∧ Fr [] w w') ∨
  (c.may ∧ ¬ OkS m bs (hs.map Hd.kv) ∧ e = .returned (.tuple #[.slice none 0 0, .int .i64 1]) ∧ Fr [] w w') ∨
  (c.may ∧ OkS m bs (hs.map Hd.kv) ∧ ∃ (so : Option Addr) (S oc : Nat) (rs : List Lr), c.s = (S : Int) ∧ e = .returned (.tuple #[.slice so S oc, .int .i64 0]) ∧ OutI w w' (S : Int) so S oc Lh hs rs)
set_option maxHeartbeats 16000000 in
set_option maxRecDepth 100000 in
theorem ywsplit_any (l s x q m : Int) (bo ho : Option Addr) (Lb cb Lh ch : Nat) (bs : List Int) (hs : List Hd) (w : World) (hI : IRs w bo bs) (hLb : Lb = bs.length) (hH : HRs w ho hs) (hLh : Lh = hs.length) :
    Calls Tryz.prog 24 #[.agg #[.int .i64 l, .int .i64 s, .int .i64 x, .int .i64 q], .agg #[.int .i64 m, .slice bo Lb cb, .slice ho Lh ch]] w fun e w' => SqP ⟨l, s, x, q⟩ m bs hs Lh w e w' := by
  have HLh : Hid (Lh = hs.length) := hLh
  have hLL : Lh ≤ 3518437208882 := by have := hH.few; omega
  obtain ⟨w1, HW1⟩ : ∃ w1, Hid ((w.alloc (.cells #[.int .i64 l, .int .i64 s, .int .i64 x, .int .i64 q] 58)).alloc (.cells #[.int .i64 m, .slice bo Lb cb, .slice ho Lh ch] 25) = w1) := ⟨_, rfl⟩
  have hF1 : Fr [] w w1 := by rw [← HW1.out]; exact (Fr.alloc [] w _).then (Fr.alloc [] _ _)
  have e1 : (w.alloc (.cells #[.int .i64 l, .int .i64 s, .int .i64 x, .int .i64 q] 58)).heap.size = w.heap.size + 1 := by simp
  have hC1 : CfM w1 w.heap.size l s x q := by rw [← HW1.out]; exact (CfM.new _ _ _ _ _ _).keep (Fr.alloc [] _ _)
  have hb1 : w1.heap[w.heap.size + 1]? = some (.cells #[.int .i64 m, .slice bo Lb cb, .slice ho Lh ch] 25 (0, 0)) := by rw [← HW1.out, ← e1]; exact heap_alloc_new _ _
  have HC1 : Hid (∀ W, Fr [] w1 W → CfM W w.heap.size l s x q) := fun W hf => hC1.keep hf
  have HBx : Hid (∀ W, Fr [] w1 W → W.cell? ⟨w.heap.size + 1, 0, none⟩ = some (.int .i64 m) ∧ W.cell? ⟨w.heap.size + 1, 1, none⟩ = some (.slice bo Lb cb) ∧ W.cell? ⟨w.heap.size + 1, 2, none⟩ = some (.slice ho Lh ch)) := fun W hf => by
    have hr := hf.keep hb1 (by simp)
    exact ⟨by rw [cell_of_row _ _ _ _ _ _ hr]; rfl, by rw [cell_of_row _ _ _ _ _ _ hr]; rfl, by rw [cell_of_row _ _ _ _ _ _ hr]; rfl⟩
  have HH : Hid (∀ W, Fr [] w1 W → HRs W ho hs ∧ IRs W bo bs) := fun W hf => ⟨hH.keep (hF1.then hf), hI.keep (hF1.then hf)⟩
  have HF1 : Hid (Fr [] w w1) := hF1
  have HLb : Hid (Lb = bs.length) := hLb
  have hCk := ocheck_cells l s x q w1
  obtain ⟨_, f0, f1, f2, f3⟩ := HC1.out _ (Fr.refl _ _)
  obtain ⟨A, hA⟩ : ∃ A, A = w.heap.size := ⟨_, rfl⟩
  clear hI hH hLb hLh hb1 hF1 hC1 e1
  by_cases hm : Cf.may ⟨l, s, x, q⟩
  · have HM : Hid (Cf.may ⟨l, s, x, q⟩) := hm
    have hE : Cf.err ⟨l, s, x, q⟩ = 0 := if_pos hm
    rw [hE] at hCk
    have HCk : Hid (Calls _ _ _ _ _) := hCk
    obtain ⟨S, hS⟩ : ∃ S : Nat, s = (S : Int) := ⟨s.toNat, by have := hm.2.1.1; simp only at this; omega⟩
    have hS16 : S ≤ 16 := by have := hm.2.1.2; simp only at this; omega
    subst hS
    clear hm hE hCk
    obtain ⟨ck, hck⟩ := CkS.ex m bs hs
    have HCs : Hid (CkS m bs hs ck) := hck
    go_enter Tryz.func24, Tryz.ntmps24
    go_upto_region 1 with fail
    rw [HW1.out]
    rw [← hA] at HC1 HBx f0 f1 f2 f3 ⊢
    clear HW1 hA
    go_wp2_with fail
    refine Calls.mono HCk.out ?_
    rintro e w2 ⟨rfl, hF2⟩
    have HF2 : Hid (Fr [] w1 w2) := hF2
    obtain ⟨k0, k1, k2⟩ := HBx.out _ hF2
    have HCh : Hid (Calls _ _ _ _ _) := ywcheck_any m bo ho Lb cb Lh ch ck bs hs w2 (HH.out _ hF2).2 HLb.out (HH.out _ hF2).1 HLh.out hck
    clear HCk hF2 hck
    go_wp2_with fail
    refine Calls.mono HCh.out ?_
    rintro e w3 ⟨rfl, hF3⟩
    have HF3 : Hid (Fr [] w1 w3) := HF2.out.then hF3
    clear HCh hF3 HF2 k0 k1 k2 f0 f1 f2 f3
    rcases HCs.out with ⟨rfl, hok⟩ | ⟨rfl, hno⟩
    · have HOk : Hid (OkS m bs (hs.map Hd.kv)) := hok
      clear hok HCs
      have HO0 : Hid (OutI w1 w3 (S : Int) none 0 0 Lh hs []) := ⟨⟨rfl, .inl ⟨rfl, rfl⟩⟩, rfl, fun j hj => absurd hj (Nat.not_lt_zero _), HF3.out⟩
      go_wp2_with fail
      go_loopw [6, 7] (fun oo ii wr => ∃ (n : Nat) (so : Option Addr) (oc : Nat) (rs : List Lr), oo = .slice so n oc ∧ ii = .int .i64 n ∧ n ≤ S ∧ Hid (OutI w1 wr (S : Int) so n oc Lh hs rs)) (fun _ ii _ => S - (RowKit.intOf ii).toNat)
      case atStart => exact ⟨0, none, 0, [], rfl, rfl, Nat.zero_le _, HO0⟩
      case round =>
        obtain ⟨n, so, oc, rs, rfl, rfl, hnS, HO⟩ := hrel
        have HF : Hid (Fr [] w1 wr) := HO.out.fr
        obtain ⟨_, f0, f1, f2, f3⟩ := HC1.out _ HF.out
        by_cases hn : n < S
        · have hlt : (n : Int) < S := by omega
          rename World => wn
          go_wp2_with fail
          go_loopw [8, 9] (fun ll ii wr => ∃ (i : Nat) (lo : Option Addr) (N lc : Nat) (gs : List Hd), ll = .slice lo N lc ∧ ii = .int .i64 i ∧ i ≤ Lh ∧ N ≤ i ∧ Hid (gs = livH (S : Int) (n : Int) (hs.take i)) ∧ Hid (wr.ownsRow wn.heap.size 73 2 (.slice lo N lc) N (hdsC gs)) ∧ Hid (N = gs.length) ∧ Hid (Fr [] wn wr)) (fun _ ii _ => Lh - (RowKit.intOf ii).toNat)
          case atStart => exact ⟨0, none, 0, 0, [], rfl, rfl, Nat.zero_le _, Nat.le_refl _, rfl, ⟨rfl, .inl ⟨rfl, rfl⟩⟩, rfl, Fr.refl _ _⟩
          case round =>
            obtain ⟨i, lo, N, lc, gs, rfl, rfl, hiL, hNi, HG, HR, HN, HFi⟩ := hrel
            have hFw : Fr [] w1 wr := HF.out.then HFi.out
            obtain ⟨k0, k1, k2⟩ := HBx.out _ hFw
            by_cases hi : i < Lh
            · have hi' : i < hs.length := by rw [← HLh.out]; exact hi
              have hlti : (i : Int) < Lh := by omega
              have hHr := (HH.out _ hFw).1
              obtain ⟨pb, off, rfl, hpb, hat⟩ := hHr.lies (by omega)
              obtain ⟨c0, c1⟩ := hat i hi'
              have hmem := hgetD_mem hs i hi'
              have hokk := (HOk.out.lo.2 _ (List.mem_map.2 ⟨_, hmem, rfl⟩)).1
              have hin := fun h => livH_in (s := (S : Int)) (n := (n : Int)) hi' h
              have hou := fun h => livH_out (s := (S : Int)) (n := (n : Int)) hi' h
              obtain ⟨y, hy⟩ : ∃ y, y = hs.getD i Hd.zero := ⟨_, rfl⟩
              rw [← hy] at c0 c1 hokk hin hou
              have HIn : Hid (homeOf (S : Int) y = n → livH (S : Int) (n : Int) (hs.take (i + 1)) = livH (S : Int) (n : Int) (hs.take i) ++ [y]) := hin
              have HOu : Hid (homeOf (S : Int) y ≠ n → livH (S : Int) (n : Int) (hs.take (i + 1)) = livH (S : Int) (n : Int) (hs.take i)) := hou
              have hsh : Cf.shard ⟨l, (S : Int), x, q⟩ y.key = (homeOf (S : Int) y, 0) := Cf.shard_ok HM.out hokk
              obtain ⟨hm, hhm⟩ : ∃ hm, hm = homeOf (S : Int) y := ⟨_, rfl⟩
              rw [← hhm] at HIn HOu hsh
              have hkz : y.key.size ≤ 9223372036854775807 := by have := hokk.2; simp only [Hd.kv] at this; omega
              obtain ⟨key, vo, Lv, cv, vs⟩ := y
              simp only at c0 c1 hsh hkz
              have hSh : ∀ y : Wd13 wr, Calls Tryz.prog 96 #[.agg #[.int .i64 l, .int .i64 (S : Int), .int .i64 x, .int .i64 q], .string key] y.W fun e w' => e = .returned (.tuple #[.int .i64 hm, .int .i64 0]) ∧ Fr [] y.W w' := fun y => by
                have h1 := oshard_any l (S : Int) x q key y.W hkz
                rw [hsh] at h1
                exact h1
              have g0 : ∀ y : Wd13 wr, y.W.cell? ⟨A, 0, none⟩ = some (.int .i64 l) := fun y => (HC1.out _ (hFw.then y.h)).2.1
              have g1 : ∀ y : Wd13 wr, y.W.cell? ⟨A, 1, none⟩ = some (.int .i64 (S : Int)) := fun y => (HC1.out _ (hFw.then y.h)).2.2.1
              have g2 : ∀ y : Wd13 wr, y.W.cell? ⟨A, 2, none⟩ = some (.int .i64 x) := fun y => (HC1.out _ (hFw.then y.h)).2.2.2.1
              have g3 : ∀ y : Wd13 wr, y.W.cell? ⟨A, 3, none⟩ = some (.int .i64 q) := fun y => (HC1.out _ (hFw.then y.h)).2.2.2.2
              have g4 : ∀ y : Wd13 wr, y.W.cell? ⟨A + 1, 2, none⟩ = some (.slice (some ⟨pb, off, none⟩) Lh ch) := fun y => (HBx.out _ (hFw.then y.h)).2.2
              have g5 : ∀ y : Wd13 wr, y.W.cell? ⟨pb, off + i * 2, none⟩ = some (.string key) := fun y => (World.cell?_of_block (y.h.block pb hpb (by simp))).trans c0
              have HC2 : Hid (∀ W, Fr [] wr W → W.cell? ⟨pb, off + i * 2, none⟩ = some (.string key) ∧ W.cell? ⟨pb, off + i * 2 + 1, none⟩ = some (.slice vo Lv cv)) := fun W hf => ⟨(World.cell?_of_block (hf.block pb hpb (by simp))).trans c0, (World.cell?_of_block (hf.block pb hpb (by simp))).trans c1⟩
              have HFw : Hid (Fr [] w1 wr) := hFw
              clear hat hHr hmem hokk hin hou hy hhm hsh hkz c0 c1 hpb hFw k0 k1
              go_upto_region 13 with fail
              clear k2
              refine wp_region_wd13 (w1 := wr) (by kernel_rfl) (by kernel_rfl) (Fr.refl _ _) ?_
              repeat (go_big_quiet_step (first
                | (go_at_call 96; with_reducible refine (hSh _).mono ?_; exact fun e w3 hh => ⟨hh.1, ⟨_, Fr.then (Wd13.h _) hh.2⟩, rfl⟩)))
              refine wpQuiet_nil ?_
              rintro _ ⟨y, rfl⟩
              clear g0 g1 g2 g3 g4 g5 hSh
              obtain ⟨wa, hFa⟩ := y
              simp only
              have HFa : Hid (Fr [] wn wa) := HFi.out.then hFa
              have HRa : Hid (wa.ownsRow wn.heap.size 73 2 (.slice lo N lc) N (hdsC gs)) := owns_keepB HR.out hFa (by simp)
              by_cases he : hm = (n : Int)
              · have HG2 : Hid (gs ++ [⟨key, vo, Lv, cv, vs⟩] = livH (S : Int) (n : Int) (hs.take (i + 1))) := by show _ = _; rw [HIn.out he, HG.out]
                obtain ⟨c0, c1⟩ := HC2.out _ hFa
                obtain ⟨k0, k1, k2⟩ := HBx.out _ (HFw.out.then hFa)
                have hsz : wn.heap.size ≤ wa.heap.size := HFa.out.size
                subst he
                clear hFa HIn HOu
                go_wp2_with (first
                  | (at_builtin; refine wpList_appHq wn wa rfl _ _ rfl lo N lc gs rfl HRa.out (by omega) hsz ⟨key, vo, Lv, cv, vs⟩ rfl ?_
                     intro lo' lc' w4 e1 e2
                     have HR4 : Hid (w4.ownsRow wn.heap.size 73 2 (.slice lo' (N + 1) lc') (N + 1) (hdsC (gs ++ [⟨key, vo, Lv, cv, vs⟩])) ∧ Fr [] wn w4) := ⟨e1, HFa.out.on e2 (fun k hk => (owns_cells HRa.out (Option.mem_toList.1 hk)).1)⟩
                     clear e1 e2
                     go_frame)
                  | fail)
                have HN2 : Hid (N + 1 = (gs ++ [(⟨key, vo, Lv, cv, vs⟩ : Hd)]).length) := by show _ = _; rw [HN.out]; simp
                go_roundw
                case rel => exact ⟨i + 1, lo', N + 1, lc', _, rfl, by simp, by omega, by omega, HG2, HR4.out.1, HN2, HR4.out.2⟩
                case measure => simp [RowKit.intOf]; omega
              · have HG2 : Hid (gs = livH (S : Int) (n : Int) (hs.take (i + 1))) := by show _ = _; rw [HOu.out he, HG.out]
                have hne : (hm == (n : Int)) = false := by rw [beq_eq_false_iff_ne]; exact he
                clear hFa HIn HOu he
                go_wp2_with fail
                go_roundw
                case rel => exact ⟨i + 1, lo, N, lc, gs, rfl, by simp, by omega, by omega, HG2, HRa, HN, HFa⟩
                case measure => simp [RowKit.intOf]; omega
            · have hlti : ¬ (i : Int) < Lh := by omega
              have hall : hs.take i = hs := List.take_of_length_le (by have := HLh.out; omega)
              have hgs : gs = livH (S : Int) (n : Int) hs := by rw [HG.out, hall]
              have hsub : ∀ x ∈ gs, x ∈ hs := fun x hx => by rw [hgs] at hx; exact (List.mem_filter.1 hx).1
              have hRd : HRs wr lo gs := by
                have hl := HN.out
                refine ⟨fun h0 => ?_, by omega, fun x hx => (HH.out _ hFw).1.each x (hsub x hx)⟩
                obtain ⟨g, cp, e, hcp⟩ := own_form (Bq.own_base8 HR.out) (by omega)
                cases e
                refine ⟨g, 0, rfl, ((Bq.own_base8 HR.out).lt g rfl).2, fun j hj => ?_⟩
                obtain ⟨a1, a2⟩ := hdsC_get gs j hj
                rw [Nat.zero_add]
                exact ⟨by rw [World.ownsRow.cellAt (Bq.own_base8 HR.out) (j * 2) (by omega)]; exact a1, by rw [World.ownsRow.cellAt (Bq.own_base8 HR.out) (j * 2 + 1) (by omega)]; exact a2⟩
              have HOw : Hid (Calls _ _ _ _ _) := kown_any lo N lc gs wr hRd HN.out
              have HKv : Hid (gs.map Hd.kv = livK (S : Int) (n : Int) hs) := by show _ = _; rw [hgs]; rfl
              have HOn : Hid (OutI w1 wr (S : Int) so n oc Lh hs rs) := HO.out.keep HFi.out
              have HFw : Hid (Fr [] w1 wr) := hFw
              clear hall hgs hsub hRd HG HR hFw k0 k1
              go_wp2_with fail
              refine Calls.mono HOw.out ?_
              rintro e w5 ⟨ro, rc, gs2, rfl, hO5, hk5, hF5⟩
              have HO5 : Hid (OutI w1 w5 (S : Int) so n oc Lh hs rs ∧ HOut w1 w5 ro N rc gs2 ∧ gs2.map Hd.kv = livK (S : Int) (n : Int) hs) := ⟨HOn.out.keep hF5, hO5.later HOn.out.fr.size, by rw [hk5]; exact HKv.out⟩
              have HF5 : Hid (Fr [] w1 w5) := HFw.out.then hF5
              have hsz : w1.heap.size ≤ w5.heap.size := HO5.out.1.fr.size
              have hNL : N ≤ Lh := by omega
              clear HOw hO5 hk5 hF5
              go_wp2_with (first
                | (at_builtin; refine wpList_appLr w1 w5 rfl _ _ rfl so n oc rs rfl HO5.out.1.row (by omega) hsz ⟨ro, N, rc, gs2⟩ rfl ?_
                   intro so' c' w6 e1 e2
                   have HO6 : Hid (OutI w1 w6 (S : Int) so' (n + 1) c' Lh hs (rs ++ [(⟨ro, N, rc, gs2⟩ : Lr)])) := HO5.out.1.app HO5.out.2.1 HO5.out.2.2 hNL e1 e2
                   clear e1 e2
                   go_frame)
                | fail)
              go_roundw
              case rel => exact ⟨n + 1, so', c', _, rfl, by simp, by omega, HO6⟩
              case measure => simp [RowKit.intOf]; omega
        · have hlt : ¬ (n : Int) < S := by omega
          obtain rfl : n = S := by omega
          go_wp2
          go_ret2
          exact Or.inr (Or.inr ⟨HM.out, HOk.out, so, n, oc, rs, rfl, rfl, HO.out.base HF1.out⟩)
    · have HNo : Hid (¬ OkS m bs (hs.map Hd.kv)) := hno
      clear hno HCs
      go_wp2
      go_ret2
      exact Or.inr (Or.inl ⟨HM.out, HNo.out, rfl, HF1.out.then HF3.out⟩)
  · have HM : Hid (¬ Cf.may ⟨l, s, x, q⟩) := hm
    have hE : Cf.err ⟨l, s, x, q⟩ = 7 := if_neg hm
    rw [hE] at hCk
    have HCk : Hid (Calls _ _ _ _ _) := hCk
    clear hm hE hCk
    go_enter Tryz.func24, Tryz.ntmps24
    go_upto_region 1 with fail
    rw [HW1.out]
    clear HW1
    go_wp2_with fail
    refine Calls.mono HCk.out ?_
    rintro e w2 ⟨rfl, hF2⟩
    have HF2 : Hid (Fr [] w w2) := HF1.out.then hF2
    clear hF2
    go_wp2
    go_ret2
    exact Or.inl ⟨HM.out, rfl, HF2.out⟩
end Go.Proofs.YtldghdbfhikcoaaGreatDoor
