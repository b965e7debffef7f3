/- Putting a checkpoint's parts: contracts of putNumber, putHeld over a writer. Conditions as each names them. -/
import Derived.Test.YtdojhkgnnbdfkaaGreatSv18
namespace Go.Proofs.YtdojhkgnnbdfkaaGreat
open Go.ChangeShapes Go.WideShapes Go.ChangeAt Go.RowKit Go.Lib Go.Maps
set_option linter.unusedVariables false
set_option linter.unusedSimpArgs false

theorem u64_nat (n : Int) (h0 : 0 ≤ n) (h1 : n ≤ 1099511627776) : IntKind.u64.wrap n = n := by rw [wr_u64]; omega
/-- Blocks of other things than a writer's stay. -/
def Kp (w w' : World) : Prop := ∀ (b : Nat) (cs : Array Value) (t : TypeId), t ≠ 5 → t ≠ 150 → w.heap[b]? = some (.cells cs t (0, 0)) → w'.heap[b]? = some (.cells cs t (0, 0))
theorem Kp.refl (w : World) : Kp w w := fun _ _ _ _ _ h => h
theorem Kp.of {w w' : World} (h : Fr [] w w') : Kp w w' := fun b cs t _ _ hb => h.keep hb (by simp)
theorem Kp.then {w w1 w2 : World} (h : Kp w w1) (k : Kp w1 w2) : Kp w w2 := fun b cs t h1 h2 hb => k b cs t h1 h2 (h b cs t h1 h2 hb)
theorem Wr.kp {w w' : World} {g : Nat} {v : Value} {xs : List Nat} (h : Wr w g v xs) (hF : Fr (Wr.own g v) w w') : Kp w w' := by
  intro b cs t h1 h2 hb
  refine hF.keep hb (fun hm => ?_)
  simp only [Wr.own, List.mem_cons, Option.mem_toList] at hm
  rcases hm with rfl | hm
  · rw [h.box] at hb
    simp only [Option.some.injEq, Obj.cells.injEq] at hb
    exact h2 hb.2.1.symm
  · obtain ⟨_, cur, hc⟩ := owns_cells h.row hm
    rw [hc] at hb
    simp only [Option.some.injEq, Obj.cells.injEq] at hb
    exact h1 hb.2.1.symm
/-- Such a call puts ys. -/
def Puts (w0 w : World) (g : Nat) (zs : List Nat) (w' : World) : Prop := ∃ v', WB w0 w' g v' zs ∧ Kp w w'
theorem putT_any (w0 : World) (g : Nat) (v : Value) (xs : List Nat) (s : ByteArray) (w : World) (h : WB w0 w g v xs) (hlen : xs.length < 2^39) (hs : s.size < 2^39) :
    Calls Tryz.prog 92 #[.pointer (some ⟨g, 0, none⟩), .string s] w fun e w' => e = .returned (.tuple #[]) ∧ Puts w0 w g (xs ++ encS s) w' := by
  refine (text_any g v xs s w h.wr (by omega) (by omega)).mono ?_
  rintro e w' ⟨rfl, v', hW, hF, hM⟩
  exact ⟨rfl, v', h.next hW hF hM, h.wr.kp hF⟩
theorem putF_any (w0 : World) (g : Nat) (v : Value) (xs : List Nat) (d : Int) (w : World) (h : WB w0 w g v xs) (hlen : xs.length < 2^39) (hd : d = 0 ∨ d = 1) :
    Calls Tryz.prog 93 #[.pointer (some ⟨g, 0, none⟩), .int .u64 d, .int .i64 1] w fun e w' => e = .returned (.int .i64 0) ∧ Puts w0 w g (xs ++ [d.toNat]) w' := by
  refine (fixed_any g v xs d 1 w h.wr (by omega) (by omega) (by decide) (by decide) ?_ (by omega)).mono ?_
  · rcases hd with rfl | rfl <;> decide
  · rintro e w' ⟨rfl, v', hW, hF, hM⟩
    have e1 : leB (1 : Int).toNat d.toNat = [d.toNat] := by rcases hd with rfl | rfl <;> rfl
    rw [e1] at hW
    exact ⟨rfl, v', h.next hW hF hM, h.wr.kp hF⟩
set_option maxHeartbeats 1000000 in
theorem putN_any (w0 : World) (g : Nat) (v : Value) (xs : List Nat) (n : Int) (w : World) (h : WB w0 w g v xs) (hlen : xs.length < 2^39) (h0 : 0 ≤ n) (h1 : n ≤ 1099511627776) :
    Calls Tryz.prog 73 #[.pointer (some ⟨g, 0, none⟩), .int .i64 n] w fun e w' => e = .returned (.tuple #[]) ∧ Puts w0 w g (xs ++ enc n.toNat) w' := by
  have HC : Hid (Calls Tryz.prog 91 #[.pointer (some ⟨g, 0, none⟩), .int .u64 n] w fun e w' => e = .returned (.tuple #[]) ∧ Puts w0 w g (xs ++ enc n.toNat) w') := by
    refine (var_any g v xs n w h.wr h0 (by omega) (by omega)).mono ?_
    rintro e w' ⟨rfl, v', hW, hF, hM⟩
    exact ⟨rfl, v', h.next hW hF hM, h.wr.kp hF⟩
  have hw := u64_nat n h0 h1
  clear h hlen
  go_enter Tryz.func73, Tryz.ntmps73
  go_wp2_with fail
  refine Calls.mono HC.out ?_
  rintro e w1 ⟨rfl, hP⟩
  go_wp2
  go_end0
  exact ⟨rfl, hP⟩
theorem fm_len {α : Type} (f : α → List Nat) (l : List α) (i : Nat) : ((l.take i).flatMap f).length ≤ (l.flatMap f).length := by
  conv => rhs; rw [← List.take_append_drop i l]
  rw [List.flatMap_append, List.length_append]
  omega
set_option maxHeartbeats 8000000 in
set_option maxRecDepth 100000 in
theorem putH_any (w0 : World) (g : Nat) (v : Value) (xs : List Nat) (key : ByteArray) (vo : Option Addr) (Lv cv : Nat) (vs : List Vn) (w : World) (h : WB w0 w g v xs) (hV : ∀ W, Fr [] w0 W → VRs W vo vs) (hLv : Lv = vs.length) (hk : key.size ≤ 64) (hok : okV vs) (hlen : xs.length + (encK (key, vs)).length < 2^38) :
    Calls Tryz.prog 74 #[.pointer (some ⟨g, 0, none⟩), .agg #[.string key, .slice vo Lv cv]] w fun e w' => e = .returned (.tuple #[]) ∧ Puts w0 w g (xs ++ encK (key, vs)) w' := by
  have HLv : Hid (Lv = vs.length) := hLv
  have HV : Hid (∀ W, Fr [] w0 W → VRs W vo vs) := hV
  have HO : Hid (okV vs) := hok
  have hLv1 : Lv ≤ 65536 := by rw [hLv]; exact okV_few hok
  have he : (encK (key, vs)).length = (encS key).length + ((enc vs.length).length + (encXs vs).length) := by simp [encK]
  have hxs : xs.length < 2^38 := by omega
  have hlk : (xs ++ encS key).length < 2^38 := by rw [List.length_append]; omega
  have hlv : (xs ++ encS key ++ enc Lv).length < 2^38 := by rw [List.length_append, List.length_append, hLv]; omega
  have HLen : Hid ((xs ++ encS key ++ enc Lv).length + (encXs vs).length < 2^38) := by show _ < _; rw [List.length_append, List.length_append, hLv]; omega
  obtain ⟨w1, HW1⟩ : ∃ w1, Hid (w.alloc (.cells #[.string key, .slice vo Lv cv] 58) = w1) := ⟨_, rfl⟩
  have hF1 : Fr [] w w1 := by rw [← HW1.out]; exact Fr.alloc [] w _
  have hb1 : w1.heap[w.heap.size]? = some (.cells #[.string key, .slice vo Lv cv] 58 (0, 0)) := by rw [← HW1.out]; exact heap_alloc_new w _
  have HBx : Hid (∀ W, Kp w1 W → W.cell? ⟨w.heap.size, 0, none⟩ = some (.string key) ∧ W.cell? ⟨w.heap.size, 1, none⟩ = some (.slice vo Lv cv)) := fun W hf => by
    have hr := hf _ _ _ (by decide) (by decide) hb1
    exact ⟨by rw [cell_of_row _ _ _ _ _ _ hr]; rfl, by rw [cell_of_row _ _ _ _ _ _ hr]; rfl⟩
  have HK1 : Hid (Kp w w1) := Kp.of hF1
  obtain ⟨k0, k1⟩ := HBx.out _ (Kp.refl _)
  have HC : Hid (Calls _ _ _ _ _) := putT_any w0 g v xs key w1 (h.quiet hF1) (by omega) (by omega)
  have HE : Hid (xs ++ encK (key, vs) = xs ++ encS key ++ enc Lv ++ encXs vs) := by show _ = _; rw [hLv]; simp [encK]
  clear hV hok hLv he hb1 hF1 hlen h
  go_enter Tryz.func74, Tryz.ntmps74
  go_upto_region 1 with fail
  rw [HW1.out]
  go_wp2_with fail
  refine Calls.mono HC.out ?_
  rintro e w2 ⟨rfl, v2, hB2, hK2⟩
  obtain ⟨k0, k1⟩ := HBx.out _ hK2
  have HC2 : Hid (Calls _ _ _ _ _) := putN_any w0 g v2 (xs ++ encS key) (Lv : Int) w2 hB2 (by omega) (by omega) (by omega)
  have HK2 : Hid (Kp w1 w2) := hK2
  clear HC hB2 hK2
  go_wp2_with fail
  refine Calls.mono HC2.out ?_
  rintro e w3 ⟨rfl, v3, hB3, hK3⟩
  have HK3 : Hid (Kp w1 w3) := HK2.out.then hK3
  obtain ⟨k0, k1⟩ := HBx.out _ HK3.out
  rw [Int.toNat_natCast] at hB3
  have HB3 : Hid (WB w0 w3 g v3 (xs ++ encS key ++ enc Lv)) := hB3
  clear HC2 hB3 hK3 HK2
  go_wp2_with fail
  go_loopw [18] (fun ii wr => ∃ (i : Nat) (vv : Value) (us : List Nat), ii = .int .i64 i ∧ i ≤ Lv ∧ Hid (us = xs ++ encS key ++ enc Lv ++ encXs (vs.take i)) ∧ Hid (WB w0 wr g vv us) ∧ Hid (Kp w1 wr)) (fun ii _ => Lv - (RowKit.intOf ii).toNat)
  case atStart => exact ⟨0, v3, _, rfl, Nat.zero_le _, by simp [Hid, encXs], HB3, HK3⟩
  case round =>
    obtain ⟨i, vv, us, rfl, hiL, HU, HB, HK⟩ := hrel
    by_cases hi : i < Lv
    · have hi' : i < vs.length := by rw [← HLv.out]; exact hi
      have hlt : (i : Int) < Lv := by omega
      obtain ⟨pb, off, rfl, hpb, hat⟩ := (HV.out _ HB.out.fr).lies (by omega)
      obtain ⟨c0, c1, c2⟩ := hat i hi'
      have hokx := HO.out.1 _ (vgetD_mem vs i hi')
      have hsn := vtake_snoc vs i hi'
      obtain ⟨x, hx⟩ : ∃ x, x = vs.getD i Vn.zero := ⟨_, rfl⟩
      rw [← hx] at c0 c1 c2 hokx hsn
      have HU2 : Hid (us ++ encX x = xs ++ encS key ++ enc Lv ++ encXs (vs.take (i + 1))) := by
        show _ = _
        rw [hsn, HU.out]
        simp [encXs]
      have hul : us.length + (encX x).length < 2^38 := by
        have a := fm_len encX vs (i + 1)
        have b := congrArg List.length HU2.out
        have cc := HLen.out
        simp only [encXs, List.length_append] at a b cc ⊢
        omega
      obtain ⟨num, val, drop⟩ := x
      obtain ⟨q1, q2, q3, q4⟩ := hokx
      simp only at c0 c1 c2 q1 q2 q3 q4
      have hex : (encX ⟨num, val, drop⟩).length = (enc num.toNat).length + (encV ⟨num, val, drop⟩).length := by simp [encX]
      have hev := encS_length val
      obtain ⟨w4, HW4⟩ : ∃ w4, Hid (wr.alloc (.cells #[.int .i64 num, .string val, .bool drop] 74) = w4) := ⟨_, rfl⟩
      have hF4 : Fr [] wr w4 := by rw [← HW4.out]; exact Fr.alloc [] wr _
      have hb4 : w4.heap[wr.heap.size]? = some (.cells #[.int .i64 num, .string val, .bool drop] 74 (0, 0)) := by rw [← HW4.out]; exact heap_alloc_new wr _
      have HBv : Hid (∀ W, Kp w4 W → W.cell? ⟨wr.heap.size, 0, none⟩ = some (.int .i64 num) ∧ W.cell? ⟨wr.heap.size, 1, none⟩ = some (.string val) ∧ W.cell? ⟨wr.heap.size, 2, none⟩ = some (.bool drop)) := fun W hf => by
        have hr := hf _ _ _ (by decide) (by decide) hb4
        exact ⟨by rw [cell_of_row _ _ _ _ _ _ hr]; rfl, by rw [cell_of_row _ _ _ _ _ _ hr]; rfl, by rw [cell_of_row _ _ _ _ _ _ hr]; rfl⟩
      obtain ⟨x0, x1, x2⟩ := HBv.out _ (Kp.refl _)
      have HK4 : Hid (Kp w1 w4) := HK.out.then (Kp.of hF4)
      have HC5 : Hid (Calls _ _ _ _ _) := putN_any w0 g vv us num w4 (HB.out.quiet hF4) (by omega) (by omega) (by omega)
      have hl5 : (us ++ enc num.toNat).length < 2^38 := by rw [List.length_append]; omega
      have hl6 : (us ++ enc num.toNat ++ [(0 : Int).toNat]).length < 2^39 := by rw [List.length_append]; simp only [List.length_cons, List.length_nil]; omega
      clear hx hat hpb hsn hb4 hF4 HU HB HK hex hul
      go_upto_region 6 with fail
      rw [HW4.out]
      go_wp2_with fail
      refine Calls.mono HC5.out ?_
      rintro e w5 ⟨rfl, v5, hB5, hK5⟩
      obtain ⟨x0, x1, x2⟩ := HBv.out _ hK5
      have HK5 : Hid (Kp w4 w5) := hK5
      have HB5 : Hid (WB w0 w5 g v5 (us ++ enc num.toNat)) := hB5
      clear HC5 hB5 hK5
      cases drop with
      | true =>
        have HC6 : Hid (Calls _ _ _ _ _) := putF_any w0 g v5 (us ++ enc num.toNat) 1 w5 HB5.out (by omega) (Or.inr rfl)
        have HE6 : Hid (us ++ enc num.toNat ++ [(1 : Int).toNat] = us ++ encX ⟨num, val, true⟩) := by show _ = _; simp [encX, encV]
        go_wp2_with fail
        refine Calls.mono HC6.out ?_
        rintro e w6 ⟨rfl, v6, hB6, hK6⟩
        rw [HE6.out] at hB6
        have HR : Hid (WB w0 w6 g v6 (us ++ encX ⟨num, val, true⟩) ∧ Kp w1 w6) := ⟨hB6, HK4.out.then (HK5.out.then hK6)⟩
        clear HC6 hB6 hK6 HE6
        go_wp2_with fail
        go_roundw
        case rel => exact ⟨i + 1, v6, _, by simp, by omega, HU2, HR.out.1, HR.out.2⟩
        case measure => simp [RowKit.intOf]; omega
      | false =>
        have HC6 : Hid (Calls _ _ _ _ _) := putF_any w0 g v5 (us ++ enc num.toNat) 0 w5 HB5.out (by omega) (Or.inl rfl)
        have HE6 : Hid (us ++ enc num.toNat ++ [(0 : Int).toNat] ++ encS val = us ++ encX ⟨num, val, false⟩) := by show _ = _; simp [encX, encV]
        go_wp2_with fail
        refine Calls.mono HC6.out ?_
        rintro e w6 ⟨rfl, v6, hB6, hK6⟩
        obtain ⟨x0, x1, x2⟩ := HBv.out _ (HK5.out.then hK6)
        have HK6 : Hid (Kp w4 w6) := HK5.out.then hK6
        have HC7 : Hid (Calls _ _ _ _ _) := putT_any w0 g v6 _ val w6 hB6 hl6 (by omega)
        clear HC6 hB6 hK6
        go_wp2_with fail
        refine Calls.mono HC7.out ?_
        rintro e w7 ⟨rfl, v7, hB7, hK7⟩
        rw [HE6.out] at hB7
        have HR : Hid (WB w0 w7 g v7 (us ++ encX ⟨num, val, false⟩) ∧ Kp w1 w7) := ⟨hB7, HK4.out.then (HK6.out.then hK7)⟩
        clear HC7 hB7 hK7 HE6
        go_wp2_with fail
        go_roundw
        case rel => exact ⟨i + 1, v7, _, by simp, by omega, HU2, HR.out.1, HR.out.2⟩
        case measure => simp [RowKit.intOf]; omega
    · have hi2 : vs.length ≤ i := by have := HLv.out; omega
      have HR : Hid (Puts w0 w g (xs ++ encK (key, vs)) wr) := ⟨vv, by
        have h1 := HB.out
        rw [HU.out, List.take_of_length_le hi2, ← HE.out] at h1
        exact h1, HK1.out.then HK.out⟩
      have hlt : ¬ (i : Int) < Lv := by omega
      clear hi2 HU HB HK
      go_wp2
      go_end0
      exact ⟨rfl, HR.out⟩
end Go.Proofs.YtdojhkgnnbdfkaaGreat
