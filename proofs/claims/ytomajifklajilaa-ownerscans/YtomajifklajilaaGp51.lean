/- Texts of this claim laid together, one behind the other: contracts and plain lemmas; conditions as each names them. -/
import Derived.Test.YtomajifklajilaaGp50
/- The walk of OwnerScans. Conditions as each names them. -/
namespace Go.Proofs.Ytomajifklajilaa
open Go.ChangeShapes Go.WideShapes Go.ChangeAt Go.RowKit Go.Lib Go.Maps
set_option linter.unusedVariables false
set_option linter.unusedSimpArgs false
theorem mOf_ne {hs : List Hd} {k : ByteArray} (h : mOf hs k ≠ []) : ∃ x ∈ hs, x.key = k := by
  apply Classical.byContradiction
  intro hn
  exact h (mOf_off fun x hx e => hn ⟨x, hx, e⟩)
/-- What a Scan has of one. -/
def scOf (key en : ByteArray) (k : Int) (x : Hd) : Option Pr := if inS key en x.key = true then (valAt x.vs k).map fun v => (x.key, v) else none
theorem scOf_is {hs : List Hd} (hl : LoOk hs) (key en : ByteArray) (k : Int) : Is (atMark (mOf hs) key en k) (hs.filterMap (scOf key en k)) := by
  have hone : ∀ x y : Pr, ∀ a : Hd, scOf key en k a = some x → x.1 = a.key ∧ inS key en a.key = true ∧ valAt a.vs k = some x.2 := fun x y a h => by
    unfold scOf at h
    split at h
    · rename_i hi
      cases hv : valAt a.vs k with
      | none => rw [hv] at h; cases h
      | some v =>
        rw [hv] at h
        simp only [Option.map_some, Option.some.injEq] at h
        subst h
        exact ⟨rfl, hi, rfl⟩
    · cases h
  refine ⟨?_, fun p => ?_⟩
  · unfold Inc
    rw [List.pairwise_filterMap]
    refine hl.1.imp fun {a b} hab a' ha b' hb => ?_
    rw [(hone a' a' a ha).1, (hone b' b' b hb).1]
    exact hab
  · rw [List.mem_filterMap]
    unfold atMark
    constructor
    · rintro ⟨x, hx, e⟩
      obtain ⟨e1, e2, e3⟩ := hone p p x e
      rw [e1, if_pos e2, mOf_mem hl hx]
      exact e3
    · intro h
      split at h
      · rename_i hi
        have hne : mOf hs p.1 ≠ [] := fun e => by rw [e, valAt_nil] at h; cases h
        obtain ⟨x, hx, e⟩ := mOf_ne hne
        refine ⟨x, hx, ?_⟩
        rw [← e, mOf_mem hl hx] at h
        unfold scOf
        rw [e, if_pos hi, h]
        rfl
      · cases h
section
variable {t : Option Nat} {w0 w : World} {ob sb b n g C : Nat} {pb : Option Nat} {M : ByteArray → List Vn} {rs : List Rq}
set_option maxHeartbeats 1000000 in
/-- Serve of a get leaves the number of keys as it was. -/
theorem os_get {r : Rq} (h : OwS w0 t w ob sb b n g pb C M (r :: rs)) (hk2 : r.k = 2) : Calls Try.prog 8 #[.pointer (some ⟨ob, 0, none⟩)] w fun e w' => ∃ ok eo el ec, e = .returned (.tuple #[.agg #[.int .i64 r.f, .bool ok, .slice eo el ec, .slice none 0 0, .int .i64 0], .int .i64 0]) ∧ OwS w0 t w' ob sb b n g pb C M rs ∧ OwF b w w' ∧ ((ok = false ∧ valAt (M r.key) r.n = none ∧ eo = none ∧ el = 0 ∧ ec = 0) ∨ (ok = true ∧ ∃ v, valAt (M r.key) r.n = some v ∧ el = 1 ∧ EOut w w' eo el ec [(r.key, v)])) := by
  obtain ⟨xs', hq, hw⟩ := h.q
  cases hw with
  | cons h1 ht =>
    rename_i x xs
    obtain ⟨xk, xf, xn, xa, xb, xd, xc, xe, xo, xl, xm⟩ := x
    obtain ⟨hi, hok, hlen, hrow, hnb, hav⟩ := h1
    obtain ⟨rk, rf, rn, ra, rb, rd, rc, re, rbs⟩ := r
    simp only [Rv.q, Rq.mk.injEq] at hi
    obtain ⟨rfl, rfl, rfl, rfl, rfl, rfl, rfl, rfl, _⟩ := hi
    simp only at hlen hrow hk2
    obtain ⟨o1, o2, o3, ho⟩ := hok
    simp only at o1 o2 o3 ho
    have s0 := h.fr.size
    rcases ho with ⟨e, _⟩ | ⟨rfl, e1, e2, e3, e4⟩ | ⟨e, _⟩ | ⟨e, _⟩ | ⟨e, _⟩
    · omega
    · refine (oserve_2 hq (fun ok eo el ec ho hl hc c W w' => ∃ w1, (ho = none ∧ hl = 0 ∧ hc = 0) ∧ c = 0 ∧ ((ok = false ∧ valAt (M xc) xn = none ∧ eo = none ∧ el = 0 ∧ ec = 0) ∨ (ok = true ∧ ∃ v E, valAt (M xc) xn = some v ∧ eo = some ⟨E, 0, none⟩ ∧ el = 1 ∧ ec = 1 ∧ w1.heap.size ≤ E ∧ w'.heap[E]? = some (.cells #[.string xc, .string v] 56 (0, 0)))) ∧ Fr [] (dW W 2 xf xn xa xb xd xc xe xo xl xm) w1 ∧ Fr [W.heap.size + 1] w1 w') (fun W Q hFW hs hQ hc => ?_)).mono ?_
      · refine (odeed2_in hc (fun v o w1 => (v = (valAt (M xc) xn).getD noS ∧ o = (valAt (M xc) xn).isSome) ∧ Fr [] (dW W 2 xf xn xa xb xd xc xe xo xl xm) w1) ((hget_any xc xn _ ((h.shR hFW).keep dW_fr) (by have := e3.2; omega)).mono ?_)).mono ?_
        · rintro e w1 ⟨rfl, hF⟩
          exact ⟨_, _, rfl, ⟨⟨rfl, rfl⟩, hF⟩, hF.keep dW_row (by simp), hF⟩
        · rintro e w2 ⟨v, o, w1, ⟨⟨rfl, rfl⟩, hF⟩, ⟨k1, rfl, hf⟩ | ⟨k1, E, rfl, hE, hEr, hf⟩⟩
          · exact ⟨false, none, 0, 0, none, 0, 0, 0, rfl, ⟨w1, ⟨rfl, rfl, rfl⟩, rfl, Or.inl ⟨rfl, by simpa using k1, rfl, rfl, rfl⟩, hF, hf⟩, serve_far h hFW hQ dW_fr (FrS.of hF) hf⟩
          · obtain ⟨v, hv⟩ := Option.isSome_iff_exists.1 k1
            rw [hv] at hEr
            exact ⟨true, some ⟨E, 0, none⟩, 1, 1, none, 0, 0, 0, rfl, ⟨w1, ⟨rfl, rfl, rfl⟩, rfl, Or.inr ⟨rfl, v, E, hv, rfl, rfl, rfl, hE, hEr⟩, hF, hf⟩, serve_far h hFW hQ dW_fr (FrS.of hF) hf⟩
      · rintro e w3 ⟨ok, eo, el, ec, ho, hl, hc, c, W, w2, rfl, hFW, hs, hQ, ⟨w1, a1, a2, a3, hF, hf⟩, _, T, hT, hT2⟩
        obtain ⟨z1, z2, z3, z4⟩ := serve_end h hq ht hFW hQ dW_fr dW_size (FrS.of hF) hf hT hT2 ((h.shR hFW).keep (dW_fr.then hF))
        obtain ⟨rfl, rfl, rfl⟩ := a1
        subst a2
        refine ⟨ok, eo, el, ec, rfl, z1, z2, ?_⟩
        rcases a3 with a3 | ⟨rfl, v, E, hv, rfl, rfl, rfl, hE, hEr⟩
        · exact Or.inl a3
        · refine Or.inr ⟨rfl, v, hv, rfl, rfl, rfl, .inr ⟨E, 1, _, rfl, ?_, (z4 E hE (lt_of_block hEr)).trans hEr, Nat.le_refl _, by unfold maxLen; omega, rfl, rfl⟩⟩
          have := hFW.size
          have := hF.size
          have := (dW_fr (w := W) (k := 2) (f := xf) (n := xn) (wk := xa) (wv := xb) (wd := xd) (key := xc) (en := xe) (bo := xo) (bl := xl) (bc := xm)).size
          omega
    · omega
    · omega
    · omega
end
theorem fm_snoc (key en : ByteArray) (mk : Int) (hs : List Hd) (i : Nat) (h : i < hs.length) : (hs.take (i + 1)).filterMap (scOf key en mk) = (hs.take i).filterMap (scOf key en mk) ++ (scOf key en mk (hs.getD i Hd.zero)).toList := by
  rw [htake_snoc hs i h, List.filterMap_append]
  congr 1
theorem fm_at (key en : ByteArray) (mk : Int) (hs : List Hd) (i : Nat) (h : i < hs.length) {p : Pr} (hp : scOf key en mk (hs.getD i Hd.zero) = some p) : ((hs.take i).filterMap (scOf key en mk)).length < (hs.filterMap (scOf key en mk)).length ∧ (hs.filterMap (scOf key en mk)).getD ((hs.take i).filterMap (scOf key en mk)).length e0 = p := by
  have e : hs.filterMap (scOf key en mk) = (hs.take (i + 1)).filterMap (scOf key en mk) ++ (hs.drop (i + 1)).filterMap (scOf key en mk) := by rw [← List.filterMap_append, List.take_append_drop]
  rw [fm_snoc key en mk hs i h, hp] at e
  rw [e]
  refine ⟨by simp, ?_⟩
  simp [List.getD]
set_option maxHeartbeats 16000000 in
set_option maxRecDepth 100000 in
theorem scans_walk (ao : Option Addr) (L cap : Nat) (os : List Hd) (key en : ByteArray) (mk : Int) (w : World) (hH : HRs w ao os) (hL : L = os.length) (hM : L ≤ 3518437208780) (hK : key.size ≤ 140737488355328 ∧ en.size ≤ 140737488355328 ∧ -9223372036854775808 ≤ mk ∧ mk ≤ 9223372036854775807) :
    Calls Try.prog 5 #[.agg #[.slice ao L cap, .string key, .string en, .int .i64 mk]] w fun e w' => e = .returned (.bool true) ∧ Fr [] w w' := by
  obtain ⟨wz, HWz⟩ : ∃ wz, Hid (w.alloc (.cells #[.slice ao L cap, .string key, .string en, .int .i64 mk] 51) = wz) := ⟨_, rfl⟩
  have hF0 : Fr [] w wz := by rw [← HWz.out]; exact Fr.alloc [] w _
  have HN : Hid (Calls _ _ _ _ _) := onew_any 0 1 ao L cap os wz ⟨by decide, by decide, by decide, by decide⟩ (hH.keep hF0) hL
  have HF0 : Hid (Fr [] w wz) := hF0
  have HH : Hid (∀ W, Fr [] wz W → HRs W ao os) := fun W hf => hH.keep (hF0.then hf)
  have HL : Hid (L = os.length) := hL
  have HRq : Hid (∀ W, RqB W ⟨3, -1, mk, ⟨#[]⟩, ⟨#[]⟩, false, key, en, none, 0, 0⟩ []) := fun W => ⟨⟨by simp, by simp⟩, by simp only; omega, hK.2.2, by show (⟨#[]⟩ : ByteArray).size ≤ _; decide, by show (⟨#[]⟩ : ByteArray).size ≤ _; decide, hK.1, hK.2.1, ⟨fun h => by simp at h, by simp⟩, rfl, Nat.le_refl _⟩
  have HK := (show Hid _ from hK)
  clear hH hL hF0 hK
  go_enter Try.func5, Try.ntmps5
  go_wp2_with fail
  rw [HWz.out]
  clear HWz
  refine Calls.mono HN.out ?_
  rintro e w1 (⟨_, rfl, hF1⟩ | ⟨hlo, ob, sb, b, g, rfl, hO⟩)
  · clear HN
    go_wp2_with fail
    refine (lives_any _).mono ?_
    rintro e w2 ⟨rfl, hF2⟩
    go_wp2
    go_ret
    exact ⟨rfl, HF0.out.then (hF1.then hF2)⟩
  have HO : Hid (OwS wz none w1 ob sb b L g none 1 (mOf os) [] ∧ LoOk os) := ⟨hO, hlo⟩
  clear hO hlo HN
  by_cases hB : okR ⟨3, -1, mk, ⟨#[]⟩, ⟨#[]⟩, false, key, en, []⟩
  rotate_left
  · have HA : Hid (Calls Try.prog 9 #[.pointer (some ⟨ob, 0, none⟩), .agg #[.int .u8 3, .int .i64 (-1), .int .i64 mk, .string ⟨#[]⟩, .string ⟨#[]⟩, .bool false, .string key, .string en, .slice none 0 0]] w1 fun e w' => e = .returned (.tuple #[.bool false, .int .i64 1]) ∧ Fr [] wz w') := by
      refine (os_ask HO.out.1 (by simp) ⟨3, -1, mk, ⟨#[]⟩, ⟨#[]⟩, false, key, en, none, 0, 0⟩ [] (HRq.out _)).mono ?_
      rintro e w' (⟨_, rfl, h, _⟩ | ⟨h, _⟩ | ⟨h, _⟩)
      · exact ⟨rfl, h.fr⟩
      · exact absurd h hB
      · exact absurd h hB
    clear hB
    go_wp2_with fail
    refine Calls.mono HA.out ?_
    rintro e w3 ⟨rfl, hF3⟩
    go_wp2_with fail
    refine (lives_any _).mono ?_
    rintro e w4 ⟨rfl, hF4⟩
    go_wp2
    go_ret
    exact ⟨rfl, HF0.out.then (hF3.then hF4)⟩
  have HBk : Hid (okR ⟨3, -1, mk, ⟨#[]⟩, ⟨#[]⟩, false, key, en, []⟩) := hB
  clear hB
  have HA : Hid (Calls Try.prog 9 #[.pointer (some ⟨ob, 0, none⟩), .agg #[.int .u8 3, .int .i64 (-1), .int .i64 mk, .string ⟨#[]⟩, .string ⟨#[]⟩, .bool false, .string key, .string en, .slice none 0 0]] w1 fun e w' => e = .returned (.tuple #[.bool true, .int .i64 0]) ∧ ∃ pb, OwS wz none w' ob sb b L g pb 1 (mOf os) [⟨3, -1, mk, ⟨#[]⟩, ⟨#[]⟩, false, key, en, []⟩]) := by
    refine (os_ask HO.out.1 (by simp) ⟨3, -1, mk, ⟨#[]⟩, ⟨#[]⟩, false, key, en, none, 0, 0⟩ [] (HRq.out _)).mono ?_
    rintro e w' (⟨h, _⟩ | ⟨_, h, _⟩ | ⟨_, _, rfl, pb, h, hf⟩)
    · exact absurd HBk.out h
    · simp at h
    · exact ⟨rfl, pb, h⟩
  go_wp2_with fail
  refine Calls.mono HA.out ?_
  rintro e w2 ⟨rfl, pb, hO2⟩
  have HS : Hid (Calls Try.prog 8 #[.pointer (some ⟨ob, 0, none⟩)] w2 fun e w' => ∃ eo el ec, e = .returned (.tuple #[.agg #[.int .i64 (-1), .bool true, .slice eo el ec, .slice none 0 0, .int .i64 0], .int .i64 0]) ∧ OwS wz none w' ob sb b (L + 1) g pb 1 (mOf os) [] ∧ ERs w' eo (os.filterMap (scOf key en mk)) ∧ el = (os.filterMap (scOf key en mk)).length) := by
    refine (os_serve hO2 (by omega)).mono ?_
    rintro e w' ⟨ok, eo, el, ec, ho, hl, hc, c, M', rfl, h1, hf, hR⟩
    rcases hR with ⟨e, _⟩ | ⟨e, _⟩ | ⟨_, rfl, ⟨rfl, rfl, rfl⟩, rfl, rfl, hel, ps, hE, hI⟩ | ⟨e, _⟩ | ⟨e, _⟩
    · simp at e
    · simp at e
    · obtain rfl := hI.unique (scOf_is HO.out.2 key en mk)
      exact ⟨eo, el, ec, rfl, h1, ers_of hE.row hE.len (by have := hE.len; omega), hE.len⟩
    · simp at e
    · simp at e
  clear hO2 HA
  go_wp2_with fail
  refine Calls.mono HS.out ?_
  rintro e w3 ⟨eo, el, ec, rfl, hO3, hE3, hl3⟩
  obtain ⟨w4, HW4⟩ : ∃ w4, Hid (w3.alloc (.cells #[.int .i64 (-1), .bool true, .slice eo el ec, .slice none 0 0, .int .i64 0] 39) = w4) := ⟨_, rfl⟩
  have hF4 : Fr [] w3 w4 := by rw [← HW4.out]; exact Fr.alloc [] _ _
  have hr10 : w4.heap[w3.heap.size]? = some (.cells #[.int .i64 (-1), .bool true, .slice eo el ec, .slice none 0 0, .int .i64 0] 39 (0, 0)) := by rw [← HW4.out]; exact heap_alloc_new _ _
  obtain ⟨Z10, HZ10⟩ : ∃ Z, Hid (w3.heap.size = Z) := ⟨_, rfl⟩
  rw [HZ10.out] at hr10
  have HI4 : Hid (∃ pb, OwS wz none w4 ob sb b (L + 1) g pb 1 (mOf os) [] ∧ ERs w4 eo (os.filterMap (scOf key en mk)) ∧ w4.heap[Z10]? = some (.cells #[.int .i64 (-1), .bool true, .slice eo el ec, .slice none 0 0, .int .i64 0] 39 (0, 0))) := ⟨pb, hO3.same hF4, hE3.keep hF4, hr10⟩
  have HEl : Hid (el = (os.filterMap (scOf key en mk)).length) := hl3
  have helm : el ≤ 3518437208883 := by have := hE3.few; omega
  clear hO3 hE3 hl3 hF4 hr10 HS
  go_upto_region 12 with fail
  rw [HW4.out, HZ10.out]
  clear HW4 HZ10
  go_wp2_with fail
  go_loopw [11, 12] (fun kk ii wr => ∃ (k i : Nat), kk = .int .i64 k ∧ ii = .int .i64 i ∧ i ≤ L ∧ k ≤ el ∧ Hid (k = ((os.take i).filterMap (scOf key en mk)).length) ∧ Hid (∃ pb, OwS wz none wr ob sb b (L + 1) g pb 1 (mOf os) [] ∧ ERs wr eo (os.filterMap (scOf key en mk)) ∧ wr.heap[Z10]? = some (.cells #[.int .i64 (-1), .bool true, .slice eo el ec, .slice none 0 0, .int .i64 0] 39 (0, 0)))) (fun _ ii _ => L - (RowKit.intOf ii).toNat)
  case atStart => exact ⟨0, 0, rfl, rfl, Nat.zero_le _, Nat.zero_le _, rfl, HI4⟩
  case round =>
    obtain ⟨k, i, rfl, rfl, hiL, hkl, HKi, HI⟩ := hrel
    by_cases hi : i < L
    · have hi' : i < os.length := by rw [← HL.out]; exact hi
      have HX : Hid (∀ W, Fr [] wz W → ∃ ab off, ao = some ⟨ab, off, none⟩ ∧ W.cell? ⟨ab, off + i * 2, none⟩ = some (.string (os.getD i Hd.zero).key)) := fun W hf => by
        obtain ⟨ab, off, e, _, h2⟩ := (HH.out W hf).lies (by omega)
        exact ⟨ab, off, e, (h2 i hi').1⟩
      have HIn := (show Hid _ from hgetD_mem os i hi')
      have HSn := (show Hid _ from fm_snoc key en mk os i hi')
      have HAt : Hid (∀ p, scOf key en mk (os.getD i Hd.zero) = some p → _ ∧ _) := fun p hp => fm_at key en mk os i hi' hp
      obtain ⟨x, hx⟩ : ∃ x, x = os.getD i Hd.zero := ⟨_, rfl⟩
      rw [← hx] at HX HIn HSn HAt
      clear hx
      have HOk : Hid (okK9 x.key ∧ mOf os x.key = x.vs) := ⟨(HO.out.2.2 x HIn.out).1, mOf_mem HO.out.2 HIn.out⟩
      obtain ⟨xkey, hxk⟩ : ∃ s, s = x.key := ⟨_, rfl⟩
      rw [← hxk] at HX HOk
      have HSc : Hid (scOf key en mk x = if inS key en xkey = true then (valAt x.vs mk).map fun v => (xkey, v) else none) := by show _ = _; rw [hxk]; rfl
      clear hxk
      have hfr : Fr [] wz wr := by obtain ⟨pb, h, _⟩ := HI.out; exact h.fr
      obtain ⟨ab, off, rfl, a0⟩ := HX.out _ hfr
      have HX2 : Hid (∀ W, Fr [] wz W → W.cell? ⟨ab, off + i * 2, none⟩ = some (.string xkey)) := fun W hf => by
        obtain ⟨ab', off', e, h⟩ := HX.out W hf
        cases e
        exact h
      clear HX hfr
      obtain ⟨A, hA⟩ : ∃ A, Op.bytesLess xkey.toList key.toList = A := ⟨_, rfl⟩
      obtain ⟨E, hE⟩ : ∃ E, (en.toList == ([] : List UInt8)) = E := ⟨_, rfl⟩
      obtain ⟨B, hB⟩ : ∃ B, Op.bytesLess xkey.toList en.toList = B := ⟨_, rfl⟩
      have hE2 : (en.toList != ([] : List UInt8)) = !E := by rw [bne, hE]
      have e0' := eNil
      have HIS : Hid (inS key en xkey = (!A && (E || B))) := by show _ = _; unfold inS; rw [hA, hE, hB]
      by_cases hin : (!A && (E || B)) = true
      · have hA0 : A = false := by cases A <;> simp_all
        have hEB : (E || B) = true := by cases A <;> simp_all
        have HIS2 : Hid (inS key en xkey = true) := by show _ = _; rw [HIS.out]; exact hin
        obtain ⟨pb5, hO5, hE5, hZ5⟩ := HI.out
        have hmk : 0 ≤ mk ∧ mk ≤ 65536 := ⟨HBk.out.2.1, HBk.out.2.2.1⟩
        have HA5 : Hid (Calls Try.prog 9 #[.pointer (some ⟨ob, 0, none⟩), .agg #[.int .u8 2, .int .i64 (-1), .int .i64 mk, .string ⟨#[]⟩, .string ⟨#[]⟩, .bool false, .string xkey, .string ⟨#[]⟩, .slice none 0 0]] wr fun e w' => e = .returned (.tuple #[.bool true, .int .i64 0]) ∧ ∃ pb, OwS wz none w' ob sb b (L + 1) g pb 1 (mOf os) [⟨2, -1, mk, ⟨#[]⟩, ⟨#[]⟩, false, xkey, ⟨#[]⟩, []⟩] ∧ ERs w' eo (os.filterMap (scOf key en mk)) ∧ w'.heap[Z10]? = some (.cells #[.int .i64 (-1), .bool true, .slice eo el ec, .slice none 0 0, .int .i64 0] 39 (0, 0))) := by
          have hx64 := HOk.out.1.2
          refine (os_ask hO5 (by simp) ⟨2, -1, mk, ⟨#[]⟩, ⟨#[]⟩, false, xkey, ⟨#[]⟩, none, 0, 0⟩ [] ⟨⟨by simp, by simp⟩, by simp only; omega, HK.out.2.2, by show (⟨#[]⟩ : ByteArray).size ≤ _; decide, by show (⟨#[]⟩ : ByteArray).size ≤ _; decide, by simp only; omega, by show (⟨#[]⟩ : ByteArray).size ≤ _; decide, ⟨fun h => by simp at h, by simp⟩, rfl, Nat.le_refl _⟩).mono ?_
          rintro e w' (⟨h, _⟩ | ⟨_, h, _⟩ | ⟨_, _, rfl, pb, h, hf⟩)
          · exact absurd ⟨by show (-1 : Int) ≠ 0; decide, hmk.1, hmk.2, Or.inr (Or.inl ⟨rfl, by show noWr ⟨#[]⟩ ⟨#[]⟩ false; decide, rfl, HOk.out.1, rfl⟩)⟩ h
          · simp at h
          · exact ⟨rfl, pb, h, hE5.moveF hf hO5.sh.mb, hf.keep hO5.sh.mb hZ5 (by decide) (by decide) (by decide)⟩
        clear hO5 hE5 hZ5 hmk hin HI HIS
        subst hA0
        cases E with
        | true =>
          go_wp2_with fail
          refine Calls.mono HA5.out ?_
          rintro e w5 ⟨rfl, pb6, hO6, hE6, hZ6⟩
          have HS6 : Hid (Calls _ _ _ _ _) := os_get hO6 rfl
          have HK6 : Hid (OwS wz none w5 ob sb b (L + 1) g pb6 1 (mOf os) [⟨2, -1, mk, ⟨#[]⟩, ⟨#[]⟩, false, xkey, ⟨#[]⟩, []⟩] ∧ ERs w5 eo (os.filterMap (scOf key en mk)) ∧ w5.heap[Z10]? = some (.cells #[.int .i64 (-1), .bool true, .slice eo el ec, .slice none 0 0, .int .i64 0] 39 (0, 0))) := ⟨hO6, hE6, hZ6⟩
          clear hO6 hE6 hZ6 HA5 a0
          go_wp2_with fail
          refine Calls.mono HS6.out ?_
          rintro e w6 ⟨ok6, eo6, el6, ec6, rfl, hO7, hf7, h7⟩
          have hE7 := HK6.out.2.1.moveF hf7 HK6.out.1.sh.mb
          have hZ7 := hf7.keep HK6.out.1.sh.mb HK6.out.2.2 (by decide) (by decide) (by decide)
          simp only
          rcases h7 with ⟨rfl, hv, rfl, rfl, rfl⟩ | ⟨rfl, v, hv, rfl, hEo⟩
          · have HI7 : Hid (∃ pb, OwS wz none (w6.alloc (.cells #[.int .i64 (-1), .bool false, .slice none 0 0, .slice none 0 0, .int .i64 0] 39)) ob sb b (L + 1) g pb 1 (mOf os) [] ∧ ERs (w6.alloc (.cells #[.int .i64 (-1), .bool false, .slice none 0 0, .slice none 0 0, .int .i64 0] 39)) eo (os.filterMap (scOf key en mk)) ∧ (w6.alloc (.cells #[.int .i64 (-1), .bool false, .slice none 0 0, .slice none 0 0, .int .i64 0] 39)).heap[Z10]? = some (.cells #[.int .i64 (-1), .bool true, .slice eo el ec, .slice none 0 0, .int .i64 0] 39 (0, 0))) := ⟨pb6, hO7.same (Fr.alloc _ _ _), hE7.keep (Fr.alloc _ _ _), (Fr.alloc [] _ _).keep hZ7 (by simp)⟩
            have HSn2 : Hid (k = ((os.take (i + 1)).filterMap (scOf key en mk)).length) := by
              show _ = _
              rw [HOk.out.2] at hv
              rw [HSn.out, HSc.out, if_pos HIS2.out, hv, HKi.out]
              simp
            clear hO7 hf7 hE7 hZ7 hv HS6 HK6
            go_wp2_with fail
            go_roundw
            case rel => exact ⟨k, i + 1, rfl, by simp, by omega, hkl, HSn2, HI7⟩
            case measure => simp [RowKit.intOf]; omega
          · rw [HOk.out.2] at hv
            have hsc : scOf key en mk x = some (xkey, v) := by rw [HSc.out, if_pos HIS2.out, hv]; rfl
            obtain ⟨hk1, hk2⟩ := HAt.out _ hsc
            rw [← HKi.out] at hk1 hk2
            have HSn2 : Hid (k + 1 = ((os.take (i + 1)).filterMap (scOf key en mk)).length) := by
              show _ = _
              rw [HSn.out, hsc, HKi.out]
              simp
            have hkel : k < el := by have := HEl.out; omega
            obtain ⟨w7, HW7⟩ : ∃ w7, Hid (w6.alloc (.cells #[.int .i64 (-1), .bool true, .slice eo6 1 ec6, .slice none 0 0, .int .i64 0] 39) = w7) := ⟨_, rfl⟩
            have hF7 : Fr [] w6 w7 := by rw [← HW7.out]; exact Fr.alloc [] _ _
            have hr13 : w7.heap[w6.heap.size]? = some (.cells #[.int .i64 (-1), .bool true, .slice eo6 1 ec6, .slice none 0 0, .int .i64 0] 39 (0, 0)) := by rw [← HW7.out]; exact heap_alloc_new _ _
            obtain ⟨Z13, HZ13⟩ : ∃ Z, Hid (w6.heap.size = Z) := ⟨_, rfl⟩
            rw [HZ13.out] at hr13
            obtain ⟨eb, heb, d0, d1⟩ := (hE7.keep hF7).at k hk1
            obtain ⟨Eb, hEb, d2, d3⟩ := (((ers_of hEo.row hEo.len (by simp)) : ERs w6 eo6 [(xkey, v)]).keep hF7).at 0 (by simp)
            rw [hk2] at d0 d1
            simp only [List.getD_cons_zero] at d2 d3
            have heo : eo = some ⟨eb, 0, none⟩ := heb
            have heo6 : eo6 = some ⟨Eb, 0, none⟩ := hEb
            subst heo6
            have b1 : w7.cell? ⟨Z13, 1, none⟩ = some (.bool true) := by rw [cell_of_row _ _ _ _ _ _ hr13]; rfl
            have b2 : w7.cell? ⟨Z13, 2, none⟩ = some (.slice (some ⟨Eb, 0, none⟩) 1 ec6) := by rw [cell_of_row _ _ _ _ _ _ hr13]; rfl
            have b3 : w7.cell? ⟨Z10, 2, none⟩ = some (.slice (some ⟨eb, 0, none⟩) el ec) := by rw [cell_of_row _ _ _ _ _ _ (hF7.keep hZ7 (by simp)), heo]; rfl
            have HI7 : Hid (∃ pb, OwS wz none w7 ob sb b (L + 1) g pb 1 (mOf os) [] ∧ ERs w7 eo (os.filterMap (scOf key en mk)) ∧ w7.heap[Z10]? = some (.cells #[.int .i64 (-1), .bool true, .slice eo el ec, .slice none 0 0, .int .i64 0] 39 (0, 0))) := ⟨pb6, hO7.same hF7, hE7.keep hF7, hF7.keep hZ7 (by simp)⟩
            simp only [Nat.zero_mul, Nat.zero_add] at d2 d3
            clear hO7 hf7 hE7 hZ7 hv HS6 HK6 hEo hsc hk1 hk2 hF7 hr13 heb heo hEb
            go_upto_region 21 with fail
            rw [HW7.out, HZ13.out]
            clear HW7 HZ13
            go_wp2_with fail
            go_quiet (fail)
            go_wp2_with fail
            go_roundw
            case rel => exact ⟨k + 1, i + 1, by simp, by simp, by omega, by omega, HSn2, (by
              obtain ⟨p9, h1, h2, h3⟩ := HI7.out
              exact ⟨p9, h1.same (Fr.drewN _ _ _), h2.keep (Fr.drewN _ _ _), (Fr.drewN [] _ _).keep h3 (by simp)⟩)⟩
            case measure => simp [RowKit.intOf]; omega
        | false =>
          have hB1 : B = true := by simpa using hEB
          subst hB1
          go_wp2_with fail
          refine Calls.mono HA5.out ?_
          rintro e w5 ⟨rfl, pb6, hO6, hE6, hZ6⟩
          have HS6 : Hid (Calls _ _ _ _ _) := os_get hO6 rfl
          have HK6 : Hid (OwS wz none w5 ob sb b (L + 1) g pb6 1 (mOf os) [⟨2, -1, mk, ⟨#[]⟩, ⟨#[]⟩, false, xkey, ⟨#[]⟩, []⟩] ∧ ERs w5 eo (os.filterMap (scOf key en mk)) ∧ w5.heap[Z10]? = some (.cells #[.int .i64 (-1), .bool true, .slice eo el ec, .slice none 0 0, .int .i64 0] 39 (0, 0))) := ⟨hO6, hE6, hZ6⟩
          clear hO6 hE6 hZ6 HA5 a0
          go_wp2_with fail
          refine Calls.mono HS6.out ?_
          rintro e w6 ⟨ok6, eo6, el6, ec6, rfl, hO7, hf7, h7⟩
          have hE7 := HK6.out.2.1.moveF hf7 HK6.out.1.sh.mb
          have hZ7 := hf7.keep HK6.out.1.sh.mb HK6.out.2.2 (by decide) (by decide) (by decide)
          simp only
          rcases h7 with ⟨rfl, hv, rfl, rfl, rfl⟩ | ⟨rfl, v, hv, rfl, hEo⟩
          · have HI7 : Hid (∃ pb, OwS wz none (w6.alloc (.cells #[.int .i64 (-1), .bool false, .slice none 0 0, .slice none 0 0, .int .i64 0] 39)) ob sb b (L + 1) g pb 1 (mOf os) [] ∧ ERs (w6.alloc (.cells #[.int .i64 (-1), .bool false, .slice none 0 0, .slice none 0 0, .int .i64 0] 39)) eo (os.filterMap (scOf key en mk)) ∧ (w6.alloc (.cells #[.int .i64 (-1), .bool false, .slice none 0 0, .slice none 0 0, .int .i64 0] 39)).heap[Z10]? = some (.cells #[.int .i64 (-1), .bool true, .slice eo el ec, .slice none 0 0, .int .i64 0] 39 (0, 0))) := ⟨pb6, hO7.same (Fr.alloc _ _ _), hE7.keep (Fr.alloc _ _ _), (Fr.alloc [] _ _).keep hZ7 (by simp)⟩
            have HSn2 : Hid (k = ((os.take (i + 1)).filterMap (scOf key en mk)).length) := by
              show _ = _
              rw [HOk.out.2] at hv
              rw [HSn.out, HSc.out, if_pos HIS2.out, hv, HKi.out]
              simp
            clear hO7 hf7 hE7 hZ7 hv HS6 HK6
            go_wp2_with fail
            go_roundw
            case rel => exact ⟨k, i + 1, rfl, by simp, by omega, hkl, HSn2, HI7⟩
            case measure => simp [RowKit.intOf]; omega
          · rw [HOk.out.2] at hv
            have hsc : scOf key en mk x = some (xkey, v) := by rw [HSc.out, if_pos HIS2.out, hv]; rfl
            obtain ⟨hk1, hk2⟩ := HAt.out _ hsc
            rw [← HKi.out] at hk1 hk2
            have HSn2 : Hid (k + 1 = ((os.take (i + 1)).filterMap (scOf key en mk)).length) := by
              show _ = _
              rw [HSn.out, hsc, HKi.out]
              simp
            have hkel : k < el := by have := HEl.out; omega
            obtain ⟨w7, HW7⟩ : ∃ w7, Hid (w6.alloc (.cells #[.int .i64 (-1), .bool true, .slice eo6 1 ec6, .slice none 0 0, .int .i64 0] 39) = w7) := ⟨_, rfl⟩
            have hF7 : Fr [] w6 w7 := by rw [← HW7.out]; exact Fr.alloc [] _ _
            have hr13 : w7.heap[w6.heap.size]? = some (.cells #[.int .i64 (-1), .bool true, .slice eo6 1 ec6, .slice none 0 0, .int .i64 0] 39 (0, 0)) := by rw [← HW7.out]; exact heap_alloc_new _ _
            obtain ⟨Z13, HZ13⟩ : ∃ Z, Hid (w6.heap.size = Z) := ⟨_, rfl⟩
            rw [HZ13.out] at hr13
            obtain ⟨eb, heb, d0, d1⟩ := (hE7.keep hF7).at k hk1
            obtain ⟨Eb, hEb, d2, d3⟩ := (((ers_of hEo.row hEo.len (by simp)) : ERs w6 eo6 [(xkey, v)]).keep hF7).at 0 (by simp)
            rw [hk2] at d0 d1
            simp only [List.getD_cons_zero] at d2 d3
            have heo : eo = some ⟨eb, 0, none⟩ := heb
            have heo6 : eo6 = some ⟨Eb, 0, none⟩ := hEb
            subst heo6
            have b1 : w7.cell? ⟨Z13, 1, none⟩ = some (.bool true) := by rw [cell_of_row _ _ _ _ _ _ hr13]; rfl
            have b2 : w7.cell? ⟨Z13, 2, none⟩ = some (.slice (some ⟨Eb, 0, none⟩) 1 ec6) := by rw [cell_of_row _ _ _ _ _ _ hr13]; rfl
            have b3 : w7.cell? ⟨Z10, 2, none⟩ = some (.slice (some ⟨eb, 0, none⟩) el ec) := by rw [cell_of_row _ _ _ _ _ _ (hF7.keep hZ7 (by simp)), heo]; rfl
            have HI7 : Hid (∃ pb, OwS wz none w7 ob sb b (L + 1) g pb 1 (mOf os) [] ∧ ERs w7 eo (os.filterMap (scOf key en mk)) ∧ w7.heap[Z10]? = some (.cells #[.int .i64 (-1), .bool true, .slice eo el ec, .slice none 0 0, .int .i64 0] 39 (0, 0))) := ⟨pb6, hO7.same hF7, hE7.keep hF7, hF7.keep hZ7 (by simp)⟩
            simp only [Nat.zero_mul, Nat.zero_add] at d2 d3
            clear hO7 hf7 hE7 hZ7 hv HS6 HK6 hEo hsc hk1 hk2 hF7 hr13 heb heo hEb
            go_upto_region 21 with fail
            rw [HW7.out, HZ13.out]
            clear HW7 HZ13
            go_wp2_with fail
            go_quiet (fail)
            go_wp2_with fail
            go_roundw
            case rel => exact ⟨k + 1, i + 1, by simp, by simp, by omega, by omega, HSn2, (by
              obtain ⟨p9, h1, h2, h3⟩ := HI7.out
              exact ⟨p9, h1.same (Fr.drewN _ _ _), h2.keep (Fr.drewN _ _ _), (Fr.drewN [] _ _).keep h3 (by simp)⟩)⟩
            case measure => simp [RowKit.intOf]; omega
      · have HSn2 : Hid (k = ((os.take (i + 1)).filterMap (scOf key en mk)).length) := by
          show _ = _
          rw [HSn.out, HSc.out, HIS.out, if_neg hin, HKi.out]
          simp
        clear HIS
        cases A with
        | true =>
          clear hin
          go_wp2_with fail
          go_roundw
          case rel => exact ⟨k, i + 1, rfl, by simp, by omega, hkl, HSn2, HI⟩
          case measure => simp [RowKit.intOf]; omega
        | false =>
          have hE0 : E = false := by cases E <;> simp_all
          have hB0 : B = false := by cases B <;> simp_all
          subst hE0 hB0
          clear hin
          go_wp2_with fail
          go_roundw
          case rel => exact ⟨k, i + 1, rfl, by simp, by omega, hkl, HSn2, HI⟩
          case measure => simp [RowKit.intOf]; omega
    · have hke : k = el := by
        rw [HKi.out, HEl.out, List.take_of_length_le (by have := HL.out; omega)]
      obtain ⟨pb5, hO5, hE5, hZ5⟩ := HI.out
      have HF5 : Hid (Fr [] wz wr) := hO5.fr
      have c2 : wr.cell? ⟨Z10, 2, none⟩ = some (.slice eo el ec) := by rw [cell_of_row _ _ _ _ _ _ hZ5]; rfl
      clear hO5 hE5 hZ5 HI
      subst hke
      go_wp2_with fail
      refine (lives_any _).mono ?_
      rintro e w9 ⟨rfl, hF9⟩
      go_wp2
      go_ret
      exact ⟨rfl, HF0.out.then (HF5.out.then hF9)⟩
end Go.Proofs.Ytomajifklajilaa
