/- What a checkpoint keeps: mathematics; contracts of Dump and of the closure that it makes. Conditions as each names them. -/
import Derived.Test.YtakbodlicfmkjaaGreatHg9
namespace Go.Proofs.YtakbodlicfmkjaaGreat.O
open Go.ChangeShapes Go.WideShapes Go.ChangeAt Go.RowKit Go.Lib Go.Maps
set_option linter.unusedVariables false
set_option linter.unusedSimpArgs false

/-- What is kept of a key's versions. -/
def dmp (vs : List Vn) (k : Int) (ns : List Int) : List Vn := ((vAt vs k).toList.filter fun v => !v.drop) ++ vs.filter fun v => decide (k < v.num) && decide (v.num ∈ ns)
theorem head_vAt {vs : List Vn} {k : Int} {d : Nat} (h : UpTo vs k d) : headD vs d = (vAt vs k).toList.filter fun v => !v.drop := by
  rw [vAt_upTo h]
  unfold headD
  by_cases h0 : d = 0
  · rw [if_pos h0, if_neg (fun h => by omega)]
    rfl
  · rw [if_neg h0]
    unfold atV
    rw [if_neg h0]
    obtain ⟨x, hx⟩ : ∃ x, x = vs.getD (d - 1) Vn.zero := ⟨_, rfl⟩
    rw [← hx]
    cases hd : x.drop with
    | true => rw [if_neg (fun h => by simp at h)]; simp [hd]
    | false => rw [if_pos ⟨by omega, rfl⟩]; simp [hd]
theorem tail_vAt {vs : List Vn} {k : Int} {d : Nat} (h : UpTo vs k d) (p : Vn → Bool) : (vs.drop d).filter p = vs.filter fun v => decide (k < v.num) && p v := by
  have hle := h.le
  conv => rhs; rw [← List.take_append_drop d vs, List.filter_append]
  have h1 : (vs.take d).filter (fun v => decide (k < v.num) && p v) = [] := by
    refine List.filter_eq_nil_iff.2 fun x hx => ?_
    obtain ⟨j, hj, e⟩ := List.mem_iff_getElem.1 hx
    have hj' : j < d ∧ j < vs.length := by simp at hj; omega
    have := h.lo j hj'.1
    simp only [List.getD, List.getElem?_eq_getElem hj'.2, Option.getD_some] at this
    rw [← e]
    simp
    omega
  rw [h1, List.nil_append]
  refine (List.filter_congr fun x hx => ?_).symm
  obtain ⟨j, hj, e⟩ := List.mem_iff_getElem.1 hx
  have hj' : d + j < vs.length := by simp at hj; omega
  have := h.hi (d + j) (by omega) hj'
  simp only [List.getD, List.getElem?_eq_getElem hj', Option.getD_some] at this
  have e2 : x.num = vs[d + j].num := by rw [← e]; simp
  have : decide (k < x.num) = true := by rw [e2]; simpa using this
  rw [this]
  rfl
theorem dmp_told {vs : List Vn} {k : Int} {ns : List Int} {us : List Vn} {c : Nat} (ho : okV vs) (h : DuTold vs k ns us c) : us = dmp vs k ns := by
  rcases h with ⟨_, h, _⟩ | ⟨_, _, d, hd, e⟩
  · exact absurd ho h
  · rw [e, head_vAt hd, tail_vAt hd]
    rfl
theorem dmp_sub {vs : List Vn} (ho : okV vs) (k : Int) (ns : List Int) : (dmp vs k ns).Sublist vs := by
  obtain ⟨d, hd⟩ := UpTo.ex ho.2 k
  have e : dmp vs k ns = headD vs d ++ (vs.drop d).filter fun v => decide (v.num ∈ ns) := by
    rw [head_vAt hd, tail_vAt hd]
    rfl
  rw [e]
  conv => rhs; rw [← List.take_append_drop d vs]
  refine List.Sublist.append ?_ List.filter_sublist
  unfold headD
  split
  · rename_i h
    refine List.singleton_sublist.2 ?_
    have hle := hd.le
    refine List.mem_iff_getElem.2 ⟨d - 1, by simp; omega, ?_⟩
    simp [List.getD, show d - 1 < vs.length by omega]
  · exact List.nil_sublist _
theorem dmp_nil (k : Int) (ns : List Int) : dmp [] k ns = [] := rfl
/-- What is kept reads the same at the mark and above, if all numbers beyond are named. -/
theorem dmp_val {vs : List Vn} (ho : okV vs) {k m : Int} {ns : List Int} (hkm : k ≤ m) (hns : ∀ v ∈ vs, k < v.num → v.num ∈ ns) : valAt (dmp vs k ns) m = valAt vs m := by
  obtain ⟨d, hd⟩ := UpTo.ex ho.2 k
  have hle := hd.le
  have e : dmp vs k ns = headD vs d ++ vs.drop d := by
    have h1 : (vs.drop d).filter (fun v => decide (v.num ∈ ns)) = vs.drop d := by
      refine List.filter_eq_self.2 fun x hx => ?_
      obtain ⟨j, hj, e⟩ := List.mem_iff_getElem.1 hx
      have hj' : d + j < vs.length := by simp at hj; omega
      have := hd.hi (d + j) (by omega) hj'
      simp only [List.getD, List.getElem?_eq_getElem hj', Option.getD_some] at this
      have e2 : x = vs[d + j] := by rw [← e]; simp
      have hm : x ∈ vs := List.mem_of_mem_drop hx
      simpa using hns x hm (by rw [e2]; exact this)
    have h2 : dmp vs k ns = headD vs d ++ (vs.drop d).filter fun v => decide (v.num ∈ ns) := by
      rw [head_vAt hd, tail_vAt hd]
      rfl
    rw [h2, h1]
  have ht : (vs.take d).filter (fun v => decide (v.num ≤ m)) = vs.take d := by
    refine List.filter_eq_self.2 fun x hx => ?_
    obtain ⟨j, hj, e⟩ := List.mem_iff_getElem.1 hx
    have hj' : j < d ∧ j < vs.length := by simp at hj; omega
    have := hd.lo j hj'.1
    simp only [List.getD, List.getElem?_eq_getElem hj'.2, Option.getD_some] at this
    have e2 : x = vs[j] := by rw [← e]; simp
    rw [e2]
    simp
    omega
  have hh : (headD vs d).filter (fun v => decide (v.num ≤ m)) = headD vs d := by
    refine List.filter_eq_self.2 fun x hx => ?_
    unfold headD at hx
    split at hx
    · rename_i h
      simp at hx
      have := hd.lo (d - 1) (by omega)
      rw [hx]
      simp
      simp only [List.getD] at this
      omega
    · simp at hx
  have e1 : vAt (dmp vs k ns) m = (((vs.drop d).filter fun v => decide (v.num ≤ m)).getLast?).or (headD vs d).getLast? := by
    unfold vAt
    rw [e, List.filter_append, hh, List.getLast?_append]
  have e2 : vAt vs m = (((vs.drop d).filter fun v => decide (v.num ≤ m)).getLast?).or (vs.take d).getLast? := by
    unfold vAt
    conv => lhs; rw [← List.take_append_drop d vs, List.filter_append, ht, List.getLast?_append]
  unfold valAt
  rw [e1, e2]
  cases hC : ((vs.drop d).filter fun v => decide (v.num ≤ m)).getLast? with
  | some x => rfl
  | none =>
    simp only [Option.none_or]
    have e3 : (vs.take d).getLast? = vAt vs k := by unfold vAt; rw [filt_upTo hd]
    rw [e3, head_vAt hd]
    cases hv : vAt vs k with
    | none => rfl
    | some x =>
      cases hx : x.drop with
      | true => simp [valOf, hx]
      | false => simp [valOf, hx]
theorem sum_sub (f : ByteArray → Nat) : ∀ (as' bs : List ByteArray), as'.Nodup → (∀ x ∈ as', x ∈ bs) → (as'.map f).sum ≤ (bs.map f).sum
  | [], bs, _, _ => by simp
  | a :: r, bs, hn, hs => by
    have ha := hs a (by simp)
    obtain ⟨s, t, rfl⟩ := List.append_of_mem ha
    rw [List.nodup_cons] at hn
    have h2 := sum_sub f r (s ++ t) hn.2 (fun x hx => by
      have h3 := hs x (by simp [hx])
      rcases List.mem_append.1 h3 with h4 | h4
      · exact List.mem_append_left _ h4
      · rcases List.mem_cons.1 h4 with h5 | h5
        · rw [h5] at hx
          exact absurd hx hn.1
        · exact List.mem_append_right _ h5)
    simp only [List.map_cons, List.map_append, List.sum_append, List.sum_cons] at h2 ⊢
    omega
theorem sum_le (f g : ByteArray → Nat) (h : ∀ k, f k ≤ g k) : ∀ as' : List ByteArray, (as'.map f).sum ≤ (as'.map g).sum
  | [] => by simp
  | a :: r => by
    have := sum_le f g h r
    have := h a
    simp only [List.map_cons, List.sum_cons]
    omega
theorem SzT.le {M M' : ByteArray → List Vn} {S S' : Nat} (h : SzT M S) (h' : SzT M' S') (hs : ∀ k, (M' k).Sublist (M k)) : S' ≤ S := by
  obtain ⟨ks, hn, hk, rfl⟩ := h
  obtain ⟨ks', hn', hk', rfl⟩ := h'
  refine Nat.le_trans (sum_le (fun k => (M' k).length) (fun k => (M k).length) (fun k => (hs k).length_le) ks') (sum_sub _ _ _ hn' fun x hx => (hk x).2 fun e => (hk' x).1 hx ?_)
  have := hs x
  rw [e] at this
  exact List.sublist_nil.1 this
set_option maxHeartbeats 2000000 in
theorem hdump1_any (vo : Option Addr) (L cap : Nat) (k : Int) (vs : List Vn) (bo : Option Addr) (Mn cb : Nat) (ns : List Int) (b1 b2 : Nat) (w : World) (hV : VRs w vo vs) (ho : okV vs) (hL : L = vs.length) (hcap : L ≤ cap) (hN : IRs w bo ns) (hM : Mn = ns.length) (c1 : w.cell? ⟨b1, 0, none⟩ = some (.int .i64 k)) (c2 : w.cell? ⟨b2, 0, none⟩ = some (.slice bo Mn cb)) :
    Calls Tryz.prog 324 #[.slice vo L cap, .pointer (some ⟨b1, 0, none⟩), .pointer (some ⟨b2, 0, none⟩)] w fun e w' => ∃ ro N rc, e = .returned (.slice ro N rc) ∧ VOut w w' ro N rc (dmp vs k ns) ∧ Fr [] w w' := by
  have HC : Hid (Calls _ _ _ _ _) := dump_any vo L cap k vs bo Mn cb ns w hV hL hcap hN hM
  have HO : Hid (okV vs) := ho
  clear hV ho hL hcap hN hM
  go_enter Tryz.func324, Tryz.ntmps324
  go_wp2_with fail
  refine Calls.mono HC.out ?_
  rintro e w1 ⟨ro, N, rc, us, c, rfl, hT, hO, hF⟩
  have HR : Hid (VOut w w1 ro N rc (dmp vs k ns) ∧ Fr [] w w1) := ⟨by rw [← dmp_told HO.out hT]; exact hO, hF⟩
  clear hT hO hF HC
  go_wp2
  go_ret
  exact ⟨ro, N, rc, rfl, HR.out⟩
set_option maxHeartbeats 8000000 in
set_option maxRecDepth 100000 in
theorem pickD_any {w0 : World} {sb b n : Nat} {M : ByteArray → List Vn} (f : ByteArray → List Vn) (b1 b2 : Nat) (w : World) (h : Sh w0 w sb b n M) (hn : n < 3518437208883)
    (hCh : ∀ W, Fr [] w W → ∀ key vo L cap, VRs W vo (M key) → okV (M key) → L = (M key).length → L ≤ cap → Calls Tryz.prog 324 #[.slice vo L cap, .pointer (some ⟨b1, 0, none⟩), .pointer (some ⟨b2, 0, none⟩)] W fun e w' => ∃ ro N rc, e = .returned (.slice ro N rc) ∧ VOut W w' ro N rc (f key) ∧ Fr [] W w') (hfl : ∀ k, (f k).length ≤ 131072) :
    Calls Tryz.prog 112 #[.pointer (some ⟨sb, 0, none⟩), .func (Fn.func 324) #[] #[.pointer (some ⟨b1, 0, none⟩), .pointer (some ⟨b2, 0, none⟩)]] w fun e w' => ∃ ro N rc hs, e = .returned (.slice ro N rc) ∧ HOut w w' ro N rc hs ∧ N ≤ n ∧ PkT M f hs ∧ Fr [] w w' := by
  have HS : Hid (∀ W, Fr [] w W → Sh w0 W sb b n M) := fun W hf => h.keep hf
  have HT : Hid (Calls _ _ _ _ _) := hstretch_any ⟨#[]⟩ ⟨#[]⟩ w h hn
  have HCh : Hid (∀ W, Fr [] w W → ∀ key vo L cap, VRs W vo (M key) → okV (M key) → L = (M key).length → L ≤ cap → Calls Tryz.prog 324 #[.slice vo L cap, .pointer (some ⟨b1, 0, none⟩), .pointer (some ⟨b2, 0, none⟩)] W fun e w' => ∃ ro N rc, e = .returned (.slice ro N rc) ∧ VOut W w' ro N rc (f key) ∧ Fr [] W w') := hCh
  have HFl : Hid (∀ k, (f k).length ≤ 131072) := hfl
  clear h hCh hfl
  go_enter Tryz.func112, Tryz.ntmps112
  go_wp2_with fail
  refine Calls.mono HT.out ?_
  rintro e w1 ⟨so, Nk, c, ss, rfl, hK1, hNk, hKs, hF1⟩
  have HK1 : Hid (KOut w w1 so Nk c ss) := hK1
  have HKs : Hid (KsT M ⟨#[]⟩ ⟨#[]⟩ ss ∧ Nk = ss.length) := ⟨hKs, hK1.len⟩
  have HE0 : Hid (HOut w w1 none 0 0 [] ∧ PkI M f (ss.take 0) []) := ⟨⟨rfl, ⟨rfl, .inl ⟨rfl, rfl⟩⟩, by simp, List.Pairwise.nil⟩, ⟨rfl, by simp⟩⟩
  have HF1 : Hid (Fr [] w w1) := hF1
  clear HT hK1 hKs hF1
  go_wp2_with fail
  go_loopw [5, 12] (fun ll ii wr => ∃ (ro : Option Addr) (N rc i : Nat) (hs : List Hd), ll = .slice ro N rc ∧ ii = .int .i64 i ∧ i ≤ Nk ∧ N ≤ i ∧ Hid (HOut w wr ro N rc hs ∧ PkI M f (ss.take i) hs) ∧ Hid (KOut w wr so Nk c ss) ∧ Hid (Fr [] w wr)) (fun _ ii _ => Nk - (RowKit.intOf ii).toNat)
  case atStart => exact ⟨none, 0, 0, 0, [], rfl, rfl, Nat.zero_le _, Nat.le_refl _, HE0, HK1, HF1⟩
  case round =>
    obtain ⟨ro, N, rc, i, hs, rfl, rfl, hiN, hNi, HE, HK, HF⟩ := hrel
    by_cases hi : i < Nk
    · have hi' : i < ss.length := by rw [← HKs.out.2]; exact hi
      obtain ⟨g, rfl, cg⟩ := HK.out.at i hi'
      have HSn : Hid (ss.take (i + 1) = ss.take i ++ [ss.getD i ⟨#[]⟩]) := kt_snoc ss i hi'
      obtain ⟨s, hs'⟩ : ∃ s, s = ss.getD i ⟨#[]⟩ := ⟨_, rfl⟩
      have hsm : s ∈ ss := by rw [hs']; simp [List.getD, hi']
      rw [← hs'] at cg HSn
      have hSr := HS.out _ HF.out
      have hok := hSr.keyok ((HKs.out.1.mem s).1 hsm).1
      have cs := hSr.cell
      obtain ⟨vo, Lv, cv, hlk, hV, _⟩ := hSr.look s (by have := hok.2; unfold maxLen; omega)
      have HG : Hid (Calls _ _ _ _ _) := HCh.out wr HF.out s vo Lv cv (hV.each (hSr.ok s)) (hSr.ok s) hV.len hV.cap
      clear hs' hsm hok hSr hV
      go_wp2_with fail
      refine Calls.mono HG.out ?_
      rintro e w2 ⟨vo2, L2, c2, rfl, hV2, hF2⟩
      have HE2 : Hid (HOut w w2 ro N rc hs) := HE.out.1.keep hF2
      have HPI : Hid (PkI M f (ss.take i) hs) := HE.out.2
      have HK2 : Hid (KOut w w2 (some ⟨g, 0, none⟩) Nk c ss) := HK.out.keep hF2
      have HF2 : Hid (Fr [] w w2) := HF.out.then hF2
      have HV2 : Hid (VOut w w2 vo2 L2 c2 (f s)) := hV2.later HF.out.size
      have hL2 : L2 ≤ 131072 := by rw [hV2.len]; exact HFl.out s
      have HApx : Hid (∀ x ∈ hs, Apa x.vo vo2) := HE.out.1.newApart hV2
      clear HE HK HF hF2 HG hV2
      by_cases hz : L2 = 0
      · have HP2 : Hid (HOut w w2 ro N rc hs ∧ PkI M f (ss.take (i + 1)) hs) := ⟨HE2.out, by
          rw [HSn.out]
          exact HPI.out.out (List.eq_nil_of_length_eq_zero (by have := HV2.out.len; omega))⟩
        subst hz
        clear HSn HPI
        go_wp2_with fail
        go_roundw
        case rel => exact ⟨ro, N, rc, i + 1, hs, rfl, by simp, by omega, by omega, HP2, HK2, HF2⟩
        case measure => simp [RowKit.intOf]; omega
      · have hz1 : decide ((0 : Int) < (L2 : Int)) = true := by simp; omega
        have hz2 : decide (0 < L2) = true := by simp; omega
        have hz3 : 0 < L2 := by omega
        have HP2 : Hid (PkI M f (ss.take (i + 1)) (hs ++ [⟨s, vo2, L2, c2, f s⟩])) := by
          show PkI _ _ _ _
          rw [HSn.out]
          refine HPI.out.inn (fun e => hz ?_) rfl rfl
          have := HV2.out.len
          rw [e] at this
          exact this
        have hsz2 : w.heap.size ≤ w2.heap.size := HF2.out.size
        have HY : Hid (∀ so' c' w3, HOut w w3 so' (N + 1) c' (hs ++ [⟨s, vo2, L2, c2, f s⟩]) → Fr (Value.slice ro N rc).ownBlock.toList w2 w3 → Hid (HOut w w3 so' (N + 1) c' (hs ++ [⟨s, vo2, L2, c2, f s⟩]) ∧ PkI M f (ss.take (i + 1)) (hs ++ [⟨s, vo2, L2, c2, f s⟩])) ∧ Hid (KOut w w3 (some ⟨g, 0, none⟩) Nk c ss) ∧ Hid (Fr [] w w3)) := by
          intro so' c' w3 e1 e2
          refine ⟨⟨e1, HP2.out⟩, ⟨HK2.out.len, owns_keepB HK2.out.row e2 (own_apart HK2.out.row HE2.out.row (by decide))⟩, HF2.out.on e2 (fun x hx => (owns_cells HE2.out.row (Option.mem_toList.1 hx)).1)⟩
        clear HSn HPI HP2 hz
        go_wp2_with (first
          | (at_builtin; refine wpList_appH w w2 rfl _ _ rfl ro N rc hs rfl HE2.out (by omega) hsz2 ⟨s, vo2, L2, c2, f s⟩ HV2.out HApx.out rfl ?_
             intro so' c' w3 e1 e2
             have HR2 : Hid (_ ∧ _ ∧ _) := HY.out so' c' w3 e1 e2
             clear e1 e2
             go_frame)
          | fail)
        go_roundw
        case rel => exact ⟨so', N + 1, c', i + 1, _, rfl, by simp, by omega, by omega, HR2.out.1, HR2.out.2.1, HR2.out.2.2⟩
        case measure => simp [RowKit.intOf]; omega
    · have hiN2 : i = ss.length := by have := HKs.out.2; omega
      have HR : Hid (HOut w wr ro N rc hs ∧ PkT M f hs ∧ Fr [] w wr) := by
        have h1 := HE.out
        rw [hiN2, List.take_length] at h1
        exact ⟨h1.1, h1.2.done HKs.out.1, HF.out⟩
      have hNn : N ≤ n := by omega
      clear hiN2 HE HK HF
      go_wp2
      go_ret
      exact ⟨ro, N, rc, hs, rfl, HR.out.1, hNn, HR.out.2⟩
set_option maxHeartbeats 4000000 in
set_option maxRecDepth 100000 in
theorem hdump_any {w0 : World} {sb b n : Nat} {M : ByteArray → List Vn} (k : Int) (bo : Option Addr) (Mn cb : Nat) (ns : List Int) (w : World) (h : Sh w0 w sb b n M) (hn : n < 3518437208883) (hN : IRs w bo ns) (hM : Mn = ns.length) :
    Calls Tryz.prog 319 #[.pointer (some ⟨sb, 0, none⟩), .int .i64 k, .slice bo Mn cb] w fun e w' => ∃ ro N rc hs, e = .returned (.slice ro N rc) ∧ HOut w w' ro N rc hs ∧ N ≤ n ∧ PkT M (fun s => dmp (M s) k ns) hs ∧ Fr [] w w' := by
  obtain ⟨w1, HW1⟩ : ∃ w1, Hid ((w.alloc (.cells #[.int .i64 k] 3)).alloc (.cells #[.slice bo Mn cb] 25) = w1) := ⟨_, rfl⟩
  have hF1 : Fr [] w w1 := by rw [← HW1.out]; exact (Fr.alloc [] _ _).then (Fr.alloc [] _ _)
  have hb1 : w1.heap[w.heap.size]? = some (.cells #[.int .i64 k] 3 (0, 0)) := by rw [← HW1.out]; exact (Fr.alloc [] _ _).keep (heap_alloc_new _ _) (by simp)
  have hb2 : w1.heap[w.heap.size + 1]? = some (.cells #[.slice bo Mn cb] 25 (0, 0)) := by
    rw [← HW1.out]
    have := heap_alloc_new (w.alloc (.cells #[.int .i64 k] 3)) (.cells #[.slice bo Mn cb] 25)
    simpa using this
  have HT : Hid (Calls _ _ _ _ _) := hthere_any w1 (h.keep hF1)
  have HS : Hid (∀ W, Fr [] w1 W → Sh w0 W sb b n M) := fun W hf => h.keep (hF1.then hf)
  have HI : Hid (∀ W, Fr [] w1 W → IRs W bo ns) := fun W hf => hN.keep (hF1.then hf)
  have HB : Hid (∀ W, Fr [] w1 W → W.cell? ⟨w.heap.size, 0, none⟩ = some (.int .i64 k) ∧ W.cell? ⟨w.heap.size + 1, 0, none⟩ = some (.slice bo Mn cb)) := fun W hf => by
    have r1 := hf.keep hb1 (by simp)
    have r2 := hf.keep hb2 (by simp)
    exact ⟨by rw [cell_of_row _ _ _ _ _ _ r1]; rfl, by rw [cell_of_row _ _ _ _ _ _ r2]; rfl⟩
  have HFl : Hid (∀ s, (dmp (M s) k ns).length ≤ 131072) := fun s => by have := okV_few (h.ok s); have := (dmp_sub (h.ok s) k ns).length_le; omega
  have HM : Hid (Mn = ns.length) := hM
  have HFw : Hid (Fr [] w w1) := hF1
  clear h hN hM hb1 hb2 hF1
  go_enter Tryz.func319, Tryz.ntmps319
  go_upto_region 1 with fail
  rw [HW1.out]
  go_wp2_with fail
  refine Calls.mono HT.out ?_
  rintro e w2 ⟨rfl, hF2⟩
  have HC : Hid (Calls _ _ _ _ _) := pickD_any (fun s => dmp (M s) k ns) w.heap.size (w.heap.size + 1) w2 (HS.out _ hF2) hn (fun W hW key vo L cap hV ho hL hc => by
    obtain ⟨q1, q2⟩ := HB.out W (hF2.then hW)
    exact hdump1_any vo L cap k (M key) bo Mn cb ns _ _ W hV ho hL hc (HI.out W (hF2.then hW)) HM.out q1 q2) HFl.out
  have HF2 : Hid (Fr [] w w2) := HFw.out.then hF2
  clear HT hF2
  go_wp2_with fail
  refine Calls.mono HC.out ?_
  rintro e w3 ⟨ro, N, rc, hs, rfl, hE, hN, hI, hF3⟩
  have HR : Hid (HOut w w3 ro N rc hs ∧ N ≤ n ∧ PkT M (fun s => dmp (M s) k ns) hs ∧ Fr [] w w3) := ⟨⟨hE.len, own_base hE.row HF2.out.size, fun x hx => (hE.each x hx).later HF2.out.size, hE.apart⟩, hN, hI, HF2.out.then hF3⟩
  clear HC hE hN hI hF3
  go_wp2
  go_ret
  exact ⟨ro, N, rc, hs, rfl, HR.out⟩
end Go.Proofs.YtakbodlicfmkjaaGreat.O
