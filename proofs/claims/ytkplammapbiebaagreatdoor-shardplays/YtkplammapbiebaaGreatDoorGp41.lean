/- Texts of this claim laid together, one behind the other: contracts and plain lemmas; conditions as each names them. -/
import Derived.Test.YtkplammapbiebaaGreatDoorGp39
import Derived.Test.YtkplammapbiebaaGreatDoorGp40
/- The Book that is told the twin; a script's size. Conditions as each names them. -/
namespace Go.Proofs.YtkplammapbiebaaGreatDoor
open Go.ChangeShapes Go.WideShapes Go.ChangeAt Go.RowKit Go.Lib Go.Maps
set_option linter.unusedVariables false
set_option linter.unusedSimpArgs false
section
variable {wS w0 w w' : World} {s r : Option Addr} {n L b : Nat} {Own : Nat → Prop} {ts : List Hd} {ks : List Nat}
theorem twinVs_own {k : Nat} {vs : List Vn} {M : Nat} (h : w.heap[k]? = some (.cells (vnsC (vs ++ [spV])).toArray 79 (0, 0))) (hM : M = vs.length) (hm : M < 2097152) : w.ownsRow 0 79 3 (.slice (some ⟨k, 0, none⟩) M (M + 1)) M (vnsC vs) := by
  refine ⟨by rw [vnsC_length, hM], .inr ⟨k, M + 1, (vnsC (vs ++ [spV])).toArray, rfl, Nat.zero_le _, h, by omega, by simp only [maxLen]; omega, by simp [vnsC_length]; omega, ?_⟩⟩
  simp only [vnsC_append]
  rw [List.take_append_of_le_length (by rw [vnsC_length]; omega), List.take_of_length_le (by rw [vnsC_length]; omega)]
theorem twins_own (hb : w.heap[b]? = some (.cells (hdsC (twTs ts ks ++ [spT])).toArray 71 (0, 0))) (hT : Twd w0 w ts ks) (hL : L = ts.length) (hm : L < 2097152) : w.ownsRow 0 71 2 (.slice (some ⟨b, 0, none⟩) L (L + 1)) L (hdsC (twTs ts ks)) := by
  have hl := twTs_length ts ks hT.len
  refine ⟨by rw [hdsC_length, hl, hL], .inr ⟨b, L + 1, (hdsC (twTs ts ks ++ [spT])).toArray, rfl, Nat.zero_le _, hb, by omega, by simp only [maxLen]; omega, by simp [hdsC_length, hl]; omega, ?_⟩⟩
  simp only [hdsC_append]
  rw [List.take_append_of_le_length (by rw [hdsC_length, hl]; omega), List.take_of_length_le (by rw [hdsC_length, hl]; omega)]
/-- The twins read as what they were made of. -/
theorem twins_hrs {ao : Option Addr} (h : HRs w' ao ts) (hT : Twd w0 w ts ks) (hb : w.heap[b]? = some (.cells (hdsC (twTs ts ks ++ [spT])).toArray 71 (0, 0))) : HRs w (some ⟨b, 0, none⟩) (twTs ts ks) := by
  have hl := twTs_length ts ks hT.len
  refine ⟨fun h0 => ⟨b, 0, rfl, lt_of_block hb, fun i hi => ?_⟩, by rw [hl]; exact h.few, fun x hx => ?_⟩
  · obtain ⟨e1, e2⟩ := hdsC_get (twTs ts ks ++ [spT]) i (by simp; omega)
    have e3 : (twTs ts ks ++ [spT]).getD i Hd.zero = (twTs ts ks).getD i Hd.zero := by simp [List.getD, List.getElem?_append_left hi]
    rw [e3] at e1 e2
    rw [cell_of_row _ _ _ _ _ _ hb, cell_of_row _ _ _ _ _ _ hb, Nat.zero_add]
    exact ⟨by simpa using e1, by simpa using e2⟩
  · obtain ⟨i, hi⟩ := List.getElem?_of_mem hx
    obtain ⟨t, k, ht, hk, rfl⟩ := twTs_get hi
    have he := h.each t (List.mem_of_getElem? ht)
    refine ⟨he.k, he.len, by simp [twT], ?_⟩
    have hr := hT.row i t k ht hk
    refine VRs.of_cells (fun _ => lt_of_block hr) (fun j u hj => ?_) he.rs.few he.rs.each
    rw [Nat.zero_add, cell_of_row _ _ _ _ _ _ hr]
    have hj : (vnsC t.vs)[j]? = some u := hj
    have hj' : j < (vnsC t.vs).length := (List.getElem?_eq_some_iff.1 hj).1
    rw [vnsC_append]
    simpa [List.getElem?_append_left hj'] using hj
theorem twins_kv (hT : Twd w0 w ts ks) : (twTs ts ks).map hkv = ts.map hkv := by
  apply List.ext_getElem?
  intro i
  rw [List.getElem?_map, List.getElem?_map]
  by_cases hi : i < ts.length
  · have h1 : i < (twTs ts ks).length := by rw [twTs_length ts ks hT.len]; exact hi
    obtain ⟨u, hu⟩ : ∃ u, (twTs ts ks)[i]? = some u := ⟨_, List.getElem?_eq_getElem h1⟩
    obtain ⟨t, k, ht, hk, rfl⟩ := twTs_get hu
    rw [hu, ht]
    rfl
  · rw [List.getElem?_eq_none (by rw [twTs_length ts ks hT.len]; omega), List.getElem?_eq_none (by omega)]
theorem twins_dts (hb : w.heap[b]? = some (.cells (hdsC (twTs ts ks ++ [spT])).toArray 71 (0, 0))) (hT : Twd w0 w ts ks) (hL : L = ts.length) (hm : L < 2097152) (hF : Few ts) (he : ∀ t ∈ ts, t.L = t.vs.length) : Bq.Dts w (some ⟨b, 0, none⟩) L (L + 1) (dsOf (twTs ts ks)) := by
  refine ⟨by rw [dsOf_C]; exact twins_own hb hT hL (by omega), by simp [dsOf, twTs_length ts ks hT.len, hL], hm, fun i d hd => ?_, fun i j a c ha hc hij k hka hkc => ?_⟩
  · obtain ⟨x, hx, rfl⟩ := dsOf_get hd
    obtain ⟨t, k, ht, hk, rfl⟩ := twTs_get hx
    have hf := hF t (List.mem_of_getElem? ht)
    exact ⟨t.L, vnsC t.vs, Bq.Cut.of (twinVs_own (hT.row i t k ht hk) (he t (List.mem_of_getElem? ht)) (by show t.L < _; omega)), by omega⟩
  · obtain ⟨x, hx, rfl⟩ := dsOf_get ha
    obtain ⟨y, hy, rfl⟩ := dsOf_get hc
    obtain ⟨t, p, ht, hp, rfl⟩ := twTs_get hx
    obtain ⟨u, q, hu, hq, rfl⟩ := twTs_get hy
    simp [twT, Value.ownBlock] at hka hkc
    have h1 := (List.getElem?_eq_some_iff.1 hp)
    have h2 := (List.getElem?_eq_some_iff.1 hq)
    obtain ⟨l1, e1⟩ := h1
    obtain ⟨l2, e2⟩ := h2
    have hP := List.pairwise_iff_getElem.1 hT.apart
    rcases Nat.lt_or_gt_of_ne hij with hlt | hlt
    · exact hP i j l1 l2 hlt (by rw [e1, e2, hka, hkc])
    · exact hP j i l2 l1 hlt (by rw [e1, e2, hka, hkc])
/-- The Book is told the twin, and looks: all is its own. -/
theorem old_tell {tw : World} (h : Pr9 w0 w s r n Own) (hfr : Fr [] wS w) (hsz : wS.heap.size ≤ w0.heap.size) (hb : w.heap[b]? = some (.cells (hdsC (twTs ts ks ++ [spT])).toArray 71 (0, 0))) (hT : Twd tw w ts ks) (hL : L = ts.length) (hm : L < 2097152) (hF : Few ts) (he : ∀ t ∈ ts, t.L = t.vs.length) (hbn : wS.heap.size ≤ b ∧ b < w0.heap.size) (hkn : ∀ k ∈ ks, wS.heap.size ≤ k ∧ k < w0.heap.size) (h0 : w0.heap.size ≤ w.heap.size) (ht : Bq.Tab wS) :
    Calls Tryz.prog 11 #[.pointer (some ⟨w.heap.size, 0, none⟩), .slice (some ⟨b, 0, none⟩) L (L + 1)] (w.alloc (.cells Bq.newBk 48)) fun e w1 => e = .returned (.tuple #[]) ∧
      Calls Tryz.prog 12 #[.pointer (some ⟨w.heap.size, 0, none⟩)] w1 fun e w2 => e = .returned (.bool true) ∧ Pr9 w0 w2 s r n Own ∧ Fr [] wS w2 ∧ w.heap.size ≤ w2.heap.size := by
  obtain ⟨wa, hwa⟩ : ∃ wa, wa = w.alloc (.cells Bq.newBk 48) := ⟨_, rfl⟩
  have hF0 : Fr [] w wa := by rw [hwa]; exact Fr.alloc _ _ _
  have hB := Bq.B3.new (w0 := w) (w := wa) (bk := w.heap.size) (by rw [hwa]; exact heap_alloc_new w _) (Nat.le_refl _)
  have hD := twins_dts (hF0.keep hb (by simp)) (hT.keep hF0 (by simp)) hL hm hF he
  have hp := h.quiet hF0
  have hlt := h.lt
  rw [← hwa]
  refine (Bq.helds_any hB _ L (L + 1) _ hD (fun i d hd k hk hm2 => by simp [Bq.lbs] at hm2) (fun k hk hm2 => by simp [Bq.lbs] at hm2) (by omega)).mono ?_
  rintro e w1 ⟨rfl, rB', rD', hb', hF1, hM1, hM2⟩
  refine ⟨rfl, ?_⟩
  have hF1' : Fr [w.heap.size] wa w1 := by simpa [Value.ownBlock] using hF1
  have hp1 : Pr9 w0 w1 s r n Own := hp.keep hF1' (fun j hj hm => by simp at hj; have := hlt j hm; omega)
  have hfr1 : Fr [] wS w1 := (hfr.then hF0).on hF1' (fun j hj => by simp at hj; have := hfr.size; omega)
  obtain ⟨cs, hX, _⟩ := hb'.box
  have hown : ∀ j ∈ Bq.own3 rB' (.slice none 0 0) rD' ([] ++ Bq.held 0 (dsOf (twTs ts ks))) [] ([] ++ [⟨.slice (some ⟨b, 0, none⟩) L (L + 1), .slice none 0 0, 0 + L + 1⟩]), wS.heap.size ≤ j ∧ ¬ Own j := fun j hj => by
    have hnw : w.heap.size ≤ j → wS.heap.size ≤ j ∧ ¬ Own j := fun q => ⟨by have := hfr.size; omega, fun hm => by have := hlt j hm; omega⟩
    have hold : wS.heap.size ≤ j ∧ j < w0.heap.size → wS.heap.size ≤ j ∧ ¬ Own j := fun q => ⟨q.1, fun hm => by have := h.nw j hm; omega⟩
    have hs0 := hF0.size
    rcases Bq.mem_kbs.1 (List.mem_cons_of_mem w.heap.size hj) with q | (q | q) | (q | q) | (q | q)
    · exact hnw (by omega)
    · rcases Bq.moved_of hM1 q with q2 | q2
      · simp [Value.ownBlock] at q2
      · exact hnw (by omega)
    · rw [List.nil_append] at q
      obtain ⟨i, d, hd, hk⟩ := Bq.mem_held q
      obtain ⟨x, hx, rfl⟩ := dsOf_get hd
      obtain ⟨t, k, ht2, hk2, rfl⟩ := twTs_get hx
      simp [twT, Value.ownBlock] at hk
      subst hk
      exact hold (hkn k (List.mem_of_getElem? hk2))
    · simp [Value.ownBlock] at q
    · simp [Bq.lbs] at q
    · rcases Bq.moved_of hM2 q with q2 | q2
      · simp [Value.ownBlock] at q2
      · exact hnw (by omega)
    · rcases Bq.lbs_snoc q with q2 | q2
      · simp [Bq.lbs] at q2
      · simp [Value.ownBlock] at q2
        subst q2
        exact hold hbn
  refine (Bq.apart3_any _ cs _ _ _ _ _ _ w1 hX hb'.sB hb'.sE hb'.sD (ht.keep hfr1 (by simp)) (fun hm => by have := (hown _ hm).1; have := ht.lt; omega)).mono ?_
  rintro e w2 ⟨rfl, hF2⟩
  exact ⟨rfl, hp1.keep hF2 (fun j hj => (hown j hj).2), hfr1.on hF2 (fun j hj => (hown j hj).1), Nat.le_trans hF0.size (Nat.le_trans hF1.size hF2.size)⟩
/-- Both shards, the zero one and a new Book. -/
theorem st_born9 {z : Nat} (h : Pr9 w0 w s r n Own) (hz : NoSh w (some ⟨z, 0, none⟩)) (hd : ¬ Own z) (hzn : w0.heap.size ≤ z) (hb : w.heap[b]? = some (.cells Bq.newBk 48 (0, 0))) (hbz : b ≠ z) (hbo : ¬ Own b) (hbn : wS.heap.size ≤ b) (hfr : Fr [] wS w) (hsz : wS.heap.size ≤ w0.heap.size) : St9 wS w0 wS w s r z b 0 n Own [b] := by
  refine ⟨h, hz, hd, hzn, ⟨_, _, _, [], [], [], Bq.B3.new hb hbn, rfl⟩, fun j hj hm => ?_, fun j hj => by simp at hj; omega, hfr, hsz⟩
  simp at hm
  subst hm
  rcases hj with q | q
  · exact hbz q
  · exact hbo q
end
theorem ORs9.keep {w w' : World} {ao : Option Addr} {os : List Oq9} (h : ORs9 w ao os) (hf : Fr [] w w') : ORs9 w' ao os := by
  refine ⟨fun h0 => ?_, h.few, fun o ho => ?_⟩
  · obtain ⟨b, off, e, hb, hc⟩ := h.lies h0
    exact ⟨b, off, e, Nat.lt_of_lt_of_le hb hf.size, fun i hi j hj => (World.cell?_of_block (hf.block b hb (by simp))).trans (hc i hi j hj)⟩
  · have := h.each o ho
    exact ⟨this.kd, this.e, this.key, this.en, this.is.keep hf, this.M⟩
theorem oq9_mem {os : List Oq9} {i : Nat} (h : i < os.length) : os.getD i Oq9.zero ∈ os := by simp [List.getD, h]
/-- The cells of one op. -/
theorem ORs9.at {w : World} {b off : Nat} {os : List Oq9} (h : ORs9 w (some ⟨b, off, none⟩) os) {i : Nat} (hi : i < os.length) {o : Oq9} (ho : o = os.getD i Oq9.zero) : w.cell? ⟨b, off + i * 8, none⟩ = some (.int .u8 (o.kd : Int)) ∧ w.cell? ⟨b, off + i * 8 + 1, none⟩ = some (.int .i64 o.x) ∧ w.cell? ⟨b, off + i * 8 + 2, none⟩ = some (.string o.wk) ∧ w.cell? ⟨b, off + i * 8 + 3, none⟩ = some (.string o.wv) ∧ w.cell? ⟨b, off + i * 8 + 4, none⟩ = some (.bool o.wd) ∧ w.cell? ⟨b, off + i * 8 + 5, none⟩ = some (.string o.key) ∧ w.cell? ⟨b, off + i * 8 + 6, none⟩ = some (.string o.en) ∧ w.cell? ⟨b, off + i * 8 + 7, none⟩ = some (.slice o.bo o.M o.cb) := by
  subst ho
  obtain ⟨b', off', e, _, hc⟩ := h.lies (by omega)
  cases e
  exact ⟨hc i hi 0 (by omega), hc i hi 1 (by omega), hc i hi 2 (by omega), hc i hi 3 (by omega), hc i hi 4 (by omega), hc i hi 5 (by omega), hc i hi 6 (by omega), hc i hi 7 (by omega)⟩
set_option maxHeartbeats 8000000 in
set_option maxRecDepth 100000 in
theorem beyond9_any (ao : Option Addr) (L cap : Nat) (os : List Oq9) (w : World) (hO : ORs9 w ao os) (hL : L = os.length) :
    Calls Tryz.prog 4 #[.slice ao L cap] w fun e w' => (∃ b : Bool, e = .returned (.bool b) ∧ (b = false → L ≤ 1048576 ∧ ∀ j, j < L → (os.getD j Oq9.zero).M ≤ 1048576)) ∧ Fr [] w w' := by
  have HL : Hid (L = os.length) := hL
  have hLm : L ≤ 140737488355328 := by rw [hL]; exact hO.few
  have HO : Hid (∀ W, Fr [] w W → ORs9 W ao os) := fun W hf => hO.keep hf
  clear hO hL
  go_enter Tryz.func4, Tryz.ntmps4
  go_wp2_with fail
  go_loopw [3, 4] (fun nn ii wr => ∃ (n i : Nat), nn = .int .i64 n ∧ ii = .int .i64 i ∧ i ≤ L ∧ n ≤ 1048576 ∧ i ≤ n ∧ Hid (∀ j, j < i → (os.getD j Oq9.zero).M ≤ 1048576) ∧ Hid (Fr [] w wr)) (fun _ ii _ => L - (RowKit.intOf ii).toNat)
  case atStart => exact ⟨0, 0, rfl, rfl, Nat.zero_le _, Nat.zero_le _, Nat.zero_le _, (fun j hj => absurd hj (Nat.not_lt_zero _) : ∀ j, j < 0 → (os.getD j Oq9.zero).M ≤ 1048576), Fr.refl _ _⟩
  case round =>
    obtain ⟨n, i, rfl, rfl, hi1, hn, hin, HM, HF⟩ := hrel
    by_cases hi : i < L
    · have hil : i < os.length := by rw [← HL.out]; exact hi
      obtain ⟨b, off, rfl, _, hcl⟩ := (HO.out _ HF.out).lies (by omega)
      clear hcl
      obtain ⟨o, ho⟩ : ∃ o, o = os.getD i Oq9.zero := ⟨_, rfl⟩
      have hat : o.at wr := by rw [ho]; exact (HO.out _ HF.out).each _ (oq9_mem hil)
      obtain ⟨k0, k1, k2, k3, k4, k5, k6, k7⟩ := (HO.out _ HF.out).at hil ho
      have HOM : Hid (o = os.getD i Oq9.zero) := ho
      have hk2 := hat.e.k
      have hk3 := hat.e.v
      have hk5 := hat.key
      have hk6 := hat.en
      have hk7 := hat.M
      have hk8 := hat.is.few
      obtain ⟨kd, x, wk, wv, wd, key, en, bo, M, cb, ns⟩ := o
      simp only at k0 k1 k2 k3 k4 k5 k6 k7 hk2 hk3 hk5 hk6 hk7
      have hMb : M ≤ 17592186044416 := by rw [hk7]; exact hk8
      clear ho hat hk7 hk8 k0 k1 k4
      obtain ⟨V, hV⟩ : ∃ V : Nat, V = n + 1 + wk.size + wv.size + key.size + en.size + M := ⟨_, rfl⟩
      have e1 : (n : Int) + 1 + wk.size + wv.size + key.size + en.size + M = (V : Int) := by omega
      have hVb : V ≤ 1000000000000000 := by omega
      have HVM : Hid (M ≤ V ∧ n + 1 ≤ V) := ⟨by omega, by omega⟩
      clear hV
      go_wp2_with fail
      go_quiet (fail)
      by_cases hbig : 1048576 < V
      · have hbi : (1048576 : Int) < (V : Int) := by omega
        go_wp2
        go_ret
        exact ⟨⟨true, rfl, fun h => by cases h⟩, HF.out.then (Fr.drewN _ _ _)⟩
      · have hbi : ¬ (1048576 : Int) < (V : Int) := by omega
        have HM2 : Hid (∀ j, j < i + 1 → (os.getD j Oq9.zero).M ≤ 1048576) := fun j hj => by
          by_cases e : j = i
          · subst e
            rw [← HOM.out]
            show M ≤ 1048576
            have := HVM.out.1
            omega
          · exact HM.out j (by omega)
        have HFn : Hid (∀ q, Fr [] w (wr.drewN q)) := fun q => HF.out.then (Fr.drewN _ _ _)
        have hiV : i + 1 ≤ V := by have := HVM.out.2; omega
        clear e1
        go_wp2
        go_roundw
        case rel => exact ⟨V, i + 1, rfl, by simp, by omega, by omega, hiV, HM2, HFn.out _⟩
        case measure => simp [RowKit.intOf]; omega
    · go_wp2
      go_ret
      exact ⟨⟨false, rfl, fun _ => ⟨by omega, fun j hj => HM.out j (by omega)⟩⟩, HF.out⟩
end Go.Proofs.YtkplammapbiebaaGreatDoor
