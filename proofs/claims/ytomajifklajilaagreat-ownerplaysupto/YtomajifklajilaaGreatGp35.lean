/- Texts of this claim laid together, one behind the other: contracts and plain lemmas; conditions as each names them. -/
import Derived.Test.YtomajifklajilaaGreatGp32
import Derived.Test.YtomajifklajilaaGreatGp34
import Derived.Test.YtomajifklajilaaGreatGp7
/- What the document's Dump of versions answers. Conditions as it names them. -/
namespace Go.Proofs.YtomajifklajilaaGreat
open BigFrame Go.ChangeShapes Go.WideShapes Go.ChangeAt Go.RowKit Go.Lib
set_option linter.unusedVariables false
set_option linter.unusedSimpArgs false

theorem mem_of_none {ns : List Int} {x : Int} {M : Nat} (hM : M = ns.length) (h : ∀ j, j < M → ns.getD j 0 ≠ x) : x ∉ ns := by
  intro hx
  obtain ⟨j, hj, e⟩ := List.mem_iff_getElem.1 hx
  exact h j (by omega) (by simp [List.getD, hj, e])
theorem headD_sub (vs : List Vn) (d : Nat) (hd : d ≤ vs.length) : ∀ x ∈ headD vs d, x ∈ vs := by
  intro x hx
  unfold headD at hx
  split at hx
  · rename_i h
    simp at hx
    subst hx
    have : d - 1 < vs.length := by omega
    simp [List.getD, this]
  · simp at hx
set_option maxHeartbeats 8000000 in
set_option maxRecDepth 100000 in
theorem udump_any (ao : Option Addr) (L cap : Nat) (k : Int) (vs : List Vn) (bo : Option Addr) (M cb : Nat) (ns : List Int) (w : World) (hV : VRs w ao vs) (hL : L = vs.length) (hN : IRs w bo ns) (hM : M = ns.length) :
    Calls Tryz.prog 76 #[.slice ao L cap, .int .i64 k, .slice bo M cb] w fun e w' => ∃ ro N rc us c, e = .returned (.tuple #[.slice ro N rc, .int .i64 ((c : Nat) : Int)]) ∧ DuTold vs k ns us c ∧ N = us.length ∧ VRs w' ro us ∧ Fr [] w w' ∧ Nr9 w w' none ro N rc := by
  have HV : Hid (∀ W, Fr [] w W → VRs W ao vs ∧ IRs W bo ns) := fun W hf => ⟨hV.keep hf, hN.keep hf⟩
  have HL : Hid (L = vs.length ∧ M = ns.length) := ⟨hL, hM⟩
  have hLL : L ≤ 4398046511104 := by have := hV.few; omega
  have hMM : M ≤ 17592186044416 := by have := hN.few; omega
  obtain ⟨c, hck⟩ := CkT.ex vs
  have HC : Hid (Calls _ _ _ _ _) := ucheck_any ao L cap c vs w hV hL hck
  clear hV hL hN hM
  rcases hck with ⟨rfl, hok⟩ | ⟨rfl, hok⟩
  · have HO : Hid (okV vs) := hok
    have hL2 : L ≤ 65536 := by have := okV_few hok; have := HL.out.1; omega
    clear hok
    obtain ⟨d, hd⟩ := UpTo.ex HO.out.2 k
    have HD : Hid (UpTo vs k d) := hd
    have hdL : d ≤ L := by have := hd.le; have := HL.out.1; omega
    have HNw : Hid (∀ W, Fr [] w W → Calls _ _ _ _ _) := fun W hf => unewest_any ao L cap d k vs W (HV.out _ hf).1 HL.out.1 hd
    clear hd
    -- the rest, behind the first append or without it
    have HEx : Hid (∀ us : List Vn, (∀ x ∈ us, x ∈ vs) → us.length ≤ 70000 → ∀ W W' ro N rc, Fr [] w W' → VOw W W' ro N rc us → VRs W' ro us) := fun us hu hl W W' ro N rc hf ho => ho.rs (by omega) (fun x hx => (HV.out _ hf).1.each x (hu x hx))
    have HSb : Hid (∀ x ∈ headD vs d ++ (vs.drop d).filter (fun v => decide (v.num ∈ ns)), x ∈ vs) := fun x hx => by
      rcases List.mem_append.1 hx with h | h
      · exact headD_sub vs d (by have := HL.out.1; omega) x h
      · exact List.mem_of_mem_drop (List.mem_filter.1 h).1
    have HLn : Hid (∀ i, (headD vs d ++ ((vs.drop d).take i).filter fun v => decide (v.num ∈ ns)).length ≤ 1 + i) := fun i => dump_len vs ns d i
    by_cases h0 : d = 0
    · have hN0 : ∀ W, Fr [] w W → Calls Tryz.prog 104 #[.slice ao L cap, .int .i64 k] W fun e w' => e = .returned (.int .i64 (-1)) ∧ Fr [] W w' := fun W hf => by
        have := HNw.out W hf
        rw [h0] at this
        exact this
      have HN0 : Hid (∀ W, Fr [] w W → Calls Tryz.prog 104 #[.slice ao L cap, .int .i64 k] W fun e w' => e = .returned (.int .i64 (-1)) ∧ Fr [] W w') := hN0
      have Hd0 : Hid (d = 0) := h0
      have hdz : (d : Int) = 0 := by omega
      clear hN0 HNw
      go_enter Tryz.func76, Tryz.ntmps76
      go_wp2_with fail
      refine Calls.mono HC.out ?_
      rintro e w1 ⟨rfl, hF1⟩
      clear HC
      go_wp2_with fail
      refine Calls.mono (HN0.out _ hF1) ?_
      rintro e w2 ⟨rfl, hF2⟩
      have HF0 : Hid (Fr [] w w2) := hF1.then hF2
      have HOw0 : Hid (VOw w w2 none 0 0 (headD vs d)) := by
        have e : headD vs d = [] := by unfold headD; rw [if_neg (fun h => by have := Hd0.out; omega)]
        rw [e]
        exact ⟨rfl, rfl, .inl ⟨rfl, rfl⟩⟩
      clear hF1 hF2 HN0 hdz
      go_wp2_with fail
      go_loopw [8, 10] (fun oo ii wr => ∃ (i j N rc : Nat) (ro : Option Addr), oo = .slice ro N rc ∧ ii = .int .i64 i ∧ i ≤ L ∧ N ≤ 65537 ∧ Hid (i = d + j) ∧ Hid (VOw w wr ro N rc (headD vs d ++ ((vs.drop d).take j).filter fun v => decide (v.num ∈ ns))) ∧ Hid (Fr [] w wr)) (fun _ ii _ => L - (RowKit.intOf ii).toNat)
      case atStart => exact ⟨0, 0, 0, 0, none, rfl, rfl, Nat.zero_le _, by omega, (by show _ = _; have := Hd0.out; omega), (by show VOw _ _ _ _ _ _; simpa using HOw0.out), HF0⟩
      case round =>
        clear HOw0 HF0
        obtain ⟨i, j, N, rc, ro, rfl, rfl, hiL, hNb, Hij, HOw, HF⟩ := hrel
        by_cases hi : i < L
        · have hi' : i < vs.length := by have := HL.out.1; omega
          have hj' : j < (vs.drop d).length := by have := Hij.out; rw [List.length_drop]; omega
          have hst := filt_snoc (vs.drop d) ns j hj'
          rw [getD_drop] at hst
          have hNj : N ≤ 1 + j := by rw [HOw.out.len]; exact HLn.out j
          have hjL : j < 65536 := by have := Hij.out; omega
          obtain ⟨x, hx⟩ : ∃ x, x = vs.getD i Vn.zero := ⟨_, rfl⟩
          rw [show d + j = i from Hij.out.symm, ← hx] at hst
          obtain ⟨b, off, eao, hbl, hat⟩ := (HV.out _ HF.out).1.lies (by omega)
          have HCl : Hid (∀ W, Fr [] w W → W.cell? ⟨b, off + i * 3, none⟩ = some (.int .i64 x.num) ∧ W.cell? ⟨b, off + i * 3 + 1, none⟩ = some (.string x.val) ∧ W.cell? ⟨b, off + i * 3 + 2, none⟩ = some (.bool x.drop)) := fun W hf => by
            obtain ⟨b', off', e', _, hat'⟩ := (HV.out W hf).1.lies (by omega)
            rw [eao] at e'
            cases e'
            have h1 := hat' i hi'
            rw [← hx] at h1
            exact ⟨h1.c0, h1.c1, h1.c2⟩
          have Hst : Hid (_ = _) := hst
          first
            | subst eao
            | cases eao
          clear hat hst hx
          obtain ⟨num, val, drop⟩ := x
          simp only at HCl Hst
          obtain ⟨wo, hwo⟩ : ∃ wo, wo = wr := ⟨_, rfl⟩
          rw [← hwo] at HOw HF ⊢
          clear hwo hbl
          go_wp2_with fail
          go_loopw [8, 11] (fun oo nn wr => ∃ (m q : Nat), oo = .slice ro N rc ∧ nn = .int .i64 m ∧ m ≤ M ∧ Hid (wr = wo.drewN q) ∧ Hid (∀ t, t < m → ns.getD t 0 ≠ num)) (fun _ nn _ => M - (RowKit.intOf nn).toNat)
          case atStart => exact ⟨0, 0, rfl, rfl, Nat.zero_le _, rfl, (by show ∀ _, _; intro t ht; omega)⟩
          case round =>
            obtain ⟨m, q, rfl, rfl, hmM, HQ, HNe⟩ := hrel
            have hFq : Fr [] w wr := by rw [HQ.out]; exact HF.out.then (Fr.drewN _ _ _)
            by_cases hm : m < M
            · obtain ⟨b2, off2, ebo, _, hat2⟩ := (HV.out _ hFq).2.lies (by have := HL.out.2; omega)
              have c5 := hat2 m (by have := HL.out.2; omega)
              obtain ⟨y, hy⟩ : ∃ y, y = ns.getD m 0 := ⟨_, rfl⟩
              rw [← hy] at c5
              have HY : Hid (y = ns.getD m 0) := hy
              obtain ⟨c0, c1, c2⟩ := HCl.out _ hFq
              subst ebo
              clear hat2 hy
              by_cases hyn : y = num
              · subst hyn
                have hmem : y ∈ ns := by
                  rw [HY.out]
                  have : m < ns.length := by have := HL.out.2; omega
                  simp [List.getD, this]
                have hst2 := Hst.out
                rw [if_pos hmem] at hst2
                have HSt2 : Hid (_ = _) := hst2
                have heq : (y == y) = true := by simp
                clear hst2 hmem
                go_wp2_with fail
                go_quiet (fail)
                have hF3 : Fr [] w (wr.drewN nq) := hFq.then (Fr.drewN _ _ _)
                have HO3 : Hid (VOw w (wr.drewN nq) ro N rc (headD vs d ++ ((vs.drop d).take j).filter fun v => decide (v.num ∈ ns))) := HOw.out.keep (by rw [HQ.out]; exact (Fr.drewN [] wo _).then (Fr.drewN _ _ _))
                obtain ⟨e0, e1, e2⟩ := HCl.out _ hF3
                obtain ⟨w3, HW3⟩ : ∃ w3, Hid (wr.drewN nq = w3) := ⟨_, rfl⟩
                rw [HW3.out] at hF3 HO3 e0 e1 e2 ⊢
                clear HW3 c0 c1 c2 c5
                go_wp2_with (at_builtin; refine wpList_appV1 w w3 rfl _ _ rfl ro N rc _ rfl HO3.out (by omega) hF3.size y val drop rfl ?_ hF3; intro so' c' w4 hO4 hF4)
                have HO5 : Hid (VOw w w4 so' (N + 1) c' (headD vs d ++ ((vs.drop d).take (j + 1)).filter fun v => decide (v.num ∈ ns))) := by rw [HSt2.out, ← List.append_assoc]; exact hO4
                have HF5 : Hid (Fr [] w w4) := hF4
                have Hij5 : Hid (i + 1 = d + (j + 1)) := by show _ = _; have := Hij.out; omega
                clear hO4 hF4 hF3 HO3 e0 e1 e2
                go_wp2
                exact ⟨⟨i + 1, j + 1, N + 1, c', so', rfl, by simp, by omega, by omega, Hij5, HO5, HF5⟩, by simp [RowKit.intOf]; omega⟩
              · have hne : (y == num) = false := by simpa using hyn
                have HNe2 : Hid (∀ t, t < m + 1 → ns.getD t 0 ≠ num) := fun t ht => by
                  rcases Nat.lt_or_ge t m with h | h
                  · exact HNe.out t h
                  · obtain rfl : t = m := by omega
                    rw [← HY.out]; exact hyn
                clear hyn
                go_wp2_with fail
                go_quiet (fail)
                go_wp2
                go_roundw
                case rel => exact ⟨m + 1, q + nq, rfl, by simp, by omega, by show _ = _; rw [HQ.out]; simp, HNe2⟩
                case measure => simp [RowKit.intOf]; omega
            · have hnm : num ∉ ns := mem_of_none HL.out.2 (fun t ht => HNe.out t (by omega))
              have hst2 := Hst.out
              rw [if_neg hnm, List.append_nil] at hst2
              have HO5 : Hid (VOw w wr ro N rc (headD vs d ++ ((vs.drop d).take (j + 1)).filter fun v => decide (v.num ∈ ns))) := by rw [hst2]; exact HOw.out.keep (by rw [HQ.out]; exact Fr.drewN [] wo _)
              have HF5 : Hid (Fr [] w wr) := hFq
              have Hij5 : Hid (i + 1 = d + (j + 1)) := by show _ = _; have := Hij.out; omega
              clear hst2 hnm
              go_wp2
              exact ⟨⟨i + 1, j + 1, N, rc, ro, rfl, by simp, by omega, by omega, Hij5, HO5, HF5⟩, by simp [RowKit.intOf]; omega⟩
        · have HO5 : Hid (VOw w wr ro N rc (headD vs d ++ (vs.drop d).filter fun v => decide (v.num ∈ ns))) := by
            have := HOw.out
            rw [List.take_of_length_le (by rw [List.length_drop]; have := Hij.out; have := HL.out.1; omega)] at this
            exact this
          have HF5 := HF
          clear HOw
          go_wp2
          refine bodyPost_ret (results_tmp2 rfl _ _ _) rfl ?_
          exact ⟨ro, N, rc, _, 0, rfl, Or.inr ⟨rfl, HO.out, d, HD.out, rfl⟩, HO5.out.len, HEx.out _ HSb.out (by rw [← HO5.out.len]; have := HO5.out.len; have h9 := HLn.out (vs.drop d).length; rw [List.take_of_length_le (Nat.le_refl _), List.length_drop] at h9; have := HL.out.1; omega) w wr ro N rc HF5.out HO5.out, HF5.out, HO5.out.nr (Nat.le_refl _)⟩
    · obtain ⟨d', hd'⟩ : ∃ d', d = d' + 1 := ⟨d - 1, by omega⟩
      have HN0 : Hid (∀ W, Fr [] w W → Calls Tryz.prog 104 #[.slice ao L cap, .int .i64 k] W fun e w' => e = .returned (.int .i64 (d' : Int)) ∧ Fr [] W w') := fun W hf => by
        have := HNw.out W hf
        rw [show (d : Int) - 1 = (d' : Int) by omega] at this
        exact this
      have hde : (d' : Int) + 1 = (d : Int) := by omega
      have hdp : d' < L := by omega
      have hd'v : d' < vs.length := by have := HL.out.1; omega
      obtain ⟨x, hx⟩ : ∃ x, x = vs.getD d' Vn.zero := ⟨_, rfl⟩
      have HHd : Hid (headD vs d = if x.drop = false then [x] else []) := by
        show _ = _
        unfold headD
        rw [hd', Nat.add_sub_cancel, ← hx]
        simp
      have HCx : Hid (∀ W, Fr [] w W → ∃ b off, ao = some ⟨b, off, none⟩ ∧ W.cell? ⟨b, off + d' * 3, none⟩ = some (.int .i64 x.num) ∧ W.cell? ⟨b, off + d' * 3 + 1, none⟩ = some (.string x.val) ∧ W.cell? ⟨b, off + d' * 3 + 2, none⟩ = some (.bool x.drop)) := fun W hf => by
        obtain ⟨b, off, e, _, hat⟩ := (HV.out W hf).1.lies (by omega)
        have h1 := hat d' hd'v
        rw [← hx] at h1
        exact ⟨b, off, e, h1.c0, h1.c1, h1.c2⟩
      have Hdd : Hid (d = d' + 1) := hd'
      clear hx hd' h0 HNw hd'v
      obtain ⟨num, val, drop⟩ := x
      simp only at HHd HCx
      cases drop with
      | true =>
        have HOw0 : Hid (∀ W, VOw w W none 0 0 (headD vs d)) := fun W => by
          rw [HHd.out]
          exact ⟨rfl, rfl, .inl ⟨rfl, rfl⟩⟩
        go_enter Tryz.func76, Tryz.ntmps76
        go_wp2_with fail
        refine Calls.mono HC.out ?_
        rintro e w1 ⟨rfl, hF1⟩
        clear HC
        go_wp2_with fail
        refine Calls.mono (HN0.out _ hF1) ?_
        rintro e w2 ⟨rfl, hF2⟩
        have HF0 : Hid (Fr [] w w2) := hF1.then hF2
        obtain ⟨b, off, rfl, c0, c1, c2⟩ := HCx.out _ HF0.out
        have HOw0 : Hid (VOw w w2 none 0 0 (headD vs d)) := HOw0.out w2
        clear hF1 hF2 HN0 HCx
        go_wp2_with fail
        clear c0 c1 c2
        go_loopw [8, 10] (fun oo ii wr => ∃ (i j N rc : Nat) (ro : Option Addr), oo = .slice ro N rc ∧ ii = .int .i64 i ∧ i ≤ L ∧ N ≤ 65537 ∧ Hid (i = d + j) ∧ Hid (VOw w wr ro N rc (headD vs d ++ ((vs.drop d).take j).filter fun v => decide (v.num ∈ ns))) ∧ Hid (Fr [] w wr)) (fun _ ii _ => L - (RowKit.intOf ii).toNat)
        case atStart => exact ⟨d, 0, 0, 0, none, rfl, rfl, hdL, by omega, rfl, (by show VOw _ _ _ _ _ _; simpa using HOw0.out), HF0⟩
        case round =>
          clear HOw0 HF0
          obtain ⟨i, j, N, rc, ro, rfl, rfl, hiL, hNb, Hij, HOw, HF⟩ := hrel
          by_cases hi : i < L
          · have hi' : i < vs.length := by have := HL.out.1; omega
            have hj' : j < (vs.drop d).length := by have := Hij.out; rw [List.length_drop]; omega
            have hst := filt_snoc (vs.drop d) ns j hj'
            rw [getD_drop] at hst
            have hNj : N ≤ 1 + j := by rw [HOw.out.len]; exact HLn.out j
            have hjL : j < 65536 := by have := Hij.out; omega
            obtain ⟨x, hx⟩ : ∃ x, x = vs.getD i Vn.zero := ⟨_, rfl⟩
            rw [show d + j = i from Hij.out.symm, ← hx] at hst
            obtain ⟨b, off, eao, hbl, hat⟩ := (HV.out _ HF.out).1.lies (by omega)
            have HCl : Hid (∀ W, Fr [] w W → W.cell? ⟨b, off + i * 3, none⟩ = some (.int .i64 x.num) ∧ W.cell? ⟨b, off + i * 3 + 1, none⟩ = some (.string x.val) ∧ W.cell? ⟨b, off + i * 3 + 2, none⟩ = some (.bool x.drop)) := fun W hf => by
              obtain ⟨b', off', e', _, hat'⟩ := (HV.out W hf).1.lies (by omega)
              rw [eao] at e'
              cases e'
              have h1 := hat' i hi'
              rw [← hx] at h1
              exact ⟨h1.c0, h1.c1, h1.c2⟩
            have Hst : Hid (_ = _) := hst
            first
              | subst eao
              | cases eao
            clear hat hst hx
            obtain ⟨num, val, drop⟩ := x
            simp only at HCl Hst
            obtain ⟨wo, hwo⟩ : ∃ wo, wo = wr := ⟨_, rfl⟩
            rw [← hwo] at HOw HF ⊢
            clear hwo hbl
            go_wp2_with fail
            go_loopw [8, 11] (fun oo nn wr => ∃ (m q : Nat), oo = .slice ro N rc ∧ nn = .int .i64 m ∧ m ≤ M ∧ Hid (wr = wo.drewN q) ∧ Hid (∀ t, t < m → ns.getD t 0 ≠ num)) (fun _ nn _ => M - (RowKit.intOf nn).toNat)
            case atStart => exact ⟨0, 0, rfl, rfl, Nat.zero_le _, rfl, (by show ∀ _, _; intro t ht; omega)⟩
            case round =>
              obtain ⟨m, q, rfl, rfl, hmM, HQ, HNe⟩ := hrel
              have hFq : Fr [] w wr := by rw [HQ.out]; exact HF.out.then (Fr.drewN _ _ _)
              by_cases hm : m < M
              · obtain ⟨b2, off2, ebo, _, hat2⟩ := (HV.out _ hFq).2.lies (by have := HL.out.2; omega)
                have c5 := hat2 m (by have := HL.out.2; omega)
                obtain ⟨y, hy⟩ : ∃ y, y = ns.getD m 0 := ⟨_, rfl⟩
                rw [← hy] at c5
                have HY : Hid (y = ns.getD m 0) := hy
                obtain ⟨c0, c1, c2⟩ := HCl.out _ hFq
                subst ebo
                clear hat2 hy
                by_cases hyn : y = num
                · subst hyn
                  have hmem : y ∈ ns := by
                    rw [HY.out]
                    have : m < ns.length := by have := HL.out.2; omega
                    simp [List.getD, this]
                  have hst2 := Hst.out
                  rw [if_pos hmem] at hst2
                  have HSt2 : Hid (_ = _) := hst2
                  have heq : (y == y) = true := by simp
                  clear hst2 hmem
                  go_wp2_with fail
                  go_quiet (fail)
                  have hF3 : Fr [] w (wr.drewN nq) := hFq.then (Fr.drewN _ _ _)
                  have HO3 : Hid (VOw w (wr.drewN nq) ro N rc (headD vs d ++ ((vs.drop d).take j).filter fun v => decide (v.num ∈ ns))) := HOw.out.keep (by rw [HQ.out]; exact (Fr.drewN [] wo _).then (Fr.drewN _ _ _))
                  obtain ⟨e0, e1, e2⟩ := HCl.out _ hF3
                  obtain ⟨w3, HW3⟩ : ∃ w3, Hid (wr.drewN nq = w3) := ⟨_, rfl⟩
                  rw [HW3.out] at hF3 HO3 e0 e1 e2 ⊢
                  clear HW3 c0 c1 c2 c5
                  go_wp2_with (at_builtin; refine wpList_appV1 w w3 rfl _ _ rfl ro N rc _ rfl HO3.out (by omega) hF3.size y val drop rfl ?_ hF3; intro so' c' w4 hO4 hF4)
                  have HO5 : Hid (VOw w w4 so' (N + 1) c' (headD vs d ++ ((vs.drop d).take (j + 1)).filter fun v => decide (v.num ∈ ns))) := by rw [HSt2.out, ← List.append_assoc]; exact hO4
                  have HF5 : Hid (Fr [] w w4) := hF4
                  have Hij5 : Hid (i + 1 = d + (j + 1)) := by show _ = _; have := Hij.out; omega
                  clear hO4 hF4 hF3 HO3 e0 e1 e2
                  go_wp2
                  exact ⟨⟨i + 1, j + 1, N + 1, c', so', rfl, by simp, by omega, by omega, Hij5, HO5, HF5⟩, by simp [RowKit.intOf]; omega⟩
                · have hne : (y == num) = false := by simpa using hyn
                  have HNe2 : Hid (∀ t, t < m + 1 → ns.getD t 0 ≠ num) := fun t ht => by
                    rcases Nat.lt_or_ge t m with h | h
                    · exact HNe.out t h
                    · obtain rfl : t = m := by omega
                      rw [← HY.out]; exact hyn
                  clear hyn
                  go_wp2_with fail
                  go_quiet (fail)
                  go_wp2
                  go_roundw
                  case rel => exact ⟨m + 1, q + nq, rfl, by simp, by omega, by show _ = _; rw [HQ.out]; simp, HNe2⟩
                  case measure => simp [RowKit.intOf]; omega
              · have hnm : num ∉ ns := mem_of_none HL.out.2 (fun t ht => HNe.out t (by omega))
                have hst2 := Hst.out
                rw [if_neg hnm, List.append_nil] at hst2
                have HO5 : Hid (VOw w wr ro N rc (headD vs d ++ ((vs.drop d).take (j + 1)).filter fun v => decide (v.num ∈ ns))) := by rw [hst2]; exact HOw.out.keep (by rw [HQ.out]; exact Fr.drewN [] wo _)
                have HF5 : Hid (Fr [] w wr) := hFq
                have Hij5 : Hid (i + 1 = d + (j + 1)) := by show _ = _; have := Hij.out; omega
                clear hst2 hnm
                go_wp2
                exact ⟨⟨i + 1, j + 1, N, rc, ro, rfl, by simp, by omega, by omega, Hij5, HO5, HF5⟩, by simp [RowKit.intOf]; omega⟩
          · have HO5 : Hid (VOw w wr ro N rc (headD vs d ++ (vs.drop d).filter fun v => decide (v.num ∈ ns))) := by
              have := HOw.out
              rw [List.take_of_length_le (by rw [List.length_drop]; have := Hij.out; have := HL.out.1; omega)] at this
              exact this
            have HF5 := HF
            clear HOw
            go_wp2
            refine bodyPost_ret (results_tmp2 rfl _ _ _) rfl ?_
            exact ⟨ro, N, rc, _, 0, rfl, Or.inr ⟨rfl, HO.out, d, HD.out, rfl⟩, HO5.out.len, HEx.out _ HSb.out (by rw [← HO5.out.len]; have := HO5.out.len; have h9 := HLn.out (vs.drop d).length; rw [List.take_of_length_le (Nat.le_refl _), List.length_drop] at h9; have := HL.out.1; omega) w wr ro N rc HF5.out HO5.out, HF5.out, HO5.out.nr (Nat.le_refl _)⟩
      | false =>
        go_enter Tryz.func76, Tryz.ntmps76
        go_wp2_with fail
        refine Calls.mono HC.out ?_
        rintro e w1 ⟨rfl, hF1⟩
        clear HC
        go_wp2_with fail
        refine Calls.mono (HN0.out _ hF1) ?_
        rintro e w2 ⟨rfl, hF2⟩
        have hF0 : Fr [] w w2 := hF1.then hF2
        obtain ⟨b, off, rfl, c0, c1, c2⟩ := HCx.out _ hF0
        have HO3 : Hid (VOw w w2 none 0 0 []) := ⟨rfl, rfl, .inl ⟨rfl, rfl⟩⟩
        clear hF1 hF2 HN0 HCx
        go_upto_region 7 with (at_builtin; refine wpList_appV1 w w2 rfl _ _ rfl none 0 0 _ rfl HO3.out (by omega) hF0.size num val false rfl ?_ hF0; intro so0 c0' w4 hO4 hF4)
        have HOw0 : Hid (VOw w w4 so0 1 c0' (headD vs d)) := by rw [HHd.out]; exact hO4
        have HF0 : Hid (Fr [] w w4) := hF4
        clear hO4 hF4 hF0 HO3 c0 c1 c2
        go_wp2_with fail
        go_loopw [8, 10] (fun oo ii wr => ∃ (i j N rc : Nat) (ro : Option Addr), oo = .slice ro N rc ∧ ii = .int .i64 i ∧ i ≤ L ∧ N ≤ 65537 ∧ Hid (i = d + j) ∧ Hid (VOw w wr ro N rc (headD vs d ++ ((vs.drop d).take j).filter fun v => decide (v.num ∈ ns))) ∧ Hid (Fr [] w wr)) (fun _ ii _ => L - (RowKit.intOf ii).toNat)
        case atStart => exact ⟨d, 0, 1, c0', so0, rfl, rfl, hdL, by omega, rfl, (by show VOw _ _ _ _ _ _; simpa using HOw0.out), HF0⟩
        case round =>
          clear HOw0 HF0
          obtain ⟨i, j, N, rc, ro, rfl, rfl, hiL, hNb, Hij, HOw, HF⟩ := hrel
          by_cases hi : i < L
          · have hi' : i < vs.length := by have := HL.out.1; omega
            have hj' : j < (vs.drop d).length := by have := Hij.out; rw [List.length_drop]; omega
            have hst := filt_snoc (vs.drop d) ns j hj'
            rw [getD_drop] at hst
            have hNj : N ≤ 1 + j := by rw [HOw.out.len]; exact HLn.out j
            have hjL : j < 65536 := by have := Hij.out; omega
            obtain ⟨x, hx⟩ : ∃ x, x = vs.getD i Vn.zero := ⟨_, rfl⟩
            rw [show d + j = i from Hij.out.symm, ← hx] at hst
            obtain ⟨b, off, eao, hbl, hat⟩ := (HV.out _ HF.out).1.lies (by omega)
            have HCl : Hid (∀ W, Fr [] w W → W.cell? ⟨b, off + i * 3, none⟩ = some (.int .i64 x.num) ∧ W.cell? ⟨b, off + i * 3 + 1, none⟩ = some (.string x.val) ∧ W.cell? ⟨b, off + i * 3 + 2, none⟩ = some (.bool x.drop)) := fun W hf => by
              obtain ⟨b', off', e', _, hat'⟩ := (HV.out W hf).1.lies (by omega)
              rw [eao] at e'
              cases e'
              have h1 := hat' i hi'
              rw [← hx] at h1
              exact ⟨h1.c0, h1.c1, h1.c2⟩
            have Hst : Hid (_ = _) := hst
            first
              | subst eao
              | cases eao
            clear hat hst hx
            obtain ⟨num, val, drop⟩ := x
            simp only at HCl Hst
            obtain ⟨wo, hwo⟩ : ∃ wo, wo = wr := ⟨_, rfl⟩
            rw [← hwo] at HOw HF ⊢
            clear hwo hbl
            go_wp2_with fail
            go_loopw [8, 11] (fun oo nn wr => ∃ (m q : Nat), oo = .slice ro N rc ∧ nn = .int .i64 m ∧ m ≤ M ∧ Hid (wr = wo.drewN q) ∧ Hid (∀ t, t < m → ns.getD t 0 ≠ num)) (fun _ nn _ => M - (RowKit.intOf nn).toNat)
            case atStart => exact ⟨0, 0, rfl, rfl, Nat.zero_le _, rfl, (by show ∀ _, _; intro t ht; omega)⟩
            case round =>
              obtain ⟨m, q, rfl, rfl, hmM, HQ, HNe⟩ := hrel
              have hFq : Fr [] w wr := by rw [HQ.out]; exact HF.out.then (Fr.drewN _ _ _)
              by_cases hm : m < M
              · obtain ⟨b2, off2, ebo, _, hat2⟩ := (HV.out _ hFq).2.lies (by have := HL.out.2; omega)
                have c5 := hat2 m (by have := HL.out.2; omega)
                obtain ⟨y, hy⟩ : ∃ y, y = ns.getD m 0 := ⟨_, rfl⟩
                rw [← hy] at c5
                have HY : Hid (y = ns.getD m 0) := hy
                obtain ⟨c0, c1, c2⟩ := HCl.out _ hFq
                subst ebo
                clear hat2 hy
                by_cases hyn : y = num
                · subst hyn
                  have hmem : y ∈ ns := by
                    rw [HY.out]
                    have : m < ns.length := by have := HL.out.2; omega
                    simp [List.getD, this]
                  have hst2 := Hst.out
                  rw [if_pos hmem] at hst2
                  have HSt2 : Hid (_ = _) := hst2
                  have heq : (y == y) = true := by simp
                  clear hst2 hmem
                  go_wp2_with fail
                  go_quiet (fail)
                  have hF3 : Fr [] w (wr.drewN nq) := hFq.then (Fr.drewN _ _ _)
                  have HO3 : Hid (VOw w (wr.drewN nq) ro N rc (headD vs d ++ ((vs.drop d).take j).filter fun v => decide (v.num ∈ ns))) := HOw.out.keep (by rw [HQ.out]; exact (Fr.drewN [] wo _).then (Fr.drewN _ _ _))
                  obtain ⟨e0, e1, e2⟩ := HCl.out _ hF3
                  obtain ⟨w3, HW3⟩ : ∃ w3, Hid (wr.drewN nq = w3) := ⟨_, rfl⟩
                  rw [HW3.out] at hF3 HO3 e0 e1 e2 ⊢
                  clear HW3 c0 c1 c2 c5
                  go_wp2_with (at_builtin; refine wpList_appV1 w w3 rfl _ _ rfl ro N rc _ rfl HO3.out (by omega) hF3.size y val drop rfl ?_ hF3; intro so' c' w4 hO4 hF4)
                  have HO5 : Hid (VOw w w4 so' (N + 1) c' (headD vs d ++ ((vs.drop d).take (j + 1)).filter fun v => decide (v.num ∈ ns))) := by rw [HSt2.out, ← List.append_assoc]; exact hO4
                  have HF5 : Hid (Fr [] w w4) := hF4
                  have Hij5 : Hid (i + 1 = d + (j + 1)) := by show _ = _; have := Hij.out; omega
                  clear hO4 hF4 hF3 HO3 e0 e1 e2
                  go_wp2
                  exact ⟨⟨i + 1, j + 1, N + 1, c', so', rfl, by simp, by omega, by omega, Hij5, HO5, HF5⟩, by simp [RowKit.intOf]; omega⟩
                · have hne : (y == num) = false := by simpa using hyn
                  have HNe2 : Hid (∀ t, t < m + 1 → ns.getD t 0 ≠ num) := fun t ht => by
                    rcases Nat.lt_or_ge t m with h | h
                    · exact HNe.out t h
                    · obtain rfl : t = m := by omega
                      rw [← HY.out]; exact hyn
                  clear hyn
                  go_wp2_with fail
                  go_quiet (fail)
                  go_wp2
                  go_roundw
                  case rel => exact ⟨m + 1, q + nq, rfl, by simp, by omega, by show _ = _; rw [HQ.out]; simp, HNe2⟩
                  case measure => simp [RowKit.intOf]; omega
              · have hnm : num ∉ ns := mem_of_none HL.out.2 (fun t ht => HNe.out t (by omega))
                have hst2 := Hst.out
                rw [if_neg hnm, List.append_nil] at hst2
                have HO5 : Hid (VOw w wr ro N rc (headD vs d ++ ((vs.drop d).take (j + 1)).filter fun v => decide (v.num ∈ ns))) := by rw [hst2]; exact HOw.out.keep (by rw [HQ.out]; exact Fr.drewN [] wo _)
                have HF5 : Hid (Fr [] w wr) := hFq
                have Hij5 : Hid (i + 1 = d + (j + 1)) := by show _ = _; have := Hij.out; omega
                clear hst2 hnm
                go_wp2
                exact ⟨⟨i + 1, j + 1, N, rc, ro, rfl, by simp, by omega, by omega, Hij5, HO5, HF5⟩, by simp [RowKit.intOf]; omega⟩
          · have HO5 : Hid (VOw w wr ro N rc (headD vs d ++ (vs.drop d).filter fun v => decide (v.num ∈ ns))) := by
              have := HOw.out
              rw [List.take_of_length_le (by rw [List.length_drop]; have := Hij.out; have := HL.out.1; omega)] at this
              exact this
            have HF5 := HF
            clear HOw
            go_wp2
            refine bodyPost_ret (results_tmp2 rfl _ _ _) rfl ?_
            exact ⟨ro, N, rc, _, 0, rfl, Or.inr ⟨rfl, HO.out, d, HD.out, rfl⟩, HO5.out.len, HEx.out _ HSb.out (by rw [← HO5.out.len]; have := HO5.out.len; have h9 := HLn.out (vs.drop d).length; rw [List.take_of_length_le (Nat.le_refl _), List.length_drop] at h9; have := HL.out.1; omega) w wr ro N rc HF5.out HO5.out, HF5.out, HO5.out.nr (Nat.le_refl _)⟩
  · go_enter Tryz.func76, Tryz.ntmps76
    go_wp2_with fail
    refine Calls.mono HC.out ?_
    rintro e w1 ⟨rfl, hF1⟩
    go_wp2
    refine bodyPost_ret (results_tmp2 rfl _ _ _) rfl ?_
    exact ⟨none, 0, 0, [], 1, rfl, Or.inl ⟨rfl, hok, rfl⟩, rfl, VRs.nil _ _, hF1, Nr9.none _ _ _⟩
end Go.Proofs.YtomajifklajilaaGreat
