/- Texts of this claim laid together, one behind the other: contracts and plain lemmas; conditions as each names them. -/
import Derived.Test.YtomajifklajilaaGreatGp39
import Derived.Test.YtomajifklajilaaGreatGp41
import Derived.Test.YtomajifklajilaaGreatGp12
import Derived.Test.YtomajifklajilaaGreatGp40
/- What the document's Dump of versions answers. Conditions as it names them. -/
namespace Go.Proofs.YtomajifklajilaaGreat
open BigFrame Go.ChangeShapes Go.WideShapes Go.ChangeAt Go.RowKit Go.Lib
set_option linter.unusedVariables false
set_option linter.unusedSimpArgs false

theorem mem_of_none {ns : List Int} {x : Int} {M : Nat} (hM : M = ns.length) (h : ∀ j, j < M → ns.getD j 0 ≠ x) : x ∉ ns := by
  intro hx
  obtain ⟨j, hj, e⟩ := List.mem_iff_getElem.1 hx
  exact h j (by omega) (by simp [List.getD, hj, e])
theorem headD_sub (vs : List Vn) (d : Nat) (hd : d ≤ vs.length) : ∀ x ∈ headD vs d, x ∈ vs := by
  intro x hx
  unfold headD at hx
  split at hx
  · rename_i h
    simp at hx
    subst hx
    have : d - 1 < vs.length := by omega
    simp [List.getD, this]
  · simp at hx
set_option maxHeartbeats 8000000 in
set_option maxRecDepth 100000 in
theorem udump_any (ao : Option Addr) (L cap : Nat) (k : Int) (vs : List Vn) (bo : Option Addr) (M cb : Nat) (ns : List Int) (w : World) (hV : VRs w ao vs) (hL : L = vs.length) (hN : IRs w bo ns) (hM : M = ns.length) :
    Calls Tryz.prog 76 #[.slice ao L cap, .int .i64 k, .slice bo M cb] w fun e w' => ∃ ro N rc us c, e = .returned (.tuple #[.slice ro N rc, .int .i64 ((c : Nat) : Int)]) ∧ DuTold vs k ns us c ∧ N = us.length ∧ VRs w' ro us ∧ Fr [] w w' ∧ Nr9 w w' none ro N rc := by
  have HV : Hid (∀ W, Fr [] w W → VRs W ao vs ∧ IRs W bo ns) := fun W hf => ⟨hV.keep hf, hN.keep hf⟩
  have HL : Hid (L = vs.length ∧ M = ns.length) := ⟨hL, hM⟩
  have hLL : L ≤ 4398046511104 := by have := hV.few; omega
  have hMM : M ≤ 17592186044416 := by have := hN.few; omega
  obtain ⟨c, hck⟩ := CkT.ex vs
  have HC : Hid (Calls _ _ _ _ _) := ucheck_any ao L cap c vs w hV hL hck
  clear hV hL hN hM
  rcases hck with ⟨rfl, hok⟩ | ⟨rfl, hok⟩
  · have HO : Hid (okV vs) := hok
    have hL2 : L ≤ 65536 := by have := okV_few hok; have := HL.out.1; omega
    clear hok
    obtain ⟨d, hd⟩ := UpTo.ex HO.out.2 k
    have HD : Hid (UpTo vs k d) := hd
    have hdL : d ≤ L := by have := hd.le; have := HL.out.1; omega
    have HNw : Hid (∀ W, Fr [] w W → Calls _ _ _ _ _) := fun W hf => unewest_any ao L cap d k vs W (HV.out _ hf).1 HL.out.1 hd
    clear hd
    -- the rest, behind the first append or without it
    have HEx : Hid (∀ us : List Vn, (∀ x ∈ us, x ∈ vs) → us.length ≤ 70000 → ∀ W W' ro N rc, Fr [] w W' → VOw W W' ro N rc us → VRs W' ro us) := fun us hu hl W W' ro N rc hf ho => ho.rs (by omega) (fun x hx => (HV.out _ hf).1.each x (hu x hx))
    have HSb : Hid (∀ x ∈ headD vs d ++ (vs.drop d).filter (fun v => decide (v.num ∈ ns)), x ∈ vs) := fun x hx => by
      rcases List.mem_append.1 hx with h | h
      · exact headD_sub vs d (by have := HL.out.1; omega) x h
      · exact List.mem_of_mem_drop (List.mem_filter.1 h).1
    have HLn : Hid (∀ i, (headD vs d ++ ((vs.drop d).take i).filter fun v => decide (v.num ∈ ns)).length ≤ 1 + i) := fun i => dump_len vs ns d i
    by_cases h0 : d = 0
    · have hN0 : ∀ W, Fr [] w W → Calls Tryz.prog 104 #[.slice ao L cap, .int .i64 k] W fun e w' => e = .returned (.int .i64 (-1)) ∧ Fr [] W w' := fun W hf => by
        have := HNw.out W hf
        rw [h0] at this
        exact this
      have HN0 : Hid (∀ W, Fr [] w W → Calls Tryz.prog 104 #[.slice ao L cap, .int .i64 k] W fun e w' => e = .returned (.int .i64 (-1)) ∧ Fr [] W w') := hN0
      have Hd0 : Hid (d = 0) := h0
      have hdz : (d : Int) = 0 := by omega
      clear hN0 HNw
      go_enter Tryz.func76, Tryz.ntmps76
      go_wp2_with fail
      refine Calls.mono HC.out ?_
      rintro e w1 ⟨rfl, hF1⟩
      clear HC
      go_wp2_with fail
      refine Calls.mono (HN0.out _ hF1) ?_
      rintro e w2 ⟨rfl, hF2⟩
      have HF0 : Hid (Fr [] w w2) := hF1.then hF2
      have HOw0 : Hid (VOw w w2 none 0 0 (headD vs d)) := by
        have e : headD vs d = [] := by unfold headD; rw [if_neg (fun h => by have := Hd0.out; omega)]
        rw [e]
        exact ⟨rfl, rfl, .inl ⟨rfl, rfl⟩⟩
      clear hF1 hF2 HN0 hdz
      go_wp2_with fail
      go_loopw [8, 10] (fun oo ii wr => ∃ (i j N rc : Nat) (ro : Option Addr), oo = .slice ro N rc ∧ ii = .int .i64 i ∧ i ≤ L ∧ N ≤ 65537 ∧ Hid (i = d + j) ∧ Hid (VOw w wr ro N rc (headD vs d ++ ((vs.drop d).take j).filter fun v => decide (v.num ∈ ns))) ∧ Hid (Fr [] w wr)) (fun _ ii _ => L - (RowKit.intOf ii).toNat)
      case atStart => exact ⟨0, 0, 0, 0, none, rfl, rfl, Nat.zero_le _, by omega, (by show _ = _; have := Hd0.out; omega), (by show VOw _ _ _ _ _ _; simpa using HOw0.out), HF0⟩
      case round =>
        clear HOw0 HF0
        obtain ⟨i, j, N, rc, ro, rfl, rfl, hiL, hNb, Hij, HOw, HF⟩ := hrel
        by_cases hi : i < L
        · have hi' : i < vs.length := by have := HL.out.1; omega
          have hj' : j < (vs.drop d).length := by have := Hij.out; rw [List.length_drop]; omega
          have hst := filt_snoc (vs.drop d) ns j hj'
          rw [getD_drop] at hst
          have hNj : N ≤ 1 + j := by rw [HOw.out.len]; exact HLn.out j
          have hjL : j < 65536 := by have := Hij.out; omega
          obtain ⟨x, hx⟩ : ∃ x, x = vs.getD i Vn.zero := ⟨_, rfl⟩
          rw [show d + j = i from Hij.out.symm, ← hx] at hst
          obtain ⟨b, off, eao, hbl, hat⟩ := (HV.out _ HF.out).1.lies (by omega)
          have HCl : Hid (∀ W, Fr [] w W → W.cell? ⟨b, off + i * 3, none⟩ = some (.int .i64 x.num) ∧ W.cell? ⟨b, off + i * 3 + 1, none⟩ = some (.string x.val) ∧ W.cell? ⟨b, off + i * 3 + 2, none⟩ = some (.bool x.drop)) := fun W hf => by
            obtain ⟨b', off', e', _, hat'⟩ := (HV.out W hf).1.lies (by omega)
            rw [eao] at e'
            cases e'
            have h1 := hat' i hi'
            rw [← hx] at h1
            exact ⟨h1.c0, h1.c1, h1.c2⟩
          have Hst : Hid (_ = _) := hst
          first
            | subst eao
            | cases eao
          clear hat hst hx
          obtain ⟨num, val, drop⟩ := x
          simp only at HCl Hst
          obtain ⟨wo, hwo⟩ : ∃ wo, wo = wr := ⟨_, rfl⟩
          rw [← hwo] at HOw HF ⊢
          clear hwo hbl
          go_wp2_with fail
          go_loopw [8, 11] (fun oo nn wr => ∃ (m q : Nat), oo = .slice ro N rc ∧ nn = .int .i64 m ∧ m ≤ M ∧ Hid (wr = wo.drewN q) ∧ Hid (∀ t, t < m → ns.getD t 0 ≠ num)) (fun _ nn _ => M - (RowKit.intOf nn).toNat)
          case atStart => exact ⟨0, 0, rfl, rfl, Nat.zero_le _, rfl, (by show ∀ _, _; intro t ht; omega)⟩
          case round =>
            obtain ⟨m, q, rfl, rfl, hmM, HQ, HNe⟩ := hrel
            have hFq : Fr [] w wr := by rw [HQ.out]; exact HF.out.then (Fr.drewN _ _ _)
            by_cases hm : m < M
            · obtain ⟨b2, off2, ebo, _, hat2⟩ := (HV.out _ hFq).2.lies (by have := HL.out.2; omega)
              have c5 := hat2 m (by have := HL.out.2; omega)
              obtain ⟨y, hy⟩ : ∃ y, y = ns.getD m 0 := ⟨_, rfl⟩
              rw [← hy] at c5
              have HY : Hid (y = ns.getD m 0) := hy
              obtain ⟨c0, c1, c2⟩ := HCl.out _ hFq
              subst ebo
              clear hat2 hy
              by_cases hyn : y = num
              · subst hyn
                have hmem : y ∈ ns := by
                  rw [HY.out]
                  have : m < ns.length := by have := HL.out.2; omega
                  simp [List.getD, this]
                have hst2 := Hst.out
                rw [if_pos hmem] at hst2
                have HSt2 : Hid (_ = _) := hst2
                have heq : (y == y) = true := by simp
                clear hst2 hmem
                go_wp2_with fail
                go_quiet (fail)
                have hF3 : Fr [] w (wr.drewN nq) := hFq.then (Fr.drewN _ _ _)
                have HO3 : Hid (VOw w (wr.drewN nq) ro N rc (headD vs d ++ ((vs.drop d).take j).filter fun v => decide (v.num ∈ ns))) := HOw.out.keep (by rw [HQ.out]; exact (Fr.drewN [] wo _).then (Fr.drewN _ _ _))
                obtain ⟨e0, e1, e2⟩ := HCl.out _ hF3
                obtain ⟨w3, HW3⟩ : ∃ w3, Hid (wr.drewN nq = w3) := ⟨_, rfl⟩
                rw [HW3.out] at hF3 HO3 e0 e1 e2 ⊢
                clear HW3 c0 c1 c2 c5
                go_wp2_with (at_builtin; refine wpList_appV1 w w3 rfl _ _ rfl ro N rc _ rfl HO3.out (by omega) hF3.size y val drop rfl ?_ hF3; intro so' c' w4 hO4 hF4)
                have HO5 : Hid (VOw w w4 so' (N + 1) c' (headD vs d ++ ((vs.drop d).take (j + 1)).filter fun v => decide (v.num ∈ ns))) := by rw [HSt2.out, ← List.append_assoc]; exact hO4
                have HF5 : Hid (Fr [] w w4) := hF4
                have Hij5 : Hid (i + 1 = d + (j + 1)) := by show _ = _; have := Hij.out; omega
                clear hO4 hF4 hF3 HO3 e0 e1 e2
                go_wp2
                exact ⟨⟨i + 1, j + 1, N + 1, c', so', rfl, by simp, by omega, by omega, Hij5, HO5, HF5⟩, by simp [RowKit.intOf]; omega⟩
              · have hne : (y == num) = false := by simpa using hyn
                have HNe2 : Hid (∀ t, t < m + 1 → ns.getD t 0 ≠ num) := fun t ht => by
                  rcases Nat.lt_or_ge t m with h | h
                  · exact HNe.out t h
                  · obtain rfl : t = m := by omega
                    rw [← HY.out]; exact hyn
                clear hyn
                go_wp2_with fail
                go_quiet (fail)
                go_wp2
                go_roundw
                case rel => exact ⟨m + 1, q + nq, rfl, by simp, by omega, by show _ = _; rw [HQ.out]; simp, HNe2⟩
                case measure => simp [RowKit.intOf]; omega
            · have hnm : num ∉ ns := mem_of_none HL.out.2 (fun t ht => HNe.out t (by omega))
              have hst2 := Hst.out
              rw [if_neg hnm, List.append_nil] at hst2
              have HO5 : Hid (VOw w wr ro N rc (headD vs d ++ ((vs.drop d).take (j + 1)).filter fun v => decide (v.num ∈ ns))) := by rw [hst2]; exact HOw.out.keep (by rw [HQ.out]; exact Fr.drewN [] wo _)
              have HF5 : Hid (Fr [] w wr) := hFq
              have Hij5 : Hid (i + 1 = d + (j + 1)) := by show _ = _; have := Hij.out; omega
              clear hst2 hnm
              go_wp2
              exact ⟨⟨i + 1, j + 1, N, rc, ro, rfl, by simp, by omega, by omega, Hij5, HO5, HF5⟩, by simp [RowKit.intOf]; omega⟩
        · have HO5 : Hid (VOw w wr ro N rc (headD vs d ++ (vs.drop d).filter fun v => decide (v.num ∈ ns))) := by
            have := HOw.out
            rw [List.take_of_length_le (by rw [List.length_drop]; have := Hij.out; have := HL.out.1; omega)] at this
            exact this
          have HF5 := HF
          clear HOw
          go_wp2
          refine bodyPost_ret (results_tmp2 rfl _ _ _) rfl ?_
          exact ⟨ro, N, rc, _, 0, rfl, Or.inr ⟨rfl, HO.out, d, HD.out, rfl⟩, HO5.out.len, HEx.out _ HSb.out (by rw [← HO5.out.len]; have := HO5.out.len; have h9 := HLn.out (vs.drop d).length; rw [List.take_of_length_le (Nat.le_refl _), List.length_drop] at h9; have := HL.out.1; omega) w wr ro N rc HF5.out HO5.out, HF5.out, HO5.out.nr (Nat.le_refl _)⟩
    · obtain ⟨d', hd'⟩ : ∃ d', d = d' + 1 := ⟨d - 1, by omega⟩
      have HN0 : Hid (∀ W, Fr [] w W → Calls Tryz.prog 104 #[.slice ao L cap, .int .i64 k] W fun e w' => e = .returned (.int .i64 (d' : Int)) ∧ Fr [] W w') := fun W hf => by
        have := HNw.out W hf
        rw [show (d : Int) - 1 = (d' : Int) by omega] at this
        exact this
      have hde : (d' : Int) + 1 = (d : Int) := by omega
      have hdp : d' < L := by omega
      have hd'v : d' < vs.length := by have := HL.out.1; omega
      obtain ⟨x, hx⟩ : ∃ x, x = vs.getD d' Vn.zero := ⟨_, rfl⟩
      have HHd : Hid (headD vs d = if x.drop = false then [x] else []) := by
        show _ = _
        unfold headD
        rw [hd', Nat.add_sub_cancel, ← hx]
        simp
      have HCx : Hid (∀ W, Fr [] w W → ∃ b off, ao = some ⟨b, off, none⟩ ∧ W.cell? ⟨b, off + d' * 3, none⟩ = some (.int .i64 x.num) ∧ W.cell? ⟨b, off + d' * 3 + 1, none⟩ = some (.string x.val) ∧ W.cell? ⟨b, off + d' * 3 + 2, none⟩ = some (.bool x.drop)) := fun W hf => by
        obtain ⟨b, off, e, _, hat⟩ := (HV.out W hf).1.lies (by omega)
        have h1 := hat d' hd'v
        rw [← hx] at h1
        exact ⟨b, off, e, h1.c0, h1.c1, h1.c2⟩
      have Hdd : Hid (d = d' + 1) := hd'
      clear hx hd' h0 HNw hd'v
      obtain ⟨num, val, drop⟩ := x
      simp only at HHd HCx
      cases drop with
      | true =>
        have HOw0 : Hid (∀ W, VOw w W none 0 0 (headD vs d)) := fun W => by
          rw [HHd.out]
          exact ⟨rfl, rfl, .inl ⟨rfl, rfl⟩⟩
        go_enter Tryz.func76, Tryz.ntmps76
        go_wp2_with fail
        refine Calls.mono HC.out ?_
        rintro e w1 ⟨rfl, hF1⟩
        clear HC
        go_wp2_with fail
        refine Calls.mono (HN0.out _ hF1) ?_
        rintro e w2 ⟨rfl, hF2⟩
        have HF0 : Hid (Fr [] w w2) := hF1.then hF2
        obtain ⟨b, off, rfl, c0, c1, c2⟩ := HCx.out _ HF0.out
        have HOw0 : Hid (VOw w w2 none 0 0 (headD vs d)) := HOw0.out w2
        clear hF1 hF2 HN0 HCx
        go_wp2_with fail
        clear c0 c1 c2
        go_loopw [8, 10] (fun oo ii wr => ∃ (i j N rc : Nat) (ro : Option Addr), oo = .slice ro N rc ∧ ii = .int .i64 i ∧ i ≤ L ∧ N ≤ 65537 ∧ Hid (i = d + j) ∧ Hid (VOw w wr ro N rc (headD vs d ++ ((vs.drop d).take j).filter fun v => decide (v.num ∈ ns))) ∧ Hid (Fr [] w wr)) (fun _ ii _ => L - (RowKit.intOf ii).toNat)
        case atStart => exact ⟨d, 0, 0, 0, none, rfl, rfl, hdL, by omega, rfl, (by show VOw _ _ _ _ _ _; simpa using HOw0.out), HF0⟩
        case round =>
          clear HOw0 HF0
          obtain ⟨i, j, N, rc, ro, rfl, rfl, hiL, hNb, Hij, HOw, HF⟩ := hrel
          by_cases hi : i < L
          · have hi' : i < vs.length := by have := HL.out.1; omega
            have hj' : j < (vs.drop d).length := by have := Hij.out; rw [List.length_drop]; omega
            have hst := filt_snoc (vs.drop d) ns j hj'
            rw [getD_drop] at hst
            have hNj : N ≤ 1 + j := by rw [HOw.out.len]; exact HLn.out j
            have hjL : j < 65536 := by have := Hij.out; omega
            obtain ⟨x, hx⟩ : ∃ x, x = vs.getD i Vn.zero := ⟨_, rfl⟩
            rw [show d + j = i from Hij.out.symm, ← hx] at hst
            obtain ⟨b, off, eao, hbl, hat⟩ := (HV.out _ HF.out).1.lies (by omega)
            have HCl : Hid (∀ W, Fr [] w W → W.cell? ⟨b, off + i * 3, none⟩ = some (.int .i64 x.num) ∧ W.cell? ⟨b, off + i * 3 + 1, none⟩ = some (.string x.val) ∧ W.cell? ⟨b, off + i * 3 + 2, none⟩ = some (.bool x.drop)) := fun W hf => by
              obtain ⟨b', off', e', _, hat'⟩ := (HV.out W hf).1.lies (by omega)
              rw [eao] at e'
              cases e'
              have h1 := hat' i hi'
              rw [← hx] at h1
              exact ⟨h1.c0, h1.c1, h1.c2⟩
            have Hst : Hid (_ = _) := hst
            first
              | subst eao
              | cases eao
            clear hat hst hx
            obtain ⟨num, val, drop⟩ := x
            simp only at HCl Hst
            obtain ⟨wo, hwo⟩ : ∃ wo, wo = wr := ⟨_, rfl⟩
            rw [← hwo] at HOw HF ⊢
            clear hwo hbl
            go_wp2_with fail
            go_loopw [8, 11] (fun oo nn wr => ∃ (m q : Nat), oo = .slice ro N rc ∧ nn = .int .i64 m ∧ m ≤ M ∧ Hid (wr = wo.drewN q) ∧ Hid (∀ t, t < m → ns.getD t 0 ≠ num)) (fun _ nn _ => M - (RowKit.intOf nn).toNat)
            case atStart => exact ⟨0, 0, rfl, rfl, Nat.zero_le _, rfl, (by show ∀ _, _; intro t ht; omega)⟩
            case round =>
              obtain ⟨m, q, rfl, rfl, hmM, HQ, HNe⟩ := hrel
              have hFq : Fr [] w wr := by rw [HQ.out]; exact HF.out.then (Fr.drewN _ _ _)
              by_cases hm : m < M
              · obtain ⟨b2, off2, ebo, _, hat2⟩ := (HV.out _ hFq).2.lies (by have := HL.out.2; omega)
                have c5 := hat2 m (by have := HL.out.2; omega)
                obtain ⟨y, hy⟩ : ∃ y, y = ns.getD m 0 := ⟨_, rfl⟩
                rw [← hy] at c5
                have HY : Hid (y = ns.getD m 0) := hy
                obtain ⟨c0, c1, c2⟩ := HCl.out _ hFq
                subst ebo
                clear hat2 hy
                by_cases hyn : y = num
                · subst hyn
                  have hmem : y ∈ ns := by
                    rw [HY.out]
                    have : m < ns.length := by have := HL.out.2; omega
                    simp [List.getD, this]
                  have hst2 := Hst.out
                  rw [if_pos hmem] at hst2
                  have HSt2 : Hid (_ = _) := hst2
                  have heq : (y == y) = true := by simp
                  clear hst2 hmem
                  go_wp2_with fail
                  go_quiet (fail)
                  have hF3 : Fr [] w (wr.drewN nq) := hFq.then (Fr.drewN _ _ _)
                  have HO3 : Hid (VOw w (wr.drewN nq) ro N rc (headD vs d ++ ((vs.drop d).take j).filter fun v => decide (v.num ∈ ns))) := HOw.out.keep (by rw [HQ.out]; exact (Fr.drewN [] wo _).then (Fr.drewN _ _ _))
                  obtain ⟨e0, e1, e2⟩ := HCl.out _ hF3
                  obtain ⟨w3, HW3⟩ : ∃ w3, Hid (wr.drewN nq = w3) := ⟨_, rfl⟩
                  rw [HW3.out] at hF3 HO3 e0 e1 e2 ⊢
                  clear HW3 c0 c1 c2 c5
                  go_wp2_with (at_builtin; refine wpList_appV1 w w3 rfl _ _ rfl ro N rc _ rfl HO3.out (by omega) hF3.size y val drop rfl ?_ hF3; intro so' c' w4 hO4 hF4)
                  have HO5 : Hid (VOw w w4 so' (N + 1) c' (headD vs d ++ ((vs.drop d).take (j + 1)).filter fun v => decide (v.num ∈ ns))) := by rw [HSt2.out, ← List.append_assoc]; exact hO4
                  have HF5 : Hid (Fr [] w w4) := hF4
                  have Hij5 : Hid (i + 1 = d + (j + 1)) := by show _ = _; have := Hij.out; omega
                  clear hO4 hF4 hF3 HO3 e0 e1 e2
                  go_wp2
                  exact ⟨⟨i + 1, j + 1, N + 1, c', so', rfl, by simp, by omega, by omega, Hij5, HO5, HF5⟩, by simp [RowKit.intOf]; omega⟩
                · have hne : (y == num) = false := by simpa using hyn
                  have HNe2 : Hid (∀ t, t < m + 1 → ns.getD t 0 ≠ num) := fun t ht => by
                    rcases Nat.lt_or_ge t m with h | h
                    · exact HNe.out t h
                    · obtain rfl : t = m := by omega
                      rw [← HY.out]; exact hyn
                  clear hyn
                  go_wp2_with fail
                  go_quiet (fail)
                  go_wp2
                  go_roundw
                  case rel => exact ⟨m + 1, q + nq, rfl, by simp, by omega, by show _ = _; rw [HQ.out]; simp, HNe2⟩
                  case measure => simp [RowKit.intOf]; omega
              · have hnm : num ∉ ns := mem_of_none HL.out.2 (fun t ht => HNe.out t (by omega))
                have hst2 := Hst.out
                rw [if_neg hnm, List.append_nil] at hst2
                have HO5 : Hid (VOw w wr ro N rc (headD vs d ++ ((vs.drop d).take (j + 1)).filter fun v => decide (v.num ∈ ns))) := by rw [hst2]; exact HOw.out.keep (by rw [HQ.out]; exact Fr.drewN [] wo _)
                have HF5 : Hid (Fr [] w wr) := hFq
                have Hij5 : Hid (i + 1 = d + (j + 1)) := by show _ = _; have := Hij.out; omega
                clear hst2 hnm
                go_wp2
                exact ⟨⟨i + 1, j + 1, N, rc, ro, rfl, by simp, by omega, by omega, Hij5, HO5, HF5⟩, by simp [RowKit.intOf]; omega⟩
          · have HO5 : Hid (VOw w wr ro N rc (headD vs d ++ (vs.drop d).filter fun v => decide (v.num ∈ ns))) := by
              have := HOw.out
              rw [List.take_of_length_le (by rw [List.length_drop]; have := Hij.out; have := HL.out.1; omega)] at this
              exact this
            have HF5 := HF
            clear HOw
            go_wp2
            refine bodyPost_ret (results_tmp2 rfl _ _ _) rfl ?_
            exact ⟨ro, N, rc, _, 0, rfl, Or.inr ⟨rfl, HO.out, d, HD.out, rfl⟩, HO5.out.len, HEx.out _ HSb.out (by rw [← HO5.out.len]; have := HO5.out.len; have h9 := HLn.out (vs.drop d).length; rw [List.take_of_length_le (Nat.le_refl _), List.length_drop] at h9; have := HL.out.1; omega) w wr ro N rc HF5.out HO5.out, HF5.out, HO5.out.nr (Nat.le_refl _)⟩
      | false =>
        go_enter Tryz.func76, Tryz.ntmps76
        go_wp2_with fail
        refine Calls.mono HC.out ?_
        rintro e w1 ⟨rfl, hF1⟩
        clear HC
        go_wp2_with fail
        refine Calls.mono (HN0.out _ hF1) ?_
        rintro e w2 ⟨rfl, hF2⟩
        have hF0 : Fr [] w w2 := hF1.then hF2
        obtain ⟨b, off, rfl, c0, c1, c2⟩ := HCx.out _ hF0
        have HO3 : Hid (VOw w w2 none 0 0 []) := ⟨rfl, rfl, .inl ⟨rfl, rfl⟩⟩
        clear hF1 hF2 HN0 HCx
        go_upto_region 7 with (at_builtin; refine wpList_appV1 w w2 rfl _ _ rfl none 0 0 _ rfl HO3.out (by omega) hF0.size num val false rfl ?_ hF0; intro so0 c0' w4 hO4 hF4)
        have HOw0 : Hid (VOw w w4 so0 1 c0' (headD vs d)) := by rw [HHd.out]; exact hO4
        have HF0 : Hid (Fr [] w w4) := hF4
        clear hO4 hF4 hF0 HO3 c0 c1 c2
        go_wp2_with fail
        go_loopw [8, 10] (fun oo ii wr => ∃ (i j N rc : Nat) (ro : Option Addr), oo = .slice ro N rc ∧ ii = .int .i64 i ∧ i ≤ L ∧ N ≤ 65537 ∧ Hid (i = d + j) ∧ Hid (VOw w wr ro N rc (headD vs d ++ ((vs.drop d).take j).filter fun v => decide (v.num ∈ ns))) ∧ Hid (Fr [] w wr)) (fun _ ii _ => L - (RowKit.intOf ii).toNat)
        case atStart => exact ⟨d, 0, 1, c0', so0, rfl, rfl, hdL, by omega, rfl, (by show VOw _ _ _ _ _ _; simpa using HOw0.out), HF0⟩
        case round =>
          clear HOw0 HF0
          obtain ⟨i, j, N, rc, ro, rfl, rfl, hiL, hNb, Hij, HOw, HF⟩ := hrel
          by_cases hi : i < L
          · have hi' : i < vs.length := by have := HL.out.1; omega
            have hj' : j < (vs.drop d).length := by have := Hij.out; rw [List.length_drop]; omega
            have hst := filt_snoc (vs.drop d) ns j hj'
            rw [getD_drop] at hst
            have hNj : N ≤ 1 + j := by rw [HOw.out.len]; exact HLn.out j
            have hjL : j < 65536 := by have := Hij.out; omega
            obtain ⟨x, hx⟩ : ∃ x, x = vs.getD i Vn.zero := ⟨_, rfl⟩
            rw [show d + j = i from Hij.out.symm, ← hx] at hst
            obtain ⟨b, off, eao, hbl, hat⟩ := (HV.out _ HF.out).1.lies (by omega)
            have HCl : Hid (∀ W, Fr [] w W → W.cell? ⟨b, off + i * 3, none⟩ = some (.int .i64 x.num) ∧ W.cell? ⟨b, off + i * 3 + 1, none⟩ = some (.string x.val) ∧ W.cell? ⟨b, off + i * 3 + 2, none⟩ = some (.bool x.drop)) := fun W hf => by
              obtain ⟨b', off', e', _, hat'⟩ := (HV.out W hf).1.lies (by omega)
              rw [eao] at e'
              cases e'
              have h1 := hat' i hi'
              rw [← hx] at h1
              exact ⟨h1.c0, h1.c1, h1.c2⟩
            have Hst : Hid (_ = _) := hst
            first
              | subst eao
              | cases eao
            clear hat hst hx
            obtain ⟨num, val, drop⟩ := x
            simp only at HCl Hst
            obtain ⟨wo, hwo⟩ : ∃ wo, wo = wr := ⟨_, rfl⟩
            rw [← hwo] at HOw HF ⊢
            clear hwo hbl
            go_wp2_with fail
            go_loopw [8, 11] (fun oo nn wr => ∃ (m q : Nat), oo = .slice ro N rc ∧ nn = .int .i64 m ∧ m ≤ M ∧ Hid (wr = wo.drewN q) ∧ Hid (∀ t, t < m → ns.getD t 0 ≠ num)) (fun _ nn _ => M - (RowKit.intOf nn).toNat)
            case atStart => exact ⟨0, 0, rfl, rfl, Nat.zero_le _, rfl, (by show ∀ _, _; intro t ht; omega)⟩
            case round =>
              obtain ⟨m, q, rfl, rfl, hmM, HQ, HNe⟩ := hrel
              have hFq : Fr [] w wr := by rw [HQ.out]; exact HF.out.then (Fr.drewN _ _ _)
              by_cases hm : m < M
              · obtain ⟨b2, off2, ebo, _, hat2⟩ := (HV.out _ hFq).2.lies (by have := HL.out.2; omega)
                have c5 := hat2 m (by have := HL.out.2; omega)
                obtain ⟨y, hy⟩ : ∃ y, y = ns.getD m 0 := ⟨_, rfl⟩
                rw [← hy] at c5
                have HY : Hid (y = ns.getD m 0) := hy
                obtain ⟨c0, c1, c2⟩ := HCl.out _ hFq
                subst ebo
                clear hat2 hy
                by_cases hyn : y = num
                · subst hyn
                  have hmem : y ∈ ns := by
                    rw [HY.out]
                    have : m < ns.length := by have := HL.out.2; omega
                    simp [List.getD, this]
                  have hst2 := Hst.out
                  rw [if_pos hmem] at hst2
                  have HSt2 : Hid (_ = _) := hst2
                  have heq : (y == y) = true := by simp
                  clear hst2 hmem
                  go_wp2_with fail
                  go_quiet (fail)
                  have hF3 : Fr [] w (wr.drewN nq) := hFq.then (Fr.drewN _ _ _)
                  have HO3 : Hid (VOw w (wr.drewN nq) ro N rc (headD vs d ++ ((vs.drop d).take j).filter fun v => decide (v.num ∈ ns))) := HOw.out.keep (by rw [HQ.out]; exact (Fr.drewN [] wo _).then (Fr.drewN _ _ _))
                  obtain ⟨e0, e1, e2⟩ := HCl.out _ hF3
                  obtain ⟨w3, HW3⟩ : ∃ w3, Hid (wr.drewN nq = w3) := ⟨_, rfl⟩
                  rw [HW3.out] at hF3 HO3 e0 e1 e2 ⊢
                  clear HW3 c0 c1 c2 c5
                  go_wp2_with (at_builtin; refine wpList_appV1 w w3 rfl _ _ rfl ro N rc _ rfl HO3.out (by omega) hF3.size y val drop rfl ?_ hF3; intro so' c' w4 hO4 hF4)
                  have HO5 : Hid (VOw w w4 so' (N + 1) c' (headD vs d ++ ((vs.drop d).take (j + 1)).filter fun v => decide (v.num ∈ ns))) := by rw [HSt2.out, ← List.append_assoc]; exact hO4
                  have HF5 : Hid (Fr [] w w4) := hF4
                  have Hij5 : Hid (i + 1 = d + (j + 1)) := by show _ = _; have := Hij.out; omega
                  clear hO4 hF4 hF3 HO3 e0 e1 e2
                  go_wp2
                  exact ⟨⟨i + 1, j + 1, N + 1, c', so', rfl, by simp, by omega, by omega, Hij5, HO5, HF5⟩, by simp [RowKit.intOf]; omega⟩
                · have hne : (y == num) = false := by simpa using hyn
                  have HNe2 : Hid (∀ t, t < m + 1 → ns.getD t 0 ≠ num) := fun t ht => by
                    rcases Nat.lt_or_ge t m with h | h
                    · exact HNe.out t h
                    · obtain rfl : t = m := by omega
                      rw [← HY.out]; exact hyn
                  clear hyn
                  go_wp2_with fail
                  go_quiet (fail)
                  go_wp2
                  go_roundw
                  case rel => exact ⟨m + 1, q + nq, rfl, by simp, by omega, by show _ = _; rw [HQ.out]; simp, HNe2⟩
                  case measure => simp [RowKit.intOf]; omega
              · have hnm : num ∉ ns := mem_of_none HL.out.2 (fun t ht => HNe.out t (by omega))
                have hst2 := Hst.out
                rw [if_neg hnm, List.append_nil] at hst2
                have HO5 : Hid (VOw w wr ro N rc (headD vs d ++ ((vs.drop d).take (j + 1)).filter fun v => decide (v.num ∈ ns))) := by rw [hst2]; exact HOw.out.keep (by rw [HQ.out]; exact Fr.drewN [] wo _)
                have HF5 : Hid (Fr [] w wr) := hFq
                have Hij5 : Hid (i + 1 = d + (j + 1)) := by show _ = _; have := Hij.out; omega
                clear hst2 hnm
                go_wp2
                exact ⟨⟨i + 1, j + 1, N, rc, ro, rfl, by simp, by omega, by omega, Hij5, HO5, HF5⟩, by simp [RowKit.intOf]; omega⟩
          · have HO5 : Hid (VOw w wr ro N rc (headD vs d ++ (vs.drop d).filter fun v => decide (v.num ∈ ns))) := by
              have := HOw.out
              rw [List.take_of_length_le (by rw [List.length_drop]; have := Hij.out; have := HL.out.1; omega)] at this
              exact this
            have HF5 := HF
            clear HOw
            go_wp2
            refine bodyPost_ret (results_tmp2 rfl _ _ _) rfl ?_
            exact ⟨ro, N, rc, _, 0, rfl, Or.inr ⟨rfl, HO.out, d, HD.out, rfl⟩, HO5.out.len, HEx.out _ HSb.out (by rw [← HO5.out.len]; have := HO5.out.len; have h9 := HLn.out (vs.drop d).length; rw [List.take_of_length_le (Nat.le_refl _), List.length_drop] at h9; have := HL.out.1; omega) w wr ro N rc HF5.out HO5.out, HF5.out, HO5.out.nr (Nat.le_refl _)⟩
  · go_enter Tryz.func76, Tryz.ntmps76
    go_wp2_with fail
    refine Calls.mono HC.out ?_
    rintro e w1 ⟨rfl, hF1⟩
    go_wp2
    refine bodyPost_ret (results_tmp2 rfl _ _ _) rfl ?_
    exact ⟨none, 0, 0, [], 1, rfl, Or.inl ⟨rfl, hok, rfl⟩, rfl, VRs.nil _ _, hF1, Nr9.none _ _ _⟩
end Go.Proofs.YtomajifklajilaaGreat
/- The document's shard: contracts of Scan, Dump, Collect. Conditions as each names them. -/
namespace Go.Proofs.YtomajifklajilaaGreat
open Go.ChangeShapes Go.WideShapes Go.ChangeAt Go.RowKit Go.Lib Go.Maps
set_option linter.unusedVariables false
set_option linter.unusedSimpArgs false

set_option maxHeartbeats 1000000 in
theorem zIn_any (s key en : ByteArray) (B : Bool) (w : World) (hB : B = inS key en s) : Calls Tryz.prog 74 #[.string s, .string key, .string en] w fun e w' => e = .returned (.bool B) ∧ Fr [] w w' := by
  obtain ⟨G, hG⟩ : ∃ G, Op.bytesLess s.toList key.toList = G := ⟨_, rfl⟩
  obtain ⟨K, hK⟩ : ∃ K, Op.bytesLess s.toList en.toList = K := ⟨_, rfl⟩
  by_cases hz : en.size = 0
  · have hE : (en.toList == ([] : List UInt8)) = true := by simp [(tl_nil en).2 hz]
    have hz1 : ((en.size : Int) == 0) = true := by rw [beq_iff_eq]; omega
    unfold inS at hB
    rw [hG, hE, hK] at hB
    simp only [Bool.true_or, Bool.and_true] at hB
    subst hB
    cases G <;>
    · go_enter Tryz.func74, Tryz.ntmps74
      go_wp2
      all_goals (go_ret; exact ⟨rfl, Fr.refl _ _⟩)
  · have hE : (en.toList == ([] : List UInt8)) = false := by rw [beq_eq_false_iff_ne]; exact fun h => hz ((tl_nil en).1 h)
    have hz1 : ((en.size : Int) == 0) = false := by rw [beq_eq_false_iff_ne]; omega
    unfold inS at hB
    rw [hG, hE, hK] at hB
    simp only [Bool.false_or] at hB
    subst hB
    cases G <;> cases K <;>
    · go_enter Tryz.func74, Tryz.ntmps74
      go_wp2
      all_goals (go_ret; exact ⟨rfl, Fr.refl _ _⟩)
/-- What at tells is the value at the mark. -/
theorem AtW.is {vs : List Vn} {mk : Int} {r : ByteArray} {o : Bool} (h : AtW vs mk r o) (hok : okV vs) : o = (valAt vs mk).isSome ∧ r = (valAt vs mk).getD noS := by
  obtain ⟨x, ok, c, hA, rfl, rfl⟩ := h
  obtain ⟨h1, h2, _⟩ := get_told hok hA
  refine ⟨h1, ?_⟩
  cases hv : valAt vs mk with
  | none => rw [hv] at h1; rw [if_neg (by rw [h1]; simp)]; rfl
  | some v => rw [hv] at h1 h2; rw [if_pos (by rw [h1]; rfl)]; exact h2
section
variable {w0 w : World} {g N lc : Nat} {lo : Option Addr} {hs : List Hd}
/-- One more key and its versions. -/
theorem wpList_appR (w0 w : World) {ops : Array Oper} {rest : List Oper} {o : Oper} {a : Act} {Q : Exit → Act → World → Prop} (hgd : o.guard = none) (s x : Operand)
    (ho : o.op = .call { callee := .builtin .append, args := #[s, x], argTypes := #[22, 22] })
    (so : Option Addr) (N c : Nat) (hs : List Hd) (hsv : a.eval s = .slice so N c) (hK : HRo w0 w so N c hs) (hN : N < 3518437208883) (h0 : w0.heap.size ≤ w.heap.size) (p : Hd) (hV : HEach w p) (hT : HTy w p) (hx : a.eval x = .slice (some ⟨w.heap.size, 0, none⟩) 1 1)
    (h : ∀ so' c' w', HRo w0 w' so' (N + 1) c' (hs ++ [p]) → Fr (Value.slice so N c).ownBlock.toList w w' → wpList Tryz.prog ops Q rest (a.put o.dst (.slice so' (N + 1) c')) w') : wpList Tryz.prog ops Q (o :: rest) a (w.alloc (.cells #[.string p.key, .slice p.vo p.L p.cap] 70)) := by
  obtain ⟨i0, hi, hz0, hz1, hz2⟩ := infoHd_parts
  have hmx : 3518437208884 ≤ maxLen := by unfold maxLen; omega
  refine wpList_append_own (w.alloc (.cells #[.string p.key, .slice p.vo p.L p.cap] 70)) hgd s x 22 ho w0.heap.size 70 i0 _ 2 40 Tryz.undHds hi hz0 hz1 hz2 rfl (by decide) (.slice so N c) N (hdsC hs) hsv (owns_keepB hK.row (Fr.alloc [] w _) (by simp)) ⟨w.heap.size, 0, none⟩ 1 1 (hdC p) hx rfl ?_ (hdC_one p) (by omega) (by omega) (by simp; omega) ?_
  · intro j u hu
    have hr := heap_alloc_new w (.cells #[.string p.key, .slice p.vo p.L p.cap] 70)
    rw [Addr.add_lit, cell_of_row _ _ _ _ _ _ hr, Nat.zero_add]
    simpa [hdC] using hu
  · intro v' w' hown' hg' _
    obtain ⟨bo, cap', rfl⟩ : ∃ bo cap', v' = .slice bo (N + 1) cap' := by
      rcases hown'.2 with ⟨_, h1⟩ | ⟨g, cap, _, rfl, _⟩
      · omega
      · exact ⟨_, cap, rfl⟩
    rw [← hdsC_snoc] at hown'
    have hF : Fr (Value.slice so N c).ownBlock.toList w w' := ((Fr.alloc [] w _).mono (by simp)).then (Fr.grown (S := (Value.slice so N c).ownBlock.toList) hg' (fun y hy _ => Option.mem_toList.2 hy))
    have hall : ∀ y ∈ hs ++ [p], HEach w y ∧ HTy w y := fun y hy => by
      rcases List.mem_append.1 hy with h1 | h1
      · exact ⟨hK.each y h1, hK.ty y h1⟩
      · simp at h1; subst h1; exact ⟨hV, hT⟩
    have hap : ∀ y ∈ hs ++ [p], ∀ j, VB y j → j ∉ (Value.slice so N c).ownBlock.toList := fun y hy j hj hm => by
      obtain ⟨c1, e1⟩ := (hall y hy).2 j hj
      obtain ⟨_, c2, e2⟩ := owns_cells hK.row (Option.mem_toList.1 hm)
      rw [e1] at e2
      simp only [Option.some.injEq, Obj.cells.injEq] at e2
      exact absurd e2.2.1 (by decide)
    exact h bo cap' w' ⟨by rw [hK.len]; simp, hown', fun y hy => (hall y hy).1.keepS hF (hap y hy), fun y hy => (hall y hy).2.keepS hF (hap y hy)⟩ hF
set_option maxHeartbeats 4000000 in
set_option maxRecDepth 100000 in
theorem kdump_any (h : KSh w0 w g N lc lo hs) (k : Int) (bo : Option Addr) (Mn cb : Nat) (ns : List Int) (hI : IRs w bo ns) (hM : Mn = ns.length) : Calls Tryz.prog 38 #[.pointer (some ⟨g, 0, none⟩), .int .i64 k, .slice bo Mn cb] w fun e w' => ∃ ro R rc gs, e = .returned (.slice ro R rc) ∧ HRo w w' ro R rc gs ∧ R ≤ N ∧ gs.map hkv = hs.filterMap (duOf k ns) ∧ Fr [] w w' := by
  have HK : Hid (∀ W, Fr [] w W → KSh w0 W g N lc lo hs) := fun W hf => h.keep hf
  have HI : Hid (∀ W, Fr [] w W → IRs W bo ns) := fun W hf => hI.keep hf
  have HM : Hid (Mn = ns.length) := hM
  have HN : Hid (N = hs.length) := h.log.len
  have hfew := h.few
  have HOk : Hid (LoOk hs) := h.ok
  clear h hI hM
  go_enter Tryz.func38, Tryz.ntmps38
  have c0 := (HK.out _ (Fr.refl _ _)).c0
  go_wp2_with fail
  go_loopw [7, 8] (fun vv ii wr => ∃ (i R rc : Nat) (ro : Option Addr) (gs : List Hd), vv = .slice ro R rc ∧ ii = .int .i64 i ∧ i ≤ N ∧ R ≤ i ∧ Hid (HRo w wr ro R rc gs) ∧ Hid (gs.map hkv = (hs.take i).filterMap (duOf k ns)) ∧ Fr [] w wr) (fun _ ii _ => N - (RowKit.intOf ii).toNat)
  case atStart => exact ⟨0, 0, 0, none, [], rfl, rfl, Nat.zero_le _, Nat.le_refl _, ⟨rfl, World.ownsRow_nil _ _ _ _, by simp, by simp⟩, rfl, Fr.refl _ _⟩
  case round =>
    clear c0
    obtain ⟨i, R, rc, ro, gs, rfl, rfl, hiN, hRi, HO, HG, hFr⟩ := hrel
    have c0 := (HK.out _ hFr).c0
    by_cases hi : i < N
    · have hi' : i < hs.length := by rw [← HN.out]; exact hi
      have hR := (HK.out _ hFr).rs
      obtain ⟨b, off, e9, hbl, hc⟩ := hR.lies (by omega)
      obtain ⟨d0, d1⟩ := hc i hi'
      have hE := hR.each _ (hgetD_mem hs i hi')
      have HT : Hid ((hs.take (i + 1)).filterMap (duOf k ns) = (hs.take i).filterMap (duOf k ns) ++ (duOf k ns (hs.getD i Hd.zero)).toList) := by
        show _ = _
        rw [htake_snoc hs i hi', List.filterMap_append]
        congr 1
      have HX : Hid (okV (hs.getD i Hd.zero).vs) := (HOk.out.2 _ (hgetD_mem hs i hi')).2.2
      obtain ⟨x, hx⟩ : ∃ x, x = hs.getD i Hd.zero := ⟨_, rfl⟩
      rw [← hx] at d0 d1 hE HT HX
      clear hc hx hR
      obtain ⟨key, vo, M, cm, vs⟩ := x
      simp only at d0 d1
      have HM2 : Hid (M = vs.length) := hE.len
      have HV : Hid (VRs wr vo vs) := hE.rs
      have HKz : Hid (key.size ≤ 140737488355328) := hE.k
      have HC : Hid (∀ W, Fr [] wr W → W.cell? ⟨b, off + i * 2, none⟩ = some (.string key)) := fun W hf => (World.cell?_of_block (hf.block b hbl (by simp))).trans d0
      subst e9
      clear hE
      go_wp2_with fail
      refine (udump_any vo M cm k vs bo Mn cb ns wr HV.out HM2.out (HI.out _ hFr) HM.out).mono ?_
      rintro e w4 ⟨uo, U, uc, us, cc, rfl, hD, hUl, hUr, hF4, hNr⟩
      have HUs : Hid (us = dmp vs k ns) := dmp_told HX.out hD
      have HUl : Hid (U = us.length) := hUl
      have HUr : Hid (VRs w4 uo us) := hUr
      have HNr : Hid (Nr9 wr w4 none uo U uc) := hNr
      have hG4 := hFr.then hF4
      have e0 := (HK.out _ hG4).c0
      have e1 := HC.out _ hF4
      have HO4 : Hid (HRo w w4 ro R rc gs) := HO.out.keep hF4
      clear hD hUl hUr hNr hF4 hFr HO HC d0 d1 c0 HV
      by_cases hU : U = 0
      · subst hU
        have HG2 : Hid (gs.map hkv = (hs.take (i + 1)).filterMap (duOf k ns)) := by
          show _ = _
          have hz : us = [] := List.eq_nil_of_length_eq_zero HUl.out.symm
          rw [HT.out, HG.out]
          unfold duOf
          rw [if_pos (by rw [← HUs.out]; exact hz)]
          simp
        go_wp2
        go_roundw
        case rel => exact ⟨i + 1, R, rc, ro, gs, rfl, by simp, by omega, by omega, HO4, HG2, hG4⟩
        case measure => simp [RowKit.intOf]; omega
      · have HG2 : Hid ((gs ++ [(⟨key, uo, U, uc, us⟩ : Hd)]).map hkv = (hs.take (i + 1)).filterMap (duOf k ns)) := by
          show _ = _
          have hz : dmp vs k ns ≠ [] := fun e => hU (by rw [HUl.out, HUs.out, e]; rfl)
          rw [HT.out, List.map_append, HG.out]
          unfold duOf
          rw [if_neg hz, ← HUs.out]
          rfl
        have HEn : Hid (HEach w4 ⟨key, uo, U, uc, us⟩ ∧ HTy w4 ⟨key, uo, U, uc, us⟩) := by
          refine ⟨⟨HKz.out, HUl.out, HNr.out.1, HUr.out⟩, fun j hj => ?_⟩
          obtain ⟨_, a, ea, rfl⟩ := hj
          rcases HNr.out.2 a ea with h1 | ⟨c, h1, _⟩
          · exact h1.2
          · cases h1
        have hsz : w.heap.size ≤ w4.heap.size := hG4.size
        have HOn : Hid (∀ w8, Fr (Value.slice ro R rc).ownBlock.toList w4 w8 → Fr [] w w8) := fun w8 hF8 => hG4.on hF8 (fun x hx => (owns_cells HO4.out.row (Option.mem_toList.1 hx)).1)
        clear HNr HUr HUl HUs
        go_wp2_with (at_builtin; refine wpList_appR w w4 rfl _ _ rfl ro R rc gs rfl HO4.out (by omega) hsz ⟨key, uo, U, uc, us⟩ HEn.out.1 HEn.out.2 rfl ?_)
        intro so3 c3 w8 hK8 hF8
        have HK8 : Hid (HRo w w8 so3 (R + 1) c3 (gs ++ [⟨key, uo, U, uc, us⟩])) := hK8
        have hG8 := HOn.out _ hF8
        clear hK8 hF8 HO4 HEn HOn
        go_wp2
        go_roundw
        case rel => exact ⟨i + 1, R + 1, c3, so3, _, rfl, by simp, by omega, by omega, HK8, HG2, hG8⟩
        case measure => simp [RowKit.intOf]; omega
    · obtain rfl : i = N := by omega
      have HG2 : Hid (gs.map hkv = hs.filterMap (duOf k ns)) := by show _ = _; rw [HG.out, List.take_of_length_le (by rw [← HN.out]; omega)]
      go_wp2
      go_ret
      exact ⟨ro, R, rc, gs, rfl, HO.out, hRi, HG2.out, hFr⟩
end
end Go.Proofs.YtomajifklajilaaGreat
