/- The walk of the law GateAgain. Conditions: how its arguments lie in memory. -/
import Derived.Test.YtleklocdejldnaaDoorAl12
import Derived.Test.YtleklocdejldnaaDoorIn10
namespace Go.Proofs.YtleklocdejldnaaDoor
open Go.ChangeShapes Go.WideShapes Go.ChangeAt Go.RowKit Go.Lib Go.Maps
set_option linter.unusedVariables false
set_option linter.unusedSimpArgs false

/-- Mark, asked in a world that has drawn. -/
theorem gg_markq {w : World} {g : Nat} {m : Int} {xs : List Int} (h : GG w g m xs) (q : Nat) : Calls Tryd.prog 19 #[.pointer (some ⟨g, 0, none⟩)] (w.drewN q) fun e w' => e = .returned (.int .i64 m) ∧ w' = w.drewN q := by
  obtain ⟨ws, h1, _⟩ := (h.keep (Fr.drewN [] w q) (by simp)).mem
  refine (amark_any _ h1).mono ?_
  rintro e w' ⟨rfl, rfl⟩
  exact ⟨rfl, rfl⟩
/-- What the first loop keeps: numbers that rise behind the mark. -/
structure Upw (m : Int) (z : Int) (zs : List Int) : Prop where
  ris : Ris zs
  bey : ∀ x ∈ zs, m + 2 ≤ x ∧ x ≤ z
  last : z = m + 1 ∧ zs = [] ∨ z ∈ zs
theorem Upw.ok {m z : Int} {zs : List Int} (h : Upw m z zs) (h0 : 0 ≤ m) (h1 : m ≤ 65535) (hz : z ≤ 65536) : Gok m zs :=
  ⟨⟨h0, by omega, h.ris, fun x hx => by have := h.bey x hx; omega⟩, fun hx => by have := h.bey _ hx; omega⟩
theorem Upw.no {m z : Int} {zs : List Int} (h : Upw m z zs) (h1 : m ≤ 65535) (hz : 65536 < z) : ¬ Gok m zs := by
  intro hg
  rcases h.last with ⟨e, _⟩ | e
  · omega
  · have := hg.1.bey z e; omega
theorem Upw.snoc {m z y : Int} {zs : List Int} (h : Upw m z zs) (hz : m + 1 ≤ z) (hy : z < y) : Upw m y (zs ++ [y]) :=
  ⟨Ris.snoc h.ris (fun x hx => by have := h.bey x hx; omega), fun x hx => by
    rcases List.mem_append.1 hx with e | e
    · have := h.bey x e; omega
    · simp at e; omega, Or.inr (by simp)⟩
set_option maxHeartbeats 16000000 in
set_option maxRecDepth 100000 in
theorem gag (m : Nat) (hm : m ≤ 65535) (ao : Option Addr) (L cap : Nat) (xs : List Nat) (bo : Option Addr) (M cb : Nat) (ys : List Nat) (w : World) (hA : BArg w ao L cap xs) (hB : BArg w bo M cb ys) (hT : Tz w) :
    Calls Tryd.prog 5 #[.int .u16 (m : Int), .slice ao L cap, .slice bo M cb] w fun e w' => e = .returned (.bool true) ∧ Fr [] w w' := by
  have HTz : Hid (∀ W, Fr [] w W → Tz W) := fun W hf => hT.keep hf (by simp)
  have HAl : Hid (∀ W, Fr [] w W → Calls Tryd.prog 21 #[] W fun e w' => e = .returned (.bool true) ∧ Fr [] w w') := fun W hf => (alive12_any W (hT.keep hf (by simp))).mono (fun e w' h => ⟨h.1, hf.then h.2⟩)
  have HA : Hid (BArg w ao L cap xs) := hA
  have HB : Hid (BArg w bo M cb ys) := hB
  have hLm := hA.most
  have hMm := hB.most
  clear hT hA hB
  by_cases hb1 : 60 < L
  · go_enter Tryd.func5, Tryd.ntmps5
    go_wp2_with fail
    refine Calls.mono (HAl.out _ (Fr.refl _ _)) ?_
    rintro e w1 ⟨rfl, hF1⟩
    go_wp2_with fail
    refine Calls.mono (HAl.out _ hF1) ?_
    rintro e w2 ⟨rfl, hF2⟩
    go_wp2
    go_ret
    exact ⟨rfl, hF2⟩
  by_cases hb2 : 300 < M
  · go_enter Tryd.func5, Tryd.ntmps5
    go_wp2_with fail
    refine Calls.mono (HAl.out _ (Fr.refl _ _)) ?_
    rintro e w1 ⟨rfl, hF1⟩
    go_wp2_with fail
    refine Calls.mono (HAl.out _ hF1) ?_
    rintro e w2 ⟨rfl, hF2⟩
    go_wp2
    go_ret
    exact ⟨rfl, hF2⟩
  have hL : L ≤ 60 := by omega
  have hM : M ≤ 300 := by omega
  clear hb1 hb2 hLm hMm
  go_enter Tryd.func5, Tryd.ntmps5
  go_wp2_with fail
  refine Calls.mono (HAl.out _ (Fr.refl _ _)) ?_
  rintro e w1 ⟨rfl, hF1⟩
  have HF1 : Hid (Fr [] w w1) := hF1
  have q1 : decide ((60 : Int) < (L : Int)) = false := by simp; omega
  have q2 : decide ((300 : Int) < (M : Int)) = false := by simp; omega
  clear hF1 HAl
  go_wp2_with fail
  clear q1 q2
  go_loopw [7, 8, 9] (fun ll zz ii wr => ∃ (i N : Nat) (z : Int) (so : Option Addr) (sc : Nat) (zs : List Int), ll = .slice so N sc ∧ zz = .int .i64 z ∧ ii = .int .i64 i ∧ i ≤ L ∧ N ≤ i ∧ (m : Int) + 1 ≤ z ∧ z ≤ (m : Int) + 1 + 4 * i ∧ Hid (IOw w.heap.size wr so N sc zs) ∧ Hid (Upw m z zs) ∧ Hid (Fr [] w wr)) (fun _ _ ii _ => L - (RowKit.intOf ii).toNat)
  case atStart => exact ⟨0, 0, (m : Int) + 1, none, 0, [], rfl, rfl, rfl, Nat.zero_le _, Nat.le_refl _, by omega, by omega, IOw.nil _ _, ⟨List.Pairwise.nil, by simp, Or.inl ⟨rfl, rfl⟩⟩, HF1⟩
  case round =>
    obtain ⟨i, N, z, so, sc, zs, rfl, rfl, rfl, hi1, hNi, hz1, hz2, HO, HU, HF⟩ := hrel
    by_cases hi : i < L
    · obtain ⟨b, off, rfl, hbl, hat⟩ := HA.out.lies (by omega)
      obtain ⟨x, hx⟩ : ∃ x : Nat, x = xs.getD i 0 := ⟨_, rfl⟩
      have c0 : wr.cell? ⟨b, off + i, none⟩ = some (.int .u8 (x : Int)) := by rw [hx]; exact (World.cell?_of_block (HF.out.block b hbl (by simp))).trans (hat i hi)
      have hx256 : x < 256 := by rw [hx]; exact HA.out.low _ (by have := HA.out.len; simp [List.getD]; rw [List.getElem?_eq_getElem (by omega)]; simp)
      clear hat hx
      obtain ⟨y, hy⟩ : ∃ y : Int, y = z + 1 + ((x : Int) % 4) := ⟨_, rfl⟩
      have hyy : z + 1 + ((x : Int) % 4) = y := hy.symm
      have hyy2 : z + 1 + ((x % 4 : Nat) : Int) = y := by omega
      have hy1 : z < y := by omega
      have hy2 : y ≤ (m : Int) + 1 + 4 * ((i + 1 : Nat) : Int) := by omega
      have HU2 : Hid (Upw m y (zs ++ [y])) := HU.out.snoc hz1 hy1
      have HO2 : Hid (∀ W, Fr [] wr W → IOw w.heap.size W so N sc zs) := fun W hf => HO.out.keep hf
      have HB2 : Hid (∀ W W', Fr [] wr W → Fr (Value.slice so N sc).ownBlock.toList W W' → Fr [] w W') := fun W W' h1 h2 => HO.out.on (Nat.le_refl _) HF.out h1 h2
      have hsz := HF.out.size
      clear hy HO HU
      go_wp2_with (at_builtin; refine wpList_appI w.heap.size _ rfl (.tmp 51) (.tmp 53) rfl so N sc _ rfl (HO2.out _ (Fr.alloc [] _ _)) ⟨wr.heap.size, 0, none⟩ 1 y rfl ?c1 ?c2 ?c3 ?_)
      case c1 => exact cell_new1 _ _ _
      case c2 => omega
      case c3 => simp; omega
      intro o' c' w6 hO6 hF6 hm6
      have HO6 : Hid (IOw w.heap.size w6 o' (N + 1) c' (zs ++ [y])) := hO6
      have HF6 : Hid (Fr [] w w6) := HB2.out _ _ (Fr.alloc [] _ _) hF6
      clear hO6 hF6 hm6 HO2 HF HB2 hyy hyy2
      go_wp2
      go_roundw
      case rel => exact ⟨i + 1, N + 1, y, o', c', _, rfl, rfl, by simp, by omega, by omega, by omega, by omega, HO6, HU2, HF6⟩
      case measure => simp [RowKit.intOf]; omega
    · have hz3 : z ≤ 66000 := by omega
      have hr := HO.out.rs (by omega)
      have hlen := HO.out.len
      by_cases hzz : 65536 < z
      · have HN : Hid (Calls _ _ _ _ _) := gg_new_no (m : Int) so N sc zs wr hr hlen (HU.out.no (by omega) hzz)
        clear hr hlen
        go_wp2_with fail
        refine Calls.mono HN.out ?_
        rintro e w2 ⟨rfl, hF2⟩
        go_wp2
        go_ret
        exact ⟨rfl, HF.out.then hF2⟩
      · have HN : Hid (Calls _ _ _ _ _) := gg_new (m : Int) so N sc zs wr hr hlen (HU.out.ok (by omega) (by omega) (by omega))
        clear hr hlen
        go_wp2_with fail
        refine Calls.mono HN.out ?_
        rintro e w2 ⟨g, rfl, hg, hG2, hF2⟩
        have hgw : w.heap.size ≤ g := by have := HF.out.size; omega
        have HF2 : Hid (Fr [] w w2) := HF.out.then hF2
        have HG2 : Hid (GG w2 g (m : Int) zs) := hG2
        clear HN hG2 hF2 HF HO HU hg HF1
        go_wp2_with fail
        go_loopw [12] (fun ii wr => ∃ (i : Nat) (k : Int) (us : List Int), ii = .int .i64 i ∧ i ≤ M ∧ Hid (GG wr g k us) ∧ Hid (Fr [] w wr)) (fun ii _ => M - (RowKit.intOf ii).toNat)
        case atStart => exact ⟨0, (m : Int), zs, rfl, Nat.zero_le _, HG2, HF2⟩
        case round =>
          clear HG2 HF2
          obtain ⟨j, k, us, rfl, hj1, HG, HF⟩ := hrel
          by_cases hj : j < M
          · have hk0 := HG.out.ok.1.low
            have hk1 := HG.out.ok.1.top
            obtain ⟨b, off, rfl, hbl, hat⟩ := HB.out.lies (by omega)
            obtain ⟨x, hx⟩ : ∃ x : Nat, x = ys.getD j 0 := ⟨_, rfl⟩
            have HX : Hid (∀ W, Fr [] w W → W.cell? ⟨b, off + j, none⟩ = some (.int .u8 (x : Int))) := fun W hf => by rw [hx]; exact (World.cell?_of_block (hf.block b hbl (by simp))).trans (hat j hj)
            have hx256 : x < 256 := by rw [hx]; exact HB.out.low _ (by have := HB.out.len; simp [List.getD]; rw [List.getElem?_eq_getElem (by omega)]; simp)
            clear hat hx
            go_wp2_with fail
            refine Calls.mono (gg_mark HG.out) ?_
            rintro e w3 ⟨rfl, hF3⟩
            have hG3 := HG.out.keep hF3 (by simp)
            have HBy : Hid (Calls _ _ _ _ _) := gg_beyond hG3 (HTz.out _ (HF.out.then hF3))
            clear hG3
            go_wp2_with fail
            refine Calls.mono HBy.out ?_
            rintro e w4 ⟨o4, N4, c4, rfl, hO4, hF4⟩
            have hF4 := hF3.then hF4
            have hN4 := hO4.len
            have HN4 : Hid (Calls _ _ _ _ _) := gg_new k o4 N4 c4 us w4 (hO4.rs (by rw [hN4]; have := HG.out.ok.1.few; omega)) hN4 HG.out.ok
            clear hO4 hN4 HBy hF3
            go_wp2_with fail
            refine Calls.mono HN4.out ?_
            rintro e w5 ⟨h, rfl, hh, hH5, hF5⟩
            have hF5 := hF4.then hF5
            have HG5 : Hid (GG w5 g k us) := HG.out.keep hF5 (by simp)
            have HH5 : Hid (GG w5 h k us) := hH5
            have HF5 : Hid (Fr [] w w5) := HF.out.then hF5
            have hgh : g ≠ h := by have := (HG.out.keep hF4 (by simp)).lt; omega
            have hhw : w.heap.size ≤ h := by have := hF4.size; have := HF.out.size; omega
            have c0 := HX.out _ HF5.out
            obtain ⟨n, hn⟩ : ∃ n : Int, n = k + ((x : Int) % 12) := ⟨_, rfl⟩
            have hnn : k + ((x : Int) % 12) = n := hn.symm
            have hnn2 : k + ((x % 12 : Nat) : Int) = n := by omega
            obtain ⟨up, er, k2, us2, hd⟩ := DoT.ex k us n HG.out.ok
            have HD : Hid (DoT k us n up er k2 us2) := hd
            have HO1 : Hid (Gok k us) := HG.out.ok
            have HMq : Hid (∀ q, Calls Tryd.prog 19 #[.pointer (some ⟨g, 0, none⟩)] (w5.drewN q) fun e w' => e = .returned (.int .i64 k) ∧ w' = w5.drewN q) := fun q => gg_markq HG5.out q
            clear HN4 hF4 hF5 hH5 HG HF hn hd HX
            go_wp2_with fail
            go_quiet ((go_at_call 19; exact Calls.quiet_of_same (HMq.out _)))
            have hF6 : Fr [] w5 (w5.drewN nq) := Fr.drewN _ _ _
            have HG6 : Hid (GG (w5.drewN nq) g k us) := HG5.out.keep hF6 (by simp)
            have HH6 : Hid (GG (w5.drewN nq) h k us) := HH5.out.keep hF6 (by simp)
            have HF6 : Hid (Fr [] w (w5.drewN nq)) := HF5.out.then hF6
            obtain ⟨w6, hw6⟩ : ∃ w6, w6 = w5.drewN nq := ⟨_, rfl⟩
            rw [← hw6] at HG6 HH6 HF6 ⊢
            clear hw6 HG5 HH5 HF5 hF6 c0 HMq
            have HD1 : Hid (Calls _ _ _ _ _) := gg_done HG6.out HD.out
            go_wp2_with fail
            refine Calls.mono HD1.out ?_
            rintro e w7 ⟨rfl, hG7, hF7⟩
            have HD2 : Hid (Calls _ _ _ _ _) := gg_done (HH6.out.keep hF7 (by simpa using fun e => hgh e.symm)) HD.out
            have HG7 : Hid (GG w7 g k2 us2) := hG7
            have HF7 : Hid (Fr [] w w7) := HF6.out.on hF7 (by simpa using hgw)
            clear hG7 hF7 HD1 HG6 HH6 HF6 hnn hnn2
            go_wp2_with fail
            refine Calls.mono HD2.out ?_
            rintro e w8 ⟨rfl, hH8, hF8⟩
            have HG8 : Hid (∀ W, Fr [] w8 W → GG W g k2 us2) := fun W hf => (HG7.out.keep hF8 (by simpa using hgh)).keep hf (by simp)
            have HH8 : Hid (∀ W, Fr [] w8 W → GG W h k2 us2) := fun W hf => hH8.keep hf (by simp)
            have HF8 : Hid (Fr [] w w8) := HF7.out.on hF8 (by simpa using hhw)
            have hus : us2.length ≤ 65536 := HD.out.ok.1.few
            have HUs : Hid (us2.length ≤ 65536) := hus
            have q1 : (up != up) = false := by simp
            have q2 : (er != er) = false := by simp
            have q3 : (k2 != k2) = false := by simp
            clear hH8 hF8 HD2 HG7 HF7 hus
            go_wp2_with fail
            refine Calls.mono (gg_mark (HG8.out _ (Fr.refl _ _))) ?_
            rintro e w9 ⟨rfl, hF9⟩
            go_wp2_with fail
            refine Calls.mono (gg_mark (HH8.out _ hF9)) ?_
            rintro e x1 ⟨rfl, hX1⟩
            have hX1 := hF9.then hX1
            go_wp2_with fail
            refine Calls.mono (gg_beyond (HG8.out _ hX1) (HTz.out _ (HF8.out.then hX1))) ?_
            rintro e x2 ⟨o2, N2, c2, rfl, hO2, hX2⟩
            have hX2 := hX1.then hX2
            go_wp2_with fail
            refine Calls.mono (gg_beyond (HH8.out _ hX2) (HTz.out _ (HF8.out.then hX2))) ?_
            rintro e x3 ⟨o3, N3, c3, rfl, hO3, hX3⟩
            have e2 := hO2.len
            have e3 := hO3.len
            obtain rfl : N3 = N2 := by omega
            have HS : Hid (Calls _ _ _ _ _) := same12 o2 o3 N3 c2 c3 us2 x3 ((hO2.rs (by have := HUs.out; omega)).keep hX3) (hO3.rs (by have := HUs.out; omega)) e2 (by have := HUs.out; omega)
            have hX3 := hX2.then hX3
            clear hO2 hO3 e2 e3 hX1 hX2 hF9
            go_wp2_with fail
            refine Calls.mono HS.out ?_
            rintro e x4 ⟨rfl, hX4⟩
            have hX4 := hX3.then hX4
            have HG9 := HG8.out _ hX4
            have HF9 : Hid (Fr [] w x4) := HF8.out.then hX4
            have her : er = 0 ∨ er = 1 := by
              rcases HD.out.or with ⟨_, _, h, _⟩ | ⟨_, _, h, _⟩
              · exact Or.inr h
              · exact Or.inl h
            rcases her with rfl | rfl
            · have hth := (HD.out.there HO1.out).2.2 n
              have hn1 : 1 ≤ n := by
                rcases HD.out.or with ⟨_, _, h, _⟩ | ⟨h, _⟩
                · cases h
                · exact h.1
              have HHa : Hid (Calls _ _ _ _ _) := gg_has HG9 n true ⟨fun _ => ⟨hn1, hth.2 (Or.inl rfl)⟩, fun _ => rfl⟩
              have HG9 : Hid (GG x4 g k2 us2) := HG9
              clear hth hn1 hX3 hX4 HG8 HH8 HF8 HS HD
              go_wp2_with fail
              refine Calls.mono HHa.out ?_
              rintro e x5 ⟨rfl, hX5⟩
              have HG10 : Hid (GG x5 g k2 us2) := HG9.out.keep hX5 (by simp)
              have HF10 : Hid (Fr [] w x5) := HF9.out.then hX5
              clear hX5 HF9 HG9 HHa
              go_wp2
              go_roundw
              case rel => exact ⟨j + 1, k2, us2, by simp, by omega, HG10, HF10⟩
              case measure => simp [RowKit.intOf]; omega
            · have HG9 : Hid (GG x4 g k2 us2) := HG9
              clear hX3 hX4 HG8 HH8 HF8 HS HD
              go_wp2
              go_roundw
              case rel => exact ⟨j + 1, k2, us2, by simp, by omega, HG9, HF9⟩
              case measure => simp [RowKit.intOf]; omega
          · go_wp2
            go_ret
            exact ⟨rfl, HF.out⟩
end Go.Proofs.YtleklocdejldnaaDoor
