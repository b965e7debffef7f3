/- Texts of this claim laid together, one behind the other: contracts and plain lemmas; conditions as each names them. -/
import Derived.Test.YtdcmjoildfofcaaGreatDoorGp24
/- The document's table: contracts of place, last, Waits, Last, Open, New, and of all calls of none. Conditions as each names them. -/
namespace Go.Proofs.YtdcmjoildfofcaaGreatDoor
open Go.ChangeShapes Go.WideShapes Go.ChangeAt Go.RowKit Go.Lib Go.Maps
set_option linter.unusedVariables false
set_option linter.unusedSimpArgs false

theorem unew_any (w : World) : Calls Tryz.prog 6 #[] w fun e w' => ∃ g, e = .returned (.pointer (some ⟨g, 0, none⟩)) ∧ w.heap.size ≤ g ∧ Rt w' g [] none 0 0 [] ∧ Fr [] w w' := by
  go_enter Tryz.func6, Tryz.ntmps6
  go_wp2
  go_ret
  refine ⟨w.heap.size, rfl, Nat.le_refl _, ⟨heap_alloc_new w _, by simp, World.ownsRow_nil _ _ _ _, rfl, fun k hk => by simp [Value.ownBlock] at hk, by simp, by simp, by omega⟩, Fr.alloc _ _ _⟩
theorem bytes_inj11 {a b : ByteArray} (h : a.data.toList = b.data.toList) : a = b := by
  cases a
  cases b
  simp at h
  simp [h]
theorem tl_inj11 (a b : ByteArray) : a.toList = b.toList ↔ a = b := by
  rw [ByteArray.toList_eq, ByteArray.toList_eq]
  constructor
  · intro h
    exact bytes_inj11 h
  · rintro rfl
    rfl
section
variable {g n c : Nat} {OB : List Nat} {lo : Option Addr} {rs : List Ro}
/-- The place of an open one. -/
def isAt (rs : List Ro) (m : Int) (k : Nat) : Prop := (rs.getD k Ro.zero).num = m ∧ (rs.getD k Ro.zero).en = false
set_option maxHeartbeats 4000000 in
theorem uplace_any (m : Int) (w : World) (h : Rt w g OB lo n c rs) :
    Calls Tryz.prog 69 #[.pointer (some ⟨g, 0, none⟩), .int .i64 m] w fun e w' => ((∃ k : Nat, e = .returned (.int .i64 (k : Int)) ∧ k < n ∧ isAt rs m k) ∨ (e = .returned (.int .i64 (-1)) ∧ ∀ k, k < n → ¬ isAt rs m k)) ∧ Fr [] w w' := by
  have HR : Hid (∀ W, Fr [] w W → Rt W g OB lo n c rs) := fun W hf => h.quiet hf
  have hn := h.few
  clear h
  go_enter Tryz.func69, Tryz.ntmps69
  go_wp2_with fail
  go_loopw [5] (fun ii wr => ∃ i : Nat, ii = .int .i64 i ∧ i ≤ n ∧ Hid (∀ k, k < i → ¬ isAt rs m k) ∧ Hid (Fr [] w wr)) (fun ii _ => n - (RowKit.intOf ii).toNat)
  case atStart => exact ⟨0, rfl, Nat.zero_le _, (fun k hk => absurd hk (Nat.not_lt_zero _) : ∀ k, k < 0 → ¬ isAt rs m k), Fr.refl _ _⟩
  case round =>
    obtain ⟨i, rfl, hi1, HI, HF⟩ := hrel
    have hR := HR.out _ HF.out
    have c0 := hR.c0
    by_cases hi : i < n
    · obtain ⟨b, rfl, _, _⟩ := hR.lies (by omega)
      obtain ⟨d0, d1, d2, d3⟩ := hR.cells rfl i hi
      have HA : Hid (isAt rs m i ↔ (rs.getD i Ro.zero).num = m ∧ (rs.getD i Ro.zero).en = false) := Iff.rfl
      obtain ⟨x, hx⟩ : ∃ x, x = (rs.getD i Ro.zero).num := ⟨_, rfl⟩
      obtain ⟨ee, hee⟩ : ∃ ee, ee = (rs.getD i Ro.zero).en := ⟨_, rfl⟩
      rw [← hx] at d0 HA
      rw [← hee] at d3 HA
      clear hx hee hR d1 d2
      have HI2 : ¬ (x = m ∧ ee = false) → Hid (∀ k, k < i + 1 → ¬ isAt rs m k) := fun hne k hk hat => by
        by_cases e : k = i
        · subst e; exact hne (HA.out.1 hat)
        · exact HI.out k (by omega) hat
      by_cases he : x = m
      · have hxe : (x == m) = true := by simpa using he
        cases ee with
        | false =>
          have HAt : Hid (isAt rs m i) := HA.out.2 ⟨he, rfl⟩
          clear HI2 he
          go_wp2
          go_ret
          exact ⟨Or.inl ⟨i, rfl, hi, HAt.out⟩, HF.out⟩
        | true =>
          have HI3 := HI2 (fun hc => by cases hc.2)
          clear HI2 he
          go_wp2
          go_roundw
          case rel => exact ⟨i + 1, by simp, by omega, HI3, HF⟩
          case measure => simp [RowKit.intOf]; omega
      · have hxe : (x == m) = false := by simpa using he
        have HI3 := HI2 (fun hc => he hc.1)
        clear HI2 he
        go_wp2
        go_roundw
        case rel => exact ⟨i + 1, by simp, by omega, HI3, HF⟩
        case measure => simp [RowKit.intOf]; omega
    · clear hR
      go_wp2
      go_ret
      exact ⟨Or.inr ⟨rfl, fun k hk => HI.out k (by omega)⟩, HF.out⟩
theorem keysW_mem {ws : List Wt} {key : ByteArray} : key ∈ keysW ws ↔ ∃ j, j < ws.length ∧ (ws.getD j Wt.zero).key = key := by
  unfold keysW
  rw [List.mem_map]
  constructor
  · rintro ⟨x, hx, rfl⟩
    obtain ⟨j, hj, e⟩ := List.getElem_of_mem hx
    exact ⟨j, hj, by simp [List.getD, hj, e]⟩
  · rintro ⟨j, hj, rfl⟩
    exact ⟨ws[j], List.getElem_mem _, by simp [List.getD, hj]⟩
set_option maxHeartbeats 8000000 in
set_option maxRecDepth 100000 in
theorem ulast_any (key : ByteArray) (w : World) (h : Rt w g OB lo n c rs) (hk : key.size ≤ 140737488355328) :
    Calls Tryz.prog 64 #[.pointer (some ⟨g, 0, none⟩), .string key] w fun e w' => ((∃ k : Nat, e = .returned (.int .i64 (k : Int)) ∧ k < n ∧ key ∈ keysW (rs.getD k Ro.zero).ws ∧ ∀ j, k < j → j < n → key ∉ keysW (rs.getD j Ro.zero).ws) ∨ (e = .returned (.int .i64 (-1)) ∧ ∀ k, k < n → key ∉ keysW (rs.getD k Ro.zero).ws)) ∧ Fr [] w w' := by
  have HR : Hid (∀ W, Fr [] w W → Rt W g OB lo n c rs) := fun W hf => h.quiet hf
  have HL : Hid (n = rs.length) := h.len
  have hn := h.few
  have c0 := h.c0
  clear h
  go_enter Tryz.func64, Tryz.ntmps64
  go_wp2_with fail
  clear c0
  go_loopg [5] n (fun gk ii wr => ∃ i : Nat, gk = i ∧ ii = .int .i64 ((i : Int) - 1) ∧ i ≤ n ∧ Hid (∀ j, i ≤ j → j < n → key ∉ keysW (rs.getD j Ro.zero).ws) ∧ Hid (Fr [] w wr))
  case atStart => exact ⟨n, rfl, rfl, Nat.le_refl _, (fun j h1 h2 => by omega : ∀ j, n ≤ j → j < n → key ∉ keysW (rs.getD j Ro.zero).ws), Fr.refl _ _⟩
  case round =>
    obtain ⟨i, hgk, rfl, hi1, HI, HF⟩ := hrel
    have HGk : Hid (gk = i) := hgk
    clear hgk
    cases i with
    | zero =>
      have hz : ¬ (0 : Int) ≤ ((0 : Nat) : Int) - 1 := by omega
      go_wp2
      go_ret
      exact ⟨Or.inr ⟨rfl, fun k hk => HI.out k (Nat.zero_le _) hk⟩, HF.out⟩
    | succ i =>
      have hiv : ((i + 1 : Nat) : Int) - 1 = (i : Int) := by omega
      rw [hiv]
      have hR := HR.out _ HF.out
      obtain ⟨b, rfl, _, _⟩ := hR.lies (by omega)
      have hil : i < rs.length := by rw [← HL.out]; omega
      have hE := hR.each _ (ro_mem hil)
      have hwl := hE.wl
      have hwok := hE.ok.2.2.1
      have HE : Hid (∀ W, Fr [] w W → W.cell? ⟨g, 0, none⟩ = some (.slice (some ⟨b, 0, none⟩) n c) ∧ W.cell? ⟨b, i * 4 + 1, none⟩ = some (.slice (rs.getD i Ro.zero).wo (rs.getD i Ro.zero).wn (rs.getD i Ro.zero).wc) ∧ WRs W (rs.getD i Ro.zero).wo (rs.getD i Ro.zero).ws) := fun W hf => by
        have h2 := HR.out _ hf
        exact ⟨h2.c0, (h2.cells rfl i (by omega)).2.1, (h2.each _ (ro_mem hil)).wr⟩
      obtain ⟨r, hr⟩ : ∃ r, r = rs.getD i Ro.zero := ⟨_, rfl⟩
      have HRr : Hid (r = rs.getD i Ro.zero) := hr
      rw [← hr] at hwl hwok HE
      clear hr hE hR
      obtain ⟨num, wo, wn, wc, ws, ao, an, ac, xs, en⟩ := r
      simp only at hwl hwok HE
      have HWl : Hid (wn = ws.length) := hwl
      have hwn : wn ≤ 32 := by omega
      have hi0 : (0 : Int) ≤ (i : Int) := by omega
      have hdd : decide ((0 : Int) ≤ (i : Int)) = true := by simp
      clear hwl hwok
      obtain ⟨wo1, hwo1⟩ : ∃ wo1, wo1 = wr := ⟨_, rfl⟩
      rw [← hwo1] at HF ⊢
      clear hwo1
      go_wp2_with fail
      clear hdd
      go_loopw [6] (fun jj wr => ∃ j : Nat, jj = .int .i64 j ∧ j ≤ wn ∧ Hid (∀ k, k < j → (ws.getD k Wt.zero).key ≠ key) ∧ Hid (Fr [] w wr)) (fun jj _ => wn - (RowKit.intOf jj).toNat)
      case atStart => exact ⟨0, rfl, Nat.zero_le _, (fun k hk => absurd hk (Nat.not_lt_zero _) : ∀ k, k < 0 → (ws.getD k Wt.zero).key ≠ key), HF⟩
      case round =>
        clear HF
        obtain ⟨j, rfl, hj1, HJ, HF⟩ := hrel
        obtain ⟨d0, d1, hw⟩ := HE.out _ HF.out
        by_cases hj : j < wn
        · have hjl : j < ws.length := by rw [← HWl.out]; exact hj
          obtain ⟨wb, wof, rfl, _, hwc⟩ := hw.lies (by omega)
          have hk0 := (hwc j hjl).1
          have hks := (hw.each _ (by simp [List.getD, hjl] : ws.getD j Wt.zero ∈ ws)).1
          obtain ⟨kk, hkk⟩ : ∃ kk, kk = (ws.getD j Wt.zero).key := ⟨_, rfl⟩
          rw [← hkk] at hk0 hks
          clear hwc hw
          by_cases he : kk = key
          · have hke : (kk.toList == key.toList) = true := by rw [he]; simp
            have HM : Hid (key ∈ keysW (rs.getD i Ro.zero).ws) := by
              rw [Hid, ← HRr.out]
              exact keysW_mem.2 ⟨j, hjl, by rw [← hkk]; exact he⟩
            clear hkk he
            go_wp2
            go_ret
            exact ⟨Or.inl ⟨i, rfl, by omega, HM.out, fun q h1 h2 => HI.out q (by omega) h2⟩, HF.out⟩
          · have hke : (kk.toList == key.toList) = false := by rw [beq_eq_false_iff_ne]; exact fun h => he ((tl_inj11 _ _).1 h)
            have HJ2 : Hid (∀ k, k < j + 1 → (ws.getD k Wt.zero).key ≠ key) := fun k hk => by
              by_cases e : k = j
              · subst e; rw [← hkk]; exact he
              · exact HJ.out k (by omega)
            clear hkk he
            go_wp2
            go_roundw
            case rel => exact ⟨j + 1, by simp, by omega, HJ2, HF⟩
            case measure => simp [RowKit.intOf]; omega
        · have HI2 : Hid (∀ q, i ≤ q → q < n → key ∉ keysW (rs.getD q Ro.zero).ws) := fun q h1 h2 hm => by
            by_cases e : q = i
            · subst e
              rw [← HRr.out] at hm
              obtain ⟨k, hk, e2⟩ := keysW_mem.1 hm
              have hk' : k < ws.length := hk
              have hwl := HWl.out
              exact HJ.out k (by omega) e2
            · exact HI.out q (by omega) h2 hm
          clear hw
          go_wp2_with fail
          go_roundg i
          case measure => have := HGk.out; omega
          case rel => exact ⟨i, rfl, rfl, by omega, HI2, HF⟩
set_option maxHeartbeats 2000000 in
theorem uLast_any {L : Lg} {en : Int → Prop} (key : ByteArray) (w : World) (h : Rt w g OB lo n c rs) (hl : Rel rs L en) (hk : key.size ≤ 140737488355328) :
    Calls Tryz.prog 22 #[.pointer (some ⟨g, 0, none⟩), .string key] w fun e w' => e = .returned (.int .i64 (lst L key)) ∧ Fr [] w w' := by
  have HC : Hid (Calls _ _ _ _ _) := ulast_any key w h hk
  have HR : Hid (∀ W, Fr [] w W → Rt W g OB lo n c rs) := fun W hf => h.quiet hf
  have HL : Hid (n = rs.length) := h.len
  have HRl : Hid (Rel rs L en) := hl
  clear h hl
  go_enter Tryz.func22, Tryz.ntmps22
  go_wp2_with fail
  refine Calls.mono HC.out ?_
  rintro e w1 ⟨⟨k, rfl, hkn, hk1, hk2⟩ | ⟨rfl, hno⟩, hF⟩
  · have hR := HR.out _ hF
    have c0 := hR.c0
    obtain ⟨b, rfl, _, _⟩ := hR.lies (by omega)
    have d0 := (hR.cells rfl k hkn).1
    have HE : Hid (lst L key = (rs.getD k Ro.zero).num) := HRl.out.last key (by rw [← HL.out]; exact hkn) hk1 (fun j h1 h2 => hk2 j h1 (by rw [HL.out]; exact h2))
    obtain ⟨x, hx⟩ : ∃ x, x = (rs.getD k Ro.zero).num := ⟨_, rfl⟩
    rw [← hx] at d0 HE
    clear hx hR hk1 hk2 hk
    go_wp2
    go_ret
    exact ⟨by rw [HE.out]; rfl, hF⟩
  · have HE : Hid (lst L key = 0) := HRl.out.last0 key (fun j hj => hno j (by rw [HL.out]; exact hj))
    clear hno
    go_wp2
    go_ret
    exact ⟨by rw [HE.out]; rfl, hF⟩
set_option maxHeartbeats 2000000 in
theorem uWaits_any (m : Int) (w : World) (h : Rt w g OB lo n c rs) {k : Nat} (hk : k < n) (hat : isAt rs m k) (huni : ∀ j, j < n → isAt rs m j → j = k) :
    Calls Tryz.prog 20 #[.pointer (some ⟨g, 0, none⟩), .int .i64 m] w fun e w' => e = .returned (.tuple #[.slice (rs.getD k Ro.zero).ao (rs.getD k Ro.zero).an (rs.getD k Ro.zero).ac, .int .i64 0]) ∧ Fr [] w w' := by
  have HC : Hid (Calls _ _ _ _ _) := uplace_any m w h
  have HR : Hid (∀ W, Fr [] w W → Rt W g OB lo n c rs) := fun W hf => h.quiet hf
  have hn := h.few
  clear h
  go_enter Tryz.func20, Tryz.ntmps20
  go_wp2_with fail
  refine Calls.mono HC.out ?_
  rintro e w1 ⟨⟨j, rfl, hjn, hj⟩ | ⟨rfl, hno⟩, hF⟩
  · obtain rfl : j = k := huni j hjn hj
    have hR := HR.out _ hF
    have c0 := hR.c0
    obtain ⟨b, rfl, _, _⟩ := hR.lies (by omega)
    have d2 := (hR.cells rfl j hjn).2.2.1
    obtain ⟨ao, hao⟩ : ∃ ao, ao = (rs.getD j Ro.zero).ao := ⟨_, rfl⟩
    obtain ⟨an, han⟩ : ∃ an, an = (rs.getD j Ro.zero).an := ⟨_, rfl⟩
    obtain ⟨ac, hac⟩ : ∃ ac, ac = (rs.getD j Ro.zero).ac := ⟨_, rfl⟩
    rw [← hao, ← han, ← hac] at d2
    have HE : Hid (ao = (rs.getD j Ro.zero).ao ∧ an = (rs.getD j Ro.zero).an ∧ ac = (rs.getD j Ro.zero).ac) := ⟨hao, han, hac⟩
    clear hao han hac hR hj hat huni
    go_wp2
    refine bodyPost_ret (results_tmp2 rfl _ _ _) rfl ?_
    rw [← HE.out.1, ← HE.out.2.1, ← HE.out.2.2]
    exact ⟨rfl, hF⟩
  · exact absurd hat (hno k hk)
theorem uWaits_no (m : Int) (w : World) (h : Rt w g OB lo n c rs) (hno : ∀ k, k < n → ¬ isAt rs m k) :
    Calls Tryz.prog 20 #[.pointer (some ⟨g, 0, none⟩), .int .i64 m] w fun e w' => e = .returned (.tuple #[.slice none 0 0, .int .i64 1]) ∧ Fr [] w w' := by
  have HC : Hid (Calls _ _ _ _ _) := uplace_any m w h
  clear h
  go_enter Tryz.func20, Tryz.ntmps20
  go_wp2_with fail
  refine Calls.mono HC.out ?_
  rintro e w1 ⟨⟨j, rfl, hjn, hj⟩ | ⟨rfl, _⟩, hF⟩
  · exact absurd hj (hno j hjn)
  · clear hno
    go_wp2
    refine bodyPost_ret (results_tmp2 rfl _ _ _) rfl ?_
    exact ⟨rfl, hF⟩
/-- Those that are open, in their order. -/
def opens (rs : List Ro) : List Int := (rs.filter fun r => !r.en).map Ro.num
theorem opens_snoc (rs : List Ro) (i : Nat) (h : i < rs.length) : opens (rs.take (i + 1)) = if (rs.getD i Ro.zero).en then opens (rs.take i) else opens (rs.take i) ++ [(rs.getD i Ro.zero).num] := by
  have e : rs.take (i + 1) = rs.take i ++ [rs.getD i Ro.zero] := by rw [List.take_add_one]; simp [List.getD, h]
  rw [e]
  unfold opens
  rw [List.filter_append, List.map_append]
  obtain ⟨r, hr⟩ : ∃ r, r = rs.getD i Ro.zero := ⟨_, rfl⟩
  rw [← hr]
  cases he : r.en <;> simp [he]
set_option maxHeartbeats 4000000 in
set_option maxRecDepth 100000 in
theorem uOpen_any (w : World) (h : Rt w g OB lo n c rs) :
    Calls Tryz.prog 24 #[.pointer (some ⟨g, 0, none⟩)] w fun e w' => ∃ so N sc, e = .returned (.slice so N sc) ∧ IOw w.heap.size w' so N sc (opens rs) ∧ Fr [] w w' := by
  have HR : Hid (∀ W, Fr [] w W → Rt W g OB lo n c rs) := fun W hf => h.quiet hf
  have HL : Hid (n = rs.length) := h.len
  have hn := h.few
  clear h
  go_enter Tryz.func24, Tryz.ntmps24
  go_wp2_with fail
  go_loopw [3, 4] (fun ll ii wr => ∃ (i N : Nat) (so : Option Addr) (sc : Nat), ll = .slice so N sc ∧ ii = .int .i64 i ∧ i ≤ n ∧ N ≤ i ∧ Hid (IOw w.heap.size wr so N sc (opens (rs.take i))) ∧ Hid (Fr [] w wr)) (fun _ ii _ => n - (RowKit.intOf ii).toNat)
  case atStart => exact ⟨0, 0, none, 0, rfl, rfl, Nat.zero_le _, Nat.le_refl _, IOw.nil _ _, Fr.refl _ _⟩
  case round =>
    obtain ⟨i, N, so, sc, rfl, rfl, hi1, hN, HO, HF⟩ := hrel
    have hR := HR.out _ HF.out
    have c0 := hR.c0
    by_cases hi : i < n
    · obtain ⟨b, rfl, _, _⟩ := hR.lies (by omega)
      obtain ⟨d0, _, _, d3⟩ := hR.cells rfl i hi
      have HS := opens_snoc rs i (by rw [← HL.out]; exact hi)
      obtain ⟨x, hx⟩ : ∃ x, x = (rs.getD i Ro.zero).num := ⟨_, rfl⟩
      obtain ⟨ee, hee⟩ : ∃ ee, ee = (rs.getD i Ro.zero).en := ⟨_, rfl⟩
      rw [← hx] at d0 HS
      rw [← hee] at d3 HS
      clear hx hee hR
      cases ee with
      | true =>
        have HS : Hid (opens (rs.take (i + 1)) = opens (rs.take i)) := HS
        go_wp2
        go_roundw
        case rel => exact ⟨i + 1, N, so, sc, rfl, by simp, by omega, by omega, (by show IOw _ _ _ _ _ _; rw [HS.out]; exact HO.out), HF⟩
        case measure => simp [RowKit.intOf]; omega
      | false =>
        have HS : Hid (opens (rs.take (i + 1)) = opens (rs.take i) ++ [x]) := HS
        have HO2 : Hid (∀ W, Fr [] wr W → IOw w.heap.size W so N sc (opens (rs.take i))) := fun W hf => HO.out.keep hf
        have HB2 : Hid (∀ W W', Fr [] wr W → Fr (Value.slice so N sc).ownBlock.toList W W' → Fr [] w W') := fun W W' h1 h2 => HO.out.on (Nat.le_refl _) HF.out h1 h2
        have hsz := HF.out.size
        go_wp2_with (at_builtin; refine wpList_appI w.heap.size _ rfl (.tmp 25) (.tmp 34) rfl so N sc _ rfl (HO2.out _ (Fr.alloc [] _ _)) ⟨wr.heap.size, 0, none⟩ 1 x rfl (cell_new1 _ _ _) ?c2 ?c3 ?_)
        case c2 => omega
        case c3 => first | omega | (simp; omega)
        intro o' c' w6 hO6 hF6 hm6
        have HO6 : Hid (IOw w.heap.size w6 o' (N + 1) c' (opens (rs.take (i + 1)))) := by show IOw _ _ _ _ _ _; rw [HS.out]; exact hO6
        have HF6 : Hid (Fr [] w w6) := HB2.out _ _ (Fr.alloc [] _ _) hF6
        clear hO6 hF6 hm6 HO HO2 HF HB2 HS
        go_wp2
        go_roundw
        case rel => exact ⟨i + 1, N + 1, o', c', rfl, by simp, by omega, by omega, HO6, HF6⟩
        case measure => simp [RowKit.intOf]; omega
    · have HE : Hid (rs.take i = rs) := List.take_of_length_le (by rw [← HL.out]; omega)
      clear hR
      go_wp2
      go_ret
      exact ⟨so, N, sc, rfl, by have := HO.out; rwa [HE.out] at this, HF.out⟩
end
theorem uwaits_nil (m : Int) (w : World) : Calls Tryz.prog 20 #[.pointer none, .int .i64 m] w fun e w' => e = .returned (.tuple #[.slice none 0 0, .int .i64 2]) ∧ Fr [] w w' := by
  go_enter Tryz.func20, Tryz.ntmps20
  go_wp2
  refine bodyPost_ret (results_tmp2 rfl _ _ _) rfl ?_
  exact ⟨rfl, Fr.refl _ _⟩
theorem udone_nil (m : Int) (w : World) : Calls Tryz.prog 16 #[.pointer none, .int .i64 m] w fun e w' => e = .returned (.tuple #[.slice none 0 0, .int .i64 2]) ∧ Fr [] w w' := by
  go_enter Tryz.func16, Tryz.ntmps16
  go_wp2
  refine bodyPost_ret (results_tmp2 rfl _ _ _) rfl ?_
  exact ⟨rfl, Fr.refl _ _⟩
theorem uopen_nil (w : World) : Calls Tryz.prog 24 #[.pointer none] w fun e w' => e = .returned (.slice none 0 0) ∧ Fr [] w w' := by
  go_enter Tryz.func24, Tryz.ntmps24
  go_wp2
  go_ret
  exact ⟨rfl, Fr.refl _ _⟩
theorem ulast_nil (key : ByteArray) (w : World) : Calls Tryz.prog 22 #[.pointer none, .string key] w fun e w' => e = .returned (.int .i64 0) ∧ Fr [] w w' := by
  go_enter Tryz.func22, Tryz.ntmps22
  go_wp2
  go_ret
  exact ⟨rfl, Fr.refl _ _⟩
theorem uadd_nil (nn : Int) (wo : Option Addr) (M mc : Nat) (w : World) : Calls Tryz.prog 12 #[.pointer none, .agg #[.int .i64 nn, .slice wo M mc]] w fun e w' => e = .returned (.tuple #[.int .i64 0, .int .i64 2]) ∧ Fr [] w w' := by
  go_enter Tryz.func12, Tryz.ntmps12
  go_wp2
  refine bodyPost_ret (results_tmp2 rfl _ _ _) rfl ?_
  exact ⟨rfl, Fr.alloc _ _ _⟩
end Go.Proofs.YtdcmjoildfofcaaGreatDoor
