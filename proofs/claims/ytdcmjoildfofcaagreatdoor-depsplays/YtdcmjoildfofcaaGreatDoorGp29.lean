/- Texts of this claim laid together, one behind the other: contracts and plain lemmas; conditions as each names them. -/
import Derived.Test.YtdcmjoildfofcaaGreatDoorGp28
/- The document's table: Add, where it refuses by the order, and where it adds. Conditions as each names them. -/
namespace Go.Proofs.YtdcmjoildfofcaaGreatDoor
open Go.ChangeShapes Go.WideShapes Go.ChangeAt Go.RowKit Go.Lib Go.Maps
set_option linter.unusedVariables false
set_option linter.unusedSimpArgs false

section
variable {g n c : Nat} {OB : List Nat} {lo : Option Addr} {rs : List Ro} {L : Lg} {en : Int → Prop}
set_option maxHeartbeats 4000000 in
set_option maxRecDepth 100000 in
theorem uAdd_order (nn : Int) (wo : Option Addr) (M mc : Nat) (ws : List Wt) (w : World) (h : Rt w g OB lo n c rs) (hl : Rel rs L en) (hW : WRs w wo ws) (hM : M = ws.length) (hok : okT nn ws) (p : Int × List ByteArray) (hp : p ∈ L) (hle : nn ≤ p.1) :
    Calls Tryz.prog 12 #[.pointer (some ⟨g, 0, none⟩), .agg #[.int .i64 nn, .slice wo M mc]] w fun e w' => e = .returned (.tuple #[.int .i64 0, .int .i64 6]) ∧ Fr [] w w' := by
  have hF0 : Fr [] w (w.alloc (.cells #[.int .i64 nn, .slice wo M mc] 50)) := Fr.alloc _ _ _
  have HC : Hid (Calls _ _ _ _ _) := xCheck_any nn wo M mc 0 ws _ (hW.keep hF0) hM (by have := hok.1; omega) (by have := hok.2.1; omega) (Or.inl ⟨hok, rfl⟩)
  have HF0 : Hid (Fr [] w (w.alloc (.cells #[.int .i64 nn, .slice wo M mc] 50))) := hF0
  obtain ⟨r, hr, rfl⟩ := hl.of hp
  obtain ⟨i, hi, e⟩ := List.getElem_of_mem hr
  have hin : i < n := by rw [h.len]; exact hi
  obtain ⟨k, rfl⟩ : ∃ k, n = k + 1 := ⟨n - 1, by omega⟩
  have hnx : nn ≤ (rs.getD k Ro.zero).num := by
    have hri : (rs.getD i Ro.zero).num = r.num := by rw [ro_get hi, e]
    by_cases hik : i = k
    · subst hik; rw [hri]; exact hle
    · have := hl.lt (i := i) (j := k) (by omega) (by rw [← h.len]; omega)
      simp only at hle
      omega
  have HR : Hid (∀ W, Fr [] w W → Rt W g OB lo (k + 1) c rs) := fun W hf => h.quiet hf
  obtain ⟨b, rfl, _, _⟩ := h.lies (by omega)
  have hk6 := h.few
  have HX : Hid (∀ W, Fr [] (w.alloc (.cells #[.int .i64 nn, .slice wo M mc] 50)) W → W.cell? ⟨w.heap.size, 0, none⟩ = some (.int .i64 nn)) := fun W hf => by
    rw [cell_of_row _ _ _ _ _ _ (hf.keep (heap_alloc_new w _) (by simp))]; rfl
  clear h hl hW hM hok hp hle hr e hi hin hF0
  go_enter Tryz.func12, Tryz.ntmps12
  go_wp2_with fail
  refine Calls.mono HC.out ?_
  rintro e w1 ⟨rfl, hF1⟩
  have hR := HR.out _ (HF0.out.then hF1)
  have c0 := hR.c0
  have d0 := (hR.cells rfl k (by omega)).1
  have x0 := HX.out _ hF1
  obtain ⟨y, hy⟩ : ∃ y, y = (rs.getD k Ro.zero).num := ⟨_, rfl⟩
  rw [← hy] at d0 hnx
  have q1 : decide (nn ≤ y) = true := by simpa using hnx
  have q2 : decide ((0 : Int) < ((k + 1 : Nat) : Int)) = true := by simp
  have hiw : IntKind.i64.wrap ((k : Int)) = (k : Int) := by rw [IntKind.wrap_i64]; omega
  clear hR hy
  go_wp2_with fail
  go_quiet (fail)
  go_wp2
  refine bodyPost_ret (results_tmp2 rfl _ _ _) rfl ?_
  exact ⟨rfl, (HF0.out.then hF1).then (Fr.drewN _ _ _)⟩
/-- The cells of a new one. -/
def newRo (nn : Int) (wo2 : Option Addr) (M wc2 : Nat) (ws : List Wt) (so : Option Addr) (N sc : Nat) (ys : List Int) : Ro := ⟨nn, wo2, M, wc2, ws, so, N, sc, ys, false⟩
def newC11 (nn : Int) (wo2 : Option Addr) (M wc2 : Nat) (so : Option Addr) (N sc : Nat) : List Value := [.int .i64 nn, .slice wo2 M wc2, .slice so N sc, .bool false]
theorem add_fin {w wr V1 W : World} {nn : Int} {wo2 so : Option Addr} {M wc2 N sc g2 cap2 : Nat} {ws : List Wt} {ys : List Int} (hR : Rt wr g OB lo n c rs) (hlow : ∀ j ∈ rall g lo OB, j < w.heap.size) (hF : Fr [] w wr) (hG : Fr [] wr V1) (hN : V1.ownsRow wr.heap.size 82 3 (.slice wo2 M wc2) M (wtsC ws)) (hM : M = ws.length) (hok : okT nn ws) (he : ∀ x ∈ ws, x.key.size ≤ 140737488355328 ∧ x.val.size ≤ 140737488355328)
    (hY : IRd wr so ys ∧ N = ys.length ∧ (0 < N → ∀ a, so = some a → w.heap.size ≤ a.block ∧ a.block < wr.heap.size)) (hN6 : N ≤ 65536) (hroom : n + 1 ≤ 65536)
    (hO : W.ownsRow 0 84 4 (.slice (some ⟨g2, 0, none⟩) (n + 1) cap2) (n + 1) (rosC rs ++ newC11 nn wo2 M wc2 so N sc)) (hW : Bq.Went (V1.alloc (.cells #[.int .i64 nn, .slice wo2 M wc2, .slice so N sc, .bool false] 84)) (.slice lo n c) g2 W) :
    W.cell? ⟨g, 0, none⟩ = some (.slice lo n c) ∧ W.frozen? ⟨g, 0, none⟩ = false ∧ ∃ OB', Rt (W.setCell ⟨g, 0, none⟩ (.slice (some ⟨g2, 0, none⟩) (n + 1) cap2)) g OB' (some ⟨g2, 0, none⟩) (n + 1) cap2 (rs ++ [newRo nn wo2 M wc2 ws so N sc ys]) ∧ (∀ j ∈ rall g (some ⟨g2, 0, none⟩) OB', j ∈ rall g lo OB ∨ w.heap.size ≤ j) ∧ Fr (rall g lo OB) w (W.setCell ⟨g, 0, none⟩ (.slice (some ⟨g2, 0, none⟩) (n + 1) cap2)) := by
  have hV2 : Fr [] wr (V1.alloc (.cells #[.int .i64 nn, .slice wo2 M wc2, .slice so N sc, .bool false] 84)) := hG.then (Fr.alloc _ _ _)
  have hWf := hW.fr
  have hWw : Fr (Value.slice lo n c).ownBlock.toList wr W := hV2.trans hWf (by simp) (fun x hx _ => hx)
  have hgl : g < w.heap.size := hlow g (by simp [rall])
  have hlol : ∀ k, (Value.slice lo n c).ownBlock = some k → k < w.heap.size ∧ k ≠ g := fun k hk => by
    refine ⟨hlow k (by rw [own_any lo n c 0 0] at hk; simp [rall, hk]), fun e => ?_⟩
    obtain ⟨cs, hc⟩ := Bq.own_type hR.row k hk
    rw [e, hR.box] at hc
    simp at hc
  have hgn : g ∉ (Value.slice lo n c).ownBlock.toList := fun hm => (hlol g (Option.mem_toList.1 hm)).2 rfl
  have hbox := hWw.keep hR.box hgn
  have hsw := hF.size
  have hsW := hWw.size
  have hs1 := hG.size
  have hs2 : V1.heap.size < W.heap.size := by have := hWf.size; simp at this; omega
  have hg2 : (Value.slice lo n c).ownBlock = some g2 ∨ V1.heap.size < g2 := by
    rcases hW with ⟨e, _⟩ | ⟨e, _⟩
    · exact Or.inl e
    · simp at e; exact Or.inr (by omega)
  have hg2g : g2 ≠ g := fun e => by
    obtain ⟨cs, hc⟩ := Bq.own_type hO g2 rfl
    rw [e, hbox] at hc
    simp at hc
  obtain ⟨hws, hwb⟩ := ws_read hN hM (by have := hok.2.2.1; omega) he
  have hwn : ∀ k, (Value.slice wo2 M wc2).ownBlock = some k → wr.heap.size ≤ k ∧ k < V1.heap.size := fun k hk => hN.lt k hk
  have hFs : Fr (g :: (Value.slice lo n c).ownBlock.toList) wr (W.setCell ⟨g, 0, none⟩ (.slice (some ⟨g2, 0, none⟩) (n + 1) cap2)) := (hWw.mono (fun x hx _ => List.mem_cons_of_mem _ hx)).then (Fr.set _ _ _ (by simp))
  have hFs1 : Fr (g :: (Value.slice lo n c).ownBlock.toList) V1 (W.setCell ⟨g, 0, none⟩ (.slice (some ⟨g2, 0, none⟩) (n + 1) cap2)) := (((Fr.alloc [] V1 _).trans hWf (by simp) (fun x hx _ => hx)).mono (fun x hx _ => List.mem_cons_of_mem _ hx)).then (Fr.set _ _ _ (by simp))
  have hSw : ∀ x ∈ g :: (Value.slice lo n c).ownBlock.toList, x < w.heap.size := fun x hx => by
    rcases List.mem_cons.1 hx with rfl | hx
    · exact hgl
    · exact (hlol x (Option.mem_toList.1 hx)).1
  obtain ⟨SB, hSB1, hSB2⟩ : ∃ SB : List Nat, (0 < N → ∀ a, so = some a → a.block ∈ SB) ∧ ∀ k ∈ SB, w.heap.size ≤ k ∧ k < wr.heap.size := by
    by_cases h0 : 0 < N
    · cases so with
      | none => exact ⟨[], fun _ a ha => (by cases ha), by simp⟩
      | some a => exact ⟨[a.block], fun _ a' ha => by cases ha; simp, fun k hk => by simp at hk; subst hk; exact hY.2.2 h0 a rfl⟩
    · exact ⟨[], fun h => absurd h h0, by simp⟩
  refine ⟨by rw [cell_of_row _ _ _ _ _ _ hbox]; rfl, frz11 hbox _, (Value.slice wo2 M wc2).ownBlock.toList ++ (SB ++ OB), ⟨?_, fun hm => ?_, ?_, ?_, fun k hk hm => ?_, fun r hr => ?_, fun k hk => ?_, hroom⟩, fun j hj => ?_, ?_⟩
  · exact qrow_setCell _ hbox
  · rcases List.mem_append.1 hm with e | e
    · have := (hwn g (Option.mem_toList.1 e)).1; omega
    · rcases List.mem_append.1 e with e | e
      · have := (hSB2 g e).1; omega
      · exact hR.gno e
  · rw [rosC_app]
    exact ownsRow_setCell_other hO (by simp [Value.ownBlock]; exact hg2g) _
  · rw [List.length_append, ← hR.len]; rfl
  · simp [Value.ownBlock] at hk
    subst hk
    rcases hg2 with e2 | e2
    · have h3 := (hlol g2 e2).1
      rcases List.mem_append.1 hm with e | e
      · have := (hwn g2 (Option.mem_toList.1 e)).1; omega
      · rcases List.mem_append.1 e with e | e
        · have := (hSB2 g2 e).1; omega
        · exact hR.rno g2 e2 e
    · rcases List.mem_append.1 hm with e | e
      · have := (hwn g2 (Option.mem_toList.1 e)).2; omega
      · rcases List.mem_append.1 e with e | e
        · have := (hSB2 g2 e).2; omega
        · have := hR.mine g2 e; omega
  · rcases List.mem_append.1 hr with e | e
    · refine ((hR.each r e).keep hFs (fun j hj hm => ?_)).more (fun j hj => by simp [hj])
      rcases List.mem_cons.1 hm with rfl | hm
      · exact hR.gno hj
      · exact hR.rno j (Option.mem_toList.1 hm) hj
    · rw [List.mem_singleton] at e
      subst e
      refine ⟨hM, hws.keepS hFs1 (fun h0 a ha hm => ?_), fun h0 a ha => ?_, hok, hY.2.1, hY.1.keepS hFs (fun h0 a ha hm => ?_), fun h0 a ha => ?_, hN6⟩
      · have := (hwn _ (hwb h0 a ha)).1; have := hSw _ hm; omega
      · exact List.mem_append.2 (Or.inl (Option.mem_toList.2 (hwb h0 a ha)))
      · have h0' : 0 < ys.length := h0
        have := (hY.2.2 (by rw [hY.2.1]; exact h0') a ha).1; have := hSw _ hm; omega
      · have h0' : 0 < ys.length := h0
        exact List.mem_append.2 (Or.inr (List.mem_append.2 (Or.inl (hSB1 (by rw [hY.2.1]; exact h0') a ha))))
  · rw [show (W.setCell ⟨g, 0, none⟩ (.slice (some ⟨g2, 0, none⟩) (n + 1) cap2)).heap.size = W.heap.size from by simp [World.setCell]]
    rcases List.mem_append.1 hk with e | e
    · have := (hwn k (Option.mem_toList.1 e)).2; omega
    · rcases List.mem_append.1 e with e | e
      · have := (hSB2 k e).2; omega
      · have := hR.mine k e; omega
  · simp only [rall, List.mem_cons, List.mem_append, Option.mem_toList] at hj ⊢
    rcases hj with rfl | hj | hj | hj | hj
    · exact Or.inl (Or.inl rfl)
    · simp [Value.ownBlock] at hj
      subst hj
      rcases hg2 with e2 | e2
      · exact Or.inl (Or.inr (Or.inl (by rw [own_any lo 0 0 n c]; exact e2)))
      · exact Or.inr (by omega)
    · have := (hwn j hj).1; exact Or.inr (by omega)
    · exact Or.inr (hSB2 j hj).1
    · exact Or.inl (Or.inr (Or.inr hj))
  · refine hF.trans hFs (by simp) (fun x hx _ => ?_)
    simp only [rall, List.mem_cons, List.mem_append, Option.mem_toList] at hx ⊢
    rcases hx with rfl | hx
    · exact Or.inl rfl
    · exact Or.inr (Or.inl (by rw [own_any lo 0 0 n c]; exact hx))
set_option maxHeartbeats 16000000 in
set_option maxRecDepth 100000 in
theorem uAdd_any (nn : Int) (wo : Option Addr) (M mc : Nat) (ws : List Wt) (w : World) (h : Rt w g OB lo n c rs) (hl : Rel rs L en) (hW : WRs w wo ws) (hM : M = ws.length) (hok : okT nn ws) (hnew : ∀ p ∈ L, p.1 < nn) :
    Calls Tryz.prog 12 #[.pointer (some ⟨g, 0, none⟩), .agg #[.int .i64 nn, .slice wo M mc]] w fun e w' => ∃ xs lo' c' OB' r, e = .returned (.tuple #[.int .i64 ((xs.length : Nat) : Int), .int .i64 0]) ∧ AdT L en (keysW ws) xs ∧ Rt w' g OB' lo' (n + 1) c' (rs ++ [r]) ∧ r.num = nn ∧ r.ws = ws ∧ r.xs = xs ∧ r.en = false ∧ (∀ j ∈ rall g lo' OB', j ∈ rall g lo OB ∨ w.heap.size ≤ j) ∧ Fr (rall g lo OB) w w' := by
  obtain ⟨w0, HW0⟩ : ∃ w0, Hid (w.alloc (.cells #[.int .i64 nn, .slice wo M mc] 50) = w0) := ⟨_, rfl⟩
  have hF0 : Fr [] w w0 := by rw [← HW0.out]; exact Fr.alloc [] w _
  have hb0 : w0.heap[w.heap.size]? = some (.cells #[.int .i64 nn, .slice wo M mc] 50 (0, 0)) := by rw [← HW0.out]; exact heap_alloc_new w _
  have HC : Hid (Calls _ _ _ _ _) := xCheck_any nn wo M mc 0 ws w0 (hW.keep hF0) hM (by have := hok.1; omega) (by have := hok.2.1; omega) (Or.inl ⟨hok, rfl⟩)
  have hM32 : M ≤ 32 := by rw [hM]; exact hok.2.2.1
  have hroom := h.room hl hok.1 hok.2.1 hnew
  have HSm : Hid (∀ x, Op11 L en x → 1 ≤ x ∧ x ≤ 65536) := h.small hl
  have HR : Hid (∀ W, Fr [] w W → Rt W g OB lo n c rs) := fun W hf => h.quiet hf
  have HRl : Hid (Rel rs L en) := hl
  have HWr : Hid (∀ W, Fr [] w W → WRs W wo ws) := fun W hf => hW.keep hf
  have HM : Hid (M = ws.length) := hM
  have HOk : Hid (okT nn ws) := hok
  have HLn : Hid (n = rs.length) := h.len
  have HX : Hid (∀ W, Fr [] w0 W → W.cell? ⟨w.heap.size, 0, none⟩ = some (.int .i64 nn) ∧ W.cell? ⟨w.heap.size, 1, none⟩ = some (.slice wo M mc)) := fun W hf => by
    have hb := hf.keep hb0 (by simp)
    exact ⟨by rw [cell_of_row _ _ _ _ _ _ hb]; rfl, by rw [cell_of_row _ _ _ _ _ _ hb]; rfl⟩
  have HLast : Hid (∀ k, n = k + 1 → (rs.getD k Ro.zero).num < nn) := fun k hk => hnew _ (hl.mem (ro_mem (by rw [← h.len, hk]; omega)))
  have HF0 : Hid (Fr [] w w0) := hF0
  clear h hl hW hM hok hnew hb0 hF0
  go_enter Tryz.func12, Tryz.ntmps12
  go_upto_region 1 with fail
  rw [HW0.out]
  clear HW0
  obtain ⟨x0, x1⟩ := HX.out w0 (Fr.refl _ _)
  go_wp2_with fail
  refine Calls.mono HC.out ?_
  rintro e w1 ⟨rfl, hF1⟩
  have HF1 : Hid (Fr [] w0 w1) := hF1
  clear hF1 HC x0 x1
  go_upto_region 5 with fail
  go_cut [38] from 15 (fun v wx => v = .bool false ∧ Hid (Fr [] w0 wx))
  case first =>
    have hR := HR.out _ (HF0.out.then HF1.out)
    have c0 := hR.c0
    obtain ⟨x0, x1⟩ := HX.out _ HF1.out
    cases n with
    | zero =>
      clear hR
      go_quiet (fail)
      go_wp2
      go_meet
      case rel => exact ⟨rfl, HF1.out.then (Fr.drewN _ _ _)⟩
    | succ k =>
      obtain ⟨b, rfl, _, _⟩ := hR.lies (by omega)
      have d0 := (hR.cells rfl k (by omega)).1
      have hlt := HLast.out k rfl
      obtain ⟨y, hy⟩ : ∃ y, y = (rs.getD k Ro.zero).num := ⟨_, rfl⟩
      rw [← hy] at d0 hlt
      have q1 : decide (nn ≤ y) = false := by simp; omega
      have q2 : decide ((0 : Int) < ((k + 1 : Nat) : Int)) = true := by simp
      have hiw : IntKind.i64.wrap ((k : Int)) = (k : Int) := by rw [IntKind.wrap_i64]; omega
      clear hR hy
      go_quiet (fail)
      go_wp2
      go_meet
      case rel => exact ⟨rfl, HF1.out.then (Fr.drewN _ _ _)⟩
  case rest =>
  obtain ⟨rfl, HF2⟩ := hcut
  clear HF1
  go_wp2_with fail
  go_loopw [6, 7] (fun ll ii wr => ∃ (i N : Nat) (so : Option Addr) (sc : Nat) (ys : List Int), ll = .slice so N sc ∧ ii = .int .i64 i ∧ i ≤ M ∧ N ≤ 65536 ∧ Hid (IRd wr so ys ∧ N = ys.length ∧ (0 < N → ∀ a, so = some a → w0.heap.size ≤ a.block ∧ a.block < wr.heap.size)) ∧ Hid (AdT L en (keysW (ws.take i)) ys) ∧ Hid (Fr [] w0 wr)) (fun _ ii _ => M - (RowKit.intOf ii).toNat)
  case atStart => exact ⟨0, 0, none, 0, [], rfl, rfl, Nat.zero_le _, Nat.zero_le _, ⟨⟨fun h => by simp at h⟩, rfl, fun h => by omega⟩, ⟨List.Pairwise.nil, fun m => by simp [keysW]⟩, HF2⟩
  case round =>
    obtain ⟨i, N, so, sc, ys, rfl, rfl, hi1, hN, HY, HA, HF⟩ := hrel
    obtain ⟨x0, x1⟩ := HX.out _ HF.out
    by_cases hi : i < M
    · have hil : i < ws.length := by rw [← HM.out]; exact hi
      have hw := HWr.out _ (HF0.out.then HF.out)
      obtain ⟨wb, wof, rfl, _, hwc⟩ := hw.lies (by omega)
      have hk0 := (hwc i hil).1
      have hks := (hw.each _ (by simp [List.getD, hil] : ws.getD i Wt.zero ∈ ws)).1
      have HT := keysW_take ws i hil
      obtain ⟨kk, hkk⟩ : ∃ kk, kk = (ws.getD i Wt.zero).key := ⟨_, rfl⟩
      rw [← hkk] at hk0 hks HT
      have HT : Hid (keysW (ws.take (i + 1)) = keysW (ws.take i) ++ [kk]) := HT
      have HU : Hid (Calls _ _ _ _ _) := ulast_any kk wr (HR.out _ (HF0.out.then HF.out)) hks
      clear hkk hwc hw
      go_wp2_with fail
      refine Calls.mono HU.out ?_
      rintro e w3 ⟨⟨k, rfl, hkn, hk1, hk2⟩ | ⟨rfl, hno⟩, hF3⟩
      · have hR := HR.out _ ((HF0.out.then HF.out).then hF3)
        have c0 := hR.c0
        obtain ⟨b, rfl, _, _⟩ := hR.lies (by omega)
        obtain ⟨d0, _, _, d3⟩ := hR.cells rfl k hkn
        have hkl : k < rs.length := by rw [← HLn.out]; exact hkn
        have hls := HRl.out.last kk hkl hk1 (fun j h1 h2 => hk2 j h1 (by rw [HLn.out]; exact h2))
        have hopk : Op11 L en (lst L kk) ↔ (rs.getD k Ro.zero).en = false := by
          rw [hls]
          constructor
          · rintro ⟨_, h2⟩
            cases he : (rs.getD k Ro.zero).en with
            | false => rfl
            | true => exact absurd ((HRl.out.enb _ (ro_mem hkl)).1 he) h2
          · intro he
            exact ⟨⟨_, HRl.out.mem (ro_mem hkl), rfl⟩, fun h2 => by rw [(HRl.out.enb _ (ro_mem hkl)).2 h2] at he; cases he⟩
        obtain ⟨x, hx⟩ : ∃ x, x = (rs.getD k Ro.zero).num := ⟨_, rfl⟩
        obtain ⟨ee, hee⟩ : ∃ ee, ee = (rs.getD k Ro.zero).en := ⟨_, rfl⟩
        rw [← hx] at d0 hls
        rw [← hee] at d3 hopk
        have HF3 : Hid (Fr [] w0 w3) := HF.out.then hF3
        have HY3 : Hid (IRd w3 so ys ∧ N = ys.length ∧ (0 < N → ∀ a, so = some a → w0.heap.size ≤ a.block ∧ a.block < w3.heap.size)) := ⟨HY.out.1.keep hF3, HY.out.2.1, fun h0 a ha => ⟨(HY.out.2.2 h0 a ha).1, Nat.lt_of_lt_of_le (HY.out.2.2 h0 a ha).2 hF3.size⟩⟩
        have hkz : (0 : Int) ≤ (k : Int) := by omega
        clear hx hee hR hk1 hk2 hF3 HF HY HU x0 x1 hk0
        cases ee with
        | true =>
          have HA2 : Hid (AdT L en (keysW (ws.take (i + 1))) ys) := by
            rw [Hid, HT.out]
            exact HA.out.same (fun ho => by have := hopk.1 ho; cases this)
          clear hopk hls HA
          go_wp2
          go_roundw
          case rel => exact ⟨i + 1, N, so, sc, ys, rfl, by simp, by omega, hN, HY3, HA2, HF3⟩
          case measure => simp [RowKit.intOf]; omega
        | false =>
          have HWi : Hid (Calls _ _ _ _ _) := with_any so N sc ys x w3 HY3.out.1 HY3.out.2.1 (by omega) HA.out.1
          have HOp : Hid (Op11 L en (lst L kk) ∧ lst L kk = x) := ⟨hopk.2 rfl, hls⟩
          clear hopk hls
          go_wp2_with fail
          refine Calls.mono HWi.out ?_
          rintro e w4 ⟨so2, M2, sc2, zs, rfl, hM2, hI2, hR2, hZ2, hor, hF4⟩
          have HA2 : Hid (AdT L en (keysW (ws.take (i + 1))) zs) := by
            rw [Hid, HT.out]
            exact HA.out.more HOp.out.1 hR2 (fun q => by rw [hZ2 q, HOp.out.2])
          have hM2b : M2 ≤ 65536 := by rw [hM2]; exact HA2.out.few HSm.out
          have HF4 : Hid (Fr [] w0 w4) := HF3.out.then hF4
          have HY4 : Hid (IRd w4 so2 zs ∧ M2 = zs.length ∧ (0 < M2 → ∀ a, so2 = some a → w0.heap.size ≤ a.block ∧ a.block < w4.heap.size)) := ⟨hI2, hM2, fun h0 a ha => by
            rcases hor with ⟨rfl, rfl⟩ | hO
            · have := HY3.out.2.2 (by have := HY3.out.2.1; omega) a ha
              exact ⟨this.1, Nat.lt_of_lt_of_le this.2 hF4.size⟩
            · subst ha
              obtain ⟨h1, cc, h2⟩ := hO.blk (k := a.block) (by simp [Value.ownBlock])
              exact ⟨Nat.le_trans HF3.out.size h1, lt_of_block h2⟩⟩
          clear hM2 hI2 hR2 hZ2 hor hF4 HWi HOp HY3 HF3 HA
          go_wp2
          go_roundw
          case rel => exact ⟨i + 1, M2, so2, sc2, zs, rfl, by simp, by omega, hM2b, HY4, HA2, HF4⟩
          case measure => simp [RowKit.intOf]; omega
      · have hl0 := HRl.out.last0 kk (fun j hj => hno j (by rw [HLn.out]; exact hj))
        have HA2 : Hid (AdT L en (keysW (ws.take (i + 1))) ys) := by
          rw [Hid, HT.out]
          exact HA.out.same (fun ho => by rw [hl0] at ho; have := HSm.out 0 ho; omega)
        have HF3 : Hid (Fr [] w0 w3) := HF.out.then hF3
        have HY3 : Hid (IRd w3 so ys ∧ N = ys.length ∧ (0 < N → ∀ a, so = some a → w0.heap.size ≤ a.block ∧ a.block < w3.heap.size)) := ⟨HY.out.1.keep hF3, HY.out.2.1, fun h0 a ha => ⟨(HY.out.2.2 h0 a ha).1, Nat.lt_of_lt_of_le (HY.out.2.2 h0 a ha).2 hF3.size⟩⟩
        clear hno hl0 hF3 HF HY HU x0 x1 hk0 HA
        go_wp2
        go_roundw
        case rel => exact ⟨i + 1, N, so, sc, ys, rfl, by simp, by omega, hN, HY3, HA2, HF3⟩
        case measure => simp [RowKit.intOf]; omega
    · have HA2 : Hid (AdT L en (keysW ws) ys) := by
        have := HA.out
        rwa [List.take_of_length_le (by rw [← HM.out]; omega)] at this
      obtain ⟨i0, hi0, hz0, hz1, hz2⟩ := info_parts Tryz.infoRO
      have hRr := HR.out _ (HF0.out.then HF.out)
      have c0 := hRr.c0
      have HV : Hid (∀ W, Fr [] wr W → W.cell? ⟨g, 0, none⟩ = some (.slice lo n c) ∧ W.cell? ⟨w.heap.size, 0, none⟩ = some (.int .i64 nn) ∧ W.cell? ⟨w.heap.size, 1, none⟩ = some (.slice wo M mc) ∧ W.ownsRow 0 84 4 (.slice lo n c) n (rosC rs)) := fun W hf => by
        obtain ⟨k0, k1⟩ := HX.out _ (HF.out.then hf)
        have h2 := hRr.quiet hf
        exact ⟨h2.c0, k0, k1, h2.row⟩
      have HWd : Hid (WRs wr.drew wo ws) := (HWr.out _ (HF0.out.then HF.out)).keep (Fr.drew _ _)
      have HFin : Hid (∀ (V1 W : World) (wo2 : Option Addr) (wc2 g2 cap2 : Nat), Fr [] wr V1 → V1.ownsRow wr.heap.size 82 3 (.slice wo2 M wc2) M (wtsC ws) → W.ownsRow 0 84 4 (.slice (some ⟨g2, 0, none⟩) (n + 1) cap2) (n + 1) (rosC rs ++ newC11 nn wo2 M wc2 so N sc) → Bq.Went (V1.alloc (.cells #[.int .i64 nn, .slice wo2 M wc2, .slice so N sc, .bool false] 84)) (.slice lo n c) g2 W → _) := fun V1 W wo2 wc2 g2 cap2 h1 h2 h3 h4 =>
        add_fin (w := w) hRr (HR.out _ (Fr.refl _ _)).mineA (HF0.out.then HF.out) h1 h2 HM.out HOk.out (HWr.out _ (Fr.refl _ _)).each ⟨HY.out.1, HY.out.2.1, fun h0 a ha => ⟨Nat.le_trans HF0.out.size (HY.out.2.2 h0 a ha).1, (HY.out.2.2 h0 a ha).2⟩⟩ hN hroom h3 h4
      have HNs : Hid (N = ys.length) := HY.out.2.1
      have HNw : Hid (∀ (V1 : World) (wo2 : Option Addr) (wc2 : Nat) (j : Nat) u, (newC11 nn wo2 M wc2 so N sc)[j]? = some u → (V1.alloc (.cells #[.int .i64 nn, .slice wo2 M wc2, .slice so N sc, .bool false] 84)).cell? ((⟨V1.heap.size, 0, none⟩ : Addr).add j) = some u) := fun V1 wo2 wc2 j u hj => by
        rw [Addr.add_lit, Nat.zero_add, cell_of_row _ _ _ _ _ _ (heap_alloc_new V1 _)]
        simpa [newC11] using hj
      have HOne : Hid (∀ (wo2 : Option Addr) (wc2 : Nat), ∀ u ∈ newC11 nn wo2 M wc2 so N sc, u.oneCell' = true) := fun wo2 wc2 u hu => by
        simp [newC11] at hu
        rcases hu with rfl | rfl | rfl | rfl <;> rfl
      clear hRr HY HA HF
      go_upto_region 15 with fail
      go_region_law (first
        | (refine Bq.step_app _ rfl (.tmp 81) (.tmp 90) 55 rfl 84 i0 _ 4 64 Tryz.undROs hi0 hz0 hz1 hz2 rfl (by omega) (.slice lo n c) n (rosC rs) (by simp [Act.eval]) HP8.out ⟨V1.heap.size, 0, none⟩ 1 (newC11 nn wo2 M wc2 so N sc) (by simp [Act.eval]) rfl (HNw.out V1 wo2 wc2) (HOne.out wo2 wc2) (by omega) (by simp only [maxLen]; omega) ?_; intro g2 cap2 W hO2 hW2; obtain ⟨q1, q2, q3⟩ := HFin.out V1 W wo2 wc2 g2 cap2 ((Fr.drew _ _).then HP4.out.2) HP4.out.1 hO2 hW2; have HQ3 : Hid _ := q3; clear q3 hO2 hW2)
        | (refine step_allW _ rfl (.tmp 84) (.tmp 86) rfl (by simp [Act.eval]) wo M mc ws (by simp [Act.eval]) HWd.out HM.out (by omega) ?_; intro wo2 wc2 V1 hN1 hG1; obtain ⟨p1, p2, p3, p4⟩ := HV.out V1 ((Fr.drew _ _).then hG1); obtain ⟨p5, p6, p7, p8⟩ := HV.out (V1.alloc (.cells #[.int .i64 nn, .slice wo2 M wc2, .slice so N sc, .bool false] 84)) (((Fr.drew _ _).then hG1).then (Fr.alloc _ _ _)); have HP8 : Hid _ := p8; have HP4 : Hid (_ ∧ _) := And.intro hN1 hG1; clear p8 p4 hN1 hG1))
      all_goals
        go_wp2
        refine bodyPost_ret (results_tmp2 rfl _ _ _) rfl ?_
        obtain ⟨OB', k1, k2, k3⟩ := HQ3.out
        exact ⟨ys, _, cap2, OB', newRo nn wo2 M wc2 ws so N sc ys, by rw [← HNs.out]; rfl, HA2.out, k1, rfl, rfl, rfl, rfl, k2, k3⟩
end
end Go.Proofs.YtdcmjoildfofcaaGreatDoor
