/- Texts of this claim laid together, one behind the other: contracts and plain lemmas; conditions as each names them. -/
import Derived.Test.YtdcmjoildfofcaaGreatDoorGp32
/- The statement's own helper asked. Conditions as it names them. -/
namespace Go.Proofs.YtdcmjoildfofcaaGreatDoor
open Go.ChangeShapes Go.WideShapes Go.ChangeAt Go.RowKit Go.Lib Go.Maps
set_option linter.unusedVariables false
set_option linter.unusedSimpArgs false

section
variable {w0 w1 w : World} {p q : Option Addr} {tb g z bk T n : Nat} {B RA KB : List Nat}
theorem five_cells {w : World} {b : Nat} {a0 a1 a2 a3 a4 : Value} {t : TypeId} (h : w.heap[b]? = some (.cells #[a0, a1, a2, a3, a4] t (0, 0))) : w.cell? ⟨b, 0, none⟩ = some a0 ∧ w.cell? ⟨b, 1, none⟩ = some a1 ∧ w.cell? ⟨b, 2, none⟩ = some a2 ∧ w.cell? ⟨b, 3, none⟩ = some a3 ∧ w.cell? ⟨b, 4, none⟩ = some a4 := by
  refine ⟨?_, ?_, ?_, ?_, ?_⟩ <;> (rw [cell_of_row _ _ _ _ _ _ h]; rfl)
theorem two_cells {w : World} {b : Nat} {a0 a1 : Value} {t : TypeId} (h : w.heap[b]? = some (.cells #[a0, a1] t (0, 0))) : w.cell? ⟨b, 0, none⟩ = some a0 ∧ w.cell? ⟨b, 1, none⟩ = some a1 := by
  refine ⟨?_, ?_⟩ <;> (rw [cell_of_row _ _ _ _ _ _ h]; rfl)
/-- What asked is handed. -/
structure OpA (w0 : World) (x nn : Int) (wo : Option Addr) (M : Nat) (ws : List Wt) (key : ByteArray) : Prop where
  hx : i64 x
  hn : i64 nn
  hW : WRs w0 wo ws
  hM : M = ws.length
  few : M ≤ 1048576
  hk : key.size ≤ 140737488355328
def AskT (w0 w1 w' : World) (tb g z bk T n : Nat) : Prop := ∃ T' n' B' RA' KB', T' ≤ T + 1 ∧ n' ≤ n + 65 ∧ St w0 w1 w' tb g z bk T' n' B' RA' KB'
set_option maxHeartbeats 8000000 in
set_option maxRecDepth 100000 in
theorem asked_add (hA : Asks w0 w1 p q tb g z bk) (h : St w0 w1 w tb g z bk T n B RA KB) (hn : n < 1073741824) (hT : T < 2097150) (kd : Nat) (hkd : kd = 1) (x nn : Int) (wo : Option Addr) (M mc : Nat) (ws : List Wt) (key : ByteArray) (hop : OpA w0 x nn wo M ws key) :
    Calls Tryz.prog 7 #[.pointer p, .pointer q, .agg #[.int .u8 (kd : Int), .int .i64 x, .int .i64 nn, .slice wo M mc, .string key], .pointer (some ⟨bk, 0, none⟩)] w fun e w' => e = .returned (.bool true) ∧ AskT w0 w1 w' tb g z bk T n := by
  obtain ⟨wx, HWx⟩ : ∃ wx, Hid (w.alloc (.cells #[.int .u8 (kd : Int), .int .i64 x, .int .i64 nn, .slice wo M mc, .string key] 52) = wx) := ⟨_, rfl⟩
  have hFx : Fr [] w wx := by rw [← HWx.out]; exact Fr.alloc _ _ _
  have hbx : wx.heap[w.heap.size]? = some (.cells #[.int .u8 (kd : Int), .int .i64 x, .int .i64 nn, .slice wo M mc, .string key] 52 (0, 0)) := by rw [← HWx.out]; exact heap_alloc_new w _
  have hsx : w.heap.size < wx.heap.size := lt_of_block hbx
  have HBX : Hid (∀ W S, Fr S wx W → w.heap.size ∉ S → W.cell? ⟨w.heap.size, 0, none⟩ = some (.int .u8 (kd : Int)) ∧ W.cell? ⟨w.heap.size, 1, none⟩ = some (.int .i64 x) ∧ W.cell? ⟨w.heap.size, 2, none⟩ = some (.int .i64 nn) ∧ W.cell? ⟨w.heap.size, 3, none⟩ = some (.slice wo M mc) ∧ W.cell? ⟨w.heap.size, 4, none⟩ = some (.string key)) := fun W S hf hS => five_cells (hf.keep hbx hS)
  have HA : Hid (Asks w0 w1 p q tb g z bk) := hA
  have HS : Hid (St w0 w1 w tb g z bk T n B RA KB) := h
  have HO : Hid (OpA w0 x nn wo M ws key) := hop
  have hMb := hop.few
  have q1 : ((kd : Int) == 1) = true := by rw [hkd]; rfl
  have HWr : Hid (∀ W, Fr [] w0 W → WRs W wo ws) := fun W hf => hop.hW.keep hf
  clear hA h hop hkd hbx
  go_enter Tryz.func7, Tryz.ntmps7
  go_upto_region 1 with fail
  rw [HWx.out]
  clear HWx
  obtain ⟨c0, c1, c2, c3, c4⟩ := HBX.out wx [] (Fr.refl _ _) (by simp)
  have hF0x := HS.out.sn.fr.then hFx
  have HTw : Hid (Calls _ _ _ _ _) := twinTxn_any nn wo M mc ws wx (HWr.out _ hF0x) HO.out.hM (by omega)
  go_wp2_with fail
  refine Calls.mono HTw.out ?_
  rintro e w2 ⟨b, rfl, hb, hrow2, hF2⟩
  have hF02 := hF0x.then hF2
  have hb2 : b < w2.heap.size := lt_of_block hrow2
  obtain ⟨w3, HW3⟩ : ∃ w3, Hid (w2.alloc (.cells #[.int .i64 nn, .slice (some ⟨b, 0, none⟩) M (M + 1)] 50) = w3) := ⟨_, rfl⟩
  have hF3 : Fr [] w2 w3 := by rw [← HW3.out]; exact Fr.alloc _ _ _
  have hby : w3.heap[w2.heap.size]? = some (.cells #[.int .i64 nn, .slice (some ⟨b, 0, none⟩) M (M + 1)] 50 (0, 0)) := by rw [← HW3.out]; exact heap_alloc_new w2 _
  have hsy : w2.heap.size < w3.heap.size := lt_of_block hby
  have hs2 := hF2.size
  have HS3 : Hid (St w0 w1 w3 tb g z bk T n B RA KB) := ((HS.out.quiet hFx).quiet hF2).quiet hF3
  have hlt := HS.out.sn.lt
  have hklt := HS.out.klt
  have hXo : ∀ S : List Nat, (∀ j ∈ S, j ∈ B ++ RA) → w.heap.size ∉ S ∧ w2.heap.size ∉ S ∧ b ∉ S := fun S hS => by
    have hz : ∀ j ∈ S, j < w.heap.size := fun j hj => hlt j (Or.inr (by simpa using hS j hj))
    exact ⟨fun hm => by have := hz _ hm; omega, fun hm => by have := hz _ hm; omega, fun hm => by have := hz _ hm; omega⟩
  have HXa : Hid (∀ W, Fr (B ++ RA) w3 W → (W.cell? ⟨w.heap.size, 2, none⟩ = some (.int .i64 nn) ∧ W.cell? ⟨w.heap.size, 3, none⟩ = some (.slice wo M mc)) ∧ (W.cell? ⟨w2.heap.size, 0, none⟩ = some (.int .i64 nn) ∧ W.cell? ⟨w2.heap.size, 1, none⟩ = some (.slice (some ⟨b, 0, none⟩) M (M + 1))) ∧ W.heap[b]? = some (.cells (wtsC (ws ++ [spW])).toArray 82 (0, 0))) := fun W hf => by
    obtain ⟨n1, n2, n3⟩ := hXo (B ++ RA) (fun j hj => hj)
    obtain ⟨_, _, k2, k3, _⟩ := HBX.out W (B ++ RA) (((hF2.then hF3).mono (by simp)).then hf) n1
    exact ⟨⟨k2, k3⟩, two_cells (hf.keep hby n2), hf.keep (hF3.keep hrow2 (by simp)) n3⟩
  have hTw3 : WRs w3 (some ⟨b, 0, none⟩) ws := WRs.of_row (rest := wtsC [spW]) (t := 82) (f := (0, 0)) (by rw [← wtsC_append]; exact hF3.keep hrow2 (by simp)) HO.out.hW.few HO.out.hW.each
  have hnB : ∀ a : Addr, (wo = some a → 0 < ws.length → a.block ∉ B) := fun a ha h0 hm => by
    obtain ⟨b', off', e, hb', _⟩ := HO.out.hW.lies h0
    rw [ha] at e
    cases e
    have := HS.out.sn.nw _ (Or.inr (Or.inl hm))
    simp only at this
    omega
  obtain ⟨v, er, hadd⟩ := HA.out.add w3 T n B RA KB HS3.out hn nn wo (some ⟨b, 0, none⟩) M mc (M + 1) ws (HWr.out _ (hF02.then hF3)) hTw3 HO.out.hM HO.out.hn (fun h0 a ha => hnB a ha h0) (fun h0 a ha => by cases ha; exact fun hm => (hXo B (fun j hj => by simp [hj])).2.2 hm)
  have HAdd : Hid (Calls _ _ _ _ _) := hadd
  obtain ⟨⟨k2, k3⟩, ⟨k4, k5⟩, _⟩ := HXa.out w3 (Fr.refl _ _)
  have HF03 : Hid (Fr [] w0 w3) := hF02.then hF3
  have HBb : Hid (w.heap.size ≤ b ∧ b < w3.heap.size) := ⟨by omega, by omega⟩
  have HLt : Hid ((∀ j, j = z ∨ j ∈ B ∨ j ∈ RA → j < w.heap.size) ∧ (∀ j ∈ KB, j < w.heap.size)) := ⟨hlt, hklt⟩
  have HN : Hid (∀ j ∈ B ++ RA, w0.heap.size ≤ j) := fun j hj => HS.out.sn.nw j (Or.inr (by simpa using hj))
  have HSz : Hid (w0.heap.size ≤ w.heap.size) := HS.out.sn.fr.size
  clear hadd hTw3 hnB hXo hrow2 hby hF2 hF3 hF02 hF0x hFx HTw c0 c1 c2 c3 c4 hb hb2 hsx hsy hs2 hlt hklt HS
  go_upto_region 4 with fail
  rw [HW3.out]
  clear HW3
  go_wp2_with fail
  refine Calls.mono HAdd.out ?_
  rintro e w4 ⟨rfl, hF4, hu⟩
  have HU : Hid (Calls _ _ _ _ _) := hu
  clear hu k2 k3 k4 k5 HAdd
  obtain ⟨⟨k2, k3⟩, ⟨k4, k5⟩, _⟩ := HXa.out w4 hF4
  clear hF4
  go_wp2_with fail
  refine Calls.mono HU.out ?_
  rintro e w5 ⟨rfl, hF5, B', RA', n', hn', hSt5, hnw⟩
  clear k2 k3 k4 k5 HU
  obtain ⟨⟨k2, k3⟩, ⟨k4, k5⟩, krow⟩ := HXa.out w5 hF5
  have hF05 : Fr [] w0 w5 := HF03.out.on hF5 HN.out
  have HLf : Hid (Calls _ _ _ _ _) := leftTxn_any nn b wo M mc ws w5 (HWr.out _ hF05) HO.out.hM (by omega) krow
  have HS5 : Hid (St w0 w1 w5 tb g z bk T n' B' RA' KB) := hSt5
  have HXb : Hid (∀ W, Fr [] w5 W → (W.cell? ⟨w2.heap.size, 0, none⟩ = some (.int .i64 nn) ∧ W.cell? ⟨w2.heap.size, 1, none⟩ = some (.slice (some ⟨b, 0, none⟩) M (M + 1))) ∧ W.heap[b]? = some (.cells (wtsC (ws ++ [spW])).toArray 82 (0, 0))) := fun W hf => by
    obtain ⟨_, j2, j3⟩ := HXa.out W (hF5.trans hf (fun x hx _ => hx) (by simp))
    exact ⟨j2, j3⟩
  have HD : Hid (¬ (b = z ∨ b ∈ B' ∨ b ∈ RA') ∧ b ∉ KB ∧ w0.heap.size ≤ b) := by
    have hb1 := HBb.out
    have hs := HSz.out
    refine ⟨?_, fun hm => by have := HLt.out.2 b hm; omega, by omega⟩
    rintro (e | e)
    · have := HLt.out.1 b (Or.inl e); omega
    · rcases hnw b e with e2 | e2
      · have := HLt.out.1 b (Or.inr e2); omega
      · omega
  have HNn : Hid (n' ≤ n + 65) := hn'
  clear hSt5 hnw hF5 hF05 krow hn' HXa
  go_wp2_with fail
  refine Calls.mono HLf.out ?_
  rintro e w6 ⟨rfl, hF6⟩
  clear k2 k3 k4 k5 HLf
  obtain ⟨⟨k4, k5⟩, krow⟩ := HXb.out w6 hF6
  have HTl : Hid (Calls _ _ _ _ _) := st_tellT (HS5.out.quiet hF6) nn krow HO.out.hM (by omega) HD.out hT
  clear krow hF6
  go_wp2_with fail
  refine Calls.mono HTl.out ?_
  rintro e w7 ⟨rfl, KB', hS7⟩
  have HS7 : Hid (AskT w0 w1 w7 tb g z bk T n) := ⟨T + 1, n', B', RA', KB', Nat.le_refl _, HNn.out, hS7⟩
  have q2 : (v == v) = true := by simp
  have q3 : (er == er) = true := by simp
  clear hS7 HTl
  go_wp2
  go_ret
  exact ⟨rfl, HS7.out⟩
end
end Go.Proofs.YtdcmjoildfofcaaGreatDoor
