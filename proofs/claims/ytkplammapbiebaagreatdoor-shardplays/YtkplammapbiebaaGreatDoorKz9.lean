/- The document's shard: contract of Size. Conditions as each names them. -/
import Derived.Test.YtkplammapbiebaaGreatDoorKs9
namespace Go.Proofs.YtkplammapbiebaaGreatDoor
open Go.ChangeShapes Go.WideShapes Go.ChangeAt Go.RowKit Go.Lib Go.Maps
set_option linter.unusedVariables false
set_option linter.unusedSimpArgs false

/-- How many versions there are. -/
def szH (hs : List Hd) : Nat := (hs.map fun h => h.vs.length).sum
theorem szH_append (a b : List Hd) : szH (a ++ b) = szH a + szH b := by simp [szH]
theorem szH_le (hs : List Hd) (h : ∀ x ∈ hs, x.vs.length ≤ 65536) : szH hs ≤ hs.length * 65536 := by
  induction hs with
  | nil => simp [szH]
  | cons a r ih =>
    have h1 := ih (fun x hx => h x (List.mem_cons_of_mem _ hx))
    have h2 := h a (by simp)
    simp only [szH, List.map_cons, List.sum_cons, List.length_cons] at h1 ⊢
    omega
set_option maxHeartbeats 4000000 in
set_option maxRecDepth 100000 in
theorem ksize_any {w0 w : World} {g N lc : Nat} {lo : Option Addr} {hs : List Hd} (h : KSh w0 w g N lc lo hs) : Calls Tryz.prog 15 #[.pointer (some ⟨g, 0, none⟩)] w fun e w' => e = .returned (.int .i64 (szH hs : Int)) ∧ Fr [] w w' := by
  have c0 := h.c0
  have HN : Hid (N = hs.length) := h.log.len
  have hfew := h.few
  have hR := h.rs
  have HB : Hid (∀ i, szH (hs.take i) ≤ 70368744177664) := fun i => by
    have h1 := szH_le (hs.take i) (fun x hx => okV_few (h.ok.2 x (List.mem_of_mem_take hx)).2.2)
    have h2 : (hs.take i).length ≤ 1073741823 := by rw [List.length_take]; have := h.log.len; omega
    omega
  clear h
  go_enter Tryz.func15, Tryz.ntmps15
  go_wp2_with fail
  go_loopw [3, 4] (fun nn ii wr => ∃ (i n : Nat), nn = .int .i64 n ∧ ii = .int .i64 i ∧ i ≤ N ∧ Hid (n = szH (hs.take i)) ∧ wr = w) (fun _ ii _ => N - (RowKit.intOf ii).toNat)
  case atStart => exact ⟨0, 0, rfl, rfl, Nat.zero_le _, rfl, rfl⟩
  case round =>
    obtain ⟨i, n, rfl, rfl, hiN, HS, rfl⟩ := hrel
    by_cases hi : i < N
    · have hi' : i < hs.length := by rw [← HN.out]; exact hi
      obtain ⟨b, off, e9, _, hc⟩ := hR.lies (by omega)
      subst e9
      obtain ⟨d0, d1⟩ := hc i hi'
      have hE := hR.each _ (hgetD_mem hs i hi')
      have HT : Hid (szH (hs.take (i + 1)) = szH (hs.take i) + (hs.getD i Hd.zero).vs.length) := by show _ = _; rw [htake_snoc hs i hi', szH_append]; simp [szH]
      have hb2 := HB.out (i + 1)
      rw [HT.out, ← HS.out, ← hE.len] at hb2
      have HS2 : Hid (n + (hs.getD i Hd.zero).L = szH (hs.take (i + 1))) := by show _ = _; rw [HT.out, ← HS.out, hE.len]
      obtain ⟨x, hx⟩ : ∃ x, x = hs.getD i Hd.zero := ⟨_, rfl⟩
      rw [← hx] at d0 d1 hb2 HS2
      clear hc hx hE HT
      obtain ⟨k2, vo, M, cm, vs⟩ := x
      simp only at d0 d1 hb2 HS2
      go_wp2
      go_roundw
      case rel => exact ⟨i + 1, n + M, by simp, by simp, by omega, HS2, by first | rfl | trivial⟩
      case measure => simp [RowKit.intOf]; omega
    · obtain rfl : i = N := by omega
      have HS2 : Hid (n = szH hs) := by show _ = _; rw [HS.out, List.take_of_length_le (by rw [← HN.out]; omega)]
      go_wp2
      go_ret
      have e := HS2.out
      subst e
      exact ⟨by first | rfl | simp, Fr.refl _ _⟩
set_option maxHeartbeats 2000000 in
theorem kscan_nil (w : World) (key en : ByteArray) (mk : Int) : Calls Tryz.prog 71 #[.pointer none, .string key, .string en, .int .i64 mk] w fun e w' => e = .returned (.slice none 0 0) ∧ w = w' := by
  go_enter Tryz.func71, Tryz.ntmps71
  go_wp2
  go_ret
  exact ⟨rfl, rfl⟩
set_option maxHeartbeats 2000000 in
theorem kcollect_nil (w : World) (n : Int) : Calls Tryz.prog 73 #[.pointer none, .int .i64 n] w fun e w' => e = .returned (.int .i64 0) ∧ w = w' := by
  go_enter Tryz.func73, Tryz.ntmps73
  go_wp2
  go_ret
  exact ⟨rfl, rfl⟩
set_option maxHeartbeats 2000000 in
theorem kdump_nil (w : World) (mk : Int) (bo : Option Addr) (M cb : Nat) : Calls Tryz.prog 75 #[.pointer none, .int .i64 mk, .slice bo M cb] w fun e w' => e = .returned (.slice none 0 0) ∧ w = w' := by
  go_enter Tryz.func75, Tryz.ntmps75
  go_wp2
  go_ret
  exact ⟨rfl, rfl⟩
end Go.Proofs.YtkplammapbiebaaGreatDoor
