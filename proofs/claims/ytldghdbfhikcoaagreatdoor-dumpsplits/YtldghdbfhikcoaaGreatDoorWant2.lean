/- What the document's Text and Fixed do behind other bytes. Conditions: fewer than 2^40 bytes. -/
import Derived.Test.YtldghdbfhikcoaaGreatDoorWant
namespace Go.Proofs.YtldghdbfhikcoaaGreatDoor
open Go.ChangeShapes Go.WideShapes Go.ChangeAt Go.RowKit Go.Lib

theorem strNs_take (s : ByteArray) (i : Nat) (h : i < s.size) : (strNs s).take (i + 1) = (strNs s).take i ++ [s[i].toNat] := by
  have hl : i < (strNs s).length := by rw [strNs_length]; exact h
  rw [List.take_add_one, List.getElem?_eq_getElem hl]
  simp only [strNs, List.getElem_map, Array.getElem_toList, Option.toList_some]
  rfl

set_option maxHeartbeats 2000000 in
set_option maxRecDepth 100000 in
theorem refText_any (v : Value) (xs : List Nat) (s : ByteArray) (w : World) (h : Wn w v xs) (hlen : xs.length < 2^39) (hs : s.size < 2^39) :
    Calls Tryz.prog 35 #[v, .string s] w fun e w' => ∃ ao n cap, e = .returned (.slice ao n cap) ∧ WnTo w v w' (.slice ao n cap) (xs ++ (enc s.size ++ strNs s)) := by
  obtain ⟨i0, hi, hz0, hz1, hz2⟩ := info_parts Tryz.infoB
  have hwr : IntKind.u64.wrap (s.size : Int) = (s.size : Int) := by rw [wr_u64]; omega
  go_enter Tryz.func35, Tryz.ntmps35
  go_wp2_with fail
  refine (refVar_any v xs s.size _ h (by omega) (by omega)).mono ?_
  rintro e w1 ⟨ao1, n1, cap1, rfl, R⟩
  have hel := enc_length s.size
  obtain ⟨ys, hys⟩ : ∃ ys, ys = xs ++ enc s.size := ⟨_, rfl⟩
  have hyl : ys.length < 2^39 + 11 := by rw [hys, List.length_append]; omega
  rw [← hys] at R
  have HY : Hid (ys = xs ++ enc s.size) := hys
  have HR : Hid (WnTo w v w1 (.slice ao1 n1 cap1) (ys ++ (strNs s).take 0)) := by rw [List.take_zero, List.append_nil]; exact R
  clear hys R
  go_wp2_with fail
  go_loopw [0, 5] (fun bb ii wr => ∃ (i : Nat) (v' : Value), bb = v' ∧ ii = .int .i64 i ∧ i ≤ s.size ∧ Hid (WnTo w v wr v' (ys ++ (strNs s).take i))) (fun _ ii _ => s.size - (intOf ii).toNat)
  case atStart => exact ⟨0, _, rfl, rfl, Nat.zero_le _, HR⟩
  case round =>
    clear HR
    obtain ⟨i, v', rfl, rfl, his, HW⟩ := hrel
    obtain ⟨ao, cap, hv⟩ := HW.out.wn.slice
    obtain ⟨L, hL⟩ : ∃ L, L = (ys ++ (strNs s).take i).length := ⟨_, rfl⟩
    have hLs : L < 2^40 + 20 := by rw [hL, List.length_append, List.length_take, strNs_length]; omega
    rw [← hL] at hv
    subst hv
    have HL : Hid (L = (ys ++ (strNs s).take i).length) := hL
    clear hL
    by_cases hi' : i < s.size
    · have HO : Hid (wr.ownsRow 0 5 1 (.slice ao L cap) L (bts (ys ++ (strNs s).take i))) := by rw [HL.out]; have := HW.out.wn; rw [HL.out] at this; exact this
      go_wp2_with (at_builtin; refine wpList_app1 _ rfl (.tmp 17) (.tmp 21) 29 rfl 5 i0 (.int .u8 0) 1 1 Tryz.undBs hi hz0 hz1 hz2 rfl (by decide) _ L _ rfl (HO.out.alloc _) ⟨wr.heap.size, 0, none⟩ 1 [.int .u8 (s[i].toNat : Int)] rfl rfl ?c1 ?c2 ?c3 ?c4 ?_)
      case c1 => intro j u hj; match j, hj with | 0, hj => simp at hj; subst hj; simp [Addr.add]
      case c2 => intro u hu; simp at hu; subst hu; rfl
      case c3 => omega
      case c4 => unfold maxLen; omega
      intro g' cap' w2 hown hgrow hmov
      have HR2 : Hid (WnTo w v w2 (.slice (some ⟨g', 0, none⟩) (L + 1) cap') (ys ++ (strNs s).take (i + 1))) := by
        rw [strNs_take s i hi', ← List.append_assoc]
        exact HW.out.step (z := s[i].toNat) hown (by rw [List.length_append, ← HL.out]; rfl) (by rw [bts_append (ys ++ (strNs s).take i)]; rfl) hgrow hmov (by omega)
      clear hown hgrow hmov HO
      go_wp2
      go_roundw
      case rel => exact ⟨i + 1, _, rfl, by simp, by omega, HR2⟩
      case measure => simp [intOf]; omega
    · have HR2 : Hid (WnTo w v wr (.slice ao L cap) (xs ++ (enc s.size ++ strNs s))) := by
        have := HW.out
        rw [List.take_of_length_le (by rw [strNs_length]; omega), HY.out, List.append_assoc] at this
        exact this
      go_wp2
      go_ret
      exact ⟨_, _, _, rfl, HR2.out⟩
