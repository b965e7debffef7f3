/- What the codec's reader answers where it is not there: nil, or a zero struct. Conditions: as each theorem names them. -/
import Derived.Test.YtcajoihfdeoikaaRef2
namespace Go.Proofs.Ytcajoihfdeoikaa
open Go.ChangeShapes Go.WideShapes Go.ChangeAt Go.RowKit Go.Lib
/-- No reader is there: nil, or a struct of zeros. -/
def Out (w : World) (po : Option Addr) : Prop := po = none ∨ ∃ b, po = some ⟨b, 0, none⟩ ∧ w.heap[b]? = some (.cells #[.bool false, .slice none 0 0, .int .i64 0] 39 (0, 0))
theorem Out.keep {w w' : World} {po : Option Addr} (h : Out w po) (hf : Fr [] w w') : Out w' po := by
  rcases h with h | ⟨b, e, hb⟩
  · exact Or.inl h
  · exact Or.inr ⟨b, e, hf.keep hb (by simp)⟩
set_option maxHeartbeats 1000000 in
theorem rThere_out (po : Option Addr) (w : World) (h : Out w po) : Ans 34 #[.pointer po] w (.bool false) := by
  show Calls _ _ _ _ _
  rcases h with rfl | ⟨b, rfl, hb⟩
  · go_enter Try.func34, Try.ntmps34
    go_wp2
    go_ret
    exact ⟨rfl, 0, rfl⟩
  · have c0 : w.cell? ⟨b, 0, none⟩ = some (.bool false) := by simp [World.cell?, hb]
    clear hb
    go_enter Try.func34, Try.ntmps34
    go_wp2
    go_ret
    exact ⟨rfl, 0, rfl⟩
set_option maxHeartbeats 2000000 in
set_option maxRecDepth 100000 in
theorem takeU_out (fv : Value) (po : Option Addr) (w : World) (h : Out w po) : Ans 38 #[.pointer po, fv] w (.int .u64 0) := by
  have HT := rThere_out po w h
  clear h
  show Calls _ _ _ _ _
  go_enter Try.func38, Try.ntmps38
  go_wp2_with fail
  refine HT.calls.mono ?_
  rintro e w1 ⟨rfl, q, rfl⟩
  go_wp2
  go_ret
  exact ⟨rfl, _, rfl⟩
set_option maxHeartbeats 2000000 in
set_option maxRecDepth 100000 in
theorem takeI_out (fv : Value) (po : Option Addr) (w : World) (h : Out w po) : Ans 40 #[.pointer po, fv] w (.int .i64 0) := by
  have HT := rThere_out po w h
  clear h
  show Calls _ _ _ _ _
  go_enter Try.func40, Try.ntmps40
  go_wp2_with fail
  refine HT.calls.mono ?_
  rintro e w1 ⟨rfl, q, rfl⟩
  go_wp2
  go_ret
  exact ⟨rfl, _, rfl⟩
set_option maxHeartbeats 2000000 in
set_option maxRecDepth 100000 in
theorem takeS_out (fv : Value) (po : Option Addr) (w : World) (h : Out w po) : Ans 44 #[.pointer po, fv] w (.string ⟨#[]⟩) := by
  have HT := rThere_out po w h
  clear h
  show Calls _ _ _ _ _
  go_enter Try.func44, Try.ntmps44
  go_wp2_with fail
  refine HT.calls.mono ?_
  rintro e w1 ⟨rfl, q, rfl⟩
  go_wp2
  go_ret
  exact ⟨rfl, _, rfl⟩
set_option maxHeartbeats 2000000 in
set_option maxRecDepth 100000 in
theorem rVar_out (po : Option Addr) (w : World) (h : Out w po) : AnsF 28 #[.pointer po] w (.int .u64 0) := by
  have hF := Fr.refl [] w
  have h' := h
  have HO : Hid (Out _ po) := h'
  clear h h'
  show Calls _ _ _ _ _
  go_enter Try.func28, Try.ntmps28
  go_wp2_with fail
  refine (takeU_out _ po _ HO.out).calls.mono ?_
  rintro e w1 ⟨rfl, q, rfl⟩
  go_wp2
  go_ret
  exact ⟨rfl, hF.then (Fr.drewN [] _ _)⟩
set_option maxHeartbeats 2000000 in
set_option maxRecDepth 100000 in
theorem rInt_out (po : Option Addr) (w : World) (h : Out w po) : AnsF 26 #[.pointer po] w (.int .i64 0) := by
  have hF := Fr.refl [] w
  have h' := h
  have HO : Hid (Out _ po) := h'
  clear h h'
  show Calls _ _ _ _ _
  go_enter Try.func26, Try.ntmps26
  go_wp2_with fail
  refine (takeI_out _ po _ HO.out).calls.mono ?_
  rintro e w1 ⟨rfl, q, rfl⟩
  go_wp2
  go_ret
  exact ⟨rfl, hF.then (Fr.drewN [] _ _)⟩
set_option maxHeartbeats 2000000 in
set_option maxRecDepth 100000 in
theorem rFixed_out (po : Option Addr) (wd : Int) (w : World) (h : Out w po) : AnsF 25 #[.pointer po, .int .i64 wd] w (.int .u64 0) := by
  have hF := Fr.alloc [] w (.cells #[.int .i64 wd] 3)
  have h' := h.keep hF
  have HO : Hid (Out _ po) := h'
  clear h h'
  show Calls _ _ _ _ _
  go_enter Try.func25, Try.ntmps25
  go_wp2_with fail
  refine (takeU_out _ po _ HO.out).calls.mono ?_
  rintro e w1 ⟨rfl, q, rfl⟩
  go_wp2
  go_ret
  exact ⟨rfl, hF.then (Fr.drewN [] _ _)⟩
set_option maxHeartbeats 2000000 in
set_option maxRecDepth 100000 in
theorem rText_out (po : Option Addr) (wd : Int) (w : World) (h : Out w po) : AnsF 27 #[.pointer po, .int .i64 wd] w (.string ⟨#[]⟩) := by
  have hF := Fr.alloc [] w (.cells #[.int .i64 wd] 3)
  have h' := h.keep hF
  have HO : Hid (Out _ po) := h'
  clear h h'
  show Calls _ _ _ _ _
  go_enter Try.func27, Try.ntmps27
  go_wp2_with fail
  refine (takeS_out _ po _ HO.out).calls.mono ?_
  rintro e w1 ⟨rfl, q, rfl⟩
  go_wp2
  go_ret
  exact ⟨rfl, hF.then (Fr.drewN [] _ _)⟩
set_option maxHeartbeats 2000000 in
set_option maxRecDepth 100000 in
theorem rLeft_out (po : Option Addr) (w : World) (h : Out w po) : Ans 14 #[.pointer po] w (.int .i64 0) := by
  have HT := rThere_out po w h
  clear h
  show Calls _ _ _ _ _
  go_enter Try.func14, Try.ntmps14
  go_wp2_with fail
  refine HT.calls.mono ?_
  rintro e w1 ⟨rfl, q, rfl⟩
  go_wp2
  go_ret
  exact ⟨rfl, _, rfl⟩
set_option maxHeartbeats 2000000 in
set_option maxRecDepth 100000 in
theorem rEnd_out (po : Option Addr) (w : World) (h : Out w po) : Ans 16 #[.pointer po] w (.int .i64 2) := by
  have HT := rThere_out po w h
  clear h
  show Calls _ _ _ _ _
  go_enter Try.func16, Try.ntmps16
  go_wp2_with fail
  refine HT.calls.mono ?_
  rintro e w1 ⟨rfl, q, rfl⟩
  go_wp2
  go_ret
  exact ⟨rfl, _, rfl⟩
end Go.Proofs.Ytcajoihfdeoikaa
