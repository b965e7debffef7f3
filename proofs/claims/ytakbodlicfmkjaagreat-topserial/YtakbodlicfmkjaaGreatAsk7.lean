/- The questions of keys: one key alone, a stretch: contracts. Conditions as each names them. -/
import Derived.Test.YtakbodlicfmkjaaGreatMp
import Derived.Laws.Cover1
import Derived.Laws.Strings
namespace Go.Proofs.YtakbodlicfmkjaaGreat.Fo
open Go.ChangeShapes Go.WideShapes Go.ChangeAt Go.RowKit Go.Lib
set_option linter.unusedVariables false
set_option linter.unusedSimpArgs false
/-- A text in a block of its own. -/
def SBox (w : World) (b : Nat) (s : ByteArray) : Prop := w.heap[b]? = some (.cells #[.string s] 9 (0, 0))
theorem SBox.c {w : World} {b : Nat} {s : ByteArray} (h : SBox w b s) : w.cell? ⟨b, 0, none⟩ = some (.string s) := by unfold SBox at h; simp [World.cell?, h]
theorem SBox.keep {S : List Nat} {w w' : World} {b : Nat} {s : ByteArray} (h : SBox w b s) (hf : Fr S w w') (hn : b ∉ S) : SBox w' b s := hf.keep h hn
theorem SBox.lt {w : World} {b : Nat} {s : ByteArray} (h : SBox w b s) : b < w.heap.size := lt_of_block h
theorem stretch_any (key en : ByteArray) (w : World) : Calls Tryz.prog 38 #[.string key, .string en] w fun e w' => ∃ b c, e = .returned (.func (Fn.func 71) #[] #[.pointer (some ⟨b, 0, none⟩), .pointer (some ⟨c, 0, none⟩)]) ∧ SBox w' b key ∧ SBox w' c en ∧ w.heap.size ≤ b ∧ w.heap.size ≤ c ∧ Fr [] w w' := by
  go_enter Tryz.func38, Tryz.ntmps38
  go_wp2
  go_ret
  refine ⟨_, _, rfl, ?_, ?_, Nat.le_refl _, Nat.le_succ _, (Fr.alloc [] w _).then (Fr.alloc [] _ _)⟩
  · exact (Fr.alloc [] _ _).keep (heap_alloc_new w (.cells #[.string key] 9)) (by simp)
  · have := heap_alloc_new (w.alloc (.cells #[.string key] 9)) (.cells #[.string en] 9)
    simpa [SBox] using this
/-- Does a key lie in a stretch? -/
def inS (key en s : ByteArray) : Bool := !(Op.bytesLess s.toList key.toList) && (en.toList == [] || Op.bytesLess s.toList en.toList)
set_option maxHeartbeats 1000000 in
theorem stretch1_any (b c : Nat) (key en s : ByteArray) (B : Bool) (w : World) (hb : SBox w b key) (hc : SBox w c en) (hB : B = inS key en s) : Calls Tryz.prog 71 #[.string s, .pointer (some ⟨b, 0, none⟩), .pointer (some ⟨c, 0, none⟩)] w fun e w' => e = .returned (.bool B) ∧ Fr [] w w' := by
  have c0 := hb.c
  have c1 := hc.c
  have hE0 : (⟨#[]⟩ : ByteArray).toList = [] := (tl_nil _).2 rfl
  obtain ⟨G, hG⟩ : ∃ G, Op.bytesLess s.toList key.toList = G := ⟨_, rfl⟩
  obtain ⟨E, hE⟩ : ∃ E, (en.toList == ([] : List UInt8)) = E := ⟨_, rfl⟩
  obtain ⟨K, hK⟩ : ∃ K, Op.bytesLess s.toList en.toList = K := ⟨_, rfl⟩
  have hB' : B = (!G && (E || K)) := by rw [hB, ← hG, ← hE, ← hK]; rfl
  have HB : Hid (B = (!G && (E || K))) := hB'
  clear hB hB'
  have hundef : undef = Value.tuple #[] := rfl
  cases G <;> cases E <;> cases K <;> (go_enter Tryz.func71, Tryz.ntmps71; go_wp2; go_ret; exact ⟨by rw [HB.out]; rfl, Fr.refl _ _⟩)
end Go.Proofs.YtakbodlicfmkjaaGreat.Fo
