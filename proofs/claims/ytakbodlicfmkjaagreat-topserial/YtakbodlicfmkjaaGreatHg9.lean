/- Are keys with their versions the same: contracts of SameHeld and SameHelds. Conditions as each names them. -/
import Derived.Test.YtakbodlicfmkjaaGreatHk9
namespace Go.Proofs.YtakbodlicfmkjaaGreat.O
open Go.ChangeShapes Go.WideShapes Go.ChangeAt Go.RowKit Go.Lib Go.Maps
set_option linter.unusedVariables false
set_option linter.unusedSimpArgs false

def hkv (h : Hd) : ByteArray × List Vn := (h.key, h.vs)
/-- What is picked is one. -/
theorem PkT.one {M f : ByteArray → List Vn} {hs hs' : List Hd} (h : PkT M f hs) (h' : PkT M f hs') : hs.map hkv = hs'.map hkv := by
  have key : ∀ {as' bs : List Hd}, PkT M f as' → PkT M f bs → ∀ k, k ∈ as'.map (·.key) → k ∈ bs.map (·.key) := by
    intro as' bs ha hb k hk
    obtain ⟨x, hx, e⟩ := List.mem_map.1 hk
    obtain ⟨y, hy, e2⟩ := hb.all x.key (ha.is x hx).2.2 (ha.is x hx).2.1
    exact List.mem_map.2 ⟨y, hy, e2.trans e⟩
  have inc : ∀ {as' : List Hd}, PkT M f as' → Inc ((as'.map (·.key)).map fun k => (k, k)) := by
    intro as' ha
    unfold Inc
    rw [List.pairwise_map, List.pairwise_map]
    exact ha.inc
  have hk : hs.map (·.key) = hs'.map (·.key) := by
    have h1 := inc_unique (inc h) (inc h') (fun p => by
      constructor
      · intro hp
        obtain ⟨k, hk, rfl⟩ := List.mem_map.1 hp
        exact List.mem_map.2 ⟨k, key h h' k hk, rfl⟩
      · intro hp
        obtain ⟨k, hk, rfl⟩ := List.mem_map.1 hp
        exact List.mem_map.2 ⟨k, key h' h k hk, rfl⟩)
    have h2 := congrArg (List.map Prod.fst) h1
    simpa [List.map_map, Function.comp_def] using h2
  have e : ∀ {as' : List Hd}, PkT M f as' → as'.map hkv = (as'.map (·.key)).map fun k => (k, f k) := by
    intro as' ha
    rw [List.map_map]
    exact List.map_congr_left fun x hx => by simp only [hkv, Function.comp_apply]; rw [(ha.is x hx).1]
  rw [e h, e h', hk]
end Go.Proofs.YtakbodlicfmkjaaGreat.O
