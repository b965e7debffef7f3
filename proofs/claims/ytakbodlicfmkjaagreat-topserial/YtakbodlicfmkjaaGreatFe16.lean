/- A feed as a plain thing, and the program's feed in memory. Conditions as each names them. -/
import Derived.Test.YtakbodlicfmkjaaGreatMg16
import Derived.Test.YtakbodlicfmkjaaGreatGet6
import Derived.Test.YtakbodlicfmkjaaGreatNos6
namespace Go.Proofs.YtakbodlicfmkjaaGreat.F
open Go.ChangeShapes Go.WideShapes Go.ChangeAt Go.RowKit Go.Lib Go.Maps
set_option linter.unusedVariables false
set_option linter.unusedSimpArgs false

/-- A feed: the number that it read last, up to where the log goes, its window, does it hold a record, is it closed. -/
structure Fe where
  rd : Nat
  fd : Nat
  wn : Nat
  hv : Bool
  cl : Bool
def Fe.num (s : Fe) : Nat := if s.hv = true then s.rd else 0
def Fe.near (s : Fe) (mark : Int) : Bool := decide ((s.rd : Int) - s.wn ≤ mark)
def Fe.turn (s : Fe) (bs : List Int) : Nat := if s.hv = false then 1 else if (s.rd : Int) ∈ bs then 2 else 3
def Fe.can (s : Fe) (bs : List Int) (mark : Int) : Nat := if s.hv = false then (if s.cl = false ∧ s.rd < s.fd then 1 else 0) else if (s.rd : Int) ∈ bs then 2 else if s.near mark = true then 3 else 0
def Fe.moreC (s : Fe) (L : Nat) (last : Int) : Nat := if s.cl = true then 12 else if last < s.fd ∨ (L : Int) < last then 1 else 0
def Fe.moreS (s : Fe) (L : Nat) (last : Int) : Fe := if s.moreC L last = 0 then { s with fd := last.toNat } else s
def Fe.readC (s : Fe) : Nat := if s.hv = true then 10 else if s.cl = true then 12 else if s.fd ≤ s.rd then 9 else 0
def Fe.readN (s : Fe) : Nat := if s.readC = 0 then s.rd + 1 else 0
def Fe.readS (s : Fe) : Fe := if s.readC = 0 then { s with rd := s.rd + 1, hv := true } else s
def Fe.skipC (s : Fe) (bs : List Int) : Nat := if s.hv = false then 9 else if (s.rd : Int) ∈ bs then 0 else 6
def Fe.skipN (s : Fe) (bs : List Int) : Nat := if s.skipC bs = 0 then s.rd else 0
def Fe.skipS (s : Fe) (bs : List Int) : Fe := if s.skipC bs = 0 then { s with hv := false } else s
def Fe.disC (s : Fe) (bs : List Int) (mark : Int) : Nat := if s.hv = false then 9 else if (s.rd : Int) ∈ bs ∨ s.near mark = false then 6 else 0
def Fe.disS (s : Fe) (bs : List Int) (mark : Int) : Fe := if s.disC bs mark = 0 then { s with hv := false } else s
def Fe.close (s : Fe) : Fe := { s with cl := true }
/-- What the map of numbers beyond still has to say. -/
structure Bey (F : Int → Option Unit) (bs : List Int) (s : Fe) : Prop where
  ahead : ∀ x : Int, i64 x → (s.rd : Int) < x → (F x).isSome = decide (x ∈ bs)
  now : s.hv = true → (F s.rd).isSome = decide ((s.rd : Int) ∈ bs)
/-- The program's feed: its struct lies in block f, its map in block mb, its source in block g. -/
structure FdM (w0 w : World) (f g lb L : Nat) (ts : List Tm) (v : Value) (qs : List Nat) (mb : Nat) (bs : List Int) (s : Fe) (hw : Value) : Prop where
  src : Src w0 w g lb L ts v qs
  ok : okL 1 (txs ts)
  box : w.heap[f]? = some (.cells #[.pointer (some ⟨g, 0, none⟩), .int .i64 (s.rd : Int), .int .i64 (s.fd : Int), .int .i64 (s.wn : Int), .map (some mb), .int .i64 (s.num : Int), hw, .bool s.cl] 163 (0, 0))
  map : ∃ n F, MapG kBey w mb n F ∧ Bey F bs s
  rf : s.rd ≤ s.fd
  fl : s.fd ≤ L
  wn : 1 ≤ s.wn ∧ s.wn ≤ 64
  held : s.hv = true → 1 ≤ s.rd ∧ ∃ k, hw = .slice (some ⟨k, 0, none⟩) (ts.getD (s.rd - 1) Tm.zero).L (ts.getD (s.rd - 1) Tm.zero).L ∧ w.heap[k]? = some (.cells (wtsC (ts.getD (s.rd - 1) Tm.zero).ws).toArray 56 (0, 0)) ∧ w0.heap.size ≤ k
  slot : ∃ o n c, hw = .slice o n c
  fn : w0.heap.size ≤ f
  mn : w0.heap.size ≤ mb
section
variable {w0 w w' : World} {f g lb L : Nat} {ts : List Tm} {v : Value} {qs : List Nat} {mb : Nat} {bs : List Int} {s : Fe} {hw : Value}
theorem FdM.lt (h : FdM w0 w f g lb L ts v qs mb bs s hw) : f < w.heap.size := lt_of_block h.box
theorem FdM.mlt (h : FdM w0 w f g lb L ts v qs mb bs s hw) : mb < w.heap.size := by obtain ⟨n, F, hm, _⟩ := h.map; exact hm.lt
theorem FdM.c0 (h : FdM w0 w f g lb L ts v qs mb bs s hw) : w.cell? ⟨f, 0, none⟩ = some (.pointer (some ⟨g, 0, none⟩)) := by simp [World.cell?, h.box]
theorem FdM.c1 (h : FdM w0 w f g lb L ts v qs mb bs s hw) : w.cell? ⟨f, 1, none⟩ = some (.int .i64 (s.rd : Int)) := by simp [World.cell?, h.box]
theorem FdM.c2 (h : FdM w0 w f g lb L ts v qs mb bs s hw) : w.cell? ⟨f, 2, none⟩ = some (.int .i64 (s.fd : Int)) := by simp [World.cell?, h.box]
theorem FdM.c3 (h : FdM w0 w f g lb L ts v qs mb bs s hw) : w.cell? ⟨f, 3, none⟩ = some (.int .i64 (s.wn : Int)) := by simp [World.cell?, h.box]
theorem FdM.c4 (h : FdM w0 w f g lb L ts v qs mb bs s hw) : w.cell? ⟨f, 4, none⟩ = some (.map (some mb)) := by simp [World.cell?, h.box]
theorem FdM.c5 (h : FdM w0 w f g lb L ts v qs mb bs s hw) : w.cell? ⟨f, 5, none⟩ = some (.int .i64 (s.num : Int)) := by simp [World.cell?, h.box]
theorem FdM.c6 (h : FdM w0 w f g lb L ts v qs mb bs s hw) : w.cell? ⟨f, 6, none⟩ = some hw := by simp [World.cell?, h.box]
theorem FdM.c7 (h : FdM w0 w f g lb L ts v qs mb bs s hw) : w.cell? ⟨f, 7, none⟩ = some (.bool s.cl) := by simp [World.cell?, h.box]
theorem FdM.fz (h : FdM w0 w f g lb L ts v qs mb bs s hw) (j : Nat) : w.frozen? ⟨f, j, none⟩ = false := by simp [World.frozen?, h.box]
theorem FdM.keepS {S : List Nat} (h : FdM w0 w f g lb L ts v qs mb bs s hw) (hf : Fr S w w') (hS : ∀ k ∈ S, ∀ o, w.heap[k]? = some o → (∃ cs t, o = .cells cs t (0, 0) ∧ t ≠ 163 ∧ t ≠ 91 ∧ t ≠ 59 ∧ t ≠ 56 ∧ (t = 3 → v.ownBlock ≠ some k))) : FdM w0 w' f g lb L ts v qs mb bs s hw := by
  have hno : ∀ k cs t, w.heap[k]? = some (.cells cs t (0, 0)) → (t = 163 ∨ t = 91 ∨ t = 59 ∨ t = 56) → k ∉ S := by
    intro k cs t hk ht hm
    obtain ⟨cs', t', e, a1, a2, a3, a4, _⟩ := hS k hm _ hk
    cases e
    rcases ht with rfl | rfl | rfl | rfl
    · exact a1 rfl
    · exact a2 rfl
    · exact a3 rfl
    · exact a4 rfl
  have hs := h.src
  refine ⟨⟨hf.keep hs.box (hno _ _ _ hs.box (by simp)), hf.keep hs.log (hno _ _ _ hs.log (by simp)), hs.len, hs.few, fun t ht => (hs.each t ht).keepS hf (fun k hk => hno _ _ _ hk (by simp)), owns_keep hs.row hf (fun k hk hm => ?_), hs.gn, hs.ln, hs.rn⟩, h.ok, hf.keep h.box (hno _ _ _ h.box (by simp)), ?_, h.rf, h.fl, h.wn, fun hv => ?_, h.slot, h.fn, h.mn⟩
  · obtain ⟨cur, hc⟩ := hs.rowNe hk
    obtain ⟨cs', t', e, _, _, _, _, a5⟩ := hS k hm _ hc
    cases e
    exact a5 rfl hk
  · obtain ⟨n, F, hm, hb⟩ := h.map
    refine ⟨n, F, hm.keep hf (fun hx => ?_), hb⟩
    obtain ⟨es, c, he⟩ := hm.block
    obtain ⟨cs', t', e, _⟩ := hS mb hx _ he
    cases e
  · obtain ⟨h1, k, e, hk, hn⟩ := h.held hv
    exact ⟨h1, k, e, hf.keep hk (hno _ _ _ hk (by simp)), hn⟩
theorem FdM.keep (h : FdM w0 w f g lb L ts v qs mb bs s hw) (hf : Fr [] w w') : FdM w0 w' f g lb L ts v qs mb bs s hw := h.keepS hf (by simp)
/-- The numbers of the log. -/
theorem FdM.numOf (h : FdM w0 w f g lb L ts v qs mb bs s hw) (n : Nat) (hn : 1 ≤ n) (hnL : n ≤ L) : (ts.getD (n - 1) Tm.zero).n = (n : Int) := by
  have hl := h.src.len
  have := (okL_get h.ok (n - 1) (by rw [txs_length]; omega)).2
  rw [txs_getD] at this
  have e : ((1 + (n - 1) : Nat) : Int) = n := by omega
  rw [← e, ← this]
  rfl
theorem FdM.few (h : FdM w0 w f g lb L ts v qs mb bs s hw) : L ≤ 65536 := h.src.few
/-- A feed's blocks. -/
def FdM.own (f g : Nat) (v : Value) (mb : Nat) : List Nat := f :: mb :: Src.own g v
/-- One cell of the struct is stored. -/
theorem fd_set {b j : Nat} {cs : Array Value} (x : Value) (h : w.heap[b]? = some (.cells cs 163 (0, 0))) : (w.setCell ⟨b, j, none⟩ x).heap[b]? = some (.cells (cs.setIfInBounds j x) 163 (0, 0)) := row_setCell x h
end
/-- A feed that is not there: none, or a struct that New did not make. -/
def NoF (p : Value) (w : World) : Prop := p = .pointer none ∨ ∃ f, p = .pointer (some ⟨f, 0, none⟩) ∧ w.heap[f]? = some (.cells #[.pointer none, .int .i64 0, .int .i64 0, .int .i64 0, .map none, .int .i64 0, .slice none 0 0, .bool false] 163 (0, 0))
theorem NoF.keep {p : Value} {w w' : World} (h : NoF p w) (hf : Fr [] w w') : NoF p w' := by
  rcases h with h | ⟨f, e, hf2⟩
  · exact Or.inl h
  · exact Or.inr ⟨f, e, hf.keep hf2 (by simp)⟩
end Go.Proofs.YtakbodlicfmkjaaGreat.F
