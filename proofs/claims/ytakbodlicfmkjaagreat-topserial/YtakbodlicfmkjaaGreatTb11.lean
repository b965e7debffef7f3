/- A table in memory: its struct, its three maps, its entries with their rows; which blocks are its own; what each store makes of it. Conditions as each names them. -/
import Derived.Test.YtakbodlicfmkjaaGreatMg11
import Derived.Test.YtakbodlicfmkjaaGreatDm11
import Derived.Test.YtakbodlicfmkjaaGreatRi11
namespace Go.Proofs.YtakbodlicfmkjaaGreat
open Go.ChangeShapes Go.WideShapes Go.ChangeAt Go.RowKit Go.Lib Go.Maps
set_option linter.unusedVariables false
set_option linter.unusedSimpArgs false

/-- A slice's three parts. -/
structure Rw where
  o : Option Addr
  n : Nat
  c : Nat
/-- The block that it owns. -/
def Rw.bl (r : Rw) : Option Nat := (Value.slice r.o r.n r.c).ownBlock
/-- An entry: its block, its two rows. -/
structure En where
  g : Nat
  a : Rw
  b : Rw
/-- A table: its struct lies in block tb, its maps in lb, ob, wb; B are the blocks that are its own. -/
structure TbI (w : World) (tb lb ob wb : Nat) (B : List Nat) (n : Nat) (D : Dt) (E : Int → Option En) : Prop where
  box : w.heap[tb]? = some (.cells #[.map (some lb), .int .i64 D.newest, .map (some ob), .map (some wb)] 180 (0, 0))
  bt : tb ∈ B
  bl : lb ∈ B
  bo : ob ∈ B
  bw : wb ∈ B
  lo : lb ≠ ob
  lw : lb ≠ wb
  ow : ob ≠ wb
  mine : ∀ j ∈ B, j < w.heap.size
  mapL : ∃ F, MapG kLast w lb n F ∧ ∀ k, (F k).getD 0 = D.last k
  mapO : MapG kOpen w ob n (fun m => (E m).map fun e => some e.g)
  mapW : ∃ F, MapG kWaits w wb n F ∧ ∀ a m, (F (a, m)).isSome = true ↔ D.wt a m
  opn : ∀ m, (E m).isSome = true ↔ D.op m
  few : 0 ≤ D.newest ∧ D.newest ≤ 65536
  ent : ∀ m e, E m = some e → w.heap[e.g]? = some (.cells #[.slice e.a.o e.a.n e.a.c, .slice e.b.o e.b.n e.b.c] 364 (0, 0)) ∧ e.g ∈ B ∧ IOw 0 w e.a.o e.a.n e.a.c (D.ah m) ∧ IOw 0 w e.b.o e.b.n e.b.c (D.bh m) ∧ (∀ k, e.a.bl = some k → k ∈ B) ∧ ∀ k, e.b.bl = some k → k ∈ B
  injg : ∀ m e m' e', E m = some e → E m' = some e' → e.g = e'.g → m = m'
  injb : ∀ m e m' e' k, E m = some e → E m' = some e' → e.b.bl = some k → e'.b.bl = some k → m = m'
  ab : ∀ m e m' e' k, E m = some e → E m' = some e' → e.b.bl = some k → e'.a.bl ≠ some k
section
variable {w w' : World} {tb lb ob wb : Nat} {B : List Nat} {n : Nat} {D : Dt} {E : Int → Option En}
theorem ne_of_blocks {j k : Nat} {cs : Array Value} {t : TypeId} {fr : Nat × Nat} (h : w.heap[j]? = some (.cells cs t fr)) (h' : ∃ es c, w.heap[k]? = some (.map es c)) : j ≠ k := by
  obtain ⟨es, c, h'⟩ := h'
  intro e
  rw [e, h'] at h
  cases h
theorem ne_of_types {j k : Nat} {cs cs' : Array Value} {t t' : TypeId} {fr fr' : Nat × Nat} (h : w.heap[j]? = some (.cells cs t fr)) (h' : w.heap[k]? = some (.cells cs' t' fr')) (ht : t ≠ t') : j ≠ k := by
  intro e
  rw [e, h'] at h
  cases h
  exact ht rfl
theorem TbI.bL (h : TbI w tb lb ob wb B n D E) : ∃ es c, w.heap[lb]? = some (.map es c) := by
  obtain ⟨F, hF, _⟩ := h.mapL
  exact hF.block
theorem TbI.bO (h : TbI w tb lb ob wb B n D E) : ∃ es c, w.heap[ob]? = some (.map es c) := h.mapO.block
theorem TbI.bW (h : TbI w tb lb ob wb B n D E) : ∃ es c, w.heap[wb]? = some (.map es c) := by
  obtain ⟨F, hF, _⟩ := h.mapW
  exact hF.block
theorem TbI.keep {S : List Nat} (h : TbI w tb lb ob wb B n D E) (hf : Fr S w w') (hS : ∀ j ∈ B, j ∉ S) : TbI w' tb lb ob wb B n D E := by
  obtain ⟨FL, hL, hL2⟩ := h.mapL
  obtain ⟨FW, hW, hW2⟩ := h.mapW
  refine ⟨hf.keep h.box (hS _ h.bt), h.bt, h.bl, h.bo, h.bw, h.lo, h.lw, h.ow, fun j hj => Nat.lt_of_lt_of_le (h.mine j hj) hf.size, ⟨FL, hL.keep hf (hS _ h.bl), hL2⟩, h.mapO.keep hf (hS _ h.bo), ⟨FW, hW.keep hf (hS _ h.bw), hW2⟩, h.opn, h.few, fun m e hm => ?_, h.injg, h.injb, h.ab⟩
  obtain ⟨h1, h2, h3, h4, h5, h6⟩ := h.ent m e hm
  exact ⟨hf.keep h1 (hS _ h2), h2, h3.keepS hf (fun k hk => hS k (h5 k hk)), h4.keepS hf (fun k hk => hS k (h6 k hk)), h5, h6⟩
theorem TbI.mono {m : Nat} (h : TbI w tb lb ob wb B n D E) (hn : n ≤ m) : TbI w tb lb ob wb B m D E := by
  obtain ⟨FL, hL, hL2⟩ := h.mapL
  obtain ⟨FW, hW, hW2⟩ := h.mapW
  exact ⟨h.box, h.bt, h.bl, h.bo, h.bw, h.lo, h.lw, h.ow, h.mine, ⟨FL, hL.mono hn, hL2⟩, h.mapO.mono hn, ⟨FW, hW.mono hn, hW2⟩, h.opn, h.few, h.ent, h.injg, h.injb, h.ab⟩
theorem TbI.c0 (h : TbI w tb lb ob wb B n D E) : w.cell? ⟨tb, 0, none⟩ = some (.map (some lb)) := by rw [cell_of_row _ _ _ _ _ _ h.box]; rfl
theorem TbI.c1 (h : TbI w tb lb ob wb B n D E) : w.cell? ⟨tb, 1, none⟩ = some (.int .i64 D.newest) := by rw [cell_of_row _ _ _ _ _ _ h.box]; rfl
theorem TbI.c2 (h : TbI w tb lb ob wb B n D E) : w.cell? ⟨tb, 2, none⟩ = some (.map (some ob)) := by rw [cell_of_row _ _ _ _ _ _ h.box]; rfl
theorem TbI.c3 (h : TbI w tb lb ob wb B n D E) : w.cell? ⟨tb, 3, none⟩ = some (.map (some wb)) := by rw [cell_of_row _ _ _ _ _ _ h.box]; rfl
/-- Who wrote a key last. -/
theorem TbI.lookL (h : TbI w tb lb ob wb B n D E) (key : ByteArray) (hk : key.size ≤ maxLen) : (Instr.lookup 177 (.map (some lb)) (.string key) false).run Tryz.prog w = .ok (.int .i64 (D.last key)) w := by
  obtain ⟨F, hF, hF2⟩ := h.mapL
  have := hF.look key hk
  rw [show (kLast.ev ((F key).getD kLast.z0)) = Value.int .i64 ((F key).getD 0) from rfl, hF2] at this
  exact this
open Classical in
/-- Is it open? -/
theorem TbI.lookO (h : TbI w tb lb ob wb B n D E) (m : Int) (hm : i64 m) : ∃ v, (Instr.lookup 175 (.map (some ob)) (.int .i64 m) true).run Tryz.prog w = .ok (.tuple #[v, .bool (decide (D.op m))]) w := by
  have := h.mapO.lookOk m hm
  have e : ((E m).map fun e => some e.g).isSome = decide (D.op m) := by
    rw [Option.isSome_map]
    cases hE : (E m).isSome with
    | true => simp [(h.opn m).1 hE]
    | false =>
      have : ¬ D.op m := fun ho => by rw [(h.opn m).2 ho] at hE; cases hE
      simp [this]
  rw [e] at this
  exact ⟨_, this⟩
theorem TbI.lookE (h : TbI w tb lb ob wb B n D E) (m : Int) (hm : i64 m) (e : En) (he : E m = some e) : (Instr.lookup 175 (.map (some ob)) (.int .i64 m) false).run Tryz.prog w = .ok (.pointer (some ⟨e.g, 0, none⟩)) w := by
  have := h.mapO.look m hm
  rw [he] at this
  exact this
open Classical in
theorem TbI.lookW (h : TbI w tb lb ob wb B n D E) (a m : Int) (ha : i64 a) (hm : i64 m) : (Instr.lookup 178 (.map (some wb)) (.agg #[.int .i64 a, .int .i64 m]) true).run Tryz.prog w = .ok (.tuple #[.agg #[], .bool (decide (D.wt a m))]) w := by
  obtain ⟨F, hF, hF2⟩ := h.mapW
  have := hF.lookOk (a, m) ⟨ha, hm⟩
  have e : (F (a, m)).isSome = decide (D.wt a m) := by
    cases hE : (F (a, m)).isSome with
    | true => simp [(hF2 a m).1 hE]
    | false =>
      have : ¬ D.wt a m := fun ho => by rw [(hF2 a m).2 ho] at hE; cases hE
      simp [this]
  rw [e] at this
  exact this
/-- One waits for another one. -/
def Dt.wait (D : Dt) (a m : Int) : Dt := { D with wt := fun x y => D.wt x y ∨ (x = a ∧ y = m) }
theorem TbI.others (h : TbI w tb lb ob wb B n D E) {S : List Nat} (hf : Fr S w w') (hm : ∀ j ∈ S, ∃ es c, w.heap[j]? = some (.map es c)) :
    w'.heap[tb]? = some (.cells #[.map (some lb), .int .i64 D.newest, .map (some ob), .map (some wb)] 180 (0, 0)) ∧ (∀ j ∈ B, j < w'.heap.size) ∧
    ∀ m e, E m = some e → w'.heap[e.g]? = some (.cells #[.slice e.a.o e.a.n e.a.c, .slice e.b.o e.b.n e.b.c] 364 (0, 0)) ∧ e.g ∈ B ∧ IOw 0 w' e.a.o e.a.n e.a.c (D.ah m) ∧ IOw 0 w' e.b.o e.b.n e.b.c (D.bh m) ∧ (∀ k, e.a.bl = some k → k ∈ B) ∧ ∀ k, e.b.bl = some k → k ∈ B := by
  refine ⟨hf.keep h.box (fun hj => ne_of_blocks h.box (hm _ hj) rfl), fun j hj => Nat.lt_of_lt_of_le (h.mine j hj) hf.size, fun m e he => ?_⟩
  obtain ⟨h1, h2, h3, h4, h5, h6⟩ := h.ent m e he
  refine ⟨hf.keep h1 (fun hj => ne_of_blocks h1 (hm _ hj) rfl), h2, h3.keepS hf (fun k hk hj => ?_), h4.keepS hf (fun k hk hj => ?_), h5, h6⟩
  · obtain ⟨_, cur, hc⟩ := h3.blk hk
    exact ne_of_blocks hc (hm _ hj) rfl
  · obtain ⟨_, cur, hc⟩ := h4.blk hk
    exact ne_of_blocks hc (hm _ hj) rfl
theorem TbI.storeW (h : TbI w tb lb ob wb B n D E) (a m : Int) (ha : i64 a) (hm : i64 m) (hn : n < maxLen) :
    ∃ w', (Instr.mapUpdate 178 (.map (some wb)) (.agg #[.int .i64 a, .int .i64 m]) (.agg #[])).run Tryz.prog w = .ok () w' ∧ TbI w' tb lb ob wb B (n + 1) (D.wait a m) E ∧ Fr [wb] w w' := by
  obtain ⟨FL, hL, hL2⟩ := h.mapL
  obtain ⟨FW, hW, hW2⟩ := h.mapW
  obtain ⟨w', hrun, hW', hf⟩ := hW.store (a, m) () ⟨ha, hm⟩ hn
  obtain ⟨g1, g2, g3⟩ := h.others hf (by simpa using h.bW)
  refine ⟨w', hrun, ⟨g1, h.bt, h.bl, h.bo, h.bw, h.lo, h.lw, h.ow, g2, ⟨FL, (hL.keep hf (by simpa using h.lw)).mono (by omega), hL2⟩, (h.mapO.keep hf (by simpa using h.ow)).mono (by omega), ⟨_, hW', fun x y => ?_⟩, h.opn, h.few, g3, h.injg, h.injb, h.ab⟩, hf⟩
  show _ ↔ D.wt x y ∨ (x = a ∧ y = m)
  by_cases e : (x, y) = (a, m)
  · rw [e, updF_same]
    simp only [Prod.mk.injEq] at e
    simp [e]
  · rw [updF_other _ _ e, hW2]
    simp only [Prod.mk.injEq] at e
    simp [e]
theorem TbI.dropW (h : TbI w tb lb ob wb B n D E) (a m : Int) (ha : i64 a) (hm : i64 m) (ty : TypeId) :
    ∃ w', (Builtin.delete_ #[178, 366] ty #[.map (some wb), .agg #[.int .i64 a, .int .i64 m]]).run Tryz.prog w = .ok (.tuple #[]) w' ∧ TbI w' tb lb ob wb B n { D with wt := fun x y => D.wt x y ∧ ¬ (x = a ∧ y = m) } E ∧ Fr [wb] w w' := by
  obtain ⟨FL, hL, hL2⟩ := h.mapL
  obtain ⟨FW, hW, hW2⟩ := h.mapW
  obtain ⟨w', hrun, hW', hf⟩ := hW.drop (a, m) ⟨ha, hm⟩ ty
  obtain ⟨g1, g2, g3⟩ := h.others hf (by simpa using h.bW)
  refine ⟨w', hrun, ⟨g1, h.bt, h.bl, h.bo, h.bw, h.lo, h.lw, h.ow, g2, ⟨FL, (hL.keep hf (by simpa using h.lw)), hL2⟩, (h.mapO.keep hf (by simpa using h.ow)), ⟨_, hW', fun x y => ?_⟩, h.opn, h.few, g3, h.injg, h.injb, h.ab⟩, hf⟩
  show _ ↔ D.wt x y ∧ ¬ (x = a ∧ y = m)
  by_cases e : (x, y) = (a, m)
  · rw [e, updF_same]
    simp only [Prod.mk.injEq] at e
    simp [e]
  · rw [updF_other _ _ e, hW2]
    simp only [Prod.mk.injEq] at e
    simp [e]
open Classical in
/-- A key's last writer. -/
noncomputable def Dt.wrote (D : Dt) (key : ByteArray) (x : Int) : Dt := { D with last := fun k => if k = key then x else D.last k }
theorem TbI.storeL (h : TbI w tb lb ob wb B n D E) (key : ByteArray) (x : Int) (hk : key.size ≤ maxLen) (hn : n < maxLen) :
    ∃ w', (Instr.mapUpdate 177 (.map (some lb)) (.string key) (.int .i64 x)).run Tryz.prog w = .ok () w' ∧ TbI w' tb lb ob wb B (n + 1) (D.wrote key x) E ∧ Fr [lb] w w' := by
  obtain ⟨FL, hL, hL2⟩ := h.mapL
  obtain ⟨FW, hW, hW2⟩ := h.mapW
  obtain ⟨w', hrun, hL', hf⟩ := hL.store key x hk hn
  obtain ⟨g1, g2, g3⟩ := h.others hf (by simpa using h.bL)
  refine ⟨w', hrun, ⟨g1, h.bt, h.bl, h.bo, h.bw, h.lo, h.lw, h.ow, g2, ⟨_, hL', fun k => ?_⟩, (h.mapO.keep hf (by simpa using h.lo.symm)).mono (by omega), ⟨FW, (hW.keep hf (by simpa using h.lw.symm)).mono (by omega), hW2⟩, h.opn, h.few, g3, h.injg, h.injb, h.ab⟩, hf⟩
  show _ = if k = key then x else D.last k
  by_cases e : k = key
  · rw [e, updF_same, if_pos rfl]; rfl
  · rw [updF_other _ _ e, hL2, if_neg e]
/-- One has ended. -/
theorem TbI.dropO (h : TbI w tb lb ob wb B n D E) (m : Int) (hm : i64 m) (ty : TypeId) :
    ∃ w', (Builtin.delete_ #[175, 3] ty #[.map (some ob), .int .i64 m]).run Tryz.prog w = .ok (.tuple #[]) w' ∧ TbI w' tb lb ob wb B n { D with op := fun x => D.op x ∧ x ≠ m } (updF E m none) ∧ Fr [ob] w w' := by
  obtain ⟨FL, hL, hL2⟩ := h.mapL
  obtain ⟨FW, hW, hW2⟩ := h.mapW
  obtain ⟨w', hrun, hO', hf⟩ := h.mapO.drop m hm ty
  obtain ⟨g1, g2, g3⟩ := h.others hf (by simpa using h.bO)
  have hE : ∀ x e, updF E m none x = some e → E x = some e := fun x e hx => by
    by_cases hxm : x = m
    · rw [hxm, updF_same] at hx; cases hx
    · rwa [updF_other _ _ hxm] at hx
  refine ⟨w', hrun, ⟨g1, h.bt, h.bl, h.bo, h.bw, h.lo, h.lw, h.ow, g2, ⟨FL, hL.keep hf (by simpa using h.lo), hL2⟩, ?_, ⟨FW, hW.keep hf (by simpa using h.ow.symm), hW2⟩, fun x => ?_, h.few, fun x e hx => g3 x e (hE x e hx), fun x e x' e' hx hx' => h.injg x e x' e' (hE _ _ hx) (hE _ _ hx'), fun x e x' e' k hx hx' => h.injb x e x' e' k (hE _ _ hx) (hE _ _ hx'), fun x e x' e' k hx hx' => h.ab x e x' e' k (hE _ _ hx) (hE _ _ hx')⟩, hf⟩
  · have e : (fun x => (updF E m none x).map fun e => some e.g) = updF (fun m => (E m).map fun e => some e.g) m none := by
      funext x
      by_cases hxm : x = m
      · rw [hxm, updF_same, updF_same]; rfl
      · rw [updF_other _ _ hxm, updF_other _ _ hxm]
    rw [e]
    exact hO'
  · show _ ↔ D.op x ∧ x ≠ m
    by_cases hxm : x = m
    · rw [hxm, updF_same]; simp
    · rw [updF_other _ _ hxm, h.opn x]; simp [hxm]
theorem row4_set1 {w : World} {b : Nat} {u v x y z : Value} {t : TypeId} (h : w.heap[b]? = some (.cells #[u, v, x, y] t (0, 0))) : (w.setCell ⟨b, 1, none⟩ z).heap[b]? = some (.cells #[u, z, x, y] t (0, 0)) := by
  have hlt := lt_of_block h
  have h' : w.heap[b] = .cells #[u, v, x, y] t (0, 0) := by simpa [Array.getElem?_eq_getElem hlt] using h
  show (w.heap.modify b _)[b]? = _
  rw [Array.getElem?_eq_getElem (by simpa using hlt), Array.getElem_modify_self, h']
  rfl
/-- The newest one. -/
theorem TbI.setN (h : TbI w tb lb ob wb B n D E) (x : Int) (hx : 0 ≤ x ∧ x ≤ 65536) : TbI (w.setCell ⟨tb, 1, none⟩ (.int .i64 x)) tb lb ob wb B n { D with newest := x } E ∧ Fr [tb] w (w.setCell ⟨tb, 1, none⟩ (.int .i64 x)) := by
  have hf : Fr [tb] w (w.setCell ⟨tb, 1, none⟩ (.int .i64 x)) := Fr.set _ _ _ (by simp)
  obtain ⟨FL, hL, hL2⟩ := h.mapL
  obtain ⟨FW, hW, hW2⟩ := h.mapW
  refine ⟨⟨row4_set1 h.box, h.bt, h.bl, h.bo, h.bw, h.lo, h.lw, h.ow, fun j hj => Nat.lt_of_lt_of_le (h.mine j hj) hf.size, ⟨FL, hL.keep hf ?_, hL2⟩, h.mapO.keep hf ?_, ⟨FW, hW.keep hf ?_, hW2⟩, h.opn, hx, fun m e he => ?_, h.injg, h.injb, h.ab⟩, hf⟩
  · simpa using (ne_of_blocks h.box h.bL).symm
  · simpa using (ne_of_blocks h.box h.bO).symm
  · simpa using (ne_of_blocks h.box h.bW).symm
  · obtain ⟨h1, h2, h3, h4, h5, h6⟩ := h.ent m e he
    refine ⟨hf.keep h1 (by simpa using ne_of_types h1 h.box (by decide)), h2, h3.keepS hf (fun k hk => ?_), h4.keepS hf (fun k hk => ?_), h5, h6⟩
    · obtain ⟨_, cur, hc⟩ := h3.blk hk
      simpa using ne_of_types hc h.box (by decide)
    · obtain ⟨_, cur, hc⟩ := h4.blk hk
      simpa using ne_of_types hc h.box (by decide)
open Classical in
/-- One more that waits for m. -/
noncomputable def Dt.behind (D : Dt) (m x : Int) : Dt := { D with bh := fun y => if y = m then D.bh m ++ [x] else D.bh y }
theorem TbI.behind (h : TbI w tb lb ob wb B n D E) (m x : Int) (e : En) (he : E m = some e) {w1 : World} {o' : Option Addr} {c' : Nat} (hO : IOw 0 w1 o' (e.b.n + 1) c' (D.bh m ++ [x])) (hf : Fr e.b.bl.toList w w1) (hnew : ∀ g, (Value.slice o' (e.b.n + 1) c').ownBlock = some g → e.b.bl = some g ∨ w.heap.size ≤ g) :
    ∃ B', TbI (w1.setCell ⟨e.g, 1, none⟩ (.slice o' (e.b.n + 1) c')) tb lb ob wb B' n (D.behind m x) (updF E m (some ⟨e.g, e.a, ⟨o', e.b.n + 1, c'⟩⟩)) ∧ (∀ j ∈ B', j ∈ B ∨ w.heap.size ≤ j) ∧ Fr B w (w1.setCell ⟨e.g, 1, none⟩ (.slice o' (e.b.n + 1) c')) ∧ (∀ j ∈ B, j ∈ B') ∧ (w1.cell? ⟨e.g, 1, none⟩ = some (.slice e.b.o e.b.n e.b.c) ∧ w1.frozen? ⟨e.g, 1, none⟩ = false) := by
  obtain ⟨FL, hL, hL2⟩ := h.mapL
  obtain ⟨FW, hW, hW2⟩ := h.mapW
  obtain ⟨h1, h2, h3, h4, h5, h6⟩ := h.ent m e he
  have hbc : ∀ k ∈ e.b.bl.toList, ∃ cur, w.heap[k]? = some (.cells cur 3 (0, 0)) := fun k hk => (h4.blk (Option.mem_toList.1 hk)).2
  have hnT : tb ∉ e.b.bl.toList := fun hk => by obtain ⟨cur, hc⟩ := hbc _ hk; exact ne_of_types hc h.box (by decide) rfl
  have hnm : ∀ k, (∃ es c, w.heap[k]? = some (.map es c)) → k ∉ e.b.bl.toList := fun k hm hk => by obtain ⟨cur, hc⟩ := hbc _ hk; exact ne_of_blocks hc hm rfl
  have hng : ∀ m' e', E m' = some e' → e'.g ∉ e.b.bl.toList := fun m' e' he' hk => by
    obtain ⟨cur, hc⟩ := hbc _ hk
    exact ne_of_types hc (h.ent m' e' he').1 (by decide) rfl
  have hg1 := hf.keep h1 (hng m e he)
  have hset : Fr [e.g] w1 (w1.setCell ⟨e.g, 1, none⟩ (.slice o' (e.b.n + 1) c')) := Fr.set _ _ _ (by simp)
  have hbox1 := hf.keep h.box hnT
  obtain ⟨Bn, hBn⟩ : ∃ Bn, Bn = (Value.slice o' (e.b.n + 1) c').ownBlock.toList := ⟨_, rfl⟩
  have hnewI : ∀ k, (Value.slice o' (e.b.n + 1) c').ownBlock = some k → ∃ cur, w1.heap[k]? = some (.cells cur 3 (0, 0)) := fun k hk => (hO.blk hk).2
  have key : ∀ m' e', E m' = some e' → e'.b.bl.toList ≠ [] → m' ≠ m → ∀ k, e'.b.bl = some k → k ∉ e.b.bl.toList := fun m' e' he' _ hne k hk hk2 => hne (h.injb m' e' m e k he' he hk (Option.mem_toList.1 hk2))
  refine ⟨Bn ++ B, ⟨hset.keep hbox1 (by simpa using ne_of_types hbox1 hg1 (by decide)), by simp [h.bt], by simp [h.bl], by simp [h.bo], by simp [h.bw], h.lo, h.lw, h.ow, ?_, ⟨FL, (hL.keep hf (hnm _ h.bL)).keep hset ?_, hL2⟩, ?_, ⟨FW, (hW.keep hf (hnm _ h.bW)).keep hset ?_, hW2⟩, ?_, h.few, ?_, ?_, ?_, ?_⟩, ?_, ?_, ?_, ?_⟩
  · intro j hj
    rcases List.mem_append.1 hj with hj | hj
    · rw [hBn] at hj
      obtain ⟨cur, hc⟩ := hnewI j (Option.mem_toList.1 hj)
      exact Nat.lt_of_lt_of_le (lt_of_block hc) hset.size
    · exact Nat.lt_of_lt_of_le (h.mine j hj) (Nat.le_trans hf.size hset.size)
  · have hb := (hL.keep hf (hnm _ h.bL)).block
    simpa using (ne_of_blocks hg1 hb).symm
  · have hb := (h.mapO.keep hf (hnm _ h.bO)).block
    have e1 : (fun y => (updF E m (some (⟨e.g, e.a, ⟨o', e.b.n + 1, c'⟩⟩ : En)) y).map fun e => some e.g) = fun m => (E m).map fun e => some e.g := by
      funext y
      by_cases hy : y = m
      · rw [hy, updF_same, he]; rfl
      · rw [updF_other _ _ hy]
    rw [e1]
    exact (h.mapO.keep hf (hnm _ h.bO)).keep hset (by simpa using (ne_of_blocks hg1 hb).symm)
  · have hb := (hW.keep hf (hnm _ h.bW)).block
    simpa using (ne_of_blocks hg1 hb).symm
  · intro y
    show _ ↔ D.op y
    by_cases hy : y = m
    · rw [hy, updF_same, ← h.opn m, he]; simp
    · rw [updF_other _ _ hy, h.opn y]
  · intro y e' hy
    by_cases hym : y = m
    · subst hym
      rw [updF_same] at hy
      cases hy
      refine ⟨two_setCell1 hg1, by simp [h2], (h3.keepS hf (fun k hk hj => h.ab y e y e k he he (Option.mem_toList.1 hj) hk)).keepS hset (fun k hk => ?_), ?_, fun k hk => by simp [h5 k hk], fun k hk => ?_⟩
      · obtain ⟨_, cur, hc⟩ := (h3.keepS hf (fun k hk hj => h.ab y e y e k he he (Option.mem_toList.1 hj) hk)).blk hk
        simpa using ne_of_types hc hg1 (by decide)
      · show IOw 0 _ o' (e.b.n + 1) c' (if y = y then D.bh y ++ [x] else D.bh y)
        rw [if_pos rfl]
        refine hO.keepS hset (fun k hk => ?_)
        obtain ⟨cur, hc⟩ := hnewI k hk
        simpa using ne_of_types hc hg1 (by decide)
      · exact List.mem_append_left _ (by rw [hBn]; exact Option.mem_toList.2 hk)
    · rw [updF_other _ _ hym] at hy
      obtain ⟨j1, j2, j3, j4, j5, j6⟩ := h.ent y e' hy
      have j3' := j3.keepS hf (fun k hk hj => h.ab m e y e' k he hy (Option.mem_toList.1 hj) hk)
      have j4' := j4.keepS hf (fun k hk hj => hym (h.injb y e' m e k hy he hk (Option.mem_toList.1 hj)))
      refine ⟨hset.keep (hf.keep j1 (hng y e' hy)) (by simpa using fun e2 => hym (h.injg y e' m e hy he e2)), by simp [j2], j3'.keepS hset (fun k hk => ?_), ?_, fun k hk => by simp [j5 k hk], fun k hk => by simp [j6 k hk]⟩
      · obtain ⟨_, cur, hc⟩ := j3'.blk hk
        simpa using ne_of_types hc hg1 (by decide)
      · show IOw 0 _ _ _ _ (if y = m then D.bh m ++ [x] else D.bh y)
        rw [if_neg hym]
        refine j4'.keepS hset (fun k hk => ?_)
        obtain ⟨_, cur, hc⟩ := j4'.blk hk
        simpa using ne_of_types hc hg1 (by decide)
  · intro y e1 y' e2 hy hy'
    by_cases hym : y = m <;> by_cases hym' : y' = m
    · rw [hym, hym']; exact fun _ => rfl
    · rw [hym, updF_same] at hy
      rw [updF_other _ _ hym'] at hy'
      cases hy
      rw [hym]
      exact h.injg m e y' e2 he hy'
    · rw [hym', updF_same] at hy'
      rw [updF_other _ _ hym] at hy
      cases hy'
      rw [hym']
      exact h.injg y e1 m e hy he
    · rw [updF_other _ _ hym] at hy
      rw [updF_other _ _ hym'] at hy'
      exact h.injg y e1 y' e2 hy hy'
  · have lt : ∀ y e2 k, E y = some e2 → e2.b.bl = some k → k < w.heap.size := fun y e2 k hy hk => h.mine k ((h.ent y e2 hy).2.2.2.2.2 k hk)
    intro y e1 y' e2 k hy hy' hk hk'
    by_cases hym : y = m <;> by_cases hym' : y' = m
    · rw [hym, hym']
    · rw [hym, updF_same] at hy
      rw [updF_other _ _ hym'] at hy'
      cases hy
      rcases hnew k hk with h7 | h7
      · rw [hym]; exact h.injb m e y' e2 k he hy' h7 hk'
      · have := lt y' e2 k hy' hk'; omega
    · rw [hym', updF_same] at hy'
      rw [updF_other _ _ hym] at hy
      cases hy'
      rcases hnew k hk' with h7 | h7
      · rw [hym']; exact h.injb y e1 m e k hy he hk h7
      · have := lt y e1 k hy hk; omega
    · rw [updF_other _ _ hym] at hy
      rw [updF_other _ _ hym'] at hy'
      exact h.injb y e1 y' e2 k hy hy' hk hk'
  · have lt : ∀ y e2 k, E y = some e2 → e2.a.bl = some k → k < w.heap.size := fun y e2 k hy hk => h.mine k ((h.ent y e2 hy).2.2.2.2.1 k hk)
    have hA : ∀ y e2, updF E m (some (⟨e.g, e.a, ⟨o', e.b.n + 1, c'⟩⟩ : En)) y = some e2 → ∃ e3, E y = some e3 ∧ e3.a = e2.a := fun y e2 hy => by
      by_cases hym : y = m
      · rw [hym, updF_same] at hy; cases hy; exact ⟨e, by rw [hym]; exact he, rfl⟩
      · rw [updF_other _ _ hym] at hy; exact ⟨e2, hy, rfl⟩
    intro y e1 y' e2 k hy hy' hk hk'
    obtain ⟨e3, he3, ha3⟩ := hA y' e2 hy'
    rw [← ha3] at hk'
    by_cases hym : y = m
    · rw [hym, updF_same] at hy
      cases hy
      rcases hnew k hk with h7 | h7
      · exact h.ab m e y' e3 k he he3 h7 hk'
      · have := lt y' e3 k he3 hk'; omega
    · rw [updF_other _ _ hym] at hy
      exact h.ab y e1 y' e3 k hy he3 hk hk'
  · intro j hj
    rcases List.mem_append.1 hj with hj | hj
    · rw [hBn] at hj
      rcases hnew j (Option.mem_toList.1 hj) with h7 | h7
      · exact Or.inl (h6 j h7)
      · exact Or.inr h7
    · exact Or.inl hj
  · exact hf.trans hset (fun k hk _ => h6 k (Option.mem_toList.1 hk)) (fun k hk _ => by simp at hk; rw [hk]; exact h2)
  · intro j hj; exact List.mem_append_right _ hj
  · exact ⟨by rw [cell_of_row _ _ _ _ _ _ hg1]; rfl, by simp [World.frozen?, hg1]⟩
open Classical in
/-- A new one that is open. -/
noncomputable def Dt.opened (D : Dt) (m : Int) (xs : List Int) : Dt := { D with op := fun x => D.op x ∨ x = m, ah := fun x => if x = m then xs else D.ah x, bh := fun x => if x = m then [] else D.bh x }
theorem TbI.storeO (h : TbI w tb lb ob wb B n D E) (m : Int) (hm : i64 m) (hn : n < maxLen) (hE : E m = none) (g : Nat) (r : Rw) (xs : List Int) (hg : w.heap[g]? = some (.cells #[.slice r.o r.n r.c, .slice none 0 0] 364 (0, 0))) (hgB : g ∉ B) (hr : IOw 0 w r.o r.n r.c xs) (hrB : ∀ k, r.bl = some k → k ∉ B) :
    ∃ w', (Instr.mapUpdate 175 (.map (some ob)) (.int .i64 m) (.pointer (some ⟨g, 0, none⟩))).run Tryz.prog w = .ok () w' ∧ TbI w' tb lb ob wb (g :: (r.bl.toList ++ B)) (n + 1) (D.opened m xs) (updF E m (some ⟨g, r, ⟨none, 0, 0⟩⟩)) ∧ Fr [ob] w w' := by
  obtain ⟨FL, hL, hL2⟩ := h.mapL
  obtain ⟨FW, hW, hW2⟩ := h.mapW
  obtain ⟨w', hrun, hO', hf⟩ := h.mapO.store m (some g) hm hn
  obtain ⟨g1, g2, g3⟩ := h.others hf (by simpa using h.bO)
  have hgo : g ∉ [ob] := by simpa using ne_of_blocks hg h.bO
  have hro : ∀ k, (Value.slice r.o r.n r.c).ownBlock = some k → k ∉ [ob] := fun k hk => by
    obtain ⟨_, cur, hc⟩ := hr.blk hk
    simpa using ne_of_blocks hc h.bO
  have gB : ∀ y e, E y = some e → e.g ≠ g := fun y e hy e2 => hgB (e2 ▸ (h.ent y e hy).2.1)
  refine ⟨w', hrun, ⟨g1, by simp [h.bt], by simp [h.bl], by simp [h.bo], by simp [h.bw], h.lo, h.lw, h.ow, ?_, ⟨FL, (hL.keep hf (by simpa using h.lo)).mono (by omega), hL2⟩, ?_, ⟨FW, (hW.keep hf (by simpa using h.ow.symm)).mono (by omega), hW2⟩, ?_, h.few, ?_, ?_, ?_, ?_⟩, hf⟩
  · intro j hj
    rcases List.mem_cons.1 hj with rfl | hj
    · exact Nat.lt_of_lt_of_le (lt_of_block hg) hf.size
    · rcases List.mem_append.1 hj with hj | hj
      · obtain ⟨_, cur, hc⟩ := hr.blk (Option.mem_toList.1 hj)
        exact Nat.lt_of_lt_of_le (lt_of_block hc) hf.size
      · exact g2 j hj
  · have e : (fun x => (updF E m (some (⟨g, r, ⟨none, 0, 0⟩⟩ : En)) x).map fun e => some e.g) = updF (fun m => (E m).map fun e => some e.g) m (some (some g)) := by
      funext x
      by_cases hxm : x = m
      · rw [hxm, updF_same, updF_same]; rfl
      · rw [updF_other _ _ hxm, updF_other _ _ hxm]
    rw [e]
    exact hO'
  · intro x
    show _ ↔ D.op x ∨ x = m
    by_cases hxm : x = m
    · rw [hxm, updF_same]; simp
    · rw [updF_other _ _ hxm, h.opn x]; simp [hxm]
  · intro x e hx
    by_cases hxm : x = m
    · rw [hxm, updF_same] at hx
      cases hx
      refine ⟨hf.keep hg hgo, by simp, ?_, ?_, fun k hk => by simp [hk], fun k hk => by simp [Rw.bl, Value.ownBlock] at hk⟩
      · show IOw 0 w' r.o r.n r.c (if x = m then xs else D.ah x)
        rw [if_pos hxm]
        exact hr.keepS hf hro
      · show IOw 0 w' none 0 0 (if x = m then [] else D.bh x)
        rw [if_pos hxm]
        exact IOw.nil _ _
    · rw [updF_other _ _ hxm] at hx
      obtain ⟨j1, j2, j3, j4, j5, j6⟩ := g3 x e hx
      refine ⟨j1, by simp [j2], ?_, ?_, fun k hk => by simp [j5 k hk], fun k hk => by simp [j6 k hk]⟩
      · show IOw 0 w' _ _ _ (if x = m then xs else D.ah x)
        rw [if_neg hxm]
        exact j3
      · show IOw 0 w' _ _ _ (if x = m then [] else D.bh x)
        rw [if_neg hxm]
        exact j4
  · intro y e1 y' e2 hy hy'
    by_cases hym : y = m <;> by_cases hym' : y' = m
    · rw [hym, hym']; exact fun _ => rfl
    · rw [hym, updF_same] at hy
      rw [updF_other _ _ hym'] at hy'
      cases hy
      exact fun e3 => absurd e3.symm (gB y' e2 hy')
    · rw [hym', updF_same] at hy'
      rw [updF_other _ _ hym] at hy
      cases hy'
      exact fun e3 => absurd e3 (gB y e1 hy)
    · rw [updF_other _ _ hym] at hy
      rw [updF_other _ _ hym'] at hy'
      exact h.injg y e1 y' e2 hy hy'
  · intro y e1 y' e2 k hy hy' hk hk'
    by_cases hym : y = m
    · rw [hym, updF_same] at hy
      cases hy
      simp [Rw.bl, Value.ownBlock] at hk
    · by_cases hym' : y' = m
      · rw [hym', updF_same] at hy'
        cases hy'
        simp [Rw.bl, Value.ownBlock] at hk'
      · rw [updF_other _ _ hym] at hy
        rw [updF_other _ _ hym'] at hy'
        exact h.injb y e1 y' e2 k hy hy' hk hk'
  · intro y e1 y' e2 k hy hy' hk hk'
    by_cases hym : y = m
    · rw [hym, updF_same] at hy
      cases hy
      simp [Rw.bl, Value.ownBlock] at hk
    · rw [updF_other _ _ hym] at hy
      by_cases hym' : y' = m
      · rw [hym', updF_same] at hy'
        cases hy'
        exact hrB k hk' ((h.ent y e1 hy).2.2.2.2.2 k hk)
      · rw [updF_other _ _ hym'] at hy'
        exact h.ab y e1 y' e2 k hy hy' hk hk'
end
/-- A table that keeps D. -/
def Tb (w : World) (tb : Nat) (B : List Nat) (n : Nat) (D : Dt) : Prop := ∃ lb ob wb E, TbI w tb lb ob wb B n D E
theorem Tb.keep {S : List Nat} {w w' : World} {tb : Nat} {B : List Nat} {n : Nat} {D : Dt} (h : Tb w tb B n D) (hf : Fr S w w') (hS : ∀ j ∈ B, j ∉ S) : Tb w' tb B n D := by
  obtain ⟨lb, ob, wb, E, h⟩ := h
  exact ⟨lb, ob, wb, E, h.keep hf hS⟩
theorem Tb.quiet {w w' : World} {tb : Nat} {B : List Nat} {n : Nat} {D : Dt} (h : Tb w tb B n D) (hf : Fr [] w w') : Tb w' tb B n D := h.keep hf (by simp)
theorem Tb.mine {w : World} {tb : Nat} {B : List Nat} {n : Nat} {D : Dt} (h : Tb w tb B n D) : ∀ j ∈ B, j < w.heap.size := by
  obtain ⟨lb, ob, wb, E, h⟩ := h
  exact h.mine
theorem Tb.mono {w : World} {tb : Nat} {B : List Nat} {n m : Nat} {D : Dt} (h : Tb w tb B n D) (hn : n ≤ m) : Tb w tb B m D := by
  obtain ⟨lb, ob, wb, E, h⟩ := h
  exact ⟨lb, ob, wb, E, h.mono hn⟩
end Go.Proofs.YtakbodlicfmkjaaGreat
