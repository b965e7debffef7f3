/- Texts of this claim laid together, one behind the other: contracts and plain lemmas; conditions as each names them. -/
import Derived.Test.YtdcmjoildfofcaaGreatDoorGp23
/- The document's table: what it keeps, as plain things and in memory. Conditions as each names them. -/
namespace Go.Proofs.YtdcmjoildfofcaaGreatDoor
open Go.ChangeShapes Go.WideShapes Go.ChangeAt Go.RowKit Go.Lib Go.Maps
set_option linter.unusedVariables false
set_option linter.unusedSimpArgs false

/-- One of the document's: its number, its writes, for whom it waits, has it ended. -/
structure Ro where
  num : Int
  wo : Option Addr
  wn : Nat
  wc : Nat
  ws : List Wt
  ao : Option Addr
  an : Nat
  ac : Nat
  xs : List Int
  en : Bool
def Ro.zero : Ro := ⟨0, none, 0, 0, [], none, 0, 0, [], false⟩
def Ro.c (r : Ro) : List Value := [.int .i64 r.num, .slice r.wo r.wn r.wc, .slice r.ao r.an r.ac, .bool r.en]
def rosC (rs : List Ro) : List Value := rs.flatMap Ro.c
theorem rosC_length : ∀ rs : List Ro, (rosC rs).length = rs.length * 4
  | [] => rfl
  | r :: t => by
    show (r.c ++ rosC t).length = _
    rw [List.length_append, rosC_length t, List.length_cons]
    show 4 + t.length * 4 = _
    omega
theorem rosC_get : ∀ (rs : List Ro) (i j : Nat), i < rs.length → j < 4 → (rosC rs)[i * 4 + j]? = (rs.getD i Ro.zero).c[j]?
  | [], i, j, h, _ => by simp at h
  | r :: t, 0, j, h, hj => by
    show (r.c ++ rosC t)[0 * 4 + j]? = _
    rw [Nat.zero_mul, Nat.zero_add, List.getElem?_append_left (by show j < 4; exact hj)]
    rfl
  | r :: t, i + 1, j, h, hj => by
    show (r.c ++ rosC t)[(i + 1) * 4 + j]? = _
    rw [List.getElem?_append_right (by show 4 ≤ _; omega), show (i + 1) * 4 + j - r.c.length = i * 4 + j from by show (i + 1) * 4 + j - 4 = _; omega, rosC_get t i j (by simpa using h) hj]
    rfl
theorem rosC_app (a b : List Ro) : rosC (a ++ b) = rosC a ++ rosC b := by simp [rosC]
theorem rosC_one (rs : List Ro) : ∀ u ∈ rosC rs, u.oneCell' = true := by
  intro u hu
  obtain ⟨r, _, h⟩ := List.mem_flatMap.1 hu
  simp [Ro.c] at h
  rcases h with rfl | rfl | rfl | rfl <;> rfl
theorem ro_mem {rs : List Ro} {i : Nat} (h : i < rs.length) : rs.getD i Ro.zero ∈ rs := by simp [List.getD, h]
theorem ro_get {rs : List Ro} {i : Nat} (h : i < rs.length) : rs.getD i Ro.zero = rs[i] := by simp [List.getD, h]
/-- A cell of the row is written. -/
theorem rosC_set : ∀ (rs : List Ro) (i j : Nat) (v : Value) (r' : Ro), i < rs.length → j < 4 → (rs.getD i Ro.zero).c.set j v = r'.c → (rosC rs).set (i * 4 + j) v = rosC (rs.set i r')
  | [], i, j, v, r', h, _, _ => by simp at h
  | r :: t, 0, j, v, r', h, hj, e => by
    show (r.c ++ rosC t).set (0 * 4 + j) v = r'.c ++ rosC t
    rw [Nat.zero_mul, Nat.zero_add, List.set_append_left _ _ (by show j < 4; exact hj)]
    rw [show r.c.set j v = r'.c from e]
  | r :: t, i + 1, j, v, r', h, hj, e => by
    show (r.c ++ rosC t).set ((i + 1) * 4 + j) v = r.c ++ rosC (t.set i r')
    rw [List.set_append_right _ _ (by show 4 ≤ _; omega), show (i + 1) * 4 + j - r.c.length = i * 4 + j from by show (i + 1) * 4 + j - 4 = _; omega, rosC_set t i j v r' (by simpa using h) hj e]
/-- One of them in memory; OB: the table's own blocks. -/
structure Re (w : World) (OB : List Nat) (r : Ro) : Prop where
  wl : r.wn = r.ws.length
  wr : WRs w r.wo r.ws
  wb : 0 < r.ws.length → ∀ a, r.wo = some a → a.block ∈ OB
  ok : okT r.num r.ws
  al : r.an = r.xs.length
  ar : IRd w r.ao r.xs
  ab : 0 < r.xs.length → ∀ a, r.ao = some a → a.block ∈ OB
  af : r.an ≤ 65536
theorem Re.keep {S OB : List Nat} {w w' : World} {r : Ro} (h : Re w OB r) (hf : Fr S w w') (hS : ∀ j ∈ OB, j ∉ S) : Re w' OB r :=
  ⟨h.wl, h.wr.keepS hf (fun h0 a ha => hS _ (h.wb h0 a ha)), h.wb, h.ok, h.al, h.ar.keepS hf (fun h0 a ha => hS _ (h.ab h0 a ha)), h.ab, h.af⟩
theorem Re.more {OB OB' : List Nat} {w : World} {r : Ro} (h : Re w OB r) (hs : ∀ j ∈ OB, j ∈ OB') : Re w OB' r :=
  ⟨h.wl, h.wr, fun h0 a ha => hs _ (h.wb h0 a ha), h.ok, h.al, h.ar, fun h0 a ha => hs _ (h.ab h0 a ha), h.af⟩
/-- The document's table in block g; OB: the blocks of its lists' lists. -/
structure Rt (w : World) (g : Nat) (OB : List Nat) (lo : Option Addr) (n c : Nat) (rs : List Ro) : Prop where
  box : w.heap[g]? = some (.cells #[.slice lo n c] 57 (0, 0))
  gno : g ∉ OB
  row : w.ownsRow 0 84 4 (.slice lo n c) n (rosC rs)
  len : n = rs.length
  rno : ∀ k, (Value.slice lo n c).ownBlock = some k → k ∉ OB
  each : ∀ r ∈ rs, Re w OB r
  mine : ∀ j ∈ OB, j < w.heap.size
  few : n ≤ 65536
/-- All its blocks. -/
def rall (g : Nat) (lo : Option Addr) (OB : List Nat) : List Nat := g :: ((Value.slice lo 0 0).ownBlock.toList ++ OB)
theorem own_any (lo : Option Addr) (a b c d : Nat) : (Value.slice lo a b).ownBlock = (Value.slice lo c d).ownBlock := by cases lo <;> rfl
section
variable {w w' : World} {g n c : Nat} {OB : List Nat} {lo : Option Addr} {rs : List Ro}
theorem Rt.keep {S : List Nat} (h : Rt w g OB lo n c rs) (hf : Fr S w w') (hS : ∀ j ∈ rall g lo OB, j ∉ S) : Rt w' g OB lo n c rs :=
  ⟨hf.keep h.box (hS _ (by simp [rall])), h.gno, owns_keep h.row hf (fun k hk => hS _ (by rw [own_any lo n c 0 0] at hk; simp [rall, hk])), h.len, h.rno, fun r hr => (h.each r hr).keep hf (fun j hj => hS _ (by simp [rall, hj])), fun j hj => Nat.lt_of_lt_of_le (h.mine j hj) hf.size, h.few⟩
theorem Rt.quiet (h : Rt w g OB lo n c rs) (hf : Fr [] w w') : Rt w' g OB lo n c rs := h.keep hf (by simp)
theorem Rt.c0 (h : Rt w g OB lo n c rs) : w.cell? ⟨g, 0, none⟩ = some (.slice lo n c) := by rw [cell_of_row _ _ _ _ _ _ h.box]; rfl
theorem Rt.f0 (h : Rt w g OB lo n c rs) : w.frozen? ⟨g, 0, none⟩ = false := by simp [World.frozen?, h.box]
/-- Where its row lies, and the cells of one. -/
theorem Rt.lies (h : Rt w g OB lo n c rs) (h0 : 0 < n) : ∃ b, lo = some ⟨b, 0, none⟩ ∧ b ≠ g ∧ (∃ cur, w.heap[b]? = some (.cells cur 84 (0, 0)) ∧ cur.size = c * 4) := by
  rcases h.row.2 with ⟨_, h1⟩ | ⟨b, cap, cur, hv, _, hg, _, _, hs, _⟩
  · omega
  · cases hv
    refine ⟨b, rfl, fun e => ?_, cur, hg, hs⟩
    subst e
    have := h.box
    rw [hg] at this
    simp at this
theorem Rt.cell (h : Rt w g OB lo n c rs) {b : Nat} (hb : lo = some ⟨b, 0, none⟩) (i j : Nat) (hi : i < n) (hj : j < 4) : w.cell? ⟨b, i * 4 + j, none⟩ = (rs.getD i Ro.zero).c[j]? := by
  have hi' : i < rs.length := by rw [← h.len]; exact hi
  subst hb
  have hq : (rs.getD i Ro.zero).c[j]? = some ((rs.getD i Ro.zero).c[j]'(by show j < 4; exact hj)) := List.getElem?_eq_getElem (by show j < 4; exact hj)
  have := h.row.cells (g := b) rfl (i * 4 + j) _ ((rosC_get rs i j hi' hj).trans hq)
  rw [Addr.add_lit, Nat.zero_add] at this
  rw [this, hq]
theorem Rt.cells (h : Rt w g OB lo n c rs) {b : Nat} (hb : lo = some ⟨b, 0, none⟩) (i : Nat) (hi : i < n) :
    w.cell? ⟨b, i * 4, none⟩ = some (.int .i64 (rs.getD i Ro.zero).num) ∧ w.cell? ⟨b, i * 4 + 1, none⟩ = some (.slice (rs.getD i Ro.zero).wo (rs.getD i Ro.zero).wn (rs.getD i Ro.zero).wc) ∧ w.cell? ⟨b, i * 4 + 2, none⟩ = some (.slice (rs.getD i Ro.zero).ao (rs.getD i Ro.zero).an (rs.getD i Ro.zero).ac) ∧ w.cell? ⟨b, i * 4 + 3, none⟩ = some (.bool (rs.getD i Ro.zero).en) :=
  ⟨h.cell hb i 0 hi (by omega), h.cell hb i 1 hi (by omega), h.cell hb i 2 hi (by omega), h.cell hb i 3 hi (by omega)⟩
theorem Rt.mineA (h : Rt w g OB lo n c rs) : ∀ j ∈ rall g lo OB, j < w.heap.size := by
  intro j hj
  simp only [rall, List.mem_cons, List.mem_append, Option.mem_toList] at hj
  rcases hj with rfl | hj | hj
  · exact lt_of_block h.box
  · rw [own_any lo 0 0 n c] at hj; exact (h.row.lt j hj).2
  · exact h.mine j hj
theorem qrow_setCell {w : World} {b j : Nat} {cs : Array Value} {t : TypeId} (x : Value) (h : w.heap[b]? = some (.cells cs t (0, 0))) : (w.setCell ⟨b, j, none⟩ x).heap[b]? = some (.cells (cs.setIfInBounds j x) t (0, 0)) := by
  have hlt := lt_of_block h
  have h' : w.heap[b] = .cells cs t (0, 0) := by simpa [Array.getElem?_eq_getElem hlt] using h
  show (w.heap.modify b _)[b]? = _
  rw [Array.getElem?_eq_getElem (by simpa using hlt), Array.getElem_modify_self, h']
  rfl
/-- A cell of one of them is written. -/
theorem Rt.set (h : Rt w g OB lo n c rs) {b : Nat} (hb : lo = some ⟨b, 0, none⟩) {i j : Nat} {v : Value} {r' : Ro} (hi : i < n) (hj : j < 4) (hr : (rs.getD i Ro.zero).c.set j v = r'.c) {OB' : List Nat} (hs : ∀ k ∈ OB, k ∈ OB') (hn : ∀ k ∈ OB', k ∈ OB ∨ (k ≠ g ∧ k ≠ b ∧ k < w.heap.size)) (he : Re w OB' r') :
    Rt (w.setCell ⟨b, i * 4 + j, none⟩ v) g OB' lo n c (rs.set i r') := by
  subst hb
  have hF : Fr [b] w (w.setCell ⟨b, i * 4 + j, none⟩ v) := Fr.set _ _ _ (by simp)
  have hbO : b ∉ OB := h.rno b rfl
  have hbO' : ∀ k ∈ OB', k ∉ [b] := fun k hk => by
    rcases hn k hk with e | e
    · simp; rintro rfl; exact hbO e
    · simpa using e.2.1
  obtain ⟨b', eb, hne, cur0, hcur0, _⟩ := h.lies (by omega)
  cases eb
  refine ⟨hF.keep h.box (by simpa using hne.symm), fun hg => ?_, ⟨?_, ?_⟩, by simpa using h.len, fun k hk => ?_, fun r hr2 => ?_, fun k hk => ?_, h.few⟩
  · rcases hn g hg with e | e
    · exact h.gno e
    · exact e.1 rfl
  · rw [rosC_length, List.length_set, ← h.len]
  · rcases h.row.2 with ⟨hh, _⟩ | ⟨b', cap, cur, hv, h0, hg, h1, h2, h3, ht⟩
    · cases hh
    · cases hv
      refine .inr ⟨b, c, cur.setIfInBounds (i * 4 + j) v, rfl, h0, qrow_setCell v hg, h1, h2, by simpa using h3, ?_⟩
      rw [Array.toList_setIfInBounds, List.take_set, ht]
      exact rosC_set rs i j v r' (by rw [← h.len]; exact hi) hj hr
  · simp [Value.ownBlock] at hk
    subst hk
    intro hm
    exact hbO' _ hm (by simp)
  · rcases List.mem_or_eq_of_mem_set hr2 with e | e
    · exact ((h.each r e).more hs).keep hF hbO'
    · subst e; exact he.keep hF hbO'
  · rw [show (w.setCell ⟨b, i * 4 + j, none⟩ v).heap.size = w.heap.size from by simp [World.setCell]]
    rcases hn k hk with e | e
    · exact h.mine k e
    · exact e.2.2
end
/-- What its row says of a log of which some have ended. -/
structure Rel (rs : List Ro) (L : Lg) (en : Int → Prop) : Prop where
  log : rs.map (fun r => (r.num, keysW r.ws)) = L
  ris : RisL L
  enb : ∀ r ∈ rs, (r.en = true ↔ en r.num)
  wt : ∀ r ∈ rs, WtT L (Op11 L en) r.num r.xs
  endx : ∀ r ∈ rs, r.en = true → r.xs = []
  ended : ∀ n, en n → ∃ p ∈ L, p.1 = n
section
variable {rs : List Ro} {L : Lg} {en : Int → Prop}
theorem Rel.len (h : Rel rs L en) : L.length = rs.length := by rw [← h.log]; simp
theorem Rel.mem (h : Rel rs L en) {r : Ro} (hr : r ∈ rs) : (r.num, keysW r.ws) ∈ L := by rw [← h.log]; exact List.mem_map.2 ⟨r, hr, rfl⟩
theorem Rel.of (h : Rel rs L en) {p : Int × List ByteArray} (hp : p ∈ L) : ∃ r ∈ rs, p = (r.num, keysW r.ws) := by
  rw [← h.log] at hp
  obtain ⟨r, hr, e⟩ := List.mem_map.1 hp
  exact ⟨r, hr, e.symm⟩
/-- Numbers rise with the place. -/
theorem Rel.lt (h : Rel rs L en) {i j : Nat} (hi : i < j) (hj : j < rs.length) : (rs.getD i Ro.zero).num < (rs.getD j Ro.zero).num := by
  have hr := h.ris.ris
  rw [← h.log, List.map_map] at hr
  have := List.pairwise_iff_getElem.1 hr i j (by simp; omega) (by simpa using hj) hi
  simp only [List.getElem_map, Function.comp] at this
  rw [ro_get hj, ro_get (by omega)]
  exact this
theorem Rel.op_iff (h : Rel rs L en) (m : Int) : Op11 L en m ↔ ∃ k, k < rs.length ∧ (rs.getD k Ro.zero).num = m ∧ (rs.getD k Ro.zero).en = false := by
  constructor
  · rintro ⟨⟨p, hp, rfl⟩, h2⟩
    obtain ⟨r, hr, rfl⟩ := h.of hp
    obtain ⟨k, hk, e⟩ := List.getElem_of_mem hr
    refine ⟨k, hk, by rw [ro_get hk, e], ?_⟩
    rw [ro_get hk, e]
    cases he : r.en with
    | false => rfl
    | true => exact absurd ((h.enb r hr).1 he) h2
  · rintro ⟨k, hk, rfl, h2⟩
    have hm := ro_mem hk
    exact ⟨⟨_, h.mem hm, rfl⟩, fun he => by rw [(h.enb _ hm).2 he] at h2; cases h2⟩
/-- Who wrote a key last, by the place. -/
theorem Rel.last (h : Rel rs L en) (key : ByteArray) {k : Nat} (hk : k < rs.length) (h1 : key ∈ keysW (rs.getD k Ro.zero).ws) (h2 : ∀ j, k < j → j < rs.length → key ∉ keysW (rs.getD j Ro.zero).ws) : lst L key = (rs.getD k Ro.zero).num := by
  have hm := h.mem (ro_mem hk)
  have hge := lst_ge L key h.ris _ hm h1
  have hpos := h.ris.pos _ hm
  simp only at hge hpos
  obtain ⟨ks, h3, h4⟩ := lst_some L key h.ris (by omega)
  obtain ⟨r, hr, e⟩ := h.of h3
  obtain ⟨e1, rfl⟩ := Prod.mk.inj e
  obtain ⟨j, hj, e2⟩ := List.getElem_of_mem hr
  have e3 : rs.getD j Ro.zero = r := by rw [ro_get hj, e2]
  by_cases hjk : k < j
  · exact absurd (by rw [e3]; exact h4) (h2 j hjk hj)
  · by_cases hjk2 : j = k
    · subst hjk2; rw [e1, e3]
    · have := h.lt (i := j) (j := k) (by omega) hk
      rw [e3] at this
      omega
theorem Rel.last0 (h : Rel rs L en) (key : ByteArray) (h2 : ∀ j, j < rs.length → key ∉ keysW (rs.getD j Ro.zero).ws) : lst L key = 0 := by
  refine lst_none L key h.ris (fun q hq hk => ?_)
  obtain ⟨r, hr, rfl⟩ := h.of hq
  obtain ⟨j, hj, e2⟩ := List.getElem_of_mem hr
  exact h2 j hj (by rw [ro_get hj, e2]; exact hk)
/-- What Done leaves. -/
theorem Rel.done (h : Rel rs L en) {m : Int} {k : Nat} (hk : k < rs.length) (hm : (rs.getD k Ro.zero).num = m) (hx : (rs.getD k Ro.zero).xs = []) {rs' : List Ro} (hl : rs'.length = rs.length) (hp : ∀ i, i < rs.length → (rs'.getD i Ro.zero).num = (rs.getD i Ro.zero).num ∧ (rs'.getD i Ro.zero).ws = (rs.getD i Ro.zero).ws ∧ ((rs'.getD i Ro.zero).en = true ↔ (rs.getD i Ro.zero).en = true ∨ i = k) ∧ (rs'.getD i Ro.zero).xs = (rs.getD i Ro.zero).xs.filter fun x => x != m) : Rel rs' L (fun x => en x ∨ x = m) := by
  have hat : ∀ r ∈ rs', ∃ i, i < rs.length ∧ r = rs'.getD i Ro.zero := fun r hr => by
    obtain ⟨i, hi, e⟩ := List.getElem_of_mem hr
    exact ⟨i, by rw [← hl]; exact hi, by rw [ro_get hi, e]⟩
  have hop : ∀ y, Op11 L (fun x => en x ∨ x = m) y ↔ Op11 L en y ∧ y ≠ m := fun y => by
    constructor
    · rintro ⟨h1, h2⟩; exact ⟨⟨h1, fun e => h2 (Or.inl e)⟩, fun e => h2 (Or.inr e)⟩
    · rintro ⟨⟨h1, h2⟩, h3⟩; exact ⟨h1, fun e => e.elim h2 h3⟩
  have hinj : ∀ i, i < rs.length → ((rs.getD i Ro.zero).num = m ↔ i = k) := fun i hi => by
    constructor
    · intro e
      apply Classical.byContradiction
      intro hne
      rcases Nat.lt_or_gt_of_ne hne with h1 | h1
      · have := h.lt h1 hk; omega
      · have := h.lt h1 hi; omega
    · rintro rfl; exact hm
  refine ⟨?_, h.ris, fun r hr => ?_, fun r hr => ?_, fun r hr he => ?_, fun n hn => ?_⟩
  · rw [← h.log]
    apply List.ext_getElem?
    intro i
    by_cases hi : i < rs.length
    · have := hp i hi
      rw [List.getElem?_map, List.getElem?_map, List.getElem?_eq_getElem (by rw [hl]; exact hi), List.getElem?_eq_getElem hi]
      rw [ro_get (by rw [hl]; exact hi), ro_get hi] at this
      simp only [Option.map_some, this.1, this.2.1]
    · rw [List.getElem?_eq_none (by simp [hl]; omega), List.getElem?_eq_none (by simp; omega)]
  · obtain ⟨i, hi, rfl⟩ := hat r hr
    obtain ⟨h1, h2, h3, h4⟩ := hp i hi
    rw [h3, h1, h.enb _ (ro_mem hi), hinj i hi]
  · obtain ⟨i, hi, rfl⟩ := hat r hr
    obtain ⟨h1, h2, h3, h4⟩ := hp i hi
    rw [h1, h4]
    obtain ⟨k1, k2⟩ := h.wt _ (ro_mem hi)
    refine ⟨k1.filter _, fun y => ?_⟩
    rw [List.mem_filter, k2 y, hop]
    simp only [bne_iff_ne, ne_eq]
    constructor
    · rintro ⟨⟨h5, h6⟩, h7⟩; exact ⟨⟨h5, h7⟩, h6⟩
    · rintro ⟨⟨h5, h7⟩, h6⟩; exact ⟨⟨h5, h6⟩, h7⟩
  · obtain ⟨i, hi, rfl⟩ := hat r hr
    obtain ⟨h1, h2, h3, h4⟩ := hp i hi
    rw [h4]
    rcases h3.1 he with e | rfl
    · rw [h.endx _ (ro_mem hi) e]; rfl
    · rw [hx]; rfl
  · rcases hn with e | rfl
    · exact h.ended n e
    · exact ⟨_, h.mem (ro_mem hk), hm⟩
/-- Whom Done tells, by the places. -/
def freed (m : Int) (rs : List Ro) : List Int := (rs.filter fun r => decide (r.xs ≠ [] ∧ (r.xs.filter fun x => x != m) = [])).map Ro.num
theorem Rel.nums (h : Rel rs L en) (p : Ro → Bool) : Ris ((rs.filter p).map Ro.num) := by
  have hr := h.ris.ris
  rw [← h.log, List.map_map] at hr
  exact List.Pairwise.sublist (List.Sublist.map _ List.filter_sublist) hr
theorem Rel.freed (h : Rel rs L en) {m : Int} (hm : Op11 L en m) : DoT L (Op11 L en) m (freed m rs) := by
  refine ⟨h.nums _, fun o => ?_⟩
  unfold Go.Proofs.YtdcmjoildfofcaaGreatDoor.freed
  rw [List.mem_map]
  constructor
  · rintro ⟨r, hr, rfl⟩
    obtain ⟨h1, h2⟩ := List.mem_filter.1 hr
    simp only [decide_eq_true_eq] at h2
    obtain ⟨h2, h3⟩ := h2
    obtain ⟨k1, k2⟩ := h.wt r h1
    have hall : ∀ y ∈ r.xs, y = m := fun y hy => by
      apply Classical.byContradiction
      intro hne
      have : y ∈ r.xs.filter fun x => x != m := List.mem_filter.2 ⟨hy, by simpa using hne⟩
      rw [h3] at this
      simp at this
    obtain ⟨y, hy⟩ := List.exists_mem_of_ne_nil _ h2
    obtain rfl := hall y hy
    refine ⟨⟨⟨_, h.mem h1, rfl⟩, fun he => ?_⟩, ((k2 y).1 hy).2, fun z hz hne hd => hne (hall z ((k2 z).2 ⟨hz, hd⟩))⟩
    exact h2 (h.endx r h1 ((h.enb r h1).2 he))
  · rintro ⟨⟨⟨p, hp, rfl⟩, _⟩, h2, h3⟩
    obtain ⟨r, hr, rfl⟩ := h.of hp
    obtain ⟨k1, k2⟩ := h.wt r hr
    refine ⟨r, List.mem_filter.2 ⟨hr, ?_⟩, rfl⟩
    simp only [decide_eq_true_eq]
    have hmx : m ∈ r.xs := (k2 m).2 ⟨hm, h2⟩
    refine ⟨fun e => by rw [e] at hmx; simp at hmx, List.filter_eq_nil_iff.2 (fun y hy => ?_)⟩
    have hy2 := (k2 y).1 hy
    by_cases e : y = m
    · simp [e]
    · exact absurd hy2.2 (h3 y hy2.1 e)
/-- What Add leaves. -/
theorem Rel.add (h : Rel rs L en) {r : Ro} (hnew : ∀ p ∈ L, p.1 < r.num) (h1 : 1 ≤ r.num) (hx : AdT L en (keysW r.ws) r.xs) (he : r.en = false) : Rel (rs ++ [r]) (L ++ [(r.num, keysW r.ws)]) en := by
  have hr : RisL (L ++ [(r.num, keysW r.ws)]) := h.ris.snoc hnew h1
  have hop1 : ∀ m, Op11 L en m → m < r.num := fun m hm => by obtain ⟨⟨p, hp, rfl⟩, _⟩ := hm; exact hnew p hp
  have hop0 : ∀ m, Op11 L en m → m ≠ 0 := fun m hm => by obtain ⟨⟨p, hp, rfl⟩, _⟩ := hm; have := h.ris.pos p hp; omega
  have hen : ¬ en r.num := fun e => by obtain ⟨p, hp, e2⟩ := h.ended _ e; have := hnew p hp; omega
  have hop : ∀ m, Op11 (L ++ [(r.num, keysW r.ws)]) en m ↔ Op11 L en m ∨ m = r.num := fun m => by
    constructor
    · rintro ⟨⟨p, hp, rfl⟩, h2⟩
      rcases List.mem_append.1 hp with e | e
      · exact Or.inl ⟨⟨p, e, rfl⟩, h2⟩
      · simp at e; subst e; exact Or.inr rfl
    · rintro (⟨⟨p, hp, rfl⟩, h2⟩ | rfl)
      · exact ⟨⟨p, by simp [hp], rfl⟩, h2⟩
      · exact ⟨⟨(r.num, keysW r.ws), by simp, rfl⟩, hen⟩
  refine ⟨by rw [List.map_append, h.log]; rfl, hr, fun q hq => ?_, fun q hq => ?_, fun q hq hqe => ?_, fun n hn => ?_⟩
  · rcases List.mem_append.1 hq with e | e
    · exact h.enb q e
    · simp at e; subst e; rw [he]; simp [hen]
  · rcases List.mem_append.1 hq with e | e
    · obtain ⟨k1, k2⟩ := h.wt q e
      refine ⟨k1, fun m => ?_⟩
      have hqn := hnew _ (h.mem e)
      simp only at hqn
      rw [k2 m, hop, dep_snoc]
      constructor
      · rintro ⟨h3, h4⟩; exact ⟨Or.inl h3, Or.inl h4⟩
      · rintro ⟨h3, h4 | ⟨h4, _⟩⟩
        · rcases h3 with h3 | rfl
          · exact ⟨h3, h4⟩
          · have := (h4.lt h.ris).2.1; omega
        · simp only at h4; omega
    · simp at e
      subst e
      refine ⟨hx.1, fun m => ?_⟩
      rw [hx.2 m, hop, dep_snoc]
      constructor
      · rintro ⟨h3, h4⟩; exact ⟨Or.inl h3, Or.inr ⟨rfl, hop0 m h3, h4⟩⟩
      · rintro ⟨h3, h4 | ⟨_, h4, h5⟩⟩
        · obtain ⟨A, ks, C, e2, _⟩ := h4
          have := hnew (q.num, ks) (by rw [e2]; simp)
          simp only at this
          omega
        · rcases h3 with h3 | rfl
          · exact ⟨h3, h5⟩
          · obtain ⟨key, _, e3⟩ := h5
            obtain ⟨js, h6, _⟩ := lst_some L key h.ris (by omega)
            have := hnew _ h6
            simp only at this
            omega
  · rcases List.mem_append.1 hq with e | e
    · exact h.endx q e hqe
    · simp at e; subst e; rw [he] at hqe; cases hqe
  · obtain ⟨p, hp, e⟩ := h.ended n hn
    exact ⟨p, by simp [hp], e⟩
theorem Rel.zero : Rel [] [] (fun _ => False) := ⟨rfl, RisL.nil, by simp, by simp, by simp, fun n h => h.elim⟩
end
end Go.Proofs.YtdcmjoildfofcaaGreatDoor
