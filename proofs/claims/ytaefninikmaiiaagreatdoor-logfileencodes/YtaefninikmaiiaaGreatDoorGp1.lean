/- Texts of this claim laid together, one behind the other: contracts and plain lemmas; conditions as each names them. -/
import Derived.Test.YtaefninikmaiiaaGreatDoorRows
import Derived.WalkKit
import Derived.ProofKit
import Derived.OpenShut
import Derived.Deep.QuietTactic
import Derived.BigQuiet
import Derived.BigRegion
import Derived.Lib.AppendStr
import Derived.Laws.CopyOwn
import Derived.Laws.BitsAllLaws
import Derived.Laws.ShiftsVarLaws
import Derived.Laws.BytesString
import Derived.ShutString
import Derived.ChangeOld
import Derived.Below
/- What the codec's writers and readers are in memory: the frame of a call (which blocks it may write), bytes as cells, and what an append to a row of one's own leaves. No conditions but those each lemma names. -/
namespace Go.Proofs.YtaefninikmaiiaaGreatDoor
open Go.ChangeShapes Go.WideShapes Go.ChangeAt Go.RowKit Go.Lib

theorem Tryz.infoB : (Tryz.prog.info? 5).map (fun i => (i.zero, i.size, i.bytes)) = some (some (.int .u8 0), 1, 1) := by kernel_rfl
theorem Tryz.undBs : Tryz.prog.underlying 26 = some (.slice 5) := by kernel_rfl
theorem Tryz.undStr : Tryz.prog.underlying 9 = some .string := by kernel_rfl

/-- Only blocks of S (and new ones) may differ. -/
structure Fr (S : List Nat) (w w' : World) : Prop where
  os : w'.os = w.os
  tape : w'.tape = w.tape
  output : w'.output = w.output
  size : w.heap.size ≤ w'.heap.size
  block : ∀ k, k < w.heap.size → k ∉ S → w'.heap[k]? = w.heap[k]?

theorem Fr.refl (S : List Nat) (w : World) : Fr S w w := ⟨rfl, rfl, rfl, Nat.le_refl _, fun _ _ _ => rfl⟩
theorem Fr.trans {S T U : List Nat} {a b c : World} (h : Fr S a b) (k : Fr T b c) (hS : ∀ x, x ∈ S → x < a.heap.size → x ∈ U) (hT : ∀ x, x ∈ T → x < a.heap.size → x ∈ U) : Fr U a c :=
  ⟨k.os.trans h.os, k.tape.trans h.tape, k.output.trans h.output, Nat.le_trans h.size k.size,
   fun i hi hn => (k.block i (Nat.lt_of_lt_of_le hi h.size) (fun x => hn (hT i x hi))).trans (h.block i hi (fun x => hn (hS i x hi)))⟩
theorem Fr.mono {S T : List Nat} {a b : World} (h : Fr S a b) (hS : ∀ x, x ∈ S → x < a.heap.size → x ∈ T) : Fr T a b :=
  ⟨h.os, h.tape, h.output, h.size, fun i hi hn => h.block i hi (fun x => hn (hS i x hi))⟩
theorem Fr.then {S : List Nat} {a b c : World} (h : Fr S a b) (k : Fr S b c) : Fr S a c := h.trans k (fun _ x _ => x) (fun _ x _ => x)
theorem Fr.alloc (S : List Nat) (w : World) (o : Obj) : Fr S w (w.alloc o) :=
  ⟨rfl, rfl, rfl, by simp, fun k hk _ => Below.heap_alloc _ _ _ hk⟩
theorem Fr.drew (S : List Nat) (w : World) : Fr S w w.drew := ⟨rfl, rfl, rfl, Nat.le_refl _, fun _ _ _ => rfl⟩
theorem Fr.drewN (S : List Nat) (w : World) (q : Nat) : Fr S w (w.drewN q) := ⟨rfl, rfl, rfl, Nat.le_refl _, fun _ _ _ => rfl⟩
theorem Fr.set {S : List Nat} (w : World) (p : Addr) (u : Value) (h : p.block ∈ S) : Fr S w (w.setCell p u) :=
  ⟨rfl, rfl, rfl, by simp [World.setCell], fun k _ hn => Below.heap_setCell _ _ _ _ (fun e => hn (e ▸ h))⟩
theorem Fr.grown {S : List Nat} {w w' : World} {row : Option Nat} (hg : w.grownBy w' row) (h : ∀ k, row = some k → k < w.heap.size → k ∈ S) : Fr S w w' :=
  ⟨hg.os, hg.tape, hg.output, hg.size, fun k hk hn => hg.block k hk (fun e => hn (h k e.symm hk))⟩
theorem Fr.below {S : List Nat} {w w' : World} {B : Nat} (h : Fr S w w') (hB : B ≤ w.heap.size) (hS : ∀ x, x ∈ S → B ≤ x) : Below B w w' :=
  ⟨h.os, h.tape, h.output, h.size, fun k hk => h.block k (by omega) (fun x => by have := hS k x; omega)⟩
theorem Fr.keep {S : List Nat} {w w' : World} (h : Fr S w w') {b : Nat} {o : Obj} (hb : w.heap[b]? = some o) (hn : b ∉ S) : w'.heap[b]? = some o :=
  (h.block b (lt_of_block hb) hn).trans hb

/-- Bytes as cells. -/
def bts (xs : List Nat) : List Value := xs.map fun (x : Nat) => Value.int .u8 (x : Int)
theorem bts_length (xs : List Nat) : (bts xs).length = xs.length := by simp [bts]
theorem bts_append (xs ys : List Nat) : bts (xs ++ ys) = bts xs ++ bts ys := by simp [bts]
theorem bts_get (xs : List Nat) (j : Nat) (h : j < xs.length) : (bts xs)[j]? = some (.int .u8 ((xs.getD j 0 : Nat) : Int)) := by
  simp [bts, List.getD, h]
theorem bts_oneCell (xs : List Nat) : ∀ u ∈ bts xs, u.oneCell' = true := by
  intro u hu
  obtain ⟨_, _, rfl⟩ := List.mem_map.1 hu
  rfl
/-- A string's bytes as numbers. -/
def strNs (s : ByteArray) : List Nat := s.data.toList.map fun b => b.toNat
theorem strNs_length (s : ByteArray) : (strNs s).length = s.size := by
  rw [strNs, List.length_map, Array.length_toList]
  rfl
theorem bts_strNs (s : ByteArray) : bts (strNs s) = strCells s := by simp [bts, strNs, strCells]
theorem strNs_lt (s : ByteArray) : ∀ x ∈ strNs s, x < 256 := by
  intro x hx
  obtain ⟨b, _, rfl⟩ := List.mem_map.1 hx
  exact b.toNat_lt

/-- The row that a slice owns moved to a new block, or not at all. -/
def Moved (n : Nat) (v v' : Value) : Prop := v'.ownBlock = v.ownBlock ∨ ∃ k, v'.ownBlock = some k ∧ n ≤ k

theorem Moved.refl (n : Nat) (v : Value) : Moved n v v := Or.inl rfl
theorem Moved.trans {n m : Nat} {a b c : Value} (h : Moved n a b) (k : Moved m b c) (hnm : n ≤ m) : Moved n a c := by
  rcases k with k | ⟨x, k1, k2⟩
  · rcases h with h | ⟨y, h1, h2⟩
    · exact Or.inl (k.trans h)
    · exact Or.inr ⟨y, k.trans h1, h2⟩
  · exact Or.inr ⟨x, k1, by omega⟩
theorem Moved.lt {n B : Nat} {v v' : Value} (h : Moved n v v') (hB : B ≤ n) (hv : ∀ k, v.ownBlock = some k → B ≤ k) : ∀ k, v'.ownBlock = some k → B ≤ k := by
  intro k hk
  rcases h with h | ⟨y, h1, h2⟩
  · exact hv k (h ▸ hk)
  · rw [h1] at hk; cases hk; omega

section
variable {P : Program} (w : World)

theorem moved_app (t ty e : TypeId) (i : TypeInfo) (z : Value) (size bytes : Nat) (ht : P.underlying t = some (.slice e)) (hi : P.info? e = some i) (hz : i.zero = some z)
    (hsize : i.size = size) (hby : i.bytes = bytes)
    (v : Value) (n : Nat) (xs : List Value) (hown : w.ownsRow 0 e size v n xs)
    (a : Addr) (m c : Nat) (news : List Value) (hm : 0 < m) (hl : news.length = m * size) (hnews : ∀ j u, news[j]? = some u → w.cell? (a.add j) = some u) (h1 : ∀ u ∈ news, u.oneCell' = true)
    (h63 : n + m ≤ maxLen) (hbytes : (n + m) * bytes ≤ 140737488355328) (v' : Value) (w' : World)
    (hr : (Builtin.append_ #[t, t] ty #[v, .slice (some a) m c]).run P w = .ok v' w') : Moved w.heap.size v v' := by
  subst hsize
  subst hby
  have hsmall : n + m ≤ 9223372036854775807 := by simp only [maxLen] at h63; omega
  rcases hown.2 with ⟨rfl, rfl⟩ | ⟨g, cap, cur, rfl, hbg, hg, hnc, hcm, hcs, htake⟩
  · have hr2 := run_append_nil (P := P) w t ty e i z ht hi hz a m c news hl hnews (by omega) (by omega) (by have hb := hbytes; simp only [Nat.zero_add] at hb; omega)
    rw [hr] at hr2
    cases hr2
    exact Or.inr ⟨_, rfl, Nat.le_refl _⟩
  · by_cases hroom : n + m ≤ cap
    · have hfit : n * i.size + news.length ≤ cur.size := by rw [hl, hcs, ← Nat.add_mul]; exact Nat.mul_le_mul_right _ hroom
      have hr2 := run_append_room (P := P) w t ty e i ht hi g n cap cur hg a m c news hl hnews h1 hroom hfit
      rw [hr] at hr2
      cases hr2
      exact Or.inl rfl
    · have holds : ∀ j u, xs[j]? = some u → w.cell? ((⟨g, 0, none⟩ : Addr).add j) = some u := hown.cells (g := g) rfl
      have hr2 := run_append_grow (P := P) w t ty e i z ht hi hz ⟨g, 0, none⟩ n cap xs hown.1 holds a m c news hl hnews (by omega) (by omega) (growslice_fits (by omega) hbytes)
      rw [hr] at hr2
      cases hr2
      exact Or.inr ⟨_, rfl, Nat.le_refl _⟩

theorem moved_appS (t u ty e : TypeId) (i : TypeInfo) (ht : P.underlying t = some (.slice e)) (hu : P.underlying u = some .string) (hi : P.info? e = some i) (hz : i.zero = some (.int .u8 0))
    (hsize : i.size = 1) (hby : i.bytes = 1)
    (v : Value) (n : Nat) (xs : List Value) (hown : w.ownsRow 0 e 1 v n xs) (s : ByteArray)
    (h63 : n + s.size ≤ maxLen) (hbytes : n + s.size ≤ 140737488355328) (v' : Value) (w' : World)
    (hr : (Builtin.append_ #[t, u] ty #[v, .string s]).run P w = .ok v' w') (hnil : v' = .slice none 0 0 ↔ v = .slice none 0 0 ∧ s.size = 0) : Moved w.heap.size v v' := by
  have hsmall : n + s.size ≤ 9223372036854775807 := by simp only [maxLen] at h63; omega
  rcases hown.2 with ⟨rfl, rfl⟩ | ⟨g, cap, cur, rfl, hbg, hg, hnc, hcm, hcs, htake⟩
  · by_cases hm : s.size = 0
    · rw [hnil.2 ⟨rfl, hm⟩]
      exact Moved.refl _ _
    · have hr2 := run_append_nil_string (P := P) w t u ty e i (.int .u8 0) ht hu hi hz s (by omega) (by omega) (by rw [hby]; omega)
      rw [hr] at hr2
      cases hr2
      exact Or.inr ⟨_, rfl, Nat.le_refl _⟩
  · by_cases hroom : n + s.size ≤ cap
    · have hcs' : cur.size = cap := by simpa using hcs
      have hr2 := run_append_room_string (P := P) w t u ty e i ht hu hi hsize g n cap cur hg s hroom (by omega)
      rw [hr] at hr2
      cases hr2
      exact Or.inl rfl
    · have holds : ∀ j u, xs[j]? = some u → w.cell? ((⟨g, 0, none⟩ : Addr).add j) = some u := hown.cells (g := g) rfl
      have hr2 := run_append_grow_string (P := P) w t u ty e i (.int .u8 0) ht hu hi hz ⟨g, 0, none⟩ n cap xs (by rw [hsize]; exact hown.1) holds s (by omega) (by omega) (by rw [hby]; exact growslice_fits (by omega) (by omega))
      rw [hr] at hr2
      cases hr2
      exact Or.inr ⟨_, rfl, Nat.le_refl _⟩

/-- A string's bytes behind a row of one's own. -/
theorem wpList_appS {ops : Array Oper} {rest : List Oper} {o : Oper} {a : Act} {Q : Exit → Act → World → Prop} (hgd : o.guard = none) (sl x : Operand) (t u : TypeId)
    (ho : o.op = .call { callee := .builtin .append, args := #[sl, x], argTypes := #[t, u] })
    (e : TypeId) (i : TypeInfo) (ht : P.underlying t = some (.slice e)) (hu : P.underlying u = some .string) (hi : P.info? e = some i) (hz : i.zero = some (.int .u8 0))
    (hsize : i.size = 1) (hby : i.bytes = 1)
    (v : Value) (n : Nat) (xs : List Value) (hs : a.eval sl = v) (hown : w.ownsRow 0 e 1 v n xs) (s : ByteArray) (hx : a.eval x = .string s)
    (hbytes : n + s.size ≤ 140737488355328) (h63 : n + s.size ≤ maxLen)
    (h : ∀ ao n' cap w', n' = n + s.size → w'.ownsRow 0 e 1 (.slice ao n' cap) n' (xs ++ strCells s) → w.grownBy w' v.ownBlock → Moved w.heap.size v (.slice ao n' cap) → wpList P ops Q rest (a.put o.dst (.slice ao n' cap)) w') : wpList P ops Q (o :: rest) a w := by
  refine wpList_plain hgd fun K hK => ?_
  obtain ⟨v', w', hr, h2, h3, h4⟩ := run_append_own_string (P := P) w 0 t u o.type e i ht hu hi hz hsize hby v n xs hown s h63 hbytes (Nat.zero_le _)
  have hmv := moved_appS (P := P) w t u o.type e i ht hu hi hz hsize hby v n xs hown s h63 hbytes v' w' hr h4
  obtain ⟨ao, cap, rfl⟩ : ∃ ao cap, v' = .slice ao (n + s.size) cap := by
    rcases h2.2 with ⟨hh, h0⟩ | ⟨g, cap', _, hh, _⟩
    · exact ⟨none, 0, by rw [hh, h0]⟩
    · exact ⟨_, cap', hh⟩
  unfold Oper.wp execOp
  simp only [ho, resolve, invoke, builtin, Sem.run_bind, Sem.run_pure, Result.andThen_ok, List.map_toArray, List.map_cons, List.map_nil, hs, hx, hr]
  exact hK _ _ (h ao _ cap w' rfl h2 h3 hmv)

/-- One more element behind a row of one's own, laid in a block of its own ahead of it. -/
theorem wpList_app1 {ops : Array Oper} {rest : List Oper} {o : Oper} {a : Act} {Q : Exit → Act → World → Prop} (hgd : o.guard = none) (s x : Operand) (t : TypeId)
    (ho : o.op = .call { callee := .builtin .append, args := #[s, x], argTypes := #[t, t] })
    (e : TypeId) (i : TypeInfo) (z : Value) (size bytes : Nat) (ht : P.underlying t = some (.slice e)) (hi : P.info? e = some i) (hz : i.zero = some z)
    (hsize : i.size = size) (hby : i.bytes = bytes) (hzs : z.cells.size = size) (hsz : 0 < size)
    (v : Value) (n : Nat) (xs : List Value) (hs : a.eval s = v) (hown : w.ownsRow 0 e size v n xs)
    (ad : Addr) (c : Nat) (news : List Value) (hx : a.eval x = .slice (some ad) 1 c) (hl : news.length = size) (hnews : ∀ j u, news[j]? = some u → w.cell? (ad.add j) = some u) (h1 : ∀ u ∈ news, u.oneCell' = true)
    (hbytes : (n + 1) * bytes ≤ 140737488355328) (h63 : n + 1 ≤ maxLen)
    (h : ∀ g cap w', w'.ownsRow 0 e size (.slice (some ⟨g, 0, none⟩) (n + 1) cap) (n + 1) (xs ++ news) → w.grownBy w' v.ownBlock → Moved w.heap.size v (.slice (some ⟨g, 0, none⟩) (n + 1) cap) → wpList P ops Q rest (a.put o.dst (.slice (some ⟨g, 0, none⟩) (n + 1) cap)) w') : wpList P ops Q (o :: rest) a w := by
  refine wpList_plain hgd fun K hK => ?_
  have hl' : news.length = 1 * size := by omega
  obtain ⟨v', w', hr, h2, h3, h4⟩ := run_append_own (P := P) w 0 t o.type e i z size bytes ht hi hz hsize hby hzs hsz v n xs hown ad 1 c news hl' hnews h1 h63 hbytes (Nat.zero_le _)
  have hmv := moved_app (P := P) w t o.type e i z size bytes ht hi hz hsize hby v n xs hown ad 1 c news (by omega) hl' hnews h1 h63 hbytes v' w' hr
  obtain ⟨g, cap, rfl⟩ : ∃ g cap, v' = .slice (some ⟨g, 0, none⟩) (n + 1) cap := by
    rcases h2.2 with ⟨_, hh⟩ | ⟨g, cap', _, hh, _⟩
    · omega
    · exact ⟨g, cap', hh⟩
  unfold Oper.wp execOp
  simp only [ho, resolve, invoke, builtin, Sem.run_bind, Sem.run_pure, Result.andThen_ok, List.map_toArray, List.map_cons, List.map_nil, hs, hx, hr]
  exact hK _ _ (h g cap w' h2 h3 hmv)
end

/-- A row of one's own stays where the frame leaves it. -/
theorem owns_keep {S : List Nat} {w w' : World} {e : TypeId} {size : Nat} {v : Value} {n : Nat} {xs : List Value} (h : w.ownsRow 0 e size v n xs) (hf : Fr S w w') (hn : ∀ k, v.ownBlock = some k → k ∉ S) : w'.ownsRow 0 e size v n xs := by
  refine ⟨h.1, ?_⟩
  rcases h.2 with hh | ⟨g, cap, cur, rfl, hb, hgg, rest⟩
  · exact .inl hh
  · exact .inr ⟨g, cap, cur, rfl, hb, hf.keep hgg (hn g rfl), rest⟩

/-- A writer: its struct lies in block g, its bytes are xs. -/
structure Wr (w : World) (g : Nat) (v : Value) (xs : List Nat) : Prop where
  box : w.heap[g]? = some (.cells #[.bool true, v] 119 (0, 0))
  row : w.ownsRow 0 5 1 v xs.length (bts xs)

theorem Wr.lt {w : World} {g : Nat} {v : Value} {xs : List Nat} (h : Wr w g v xs) : g < w.heap.size := lt_of_block h.box
theorem Wr.rowlt {w : World} {g : Nat} {v : Value} {xs : List Nat} (h : Wr w g v xs) : ∀ k, v.ownBlock = some k → k < w.heap.size := fun k hk => (h.row.lt k hk).2
theorem Wr.other {w : World} {g : Nat} {v : Value} {xs : List Nat} (h : Wr w g v xs) : v.ownBlock ≠ some g := by
  intro hv
  rcases h.row.2 with ⟨rfl, _⟩ | ⟨g', cap, cur, rfl, _, hg, _⟩
  · simp [Value.ownBlock] at hv
  · simp [Value.ownBlock] at hv
    subst hv
    have := h.box
    rw [hg] at this
    simp at this
theorem Wr.c0 {w : World} {g : Nat} {v : Value} {xs : List Nat} (h : Wr w g v xs) : w.cell? ⟨g, 0, none⟩ = some (.bool true) := by simp [World.cell?, h.box]
theorem Wr.c1 {w : World} {g : Nat} {v : Value} {xs : List Nat} (h : Wr w g v xs) : w.cell? ⟨g, 1, none⟩ = some v := by simp [World.cell?, h.box]
theorem Wr.f0 {w : World} {g : Nat} {v : Value} {xs : List Nat} (h : Wr w g v xs) : w.frozen? ⟨g, 0, none⟩ = false := by simp [World.frozen?, h.box]
theorem Wr.f1 {w : World} {g : Nat} {v : Value} {xs : List Nat} (h : Wr w g v xs) : w.frozen? ⟨g, 1, none⟩ = false := by simp [World.frozen?, h.box]
theorem Wr.shape {w : World} {g : Nat} {v : Value} {xs : List Nat} (h : Wr w g v xs) : ∃ ao cap, v = .slice ao xs.length cap := by
  rcases h.row.2 with ⟨rfl, h0⟩ | ⟨g', cap, cur, rfl, _⟩
  · exact ⟨none, 0, by rw [h0]⟩
  · exact ⟨_, _, rfl⟩
theorem Wr.keep {S : List Nat} {w w' : World} {g : Nat} {v : Value} {xs : List Nat} (h : Wr w g v xs) (hf : Fr S w w') (hg : g ∉ S) (hn : ∀ k, v.ownBlock = some k → k ∉ S) : Wr w' g v xs :=
  ⟨hf.keep h.box hg, owns_keep h.row hf hn⟩
/-- What belongs to a writer. -/
def Wr.own (g : Nat) (v : Value) : List Nat := g :: v.ownBlock.toList

theorem two_setCell1 {w : World} {b : Nat} {u v x : Value} {t : TypeId} (h : w.heap[b]? = some (.cells #[u, v] t (0, 0))) : (w.setCell ⟨b, 1, none⟩ x).heap[b]? = some (.cells #[u, x] t (0, 0)) := by
  have hlt := lt_of_block h
  have h' : w.heap[b] = .cells #[u, v] t (0, 0) := by simpa [Array.getElem?_eq_getElem hlt] using h
  show (w.heap.modify b _)[b]? = _
  rw [Array.getElem?_eq_getElem (by simpa using hlt), Array.getElem_modify_self, h']
  rfl

/-- Behind an append to a writer's row and the store of the new slice into its struct. -/
theorem Wr.put {w w1 : World} {g : Nat} {v v' : Value} {xs ys : List Nat} (h : Wr w g v xs) (hown : w1.ownsRow 0 5 1 v' (xs ++ ys).length (bts (xs ++ ys))) (hg : w.grownBy w1 v.ownBlock) :
    Wr (w1.setCell ⟨g, 1, none⟩ v') g v' (xs ++ ys) ∧ Fr (Wr.own g v) w (w1.setCell ⟨g, 1, none⟩ v') := by
  have hbox : w1.heap[g]? = some (.cells #[.bool true, v] 119 (0, 0)) := (hg.block g h.lt (fun e => h.other e.symm)).trans h.box
  have hoth : v'.ownBlock ≠ some g := by
    intro hv
    rcases hown.2 with ⟨rfl, _⟩ | ⟨g', cap, cur, rfl, _, hgg, _⟩
    · simp [Value.ownBlock] at hv
    · simp [Value.ownBlock] at hv
      subst hv
      rw [hgg] at hbox
      simp at hbox
  refine ⟨⟨two_setCell1 hbox, ownsRow_setCell_other hown hoth _⟩, ?_⟩
  refine (Fr.grown (S := Wr.own g v) hg ?_).then (Fr.set _ _ _ ?_)
  · intro k hk _
    simp [Wr.own, hk]
  · simp [Wr.own]

theorem own_moved {g n : Nat} {v v' : Value} (h : Moved n v v') {x : Nat} (hx : x ∈ Wr.own g v') (hn : x < n) : x ∈ Wr.own g v := by
  simp only [Wr.own, List.mem_cons, Option.mem_toList] at hx ⊢
  rcases hx with rfl | hx
  · exact Or.inl rfl
  · rcases h with h | ⟨k, hk, hk2⟩
    · exact Or.inr (h ▸ hx)
    · rw [hx] at hk; cases hk; omega

/-- One append and store more, as the loops' relation has it. -/
theorem Wr.step {w wr w1 : World} {g : Nat} {v v' v2 : Value} {ys zs : List Nat} {n : Nat} {cs : List Value} {o : Obj} (hW : Wr wr g v' ys) (hF : Fr (Wr.own g v) w wr) (hM : Moved w.heap.size v v')
    (hown : w1.ownsRow 0 5 1 v2 n cs) (hn : n = (ys ++ zs).length) (hcs : cs = bts (ys ++ zs)) (hg : (wr.alloc o).grownBy w1 v'.ownBlock) {k : Nat} (hm : Moved k v' v2) (hk : wr.heap.size ≤ k) :
    Wr (w1.setCell ⟨g, 1, none⟩ v2) g v2 (ys ++ zs) ∧ Fr (Wr.own g v) w (w1.setCell ⟨g, 1, none⟩ v2) ∧ Moved w.heap.size v v2 := by
  subst hn
  subst hcs
  have hW1 : Wr (wr.alloc o) g v' ys := hW.keep (Fr.alloc [] wr o) (by simp) (by simp)
  obtain ⟨h1, h2⟩ := hW1.put hown hg
  have hs : w.heap.size ≤ k := by have := hF.size; omega
  refine ⟨h1, ?_, hM.trans hm hs⟩
  refine (hF.trans ((Fr.alloc _ wr o).then h2) (fun _ x _ => x) ?_)
  intro x hx hxl
  exact own_moved hM hx hxl
theorem Wr.after {w w1 : World} {g : Nat} {v : Value} {ys : List Nat} {o : Obj} (hW : Wr w g v ys) (hg : (w.alloc o).grownBy w1 v.ownBlock) :
    w1.cell? ⟨g, 1, none⟩ = some v ∧ w1.frozen? ⟨g, 1, none⟩ = false := by
  have hW1 : Wr (w.alloc o) g v ys := hW.keep (Fr.alloc [] w o) (by simp) (by simp)
  have e := hg.block g hW1.lt (fun e => hW1.other e.symm)
  exact ⟨(World.cell?_of_block e).trans hW1.c1, (World.frozen?_of_block e).trans hW1.f1⟩

theorem Wr.step0 {w wr w1 : World} {g : Nat} {v v' v2 : Value} {ys zs : List Nat} {n : Nat} {cs : List Value} (hW : Wr wr g v' ys) (hF : Fr (Wr.own g v) w wr) (hM : Moved w.heap.size v v')
    (hown : w1.ownsRow 0 5 1 v2 n cs) (hn : n = (ys ++ zs).length) (hcs : cs = bts (ys ++ zs)) (hg : wr.grownBy w1 v'.ownBlock) (hm : Moved wr.heap.size v' v2) :
    Wr (w1.setCell ⟨g, 1, none⟩ v2) g v2 (ys ++ zs) ∧ Fr (Wr.own g v) w (w1.setCell ⟨g, 1, none⟩ v2) ∧ Moved w.heap.size v v2 := by
  subst hn
  subst hcs
  obtain ⟨h1, h2⟩ := hW.put hown hg
  refine ⟨h1, ?_, hM.trans hm hF.size⟩
  refine (hF.trans h2 (fun _ x _ => x) ?_)
  intro x hx hxl
  exact own_moved hM hx hxl
theorem Wr.after0 {w w1 : World} {g : Nat} {v : Value} {ys : List Nat} (hW : Wr w g v ys) (hg : w.grownBy w1 v.ownBlock) :
    w1.cell? ⟨g, 1, none⟩ = some v ∧ w1.frozen? ⟨g, 1, none⟩ = false := by
  have e := hg.block g hW.lt (fun e => hW.other e.symm)
  exact ⟨(World.cell?_of_block e).trans hW.c1, (World.frozen?_of_block e).trans hW.f1⟩
theorem Wr.owns {w : World} {g : Nat} {ao : Option Addr} {L cap : Nat} {ys : List Nat} (hW : Wr w g (.slice ao L cap) ys) (hL : L = ys.length) : w.ownsRow 0 5 1 (.slice ao L cap) L (bts ys) := by
  have := hW.row
  rw [← hL] at this
  exact this
theorem own_lit {w : World} {e : TypeId} {g n cap : Nat} {xs : List Value} (h : w.ownsRow 0 e 1 (.slice (some ⟨g, 0, none⟩) n cap) n xs) : ∃ cur, w.heap[g]? = some (.cells cur e (0, 0)) ∧ cur.size = cap := by
  rcases h.2 with ⟨hh, _⟩ | ⟨g', cap', cur, hh, _, hg, _, _, hcs, _⟩
  · cases hh
  · cases hh
    exact ⟨cur, hg, by simpa using hcs⟩
theorem Wr.after0' {w w1 : World} {g : Nat} {v : Value} {ys : List Nat} (hW : Wr w g v ys) (hg : w.grownBy w1 none) : Wr w1 g v ys :=
  hW.keep (Fr.grown (S := []) hg (by simp)) (by simp) (by simp)
theorem Tryz.sizeB : (Tryz.prog.info? 5).map (fun i => i.size) = some 1 := by kernel_rfl
theorem Fr.setRow (w : World) (g : Nat) (cs : Array Value) : Fr [g] w (w.setRow g cs) :=
  ⟨rfl, rfl, rfl, by simp [World.setRow], fun k _ hn => setRow_other w g k cs (by simpa using hn)⟩
/-- Where a writer's bytes lie, if there are any. -/
theorem Wr.addr {w : World} {g : Nat} {ao : Option Addr} {L cap : Nat} {ys : List Nat} (hW : Wr w g (.slice ao L cap) ys) (hL : L = ys.length) (h0 : 0 < L) :
    ∃ a, ao = some a ∧ ∀ j u, (bts ys)[j]? = some u → w.cell? (a.add j) = some u := by
  have h := hW.owns hL
  rcases h.2 with ⟨hh, h1⟩ | ⟨g', cap', cur, hh, _, hg, _, _, hcs, _⟩
  · omega
  · cases hh
    exact ⟨_, rfl, fun j u hj => h.cells (g := g') rfl j u hj⟩

theorem Fr.on {T : List Nat} {a b c : World} (h : Fr [] a b) (k : Fr T b c) (hT : ∀ x, x ∈ T → a.heap.size ≤ x) : Fr [] a c :=
  h.trans k (fun _ x _ => x) (fun x hx hl => by have := hT x hx; omega)
/-- A writer that was made since w0, in a world that left w0's blocks alone. -/
structure WB (w0 w : World) (g : Nat) (v : Value) (xs : List Nat) : Prop where
  wr : Wr w g v xs
  fr : Fr [] w0 w
  box : w0.heap.size ≤ g
  row : ∀ k, v.ownBlock = some k → w0.heap.size ≤ k
theorem WB.next {w0 w w' : World} {g : Nat} {v v' : Value} {xs ys : List Nat} (h : WB w0 w g v xs) (hW : Wr w' g v' ys) (hF : Fr (Wr.own g v) w w') (hM : Moved w.heap.size v v') : WB w0 w' g v' ys := by
  refine ⟨hW, h.fr.on hF ?_, h.box, hM.lt h.fr.size h.row⟩
  intro x hx
  simp only [Wr.own, List.mem_cons, Option.mem_toList] at hx
  rcases hx with rfl | hx
  · exact h.box
  · exact h.row x hx
theorem WB.keep {S : List Nat} {w0 w w' : World} {g : Nat} {v : Value} {xs : List Nat} (h : WB w0 w g v xs) (hF : Fr S w w') (hS : ∀ x, x ∈ S → w0.heap.size ≤ x) (hg : g ∉ S) (hn : ∀ k, v.ownBlock = some k → k ∉ S) : WB w0 w' g v xs :=
  ⟨h.wr.keep hF hg hn, h.fr.on hF hS, h.box, h.row⟩
theorem WB.quiet {w0 w w' : World} {g : Nat} {v : Value} {xs : List Nat} (h : WB w0 w g v xs) (hF : Fr [] w w') : WB w0 w' g v xs :=
  h.keep hF (by simp) (by simp) (by simp)
theorem Wr.apart {w : World} {g g' : Nat} {v v' : Value} {xs ys : List Nat} (h : Wr w g v xs) (h' : Wr w g' v' ys) : v.ownBlock ≠ some g' := by
  intro hv
  rcases h.row.2 with ⟨rfl, _⟩ | ⟨k, cap, cur, rfl, _, hg, _⟩
  · simp [Value.ownBlock] at hv
  · simp [Value.ownBlock] at hv
    subst hv
    have := h'.box
    rw [hg] at this
    simp at this
theorem own_nil {g k : Nat} : k ∈ Wr.own g (.slice none 0 0) ↔ k = g := by simp [Wr.own, Value.ownBlock]
end Go.Proofs.YtaefninikmaiiaaGreatDoor
/- The short number's bytes and how they are read, as plain functions on numbers and lists, and what follows. No conditions but those each lemma names. -/
namespace Go.Proofs.YtaefninikmaiiaaGreatDoor
open Go.ChangeShapes Go.WideShapes Go.ChangeAt Go.RowKit Go.Lib

/-- A short number's bytes, f groups at most and one more. -/
def encF : Nat → Nat → List Nat
  | 0, n => [n % 128]
  | f + 1, n => if n < 128 then [n] else (128 + n % 128) :: encF f (n / 128)
def enc (n : Nat) : List Nat := encF 9 n

theorem encF_more (f : Nat) : ∀ n k, n < 128 ^ (f + 1) → encF (f + k) n = encF f n := by
  induction f with
  | zero =>
    intro n k h
    cases k with
    | zero => rfl
    | succ k =>
      have h' : n < 128 := by simpa using h
      simp [encF, h', Nat.mod_eq_of_lt h']
  | succ f ih =>
    intro n k h
    rw [show f + 1 + k = (f + k) + 1 from by omega]
    simp only [encF]
    split
    · rfl
    · rw [ih]
      rw [Nat.pow_succ] at h
      omega
theorem enc_low (n : Nat) (h : n < 128) : enc n = [n] := by simp [enc, encF, h]
theorem enc_high (n : Nat) (h : 128 ≤ n) (h2 : n < 2 ^ 64) : enc n = (128 + n % 128) :: enc (n / 128) := by
  have : ¬ n < 128 := by omega
  simp only [enc]
  rw [show (9 : Nat) = 8 + 1 from rfl]
  conv => lhs; unfold encF
  rw [if_neg this]
  congr 1
  exact (encF_more 8 (n / 128) 1 (by omega)).symm
theorem encF_length (f : Nat) : ∀ n, 1 ≤ (encF f n).length ∧ (encF f n).length ≤ f + 1 := by
  induction f with
  | zero => intro n; simp [encF]
  | succ f ih =>
    intro n
    simp only [encF]
    split
    · simp
    · have := ih (n / 128)
      simp only [List.length_cons]
      omega
theorem enc_length (n : Nat) : 1 ≤ (enc n).length ∧ (enc n).length ≤ 10 := encF_length 9 n
theorem encF_lt (f : Nat) : ∀ n, ∀ x ∈ encF f n, x < 256 := by
  induction f with
  | zero => intro n x hx; simp [encF] at hx; omega
  | succ f ih =>
    intro n x hx
    simp only [encF] at hx
    split at hx
    · simp at hx; omega
    · rcases List.mem_cons.1 hx with rfl | hx
      · omega
      · exact ih _ x hx
theorem enc_lt (n : Nat) : ∀ x ∈ enc n, x < 256 := encF_lt 9 n
/-! ### Zigzag -/
def zig (x : Int) : Int := if x < 0 then -2 * x - 1 else 2 * x
def zag (y : Int) : Int := if y % 2 = 0 then y / 2 else -1 - y / 2
theorem zag_zig (x : Int) : zag (zig x) = x := by unfold zag zig; split <;> split <;> omega
theorem zig_zag (y : Int) (h : 0 ≤ y) : zig (zag y) = y := by unfold zag zig; split <;> split <;> omega
theorem zig_bd (x : Int) (h0 : -9223372036854775808 ≤ x) (h1 : x ≤ 9223372036854775807) : 0 ≤ zig x ∧ zig x ≤ 18446744073709551615 := by unfold zig; split <;> omega
theorem zag_bd (y : Int) (h0 : 0 ≤ y) (h1 : y ≤ 18446744073709551615) : -9223372036854775808 ≤ zag y ∧ zag y ≤ 9223372036854775807 := by unfold zag; split <;> omega
theorem xor_ones (a : Nat) (ha : a < 18446744073709551616) : a ^^^ 18446744073709551615 = 18446744073709551615 - a := by
  have h : (BitVec.ofNat 64 a ^^^ BitVec.allOnes 64).toNat = (~~~ (BitVec.ofNat 64 a)).toNat := by rw [BitVec.xor_allOnes]
  rw [BitVec.toNat_xor, BitVec.toNat_not, BitVec.toNat_allOnes, BitVec.toNat_ofNat, Nat.mod_eq_of_lt (by simpa using ha)] at h
  simpa using h
theorem zig_code (x : Int) (h0 : -9223372036854775808 ≤ x) (h1 : x ≤ 9223372036854775807) :
    bits .xor .u64 (IntKind.u64.wrap (wrap64 (x * 2))) (IntKind.u64.wrap (x / 9223372036854775808)) = zig x := by
  have e1 : IntKind.u64.wrap (wrap64 (x * 2)) = (((x * 2) % 18446744073709551616).toNat : Nat) := by
    simp only [wrap64, IntKind.wrap, IntKind.bits, IntKind.signed]; simp; omega
  by_cases hx : x < 0
  · have e2 : IntKind.u64.wrap (x / 9223372036854775808) = ((18446744073709551615 : Nat) : Int) := by
      rw [show x / 9223372036854775808 = -1 by omega]; decide
    rw [e1, e2, u64_xor_nat _ _ (by omega) (by omega), xor_ones _ (by omega)]
    unfold zig; rw [if_pos hx]; omega
  · have e2 : IntKind.u64.wrap (x / 9223372036854775808) = ((0 : Nat) : Int) := by
      rw [show x / 9223372036854775808 = 0 by omega]; decide
    rw [e1, e2, u64_xor_nat _ _ (by omega) (by omega), Nat.xor_zero]
    unfold zig; rw [if_neg hx]; omega
theorem and_1 (x : Int) (h0 : 0 ≤ x) (h1 : x ≤ 18446744073709551615) : bits .and .u64 x 1 = x % 2 := by
  rw [u64_and x 1 h0 (by omega) (by omega) (by omega)]
  rw [show (1 : Int).toNat = 1 by decide, nat_mask1]; omega
theorem xor_i64_m1 (a : Int) (h0 : 0 ≤ a) (h1 : a < 9223372036854775808) : bits .xor .i64 a (-1) = -1 - a := by
  show IntKind.i64.wrap ((BitVec.ofInt 64 a ^^^ BitVec.ofInt 64 (-1)).toNat : Int) = _
  have e : BitVec.ofInt 64 (-1) = BitVec.allOnes 64 := by decide
  rw [e, BitVec.xor_allOnes, BitVec.toNat_not, BitVec.toNat_ofInt]
  simp [IntKind.wrap, IntKind.bits, IntKind.signed]
  omega
theorem xor_i64_0 (a : Int) (h0 : 0 ≤ a) (h1 : a < 9223372036854775808) : bits .xor .i64 a 0 = a := by
  show IntKind.i64.wrap ((BitVec.ofInt 64 a ^^^ BitVec.ofInt 64 0).toNat : Int) = _
  have e : BitVec.ofInt 64 0 = 0#64 := by decide
  rw [e, BitVec.xor_zero, BitVec.toNat_ofInt]
  simp [IntKind.wrap, IntKind.bits, IntKind.signed]
  omega
theorem zag_code (x : Int) (h0 : 0 ≤ x) (h1 : x ≤ 18446744073709551615) :
    bits .xor .i64 (x / 2) (wrap64 (-wrap64 (bits .and .u64 x 1))) = zag x := by
  rw [and_1 x h0 h1]
  unfold zag
  by_cases h : x % 2 = 0
  · rw [if_pos h, h, show wrap64 (-wrap64 0) = 0 by unfold wrap64; decide]
    exact xor_i64_0 _ (by omega) (by omega)
  · have h' : x % 2 = 1 := by omega
    rw [if_neg h, h', show wrap64 (-wrap64 1) = -1 by unfold wrap64; decide]
    exact xor_i64_m1 _ (by omega) (by omega)


theorem or128 (m : Nat) : bits .or .u8 ((m : Int) % 256) 128 = ((128 + m % 128 : Nat) : Int) := by
  have e : ((m : Int) % 256) = ((m % 256 : Nat) : Int) := by omega
  rw [e]
  have h : ∀ r : Fin 256, bits .or .u8 ((r.val : Nat) : Int) 128 = ((128 + r.val % 128 : Nat) : Int) := by decide +kernel
  have := h ⟨m % 256, by omega⟩
  simp only at this
  rw [this]
  omega
theorem shr7 (m : Nat) : (m : Int) / 128 = ((m / 128 : Nat) : Int) := by omega

/-- A number in k bytes, the lowest first. -/
def leB : Nat → Nat → List Nat
  | 0, _ => []
  | k + 1, n => n % 256 :: leB k (n / 256)
theorem leB_length (k : Nat) : ∀ n, (leB k n).length = k := by
  induction k with
  | zero => intro n; rfl
  | succ k ih => intro n; simp [leB, ih]
theorem leB_lt (k : Nat) : ∀ n, ∀ x ∈ leB k n, x < 256 := by
  induction k with
  | zero => intro n x hx; simp [leB] at hx
  | succ k ih =>
    intro n x hx
    simp only [leB] at hx
    rcases List.mem_cons.1 hx with rfl | hx
    · omega
    · exact ih _ x hx
theorem shr8 (m : Nat) : (m : Int) / 256 = ((m / 256 : Nat) : Int) := by omega
theorem mod8 (m : Nat) : (m : Int) % 256 = ((m % 256 : Nat) : Int) := by omega

/-- A short number taken off some bytes: it, its bytes' number, what is wrong. -/
def shortF : Nat → Nat → List Nat → Nat × Nat × Nat
  | _, _, [] => (0, 0, 5)
  | i, n, x :: r => if (i = 9 ∧ 1 < x) ∨ (0 < i ∧ x = 0) then (0, 0, 4) else if x < 128 then (n + x * 128 ^ i, i + 1, 0) else shortF (i + 1) (n + x % 128 * 128 ^ i) r
theorem shortF_cons (i n x : Nat) (r : List Nat) : shortF i n (x :: r) = if (i = 9 ∧ 1 < x) ∨ (0 < i ∧ x = 0) then (0, 0, 4) else if x < 128 then (n + x * 128 ^ i, i + 1, 0) else shortF (i + 1) (n + x % 128 * 128 ^ i) r := rfl

theorem wr_u64 (n : Int) : IntKind.u64.wrap n = n % 18446744073709551616 := by simp [IntKind.wrap, IntKind.bits, IntKind.signed]
theorem andNot128 (x : Nat) (hx : x < 256) : bits .andNot .u8 (x : Int) 128 = ((x % 128 : Nat) : Int) := by
  have h : ∀ r : Fin 256, bits .andNot .u8 ((r.val : Nat) : Int) 128 = ((r.val % 128 : Nat) : Int) := by decide +kernel
  exact h ⟨x, hx⟩
theorem pow128 (i : Nat) : 128 ^ i = 2 ^ (7 * i) := by rw [show (128 : Nat) = 2 ^ 7 from rfl, ← Nat.pow_mul]
theorem grp_bd (n y i : Nat) (hn : n < 128 ^ i) (hi : i ≤ 9) (hy : y < 128) (h9 : i = 9 → y ≤ 1) : y * 128 ^ i ≤ 9223372036854775808 ∧ n + y * 128 ^ i < 128 ^ (i + 1) ∧ n + y * 128 ^ i < 18446744073709551616 := by
  have e : 128 ^ (i + 1) = 128 * 128 ^ i := by rw [Nat.pow_succ, Nat.mul_comm]
  have hyi : y * 128 ^ i ≤ 127 * 128 ^ i := Nat.mul_le_mul_right _ (by omega)
  by_cases h : i = 9
  · subst h
    have := h9 rfl
    have e9 : (128 : Nat) ^ 9 = 9223372036854775808 := by decide
    rw [e9] at *
    have : y * 9223372036854775808 ≤ 1 * 9223372036854775808 := Nat.mul_le_mul_right _ this
    omega
  · have hp : 128 ^ i ≤ 128 ^ 8 := Nat.pow_le_pow_right (by decide) (by omega)
    have e8 : (128 : Nat) ^ 8 = 72057594037927936 := by decide
    rw [e8] at hp
    omega
theorem grp (n x i : Nat) (hn : n < 128 ^ i) (hi : i ≤ 9) (hx : x < 256) (h9 : i = 9 → x % 128 ≤ 1) :
    bits BinOp.or IntKind.u64 (n : Int) (IntKind.u64.wrap (IntKind.u64.wrap (bits BinOp.andNot IntKind.u8 (x : Int) 128) * 2 ^ (7 * i))) = ((n + x % 128 * 128 ^ i : Nat) : Int) := by
  have hb := grp_bd n (x % 128) i hn hi (by omega) h9
  rw [andNot128 x hx, wr_u64, wr_u64]
  have e1 : (((x % 128 : Nat) : Int) % 18446744073709551616) = ((x % 128 : Nat) : Int) := by omega
  rw [e1]
  have e2 : (((x % 128 : Nat) : Int) * 2 ^ (7 * i)) = ((x % 128 * 128 ^ i : Nat) : Int) := by rw [pow128]; simp
  rw [e2]
  have e3 : (((x % 128 * 128 ^ i : Nat) : Int) % 18446744073709551616) = ((x % 128 * 128 ^ i : Nat) : Int) := by omega
  rw [e3, u64_or_nat _ _ (by omega) (by omega)]
  rw [Nat.or_comm, nat_join (7 * i) _ _ (by rw [pow128]; exact Nat.mul_mod_left _ _) (by rw [← pow128]; exact hn), Nat.add_comm]
theorem shortF_size : ∀ (xs : List Nat) (i n : Nat), (shortF i n xs).2.2 = 0 → 0 < xs.length ∧ i < (shortF i n xs).2.1 ∧ (shortF i n xs).2.1 ≤ i + xs.length := by
  intro xs
  induction xs with
  | nil => intro i n h; simp [shortF] at h
  | cons x r ih =>
    intro i n h
    rw [shortF_cons] at h ⊢
    split at h
    · simp at h
    · rename_i h1
      rw [if_neg h1]
      split at h
      · rename_i h2
        rw [if_pos h2]
        simp only [List.length_cons]
        omega
      · rename_i h2
        rw [if_neg h2]
        have := ih _ _ h
        simp only [List.length_cons]
        omega


theorem encF_prefix (f : Nat) : ∀ n m, n < 128 ^ (f + 1) → m < 128 ^ (f + 1) → (∃ r, encF f n ++ r = encF f m) → n = m := by
  induction f with
  | zero =>
    intro n m hn hm ⟨r, h⟩
    simp only [encF, List.cons_append, List.nil_append, List.cons.injEq] at h
    have hn' : n < 128 := by simpa using hn
    have hm' : m < 128 := by simpa using hm
    omega
  | succ f ih =>
    intro n m hn hm ⟨r, h⟩
    rw [Nat.pow_succ] at hn hm
    simp only [encF] at h
    split at h <;> split at h <;> simp only [List.cons_append, List.nil_append, List.cons.injEq] at h
    · exact h.1
    · omega
    · omega
    · have := ih (n / 128) (m / 128) (by omega) (by omega) ⟨r, h.2⟩
      omega
theorem encF_mono (f : Nat) : ∀ n m, n ≤ m → (encF f n).length ≤ (encF f m).length := by
  induction f with
  | zero => intro n m _; simp [encF]
  | succ f ih =>
    intro n m h
    simp only [encF]
    split <;> split
    · simp
    · simp
    · omega
    · have := ih (n / 128) (m / 128) (by omega)
      simp only [List.length_cons]
      omega
theorem enc_mono (n m : Nat) (h : n ≤ m) : (enc n).length ≤ (enc m).length := encF_mono 9 n m h
theorem pow64 : (2 : Nat) ^ 64 ≤ 128 ^ 10 := by decide
theorem enc_apart (n m k : Nat) (hn : n < 2 ^ 64) (hm : m < 2 ^ 64) (hk : k = min (enc n).length (enc m).length) (h : (enc n).take k = (enc m).take k) : n = m := by
  have hp := pow64
  by_cases hl : (enc n).length ≤ (enc m).length
  · rw [hk, Nat.min_eq_left hl, List.take_of_length_le (Nat.le_refl _)] at h
    refine encF_prefix 9 n m (by show n < 128 ^ 10; omega) (by show m < 128 ^ 10; omega) ⟨(enc m).drop (enc n).length, ?_⟩
    show enc n ++ _ = enc m
    conv => lhs; lhs; rw [h]
    exact List.take_append_drop _ _
  · rw [hk, Nat.min_eq_right (by omega), List.take_of_length_le (l := enc m) (Nat.le_refl _)] at h
    refine (encF_prefix 9 m n (by show m < 128 ^ 10; omega) (by show n < 128 ^ 10; omega) ⟨(enc n).drop (enc m).length, ?_⟩).symm
    show enc m ++ _ = enc n
    conv => lhs; lhs; rw [← h]
    exact List.take_append_drop _ _

theorem shortF_val : ∀ (xs : List Nat) (i n : Nat), i ≤ 9 → n < 128 ^ i → (∀ x ∈ xs, x < 256) → (shortF i n xs).1 < 2 ^ 64 := by
  intro xs
  induction xs with
  | nil => intro i n _ _ _; simp [shortF]
  | cons x r ih =>
    intro i n hi hn hb
    rw [shortF_cons]
    have hx := hb x (by simp)
    split
    · simp
    · rename_i h1
      split
      · rename_i h2
        have := (grp_bd n x i hn hi h2 (by omega)).2.2
        simp only
        omega
      · rename_i h2
        have h9 : i ≠ 9 := by omega
        have := grp_bd n (x % 128) i hn hi (by omega) (by omega)
        exact ih _ _ (by omega) this.2.1 (fun y hy => hb y (by simp [hy]))

/-- Bytes as a string. -/
def toBA (xs : List Nat) : ByteArray := ⟨(xs.map UInt8.ofNat).toArray⟩
theorem toBA_fold (xs : List Nat) : (xs.map (fun (x : Nat) => (x : Int))).foldl (fun r n => r.push (UInt8.ofNat n.toNat)) ByteArray.empty = toBA xs := by
  have h : ∀ (xs : List Nat) (b : ByteArray), (xs.map (fun (x : Nat) => (x : Int))).foldl (fun r n => r.push (UInt8.ofNat n.toNat)) b = ⟨b.data ++ (xs.map UInt8.ofNat).toArray⟩ := by
    intro xs
    induction xs with
    | nil => intro b; simp
    | cons x r ih =>
      intro b
      simp only [List.map_cons, List.foldl_cons]
      rw [ih]
      congr 1
      simp [ByteArray.push]
  rw [h]
  simp [toBA]
theorem strNs_toBA (xs : List Nat) (hb : ∀ x ∈ xs, x < 256) : strNs (toBA xs) = xs := by
  simp only [strNs, toBA, List.map_map]
  have : ∀ x ∈ xs, (fun b : UInt8 => b.toNat) (UInt8.ofNat x) = x := fun x hx => by simp [Nat.mod_eq_of_lt (hb x hx)]
  rw [List.map_congr_left (g := id)]
  · simp
  · intro x hx; exact this x hx
theorem toBA_strNs (s : ByteArray) : toBA (strNs s) = s := by
  cases s with
  | mk d =>
    simp only [strNs, toBA, List.map_map]
    congr 1
    rw [← Array.toList_inj]
    simp only
    rw [List.map_congr_left (g := id)]
    · simp
    · intro x _; simp
theorem toBA_size (xs : List Nat) : (toBA xs).size = xs.length := by
  show (xs.map UInt8.ofNat).toArray.size = _
  simp

/-- A reader's next text: it, its bytes' number, what is wrong. -/
def textF (most : Int) (xs : List Nat) : ByteArray × Nat × Nat :=
  if most < 0 then (⟨#[]⟩, 0, 1)
  else if (shortF 0 0 xs).2.2 ≠ 0 then (⟨#[]⟩, 0, (shortF 0 0 xs).2.2)
  else if most < ((shortF 0 0 xs).1 : Int) then (⟨#[]⟩, 0, 3)
  else if xs.length - (shortF 0 0 xs).2.1 < (shortF 0 0 xs).1 then (⟨#[]⟩, 0, 5)
  else (toBA ((xs.drop (shortF 0 0 xs).2.1).take (shortF 0 0 xs).1), (shortF 0 0 xs).2.1 + (shortF 0 0 xs).1, 0)
/-- A reader's next number with a sign. -/
def intF (xs : List Nat) : Int × Nat × Nat := (zag ((shortF 0 0 xs).1 : Int), (shortF 0 0 xs).2.1, (shortF 0 0 xs).2.2)
/-- A number of bytes, the lowest first. -/
def leN : List Nat → Nat
  | [] => 0
  | x :: r => x + 256 * leN r
/-- A reader's next number of so many bytes. -/
def fixF (width : Int) (xs : List Nat) : Nat × Nat × Nat :=
  if width < 1 ∨ 8 < width then (0, 0, 1)
  else if (xs.length : Int) < width then (0, 0, 5)
  else (leN (xs.take width.toNat), width.toNat, 0)
theorem leN_lt : ∀ (xs : List Nat), (∀ x ∈ xs, x < 256) → leN xs < 256 ^ xs.length := by
  intro xs
  induction xs with
  | nil => intro _; simp [leN]
  | cons x r ih =>
    intro hb
    have h1 := ih (fun y hy => hb y (by simp [hy]))
    have h2 := hb x (by simp)
    simp only [leN, List.length_cons, Nat.pow_succ]
    omega
theorem leN_snoc : ∀ (xs : List Nat) (y : Nat), leN (xs ++ [y]) = leN xs + y * 256 ^ xs.length := by
  intro xs
  induction xs with
  | nil => intro y; simp [leN]
  | cons x r ih =>
    intro y
    simp only [List.cons_append, leN, ih, List.length_cons, Nat.pow_succ]
    rw [Nat.mul_add, ← Nat.mul_assoc, Nat.mul_comm 256 y, Nat.mul_assoc, Nat.mul_comm 256 (256 ^ r.length)]
    omega
theorem leN_leB : ∀ (k n : Nat), n < 256 ^ k → leN (leB k n) = n := by
  intro k
  induction k with
  | zero => intro n h; simp at h; simp [leB, leN, h]
  | succ k ih =>
    intro n h
    rw [Nat.pow_succ] at h
    simp only [leB, leN]
    rw [ih _ (by omega)]
    omega
theorem pow256 (i : Nat) : 256 ^ i = 2 ^ (8 * i) := by rw [show (256 : Nat) = 2 ^ 8 from rfl, ← Nat.pow_mul]
theorem byt (n x i : Nat) (hn : n < 256 ^ i) (hi : i ≤ 7) (hx : x < 256) :
    bits BinOp.or IntKind.u64 (n : Int) (IntKind.u64.wrap ((x : Int) * 2 ^ (8 * i))) = ((n + x * 256 ^ i : Nat) : Int) ∧ n + x * 256 ^ i < 256 ^ (i + 1) := by
  have e : 256 ^ (i + 1) = 256 * 256 ^ i := by rw [Nat.pow_succ, Nat.mul_comm]
  have hxi : x * 256 ^ i ≤ 255 * 256 ^ i := Nat.mul_le_mul_right _ (by omega)
  have hp : 256 ^ i ≤ 256 ^ 7 := Nat.pow_le_pow_right (by decide) (by omega)
  have e7 : (256 : Nat) ^ 7 = 72057594037927936 := by decide
  rw [e7] at hp
  refine ⟨?_, by omega⟩
  have e2 : ((x : Int) * 2 ^ (8 * i)) = ((x * 256 ^ i : Nat) : Int) := by rw [pow256]; simp
  rw [e2, wr_u64]
  have e3 : (((x * 256 ^ i : Nat) : Int) % 18446744073709551616) = ((x * 256 ^ i : Nat) : Int) := by omega
  rw [e3, u64_or_nat _ _ (by omega) (by omega)]
  rw [Nat.or_comm, nat_join (8 * i) _ _ (by rw [pow256]; exact Nat.mul_mod_left _ _) (by rw [← pow256]; exact hn), Nat.add_comm]
end Go.Proofs.YtaefninikmaiiaaGreatDoor
/- What the codec's writer does, call by call: contracts of NewWriter, there, Var, Int, Text, Fixed, Done. Conditions: the writer's bytes are fewer than 2^40. -/
namespace Go.Proofs.YtaefninikmaiiaaGreatDoor
open Go.ChangeShapes Go.WideShapes Go.ChangeAt Go.RowKit Go.Lib

set_option maxHeartbeats 400000 in
theorem newWriter_any (w : World) : Calls Tryz.prog 41 #[] w fun e w' => e = .returned (.pointer (some ⟨w.heap.size, 0, none⟩)) ∧ w' = w.alloc (.cells #[.bool true, .slice none 0 0] 119) := by
  go_enter Tryz.func41, Tryz.ntmps41
  go_wp2
  go_ret
  exact ⟨rfl, rfl⟩
set_option maxHeartbeats 400000 in
theorem wThere_any (g : Nat) (w : World) (h : w.cell? ⟨g, 0, none⟩ = some (.bool true)) : Calls Tryz.prog 107 #[.pointer (some ⟨g, 0, none⟩)] w fun e w' => e = .returned (.bool true) ∧ w = w' := by
  go_enter Tryz.func107, Tryz.ntmps107
  go_wp2
  go_ret
  exact ⟨rfl, rfl⟩
set_option maxHeartbeats 400000 in
theorem wThere_nil (w : World) : Calls Tryz.prog 107 #[.pointer none] w fun e w' => e = .returned (.bool false) ∧ w = w' := by
  go_enter Tryz.func107, Tryz.ntmps107
  go_wp2
  go_ret
  exact ⟨rfl, rfl⟩
set_option maxHeartbeats 1000000 in
set_option maxRecDepth 100000 in
theorem var_any (g : Nat) (v : Value) (xs : List Nat) (n : Int) (w : World) (h : Wr w g v xs) (hn0 : 0 ≤ n) (hn : n < 2^64) (hlen : xs.length < 2^40) :
    Calls Tryz.prog 153 #[.pointer (some ⟨g, 0, none⟩), .int .u64 n] w fun e w' => e = .returned (.tuple #[]) ∧ ∃ v', Wr w' g v' (xs ++ enc n.toNat) ∧ Fr (Wr.own g v) w w' ∧ Moved w.heap.size v v' := by
  obtain ⟨i0, hi, hz0, hz1, hz2⟩ := info_parts Tryz.infoB
  obtain ⟨N, rfl⟩ := Int.eq_ofNat_of_zero_le hn0
  have hN : N < 2^64 := by omega
  rw [Int.toNat_natCast]
  have hlen0 := enc_length N
  obtain ⟨zs, hzs⟩ : ∃ zs, zs = xs ++ enc N := ⟨_, rfl⟩
  rw [← hzs]
  have hzl : zs.length < 2^40 + 10 := by rw [hzs, List.length_append]; omega
  have E0 : Hid (zs = xs ++ enc N) := hzs
  clear hzs hn0 hn
  go_enter Tryz.func153, Tryz.ntmps153
  go_wp2_with (go_at_call 107; refine (wThere_any g _ h.c0).mono ?_; rintro e w' ⟨rfl, rfl⟩)
  go_loopw [1] (fun vv wr => ∃ (m : Nat) (v' : Value) (ys : List Nat), vv = .int .u64 m ∧ m < 2^64 ∧ Hid (zs = ys ++ enc m) ∧ Wr wr g v' ys ∧ Fr (Wr.own g v) w wr ∧ Moved w.heap.size v v') (fun vv _ => (RowKit.intOf vv).toNat)
  case atStart => exact ⟨N, v, xs, rfl, hN, E0, h, Fr.refl _ _, Moved.refl _ _⟩
  case round =>
    obtain ⟨m, v', ys, rfl, hm, E, hW, hF, hM⟩ := hrel
    obtain ⟨ao, cap, hv⟩ := hW.shape
    obtain ⟨L, hL⟩ : ∃ L, L = ys.length := ⟨_, rfl⟩
    have hLs : L < 2^40 + 10 := by have := congrArg List.length E.out; simp only [List.length_append] at this; omega
    rw [← hL] at hv
    subst hv
    have HL : Hid (L = ys.length) := hL
    clear hL
    have HW : Hid (wr.ownsRow 0 5 1 (.slice ao L cap) L (bts ys)) := by rw [HL.out]; have := hW.row; rw [HL.out] at this; exact this
    have c1 := hW.c1
    have f1 := hW.f1
    have hgl := hW.lt
    by_cases h128 : 128 ≤ m
    · go_wp2_with (at_builtin; refine wpList_app1 _ rfl (.tmp 13) (.tmp 17) 26 rfl 5 i0 (.int .u8 0) 1 1 Tryz.undBs hi hz0 hz1 hz2 rfl (by decide) _ L _ rfl (HW.out.alloc _) ⟨wr.heap.size, 0, none⟩ 1 [.int .u8 (bits BinOp.or IntKind.u8 (m % 256) 128)] rfl rfl ?c1 ?c2 ?c3 ?c4 ?_)
      case c1 => intro j u hj; match j, hj with | 0, hj => simp at hj; subst hj; simp [Addr.add]
      case c2 => intro u hu; simp at hu; subst hu; rfl
      case c3 => omega
      case c4 => unfold maxLen; omega
      intro g' cap' w1 hown hgrow hmov
      obtain ⟨k1, k2⟩ := hW.after hgrow
      obtain ⟨R1, R2, R3⟩ := hW.step (zs := [128 + m % 128]) hF hM hown (by simp [HL.out]) (by rw [bts_append, or128]; rfl) hgrow hmov (by omega)
      have HE : Hid (zs = (ys ++ [128 + m % 128]) ++ enc (m / 128)) := by have := E.out; rw [enc_high m h128 hm] at this; show _ = _; rw [this]; simp
      clear hown hgrow hmov HW c1 f1 hW
      go_wp2
      go_roundw
      case rel => exact ⟨m / 128, _, _, by rw [shr7], by omega, HE, R1, R2, R3⟩
      case measure => simp [RowKit.intOf]; omega
    · go_wp2_with (at_builtin; refine wpList_app1 _ rfl (.tmp 27) (.tmp 30) 26 rfl 5 i0 (.int .u8 0) 1 1 Tryz.undBs hi hz0 hz1 hz2 rfl (by decide) _ L _ rfl (HW.out.alloc _) ⟨wr.heap.size, 0, none⟩ 1 [.int .u8 m] rfl rfl ?c1 ?c2 ?c3 ?c4 ?_)
      case c1 => intro j u hj; match j, hj with | 0, hj => simp at hj; subst hj; simp [Addr.add]
      case c2 => intro u hu; simp at hu; subst hu; rfl
      case c3 => omega
      case c4 => unfold maxLen; omega
      intro g' cap' w1 hown hgrow hmov
      obtain ⟨k1, k2⟩ := hW.after hgrow
      obtain ⟨R1, R2, R3⟩ := hW.step (zs := [m]) hF hM hown (by simp [HL.out]) (by rw [bts_append]; rfl) hgrow hmov (by omega)
      have HE : Hid (zs = ys ++ [m]) := by have := E.out; rw [enc_low m (by omega)] at this; exact this
      clear hown hgrow hmov HW c1 f1 hW
      go_wp2
      go_end0
      rw [HE.out]
      exact ⟨rfl, _, R1, R2, R3⟩
set_option maxHeartbeats 1000000 in
set_option maxRecDepth 100000 in
theorem text_any (g : Nat) (v : Value) (xs : List Nat) (s : ByteArray) (w : World) (h : Wr w g v xs) (hlen : xs.length < 2^40) (hs : s.size < 2^40) :
    Calls Tryz.prog 104 #[.pointer (some ⟨g, 0, none⟩), .string s] w fun e w' => e = .returned (.tuple #[]) ∧ ∃ v', Wr w' g v' (xs ++ (enc s.size ++ strNs s)) ∧ Fr (Wr.own g v) w w' ∧ Moved w.heap.size v v' := by
  obtain ⟨i0, hi, hz0, hz1, hz2⟩ := info_parts Tryz.infoB
  go_enter Tryz.func104, Tryz.ntmps104
  go_wp2_with fail
  refine (wThere_any g _ h.c0).mono ?_
  rintro e w' ⟨rfl, rfl⟩
  go_wp2_with fail
  refine (var_any g v xs (s.size : Nat) _ h (by omega) (by omega) hlen).mono ?_
  rintro e w1 ⟨rfl, v1, hW, hF, hM⟩
  rw [Int.toNat_natCast] at hW
  have hel := enc_length s.size
  obtain ⟨ys, hys⟩ : ∃ ys, ys = xs ++ enc s.size := ⟨_, rfl⟩
  have hyl : ys.length < 2^40 + 11 := by rw [hys, List.length_append]; omega
  rw [← hys] at hW
  have HY : Hid (ys = xs ++ enc s.size) := hys
  clear hys
  obtain ⟨ao, cap, hv⟩ := hW.shape
  obtain ⟨L, hL⟩ : ∃ L, L = ys.length := ⟨_, rfl⟩
  rw [← hL] at hv
  subst hv
  have hLs : L < 2^40 + 11 := by omega
  have HL : Hid (L = ys.length) := hL
  clear hL
  have HW : Hid (w1.ownsRow 0 5 1 (.slice ao L cap) L (bts ys)) := hW.owns HL.out
  have c1 := hW.c1
  have f1 := hW.f1
  have hgl := hW.lt
  go_wp2_with (at_builtin; refine wpList_appS _ rfl (.tmp 16) (.tmp 17) 26 9 rfl 5 i0 Tryz.undBs Tryz.undStr hi hz0 hz1 hz2 _ L _ rfl HW.out s rfl ?c3 ?c4 ?_)
  case c3 => omega
  case c4 => unfold maxLen; omega
  intro ao2 n2 cap2 w2 hn2 hown hgrow hmov
  obtain ⟨k1, k2⟩ := hW.after0 hgrow
  obtain ⟨R1, R2, R3⟩ := hW.step0 (zs := strNs s) hF hM hown (by rw [hn2, HL.out, List.length_append, strNs_length]) (by rw [bts_append, bts_strNs]) hgrow hmov
  clear hown hgrow hmov HW c1 f1 hW hn2
  go_wp2
  go_end0
  rw [HY.out, List.append_assoc] at R1
  exact ⟨rfl, _, R1, R2, R3⟩
theorem wide_yes (x : Int) (w : World) (h0 : 1 ≤ x) (h1 : x ≤ 8) :
    Calls Tryz.prog 155 #[.int .i64 x] w fun e w' => e = .returned (.bool true) ∧ w = w' := by
  go_enter Tryz.func155, Tryz.ntmps155
  go_wp2
  go_ret
  exact ⟨rfl, rfl⟩
theorem wide_no (x : Int) (w : World) (h0 : x < 1 ∨ 8 < x) :
    Calls Tryz.prog 155 #[.int .i64 x] w fun e w' => e = .returned (.bool false) ∧ w = w' := by
  rcases h0 with h0 | h0
  · go_enter Tryz.func155, Tryz.ntmps155
    go_wp2
    go_ret
    exact ⟨rfl, rfl⟩
  · have h1 : 1 ≤ x := by omega
    have h2 : decide (x ≤ 8) = false := by simp; omega
    go_enter Tryz.func155, Tryz.ntmps155
    go_wp2
    go_ret
    exact ⟨by simp, rfl⟩
set_option maxHeartbeats 1000000 in
set_option maxRecDepth 100000 in
theorem fixed_arg (g : Nat) (v : Value) (xs : List Nat) (n x : Int) (w : World) (h : Wr w g v xs) (h0 : x < 1 ∨ 8 < x) :
    Calls Tryz.prog 105 #[.pointer (some ⟨g, 0, none⟩), .int .u64 n, .int .i64 x] w fun e w' => e = .returned (.int .i64 1) ∧ w = w' := by
  go_enter Tryz.func105, Tryz.ntmps105
  go_wp2_with fail
  refine (wThere_any g _ h.c0).mono ?_
  rintro e w' ⟨rfl, rfl⟩
  go_wp2_with fail
  refine (wide_no x _ h0).mono ?_
  rintro e w' ⟨rfl, rfl⟩
  go_wp2
  go_ret
  exact ⟨rfl, rfl⟩

set_option maxHeartbeats 1000000 in
set_option maxRecDepth 100000 in
theorem fixed_limit (g : Nat) (v : Value) (xs : List Nat) (n x : Int) (w : World) (h : Wr w g v xs) (_hn0 : 0 ≤ n) (_hn : n < 2^64) (hx1 : 1 ≤ x) (hx8 : x ≤ 8) (hfit : n / 2 ^ (8 * x).toNat ≠ 0) :
    Calls Tryz.prog 105 #[.pointer (some ⟨g, 0, none⟩), .int .u64 n, .int .i64 x] w fun e w' => e = .returned (.int .i64 3) ∧ w = w' := by
  have hf : (n / 2 ^ (8 * x).toNat != 0) = true := by rw [bne_iff_ne]; exact hfit
  clear hfit
  go_enter Tryz.func105, Tryz.ntmps105
  go_wp2_with fail
  refine (wThere_any g _ h.c0).mono ?_
  rintro e w' ⟨rfl, rfl⟩
  go_wp2_with fail
  refine (wide_yes x _ hx1 hx8).mono ?_
  rintro e w' ⟨rfl, rfl⟩
  go_wp2
  go_ret
  exact ⟨rfl, rfl⟩

set_option maxHeartbeats 2000000 in
set_option maxRecDepth 100000 in
theorem fixed_any (g : Nat) (v : Value) (xs : List Nat) (n x : Int) (w : World) (h : Wr w g v xs) (hn0 : 0 ≤ n) (hn : n < 2^64) (hx1 : 1 ≤ x) (hx8 : x ≤ 8) (hfit : n / 2 ^ (8 * x).toNat = 0) (hlen : xs.length < 2^40) :
    Calls Tryz.prog 105 #[.pointer (some ⟨g, 0, none⟩), .int .u64 n, .int .i64 x] w fun e w' => e = .returned (.int .i64 0) ∧ ∃ v', Wr w' g v' (xs ++ leB x.toNat n.toNat) ∧ Fr (Wr.own g v) w w' ∧ Moved w.heap.size v v' := by
  obtain ⟨i0, hi, hz0, hz1, hz2⟩ := info_parts Tryz.infoB
  have hf : (n / 2 ^ (8 * x).toNat != 0) = false := by rw [hfit]; rfl
  clear hfit
  go_enter Tryz.func105, Tryz.ntmps105
  go_wp2_with fail
  refine (wThere_any g _ h.c0).mono ?_
  rintro e w' ⟨rfl, rfl⟩
  go_wp2_with fail
  refine (wide_yes _ _ hx1 hx8).mono ?_
  rintro e w' ⟨rfl, rfl⟩
  go_wp2
  clear hf
  obtain ⟨N, rfl⟩ := Int.eq_ofNat_of_zero_le hn0
  obtain ⟨X, rfl⟩ := Int.eq_ofNat_of_zero_le (show 0 ≤ x by omega)
  have hN : N < 2^64 := by omega
  have hXb : X ≤ 8 := by omega
  obtain ⟨zs, hzs⟩ : ∃ zs, zs = xs ++ leB X N := ⟨_, rfl⟩
  have hzl : zs.length < 2^40 + 10 := by rw [hzs, List.length_append, leB_length]; omega
  have E0 : Hid (zs = xs ++ leB X N) := hzs
  clear hzs hn0 hn
  go_loopw [1, 22] (fun vv ii wr => ∃ (m k : Nat) (v' : Value) (ys : List Nat), vv = .int .u64 m ∧ ii = .int .i64 k ∧ k ≤ X ∧ m < 2^64 ∧ Hid (zs = ys ++ leB (X - k) m) ∧ Wr wr g v' ys ∧ Fr (Wr.own g v) w wr ∧ Moved w.heap.size v v') (fun _ ii _ => X - (RowKit.intOf ii).toNat)
  case atStart => exact ⟨N, 0, v, xs, rfl, rfl, Nat.zero_le _, hN, E0, h, Fr.refl _ _, Moved.refl _ _⟩
  case round =>
    obtain ⟨m, k, v', ys, rfl, rfl, hk, hm, E, hW, hF, hM⟩ := hrel
    obtain ⟨ao, cap, hv⟩ := hW.shape
    obtain ⟨L, hL⟩ : ∃ L, L = ys.length := ⟨_, rfl⟩
    have hLs : L < 2^40 + 10 := by have := congrArg List.length E.out; simp only [List.length_append] at this; omega
    rw [← hL] at hv
    subst hv
    have HL : Hid (L = ys.length) := hL
    clear hL
    have HW : Hid (wr.ownsRow 0 5 1 (.slice ao L cap) L (bts ys)) := hW.owns HL.out
    have c1 := hW.c1
    have f1 := hW.f1
    have hgl := hW.lt
    by_cases hkX : k < X
    · go_wp2_with (at_builtin; refine wpList_app1 _ rfl (.tmp 28) (.tmp 31) 26 rfl 5 i0 (.int .u8 0) 1 1 Tryz.undBs hi hz0 hz1 hz2 rfl (by decide) _ L _ rfl (HW.out.alloc _) ⟨wr.heap.size, 0, none⟩ 1 [.int .u8 (m % 256)] rfl rfl ?c1 ?c2 ?c3 ?c4 ?_)
      case c1 => intro j u hj; match j, hj with | 0, hj => simp at hj; subst hj; simp [Addr.add]
      case c2 => intro u hu; simp at hu; subst hu; rfl
      case c3 => omega
      case c4 => unfold maxLen; omega
      intro g' cap' w1 hown hgrow hmov
      obtain ⟨k1, k2⟩ := hW.after hgrow
      obtain ⟨R1, R2, R3⟩ := hW.step (zs := [m % 256]) hF hM hown (by simp [HL.out]) (by rw [bts_append, mod8]; rfl) hgrow hmov (by omega)
      have HE : Hid (zs = (ys ++ [m % 256]) ++ leB (X - (k + 1)) (m / 256)) := by
        have := E.out
        rw [show X - k = (X - (k + 1)) + 1 by omega] at this
        show _ = _
        rw [this]; simp [leB]
      clear hown hgrow hmov HW c1 f1 hW
      go_wp2
      go_roundw
      case rel => exact ⟨m / 256, k + 1, _, _, by rw [shr8], by simp, by omega, by omega, HE, R1, R2, R3⟩
      case measure => simp [RowKit.intOf]; omega
    · have hkx : k = X := by omega
      have HE : Hid (zs = ys) := by have := E.out; rw [hkx, Nat.sub_self] at this; show _ = _; simpa [leB] using this
      clear E hkx
      go_wp2
      go_ret
      have e : xs ++ leB (X : Int).toNat (N : Int).toNat = ys := by rw [Int.toNat_natCast, Int.toNat_natCast, ← E0.out, HE.out]
      rw [e]
      exact ⟨rfl, _, hW, hF, hM⟩

set_option maxHeartbeats 1000000 in
set_option maxRecDepth 100000 in
theorem done_none (g : Nat) (v : Value) (w : World) (h : Wr w g v []) :
    Calls Tryz.prog 43 #[.pointer (some ⟨g, 0, none⟩)] w fun e w' => e = .returned (.slice none 0 0) ∧ w = w' := by
  obtain ⟨ao, cap, hv⟩ := h.shape
  subst hv
  have c1 := h.c1
  go_enter Tryz.func43, Tryz.ntmps43
  go_wp2_with fail
  refine (wThere_any g _ h.c0).mono ?_
  rintro e w' ⟨rfl, rfl⟩
  go_wp2
  go_ret
  exact ⟨rfl, rfl⟩

set_option maxHeartbeats 1000000 in
set_option maxRecDepth 100000 in
theorem done_some (g : Nat) (v : Value) (xs : List Nat) (w : World) (h : Wr w g v xs) (hx : 0 < xs.length) (hlen : xs.length < 2^41) :
    Calls Tryz.prog 43 #[.pointer (some ⟨g, 0, none⟩)] w fun e w' => e = .returned (.slice (some ⟨w.heap.size, 0, none⟩) xs.length xs.length) ∧ w'.heap[w.heap.size]? = some (.cells (bts xs).toArray 5 (0, 0)) ∧ Fr [] w w' := by
  obtain ⟨i0, hi, hz0, hz1, hz2⟩ := info_parts Tryz.infoB
  obtain ⟨ao, cap, hv⟩ := h.shape
  obtain ⟨L, hL⟩ : ∃ L, L = xs.length := ⟨_, rfl⟩
  rw [← hL] at hv hx hlen ⊢
  subst hv
  have HL : Hid (L = xs.length) := hL
  clear hL
  have hL0 : ((L : Int) == 0) = false := by rw [beq_eq_false_iff_ne]; omega
  have c1 := h.c1
  go_enter Tryz.func43, Tryz.ntmps43
  go_wp2_with fail
  refine (wThere_any g _ h.c0).mono ?_
  rintro e w' ⟨rfl, rfl⟩
  go_wp2_with (at_make; refine wpList_make_full _ rfl (.tmp 19) (.tmp 19) 26 rfl 0 5 i0 (.int .u8 0) 1 Tryz.undBs hi hz0 hz1 .i64 .i64 L L L rfl rfl rfl rfl ?b2 ?b3 ?b4 ?_)
  case b2 => rw [hz2]; omega
  case b3 => unfold maxLen; omega
  case b4 => exact Nat.zero_le _
  intro w1 hown hgrow
  obtain ⟨cur, hcur, hcs⟩ := own_lit hown
  have h' := h.after0' hgrow
  have c1' := h'.c1
  obtain ⟨a, rfl, hrow⟩ := h'.addr HL.out hx
  have hcl : (bts xs).length = L := by rw [bts_length, HL.out]
  have hcp := run_copy_row (P := Tryz.prog) w1 26 26 3 5 w.heap.size 0 L L a L cap cur 5 (bts xs) Tryz.undBs Tryz.sizeB hcur (by rw [hcl]; exact (Nat.min_self L).symm) hrow (by omega) (bts_oneCell xs)
  rw [hcl] at hcp
  have hcur2 : cur.toList.drop (0 + L) = [] := by simp [hcs]
  rw [hcur2, List.take_zero, List.append_nil, List.nil_append] at hcp
  have HF : Hid ((w1.setRow w.heap.size (bts xs).toArray).heap[w.heap.size]? = some (.cells (bts xs).toArray 5 (0, 0))) := setRow_heap w1 _ _ _ _ _ hcur
  clear hcur hown
  go_wp2
  go_ret
  refine ⟨rfl, HF.out, ?_⟩
  exact (Fr.grown (S := []) hgrow (by simp)).trans (T := [w.heap.size]) (Fr.setRow _ _ _) (by simp) (by intro x hx; simp at hx; omega)
theorem newWriter_wr (w0 w : World) (h : Fr [] w0 w) : Calls Tryz.prog 41 #[] w fun e w' => ∃ g, e = .returned (.pointer (some ⟨g, 0, none⟩)) ∧ w.heap.size ≤ g ∧ WB w0 w' g (.slice none 0 0) [] ∧ Fr [] w w' := by
  refine (newWriter_any w).mono ?_
  rintro e w' ⟨rfl, rfl⟩
  exact ⟨_, rfl, Nat.le_refl _, ⟨⟨heap_alloc_new w _, World.ownsRow_nil _ _ _ _⟩, h.then (Fr.alloc _ _ _), h.size, fun k hk => by simp [Value.ownBlock] at hk⟩, Fr.alloc _ _ _⟩
end Go.Proofs.YtaefninikmaiiaaGreatDoor
/- What the codec's reader does, call by call: contracts of short, NewReader, there, Left, End, take, Var, Int, Fixed, Text. Conditions: the reader's bytes are fewer than 2^41. -/
namespace Go.Proofs.YtaefninikmaiiaaGreatDoor
open Go.ChangeShapes Go.WideShapes Go.ChangeAt Go.RowKit Go.Lib

set_option maxHeartbeats 2000000 in
set_option maxRecDepth 100000 in
theorem short_any (r off cap : Nat) (xs : List Nat) (w : World) (hb : ∀ x ∈ xs, x < 256) (hlen : xs.length < 2^41)
    (hc : ∀ j, j < xs.length → w.cell? ⟨r, off + j, none⟩ = some (.int .u8 ((xs.getD j 0 : Nat) : Int))) :
    Calls Tryz.prog 184 #[.slice (some ⟨r, off, none⟩) xs.length cap] w fun e w' => e = .returned (.tuple #[.int .u64 ((shortF 0 0 xs).1 : Nat), .int .i64 ((shortF 0 0 xs).2.1 : Nat), .int .i64 ((shortF 0 0 xs).2.2 : Nat)]) ∧ w = w' := by
  obtain ⟨R, hR⟩ : ∃ R, R = shortF 0 0 xs := ⟨_, rfl⟩
  rw [← hR]
  have HR : Hid (R = shortF 0 0 (xs.drop 0)) := hR
  clear hR
  obtain ⟨L, hL⟩ : ∃ L, L = xs.length := ⟨_, rfl⟩
  rw [← hL] at hlen hc ⊢
  have HL : Hid (L = xs.length) := hL
  clear hL
  go_enter Tryz.func184, Tryz.ntmps184
  go_wp2_with fail
  go_loop [5, 10] (fun vv ii => ∃ (n i : Nat), vv = .int .u64 n ∧ ii = .int .i64 i ∧ i ≤ L ∧ i ≤ 9 ∧ n < 128 ^ i ∧ Hid (R = shortF i n (xs.drop i))) (fun _ ii => L - (RowKit.intOf ii).toNat)
  case atStart => exact ⟨0, 0, rfl, rfl, Nat.zero_le _, by omega, by omega, HR⟩
  case round =>
    obtain ⟨n, i, rfl, rfl, hiL, hi9, hn, E⟩ := hrel
    by_cases hiL' : i < L
    · have hcx := hc i hiL'
      obtain ⟨x, hx⟩ : ∃ x, x = xs.getD i 0 := ⟨_, rfl⟩
      rw [← hx] at hcx
      have hget : xs[i]? = some x := by rw [hx, List.getD, List.getElem?_eq_getElem (by rw [← HL.out]; exact hiL')]; rfl
      have hx256 : x < 256 := hb x (List.mem_of_getElem? hget)
      have hdr : xs.drop i = x :: xs.drop (i + 1) := by
        obtain ⟨hlt, hge⟩ := List.getElem?_eq_some_iff.1 hget
        rw [List.drop_eq_getElem_cons hlt, hge]
      have E2 : R = shortF i n (x :: xs.drop (i + 1)) := by rw [← hdr]; exact E.out
      rw [shortF_cons] at E2
      have HE : Hid (R = _) := E2
      clear E2 hdr hget hx hc E HR hb HL
      by_cases h9 : i = 9
      · have h9b : ((i : Int) == 9) = true := by rw [beq_iff_eq]; omega
        have h0b : (0 : Int) < i := by omega
        by_cases hx1 : 1 < x
        · have hx1b : (1 : Int) < x := by omega
          have HR' : Hid (R = (0, 0, 4)) := by have := HE.out; rw [if_pos (Or.inl ⟨h9, hx1⟩)] at this; exact this
          clear HE h9
          go_wp2
          go_ret3
          rw [HR'.out]
          exact ⟨rfl, rfl⟩
        · have hx1b : (x : Int) ≤ 1 := by omega
          by_cases hx0 : x = 0
          · have hx0b : ((x : Int) == 0) = true := by rw [beq_iff_eq]; omega
            have HR' : Hid (R = (0, 0, 4)) := by have := HE.out; rw [if_pos (Or.inr ⟨by omega, hx0⟩)] at this; exact this
            clear HE h9 hx0
            go_wp2
            go_ret3
            rw [HR'.out]
            exact ⟨rfl, rfl⟩
          · have hx0b : ((x : Int) == 0) = false := by rw [beq_eq_false_iff_ne]; omega
            have hx128 : (x : Int) < 128 := by omega
            have hg := grp n x i hn hi9 hx256 (by omega)
            have HR' : Hid (R = (n + x * 128 ^ i, i + 1, 0)) := by have := HE.out; rw [if_neg (by omega), if_pos (by omega)] at this; exact this
            have HG : Hid (_ = _) := hg
            clear HE h9 hg
            go_wp2
            go_ret3
            rw [HR'.out, HG.out, Nat.mod_eq_of_lt (by omega)]
            exact ⟨rfl, rfl⟩
      · have h9b : ((i : Int) == 9) = false := by rw [beq_eq_false_iff_ne]; omega
        have hi8 : i ≤ 8 := by omega
        by_cases h00 : 0 < i ∧ x = 0
        · have h0b : (0 : Int) < i := by omega
          have hx0b : ((x : Int) == 0) = true := by rw [beq_iff_eq]; omega
          have HR' : Hid (R = (0, 0, 4)) := by have := HE.out; rw [if_pos (Or.inr h00)] at this; exact this
          clear HE h9 h00
          go_wp2
          go_ret3
          rw [HR'.out]
          exact ⟨rfl, rfl⟩
        · have hg := grp n x i hn hi9 hx256 (by omega)
          have hbd := grp_bd n (x % 128) i hn hi9 (by omega) (by omega)
          have HG : Hid (_ = _) := hg
          clear hg
          by_cases hx128 : x < 128
          · have hx128' : (x : Int) < 128 := by omega
            have HR' : Hid (R = (n + x * 128 ^ i, i + 1, 0)) := by have := HE.out; rw [if_neg (by omega), if_pos (by omega)] at this; exact this
            by_cases hi0 : 0 < i
            · have h0b : (0 : Int) < i := by omega
              have hx0b : ((x : Int) == 0) = false := by rw [beq_eq_false_iff_ne]; omega
              clear HE h9 h00
              go_wp2
              go_ret3
              rw [HR'.out, HG.out, Nat.mod_eq_of_lt hx128]
              exact ⟨rfl, rfl⟩
            · have h0b : (i : Int) ≤ 0 := by omega
              clear HE h9 h00
              go_wp2
              go_ret3
              rw [HR'.out, HG.out, Nat.mod_eq_of_lt hx128]
              exact ⟨rfl, rfl⟩
          · have hx128' : (128 : Int) ≤ x := by omega
            have HR' : Hid (R = shortF (i + 1) (n + x % 128 * 128 ^ i) (xs.drop (i + 1))) := by have := HE.out; rw [if_neg (by omega), if_neg (by omega)] at this; exact this
            have hx0b : ((x : Int) == 0) = false := by rw [beq_eq_false_iff_ne]; omega
            have HB : Hid (n + x % 128 * 128 ^ i < 128 ^ (i + 1)) := hbd.2.1
            by_cases hi0 : 0 < i
            · have h0b : (0 : Int) < i := by omega
              clear HE h9 h00 hbd
              go_wp2
              go_round
              case rel => exact ⟨_, i + 1, congrArg (Value.int .u64) HG.out, by simp, by omega, by omega, HB.out, HR'⟩
              case measure => simp [RowKit.intOf]; omega
            · have h0b : (i : Int) ≤ 0 := by omega
              clear HE h9 h00 hbd
              go_wp2
              go_round
              case rel => exact ⟨_, i + 1, congrArg (Value.int .u64) HG.out, by simp, by omega, by omega, HB.out, HR'⟩
              case measure => simp [RowKit.intOf]; omega
    · have HR' : Hid (R = (0, 0, 5)) := by
        have := E.out
        rw [List.drop_eq_nil_of_le (by rw [← HL.out]; omega)] at this
        exact this
      clear E HR
      go_wp2
      go_ret3
      rw [HR'.out]
      exact ⟨rfl, rfl⟩

/-- No bytes: whatever the address. -/
theorem short_none (ao : Option Addr) (cap : Nat) (w : World) :
    Calls Tryz.prog 184 #[.slice ao 0 cap] w fun e w' => e = .returned (.tuple #[.int .u64 0, .int .i64 0, .int .i64 5]) ∧ w = w' := by
  go_enter Tryz.func184, Tryz.ntmps184
  go_wp2_with fail
  refine wp_loop_rounds 1 ?_
  rw [rounds_succ]
  go_wp2
  go_ret3
  exact ⟨rfl, rfl⟩

/-- The slice v reads as the bytes xs, which lie in block r. -/
structure Sl (w : World) (r : Nat) (ao : Option Addr) (xs : List Nat) : Prop where
  lies : 0 < xs.length → ∃ off, ao = some ⟨r, off, none⟩ ∧ ∀ j, j < xs.length → w.cell? ⟨r, off + j, none⟩ = some (.int .u8 ((xs.getD j 0 : Nat) : Int))
  low : ∀ x ∈ xs, x < 256
  len : xs.length < 2^41
  blk : r < w.heap.size
theorem Sl.keep {S : List Nat} {w w' : World} {r : Nat} {ao : Option Addr} {xs : List Nat} (h : Sl w r ao xs) (hf : Fr S w w') (hr : r ∉ S) : Sl w' r ao xs := by
  refine ⟨fun h0 => ?_, h.low, h.len, Nat.lt_of_lt_of_le h.blk hf.size⟩
  obtain ⟨off, e, hc⟩ := h.lies h0
  exact ⟨off, e, fun j hj => (World.cell?_of_block (hf.block r h.blk hr)).trans (hc j hj)⟩

theorem short_sl (r : Nat) (ao : Option Addr) (L cap : Nat) (xs : List Nat) (w : World) (h : Sl w r ao xs) (hL : L = xs.length) :
    Calls Tryz.prog 184 #[.slice ao L cap] w fun e w' => e = .returned (.tuple #[.int .u64 ((shortF 0 0 xs).1 : Nat), .int .i64 ((shortF 0 0 xs).2.1 : Nat), .int .i64 ((shortF 0 0 xs).2.2 : Nat)]) ∧ w = w' := by
  subst hL
  by_cases h0 : 0 < xs.length
  · obtain ⟨off, rfl, hc⟩ := h.lies h0
    exact short_any r off cap xs w h.low h.len hc
  · have : xs = [] := List.eq_nil_of_length_eq_zero (by omega)
    subst this
    exact short_none ao cap w

/-- A reader: its struct lies in block g, the bytes ahead of it are xs, in block r; er went wrong. -/
structure Rd (w : World) (g r : Nat) (xs : List Nat) (er : Nat) (ao : Option Addr) (cap : Nat) : Prop where
  box : w.heap[g]? = some (.cells #[.bool true, .slice ao xs.length cap, .int .i64 (er : Int)] 213 (0, 0))
  sl : Sl w r ao xs
  ne : r ≠ g
  cap : xs.length ≤ cap
theorem Rd.lt {w : World} {g r : Nat} {xs : List Nat} {er : Nat} {ao : Option Addr} {cap : Nat} (h : Rd w g r xs er ao cap) : g < w.heap.size := lt_of_block h.box
theorem Rd.c0 {w : World} {g r : Nat} {xs : List Nat} {er : Nat} {ao : Option Addr} {cap : Nat} (h : Rd w g r xs er ao cap) : w.cell? ⟨g, 0, none⟩ = some (.bool true) := by simp [World.cell?, h.box]
theorem Rd.c1 {w : World} {g r : Nat} {xs : List Nat} {er : Nat} {ao : Option Addr} {cap : Nat} (h : Rd w g r xs er ao cap) : w.cell? ⟨g, 1, none⟩ = some (.slice ao xs.length cap) := by simp [World.cell?, h.box]
theorem Rd.c2 {w : World} {g r : Nat} {xs : List Nat} {er : Nat} {ao : Option Addr} {cap : Nat} (h : Rd w g r xs er ao cap) : w.cell? ⟨g, 2, none⟩ = some (.int .i64 (er : Int)) := by simp [World.cell?, h.box]
theorem Rd.f1 {w : World} {g r : Nat} {xs : List Nat} {er : Nat} {ao : Option Addr} {cap : Nat} (h : Rd w g r xs er ao cap) : w.frozen? ⟨g, 1, none⟩ = false := by simp [World.frozen?, h.box]
theorem Rd.f2 {w : World} {g r : Nat} {xs : List Nat} {er : Nat} {ao : Option Addr} {cap : Nat} (h : Rd w g r xs er ao cap) : w.frozen? ⟨g, 2, none⟩ = false := by simp [World.frozen?, h.box]
theorem Rd.keep {S : List Nat} {w w' : World} {g r : Nat} {xs : List Nat} {er : Nat} {ao : Option Addr} {cap : Nat} (h : Rd w g r xs er ao cap) (hf : Fr S w w') (hg : g ∉ S) (hr : r ∉ S) : Rd w' g r xs er ao cap :=
  ⟨hf.keep h.box hg, h.sl.keep hf hr, h.ne, h.cap⟩

set_option maxHeartbeats 1000000 in
theorem rThere_any (g : Nat) (w : World) (h : w.cell? ⟨g, 0, none⟩ = some (.bool true)) : Calls Tryz.prog 161 #[.pointer (some ⟨g, 0, none⟩)] w fun e w' => e = .returned (.bool true) ∧ w = w' := by
  go_enter Tryz.func161, Tryz.ntmps161
  go_wp2
  go_ret
  exact ⟨rfl, rfl⟩
set_option maxHeartbeats 1000000 in
theorem left_any (g r : Nat) (xs : List Nat) (er : Nat) (ao : Option Addr) (cap : Nat) (w : World) (h : Rd w g r xs er ao cap) : Calls Tryz.prog 139 #[.pointer (some ⟨g, 0, none⟩)] w fun e w' => e = .returned (.int .i64 (xs.length : Nat)) ∧ w = w' := by
  have c1 := h.c1
  go_enter Tryz.func139, Tryz.ntmps139
  go_wp2_with fail
  refine (rThere_any g _ h.c0).mono ?_
  rintro e w' ⟨rfl, rfl⟩
  go_wp2
  go_ret
  exact ⟨rfl, rfl⟩
def endOf (er : Nat) (n : Nat) : Nat := if er ≠ 0 then er else if 0 < n then 4 else 0
set_option maxHeartbeats 1000000 in
theorem end_any (g r : Nat) (xs : List Nat) (er : Nat) (ao : Option Addr) (cap : Nat) (w : World) (h : Rd w g r xs er ao cap) : Calls Tryz.prog 181 #[.pointer (some ⟨g, 0, none⟩)] w fun e w' => e = .returned (.int .i64 (endOf er xs.length : Nat)) ∧ w = w' := by
  have c1 := h.c1
  have c2 := h.c2
  have c0 := h.c0
  obtain ⟨L, hL⟩ : ∃ L, L = xs.length := ⟨_, rfl⟩
  rw [← hL] at c1 ⊢
  clear hL h
  by_cases he : er = 0
  · subst he
    by_cases hl : 0 < L
    · have hl' : (0 : Int) < L := by omega
      have H : Hid (endOf 0 L = 4) := by simp [Hid, endOf, hl]
      go_enter Tryz.func181, Tryz.ntmps181
      go_wp2_with fail
      refine (rThere_any g _ c0).mono ?_
      rintro e w' ⟨rfl, rfl⟩
      go_wp2
      go_ret
      rw [H.out]
      exact ⟨rfl, rfl⟩
    · have hl' : (L : Int) ≤ 0 := by omega
      have H : Hid (endOf 0 L = 0) := by simp [Hid, endOf, hl]
      go_enter Tryz.func181, Tryz.ntmps181
      go_wp2_with fail
      refine (rThere_any g _ c0).mono ?_
      rintro e w' ⟨rfl, rfl⟩
      go_wp2
      go_ret
      rw [H.out]
      exact ⟨rfl, rfl⟩
  · have heb : ((er : Int) != 0) = true := by rw [bne_iff_ne]; omega
    have H : Hid (endOf er L = er) := by simp [Hid, endOf, he]
    clear he
    go_enter Tryz.func181, Tryz.ntmps181
    go_wp2_with fail
    refine (rThere_any g _ c0).mono ?_
    rintro e w' ⟨rfl, rfl⟩
    go_wp2
    go_ret
    rw [H.out]
    exact ⟨rfl, rfl⟩
set_option maxHeartbeats 1000000 in
theorem cVar_any (r : Nat) (ao : Option Addr) (L cap : Nat) (xs : List Nat) (w : World) (h : Sl w r ao xs) (hL : L = xs.length) :
    Calls Tryz.prog 198 #[.slice ao L cap] w fun e w' => e = .returned (.tuple #[.int .u64 ((shortF 0 0 xs).1 : Nat), .int .i64 ((shortF 0 0 xs).2.1 : Nat), .int .i64 ((shortF 0 0 xs).2.2 : Nat)]) ∧ w = w' := by
  have HL : Hid (L = xs.length) := hL
  clear hL
  go_enter Tryz.func198, Tryz.ntmps198
  go_wp2_with fail
  refine (short_sl r ao L cap xs w h HL.out).mono ?_
  rintro e w' ⟨rfl, rfl⟩
  go_wp2
  go_ret3
  exact ⟨rfl, rfl⟩
theorem newReader_end {w w1 : World} {xs : List Nat} {L : Nat} (hgrow : w.grownBy w1 none) (hrow : (w1.setRow w.heap.size (bts xs).toArray).heap[w.heap.size]? = some (.cells (bts xs).toArray 5 (0, 0))) (hL : L = xs.length) (hb : ∀ x ∈ xs, x < 256) (hlen : xs.length < 2^41) :
    w.heap.size < w1.heap.size ∧ Rd ((w1.setRow w.heap.size (bts xs).toArray).alloc (.cells #[.bool true, .slice (some ⟨w.heap.size, 0, none⟩) L L, .int .i64 0] 213)) w1.heap.size w.heap.size xs 0 (some ⟨w.heap.size, 0, none⟩) xs.length ∧
      Fr [] w ((w1.setRow w.heap.size (bts xs).toArray).alloc (.cells #[.bool true, .slice (some ⟨w.heap.size, 0, none⟩) L L, .int .i64 0] 213)) := by
  subst hL
  have hsz : (w1.setRow w.heap.size (bts xs).toArray).heap.size = w1.heap.size := by simp [World.setRow]
  have hlt : w.heap.size < w1.heap.size := by have := lt_of_block hrow; omega
  refine ⟨hlt, ⟨?_, ⟨fun h0 => ⟨0, rfl, fun j hj => ?_⟩, hb, hlen, by simp; omega⟩, by omega, Nat.le_refl _⟩, ?_⟩
  · rw [← hsz]; exact heap_alloc_new _ _
  · have h1 : ((w1.setRow w.heap.size (bts xs).toArray).alloc (.cells #[.bool true, .slice (some ⟨w.heap.size, 0, none⟩) xs.length xs.length, .int .i64 0] 213)).heap[w.heap.size]? = some (.cells (bts xs).toArray 5 (0, 0)) := by
      rw [Below.heap_alloc _ _ _ (by omega)]; exact hrow
    rw [cell_of_row _ _ _ _ _ _ h1, Nat.zero_add]
    simpa using bts_get xs j hj
  · exact ((Fr.grown (S := []) hgrow (by simp)).trans (T := [w.heap.size]) (U := []) (Fr.setRow _ _ _) (by simp) (by intro x hx; simp at hx; omega)).then (Fr.alloc _ _ _)
set_option maxHeartbeats 1000000 in
set_option maxRecDepth 100000 in
theorem newReader_any (ao : Option Addr) (L cap : Nat) (xs : List Nat) (w : World) (hL : L = xs.length) (hsrc : 0 < L → ∃ a, ao = some a ∧ ∀ j u, (bts xs)[j]? = some u → w.cell? (a.add j) = some u) (hb : ∀ x ∈ xs, x < 256) (hlen : xs.length < 2^41) :
    Calls Tryz.prog 138 #[.slice ao L cap] w fun e w' => ∃ g, e = .returned (.pointer (some ⟨g, 0, none⟩)) ∧ w.heap.size < g ∧ Rd w' g w.heap.size xs 0 (some ⟨w.heap.size, 0, none⟩) xs.length ∧ Fr [] w w' := by
  obtain ⟨i0, hi, hz0, hz1, hz2⟩ := info_parts Tryz.infoB
  rw [← hL] at hlen
  have HL : Hid (L = xs.length) := hL
  clear hL
  go_enter Tryz.func138, Tryz.ntmps138
  go_wp2_with (at_make; refine wpList_make_full _ rfl (.tmp 5) (.tmp 5) 26 rfl 0 5 i0 (.int .u8 0) 1 Tryz.undBs hi hz0 hz1 .i64 .i64 L L L rfl rfl rfl rfl ?b2 ?b3 ?b4 ?_)
  case b2 => rw [hz2]; omega
  case b3 => unfold maxLen; omega
  case b4 => exact Nat.zero_le _
  intro w1 hown hgrow
  obtain ⟨cur, hcur, hcs⟩ := own_lit hown
  have hcl : (bts xs).length = L := by rw [bts_length, HL.out]
  by_cases h0 : 0 < L
  · obtain ⟨a, rfl, hrow⟩ := hsrc h0
    have hrow1 : ∀ j u, (bts xs)[j]? = some u → w1.cell? (a.add j) = some u := fun j u hj => hgrow.cell (hrow j u hj) (by simp)
    have hcp := run_copy_row (P := Tryz.prog) w1 26 26 3 5 w.heap.size 0 L L a L cap cur 5 (bts xs) Tryz.undBs Tryz.sizeB hcur (by rw [hcl]; exact (Nat.min_self L).symm) hrow1 (by omega) (bts_oneCell xs)
    rw [hcl] at hcp
    have hcur2 : cur.toList.drop (0 + L) = [] := by simp [hcs]
    rw [hcur2, List.take_zero, List.append_nil, List.nil_append] at hcp
    have HF : Hid ((w1.setRow w.heap.size (bts xs).toArray).heap[w.heap.size]? = some (.cells (bts xs).toArray 5 (0, 0))) := setRow_heap w1 _ _ _ _ _ hcur
    clear hcur hown
    go_wp2
    go_ret
    exact ⟨_, rfl, newReader_end hgrow HF.out HL.out hb (by rw [← HL.out]; exact hlen)⟩
  · obtain rfl : L = 0 := by omega
    have hx0 : xs = [] := List.eq_nil_of_length_eq_zero HL.out.symm
    subst hx0
    have hcp := run_copy_none (P := Tryz.prog) w1 26 26 3 5 (some ⟨w.heap.size, 0, none⟩) ao 0 0 0 cap Tryz.undBs Tryz.sizeB rfl
    have hc0 : cur = (bts []).toArray := by have : cur = #[] := Array.eq_empty_of_size_eq_zero hcs; rw [this]; rfl
    subst hc0
    have HC : Hid (w1.heap[w.heap.size]? = some (.cells (bts []).toArray 5 (0, 0))) := hcur
    clear hcur hown
    go_wp2
    go_ret
    refine ⟨_, rfl, ?_⟩
    have hF : Fr [] w w1 := Fr.grown (S := []) hgrow (by simp)
    have hlt := lt_of_block HC.out
    refine ⟨hlt, ⟨heap_alloc_new _ _, ⟨fun h => by simp at h, by simp, by simp, by simp; omega⟩, by omega, Nat.le_refl _⟩, hF.then (Fr.alloc _ _ _)⟩
theorem three_setCell1 {w : World} {b : Nat} {u v x y : Value} {t : TypeId} (h : w.heap[b]? = some (.cells #[u, v, x] t (0, 0))) : (w.setCell ⟨b, 1, none⟩ y).heap[b]? = some (.cells #[u, y, x] t (0, 0)) := by
  have hlt := lt_of_block h
  have h' : w.heap[b] = .cells #[u, v, x] t (0, 0) := by simpa [Array.getElem?_eq_getElem hlt] using h
  show (w.heap.modify b _)[b]? = _
  rw [Array.getElem?_eq_getElem (by simpa using hlt), Array.getElem_modify_self, h']
  rfl
theorem three_setCell2 {w : World} {b : Nat} {u v x y : Value} {t : TypeId} (h : w.heap[b]? = some (.cells #[u, v, x] t (0, 0))) : (w.setCell ⟨b, 2, none⟩ y).heap[b]? = some (.cells #[u, v, y] t (0, 0)) := by
  have hlt := lt_of_block h
  have h' : w.heap[b] = .cells #[u, v, x] t (0, 0) := by simpa [Array.getElem?_eq_getElem hlt] using h
  show (w.heap.modify b _)[b]? = _
  rw [Array.getElem?_eq_getElem (by simpa using hlt), Array.getElem_modify_self, h']
  rfl
theorem Rd.wrong {w : World} {g r : Nat} {xs : List Nat} {ao : Option Addr} {cap : Nat} (h : Rd w g r xs 0 ao cap) (c q : Nat) :
    Rd ((w.setCell ⟨g, 2, none⟩ (.int .i64 c)).drewN q) g r xs c ao cap ∧ Fr [g] w ((w.setCell ⟨g, 2, none⟩ (.int .i64 c)).drewN q) := by
  have hF : Fr [g] w ((w.setCell ⟨g, 2, none⟩ (.int .i64 c)).drewN q) := (Fr.set w _ _ (by simp)).then (Fr.drewN _ _ _)
  exact ⟨⟨three_setCell2 h.box, h.sl.keep hF (by simpa using h.ne), h.ne, h.cap⟩, hF⟩
theorem getD_drop (xs : List Nat) (k j : Nat) : (xs.drop k).getD j 0 = xs.getD (k + j) 0 := by simp [List.getD, List.getElem?_drop]
theorem Rd.went {w : World} {g r off : Nat} {xs : List Nat} {cap : Nat} (h : Rd w g r xs 0 (some ⟨r, off, none⟩) cap) (h0 : 0 < xs.length) (k q : Nat) (hk : k ≤ xs.length) :
    Rd ((w.setCell ⟨g, 1, none⟩ (.slice (if xs.length = k then some ⟨r, off, none⟩ else some ⟨r, off + k, none⟩) (xs.length - k) (xs.length - k))).drewN q) g r (xs.drop k) 0 (if xs.length = k then some ⟨r, off, none⟩ else some ⟨r, off + k, none⟩) (xs.length - k) ∧
      Fr [g] w ((w.setCell ⟨g, 1, none⟩ (.slice (if xs.length = k then some ⟨r, off, none⟩ else some ⟨r, off + k, none⟩) (xs.length - k) (xs.length - k))).drewN q) := by
  have hF : Fr [g] w ((w.setCell ⟨g, 1, none⟩ (.slice (if xs.length = k then some ⟨r, off, none⟩ else some ⟨r, off + k, none⟩) (xs.length - k) (xs.length - k))).drewN q) := (Fr.set w _ _ (by simp)).then (Fr.drewN _ _ _)
  have hS := h.sl.keep hF (by simpa using h.ne)
  refine ⟨⟨?_, ⟨?_, fun x hx => h.sl.low x (List.mem_of_mem_drop hx), ?_, hS.blk⟩, h.ne, by rw [List.length_drop]; exact Nat.le_refl _⟩, hF⟩
  · rw [List.length_drop]; exact three_setCell1 h.box
  · intro hl
    rw [List.length_drop] at hl
    obtain ⟨off', e, hc⟩ := hS.lies h0
    cases e
    refine ⟨off + k, by rw [if_neg (by omega)], fun j hj => ?_⟩
    rw [List.length_drop] at hj
    rw [getD_drop, Nat.add_assoc]
    exact hc (k + j) (by omega)
  · rw [List.length_drop]; have := h.sl.len; omega

/-- What a reader answers by one call, and what stands ahead of it then, and what went wrong. -/
def rdBy {α : Type} (f : List Nat → α × Nat × Nat) (z : α) (xs : List Nat) (er : Nat) : α × List Nat × Nat :=
  if er ≠ 0 then (z, xs, er) else if (f xs).2.2 ≠ 0 then (z, xs, (f xs).2.2) else ((f xs).1, xs.drop (f xs).2.1, 0)

end Go.Proofs.YtaefninikmaiiaaGreatDoor
/- What the reader's gate does with each of the four closures it is handed: contracts of take. Conditions: the closure's own contract. -/
namespace Go.Proofs.YtaefninikmaiiaaGreatDoor
open Go.ChangeShapes Go.WideShapes Go.ChangeAt Go.RowKit Go.Lib

/-- The call answers v and leaves the world as it was but for draws. -/
def Ans (f : Nat) (args : Array Value) (w : World) (v : Value) : Prop := Calls Tryz.prog f args w fun e w' => e = .returned v ∧ ∃ q, w' = w.drewN q
theorem Ans.calls {f : Nat} {args : Array Value} {w : World} {v : Value} (h : Ans f args w v) : Calls Tryz.prog f args w fun e w' => e = .returned v ∧ ∃ q, w' = w.drewN q := h


set_option maxHeartbeats 1000000 in
set_option maxRecDepth 100000 in
theorem takeU_gone (fv : Value) (g r : Nat) (xs : List Nat) (er : Nat) (ao : Option Addr) (cap : Nat) (w : World) (h : Rd w g r xs er ao cap) (he : er ≠ 0) :
    Calls Tryz.prog 185 #[.pointer (some ⟨g, 0, none⟩), fv] w fun e w' => e = .returned (.int .u64 0) ∧ w = w' := by
  have heb : ((er : Int) != 0) = true := by rw [bne_iff_ne]; omega
  have c2 := h.c2
  clear he
  go_enter Tryz.func185, Tryz.ntmps185
  go_wp2_with fail
  refine (rThere_any g _ h.c0).mono ?_
  rintro e w' ⟨rfl, rfl⟩
  go_wp2
  go_ret
  exact ⟨rfl, rfl⟩

set_option maxHeartbeats 1000000 in
set_option maxRecDepth 100000 in
theorem takeS_gone (fv : Value) (g r : Nat) (xs : List Nat) (er : Nat) (ao : Option Addr) (cap : Nat) (w : World) (h : Rd w g r xs er ao cap) (he : er ≠ 0) :
    Calls Tryz.prog 182 #[.pointer (some ⟨g, 0, none⟩), fv] w fun e w' => e = .returned (.string ⟨#[]⟩) ∧ w = w' := by
  have heb : ((er : Int) != 0) = true := by rw [bne_iff_ne]; omega
  have c2 := h.c2
  clear he
  go_enter Tryz.func182, Tryz.ntmps182
  go_wp2_with fail
  refine (rThere_any g _ h.c0).mono ?_
  rintro e w' ⟨rfl, rfl⟩
  go_wp2
  go_ret
  exact ⟨rfl, rfl⟩

set_option maxHeartbeats 1000000 in
set_option maxRecDepth 100000 in
theorem takeVar_wrong (t : Int) (k : Int) (c : Nat) (g r : Nat) (xs : List Nat) (ao : Option Addr) (cap : Nat) (w : World) (h : Rd w g r xs 0 ao cap) (hc : c ≠ 0)
    (hcl : Ans 198 #[.slice ao xs.length cap] w (.tuple #[.int .u64 t, .int .i64 k, .int .i64 c])) :
    Calls Tryz.prog 185 #[.pointer (some ⟨g, 0, none⟩), .func (Fn.func 198) #[] #[]] w fun e w' => e = .returned (.int .u64 0) ∧ ∃ q, w' = (w.setCell ⟨g, 2, none⟩ (.int .i64 c)).drewN q := by
  have hcb : ((c : Int) != 0) = true := by rw [bne_iff_ne]; omega
  have c1 := h.c1
  have c2 := h.c2
  have f2 := h.f2
  clear hc
  go_enter Tryz.func185, Tryz.ntmps185
  go_wp2_with fail
  refine (rThere_any g _ h.c0).mono ?_
  rintro e w' ⟨rfl, rfl⟩
  go_wp2_with fail
  refine hcl.calls.mono ?_
  rintro e w' ⟨rfl, q, rfl⟩
  go_wp2
  go_ret
  exact ⟨rfl, _, rfl⟩
set_option maxHeartbeats 4000000 in
set_option maxRecDepth 100000 in
theorem takeVar_good (t : Int) (k off : Nat) (g r : Nat) (xs : List Nat) (cap : Nat) (w : World) (h : Rd w g r xs 0 (some ⟨r, off, none⟩) cap) (hk : k ≤ xs.length)
    (hcl : Ans 198 #[.slice (some ⟨r, off, none⟩) xs.length cap] w (.tuple #[.int .u64 t, .int .i64 k, .int .i64 0])) :
    Calls Tryz.prog 185 #[.pointer (some ⟨g, 0, none⟩), .func (Fn.func 198) #[] #[]] w fun e w' => e = .returned (.int .u64 t) ∧ ∃ q, w' = (w.setCell ⟨g, 1, none⟩ (.slice (if xs.length = k then some ⟨r, off, none⟩ else some ⟨r, off + k, none⟩) (xs.length - k) (xs.length - k))).drewN q := by
  have c1 := h.c1
  have c2 := h.c2
  have f1 := h.f1
  have hcap := h.cap
  obtain ⟨L, hL⟩ : ∃ L, L = xs.length := ⟨_, rfl⟩
  rw [← hL] at hcl c1 hk hcap ⊢
  clear hL
  go_enter Tryz.func185, Tryz.ntmps185
  go_wp2_with fail
  refine (rThere_any g _ h.c0).mono ?_
  rintro e w' ⟨rfl, rfl⟩
  go_wp2_with fail
  refine hcl.calls.mono ?_
  rintro e w' ⟨rfl, q, rfl⟩
  go_wp2_with fail
  go_region
  go_wp2
  all_goals (go_ret; exact ⟨rfl, _, rfl⟩)

theorem takeVar_rd (f : List Nat → Nat × Nat × Nat) (g r : Nat) (xs : List Nat) (er : Nat) (ao : Option Addr) (cap : Nat) (w : World) (h : Rd w g r xs er ao cap) (hf : (f xs).2.2 = 0 → 0 < xs.length ∧ (f xs).2.1 ≤ xs.length)
    (hcl : er = 0 → Ans 198 #[.slice ao xs.length cap] w (.tuple #[.int .u64 ((f xs).1 : Nat), .int .i64 ((f xs).2.1 : Nat), .int .i64 ((f xs).2.2 : Nat)])) :
    Calls Tryz.prog 185 #[.pointer (some ⟨g, 0, none⟩), .func (Fn.func 198) #[] #[]] w fun e w' => e = .returned (.int .u64 ((rdBy f 0 xs er).1 : Nat)) ∧ ∃ ao' cap', Rd w' g r (rdBy f 0 xs er).2.1 (rdBy f 0 xs er).2.2 ao' cap' ∧ Fr [g] w w' := by
  by_cases he : er = 0
  · subst he
    by_cases hc : (f xs).2.2 = 0
    · have hs := hf hc
      have hA := hcl rfl
      obtain ⟨off, rfl, _⟩ := h.sl.lies hs.1
      have e1 : rdBy f 0 xs 0 = ((f xs).1, xs.drop (f xs).2.1, 0) := by simp [rdBy, hc]
      rw [e1]
      rw [hc] at hA
      refine (takeVar_good _ _ off g r xs cap w h hs.2 hA).mono ?_
      rintro e w' ⟨rfl, q, rfl⟩
      obtain ⟨h1, h2⟩ := h.went hs.1 (f xs).2.1 q hs.2
      exact ⟨rfl, _, _, h1, h2⟩
    · have e1 : rdBy f 0 xs 0 = (0, xs, (f xs).2.2) := by simp [rdBy, hc]
      rw [e1]
      refine (takeVar_wrong _ _ _ g r xs ao cap w h hc (hcl rfl)).mono ?_
      rintro e w' ⟨rfl, q, rfl⟩
      obtain ⟨h1, h2⟩ := h.wrong (f xs).2.2 q
      exact ⟨rfl, _, _, h1, h2⟩
  · have e1 : rdBy f 0 xs er = (0, xs, er) := by simp [rdBy, he]
    rw [e1]
    refine (takeU_gone _ g r xs er ao cap w h he).mono ?_
    rintro e w' ⟨rfl, rfl⟩
    exact ⟨rfl, _, _, h, Fr.refl _ _⟩

set_option maxHeartbeats 1000000 in
set_option maxRecDepth 100000 in
theorem takeFixed_wrong (t : Int) (k : Int) (c : Nat) (g r b : Nat) (xs : List Nat) (ao : Option Addr) (cap : Nat) (w : World) (h : Rd w g r xs 0 ao cap) (hc : c ≠ 0)
    (hcl : Ans 186 #[.slice ao xs.length cap, .pointer (some ⟨b, 0, none⟩)] w (.tuple #[.int .u64 t, .int .i64 k, .int .i64 c])) :
    Calls Tryz.prog 185 #[.pointer (some ⟨g, 0, none⟩), .func (Fn.func 186) #[] #[.pointer (some ⟨b, 0, none⟩)]] w fun e w' => e = .returned (.int .u64 0) ∧ ∃ q, w' = (w.setCell ⟨g, 2, none⟩ (.int .i64 c)).drewN q := by
  have hcb : ((c : Int) != 0) = true := by rw [bne_iff_ne]; omega
  have c1 := h.c1
  have c2 := h.c2
  have f2 := h.f2
  clear hc
  go_enter Tryz.func185, Tryz.ntmps185
  go_wp2_with fail
  refine (rThere_any g _ h.c0).mono ?_
  rintro e w' ⟨rfl, rfl⟩
  go_wp2_with fail
  refine hcl.calls.mono ?_
  rintro e w' ⟨rfl, q, rfl⟩
  go_wp2
  go_ret
  exact ⟨rfl, _, rfl⟩
set_option maxHeartbeats 4000000 in
set_option maxRecDepth 100000 in
theorem takeFixed_good (t : Int) (k off : Nat) (g r b : Nat) (xs : List Nat) (cap : Nat) (w : World) (h : Rd w g r xs 0 (some ⟨r, off, none⟩) cap) (hk : k ≤ xs.length)
    (hcl : Ans 186 #[.slice (some ⟨r, off, none⟩) xs.length cap, .pointer (some ⟨b, 0, none⟩)] w (.tuple #[.int .u64 t, .int .i64 k, .int .i64 0])) :
    Calls Tryz.prog 185 #[.pointer (some ⟨g, 0, none⟩), .func (Fn.func 186) #[] #[.pointer (some ⟨b, 0, none⟩)]] w fun e w' => e = .returned (.int .u64 t) ∧ ∃ q, w' = (w.setCell ⟨g, 1, none⟩ (.slice (if xs.length = k then some ⟨r, off, none⟩ else some ⟨r, off + k, none⟩) (xs.length - k) (xs.length - k))).drewN q := by
  have c1 := h.c1
  have c2 := h.c2
  have f1 := h.f1
  have hcap := h.cap
  obtain ⟨L, hL⟩ : ∃ L, L = xs.length := ⟨_, rfl⟩
  rw [← hL] at hcl c1 hk hcap ⊢
  clear hL
  go_enter Tryz.func185, Tryz.ntmps185
  go_wp2_with fail
  refine (rThere_any g _ h.c0).mono ?_
  rintro e w' ⟨rfl, rfl⟩
  go_wp2_with fail
  refine hcl.calls.mono ?_
  rintro e w' ⟨rfl, q, rfl⟩
  go_wp2_with fail
  go_region
  go_wp2
  all_goals (go_ret; exact ⟨rfl, _, rfl⟩)

theorem takeFixed_rd (f : List Nat → Nat × Nat × Nat) (g r b : Nat) (xs : List Nat) (er : Nat) (ao : Option Addr) (cap : Nat) (w : World) (h : Rd w g r xs er ao cap) (hf : (f xs).2.2 = 0 → 0 < xs.length ∧ (f xs).2.1 ≤ xs.length)
    (hcl : er = 0 → Ans 186 #[.slice ao xs.length cap, .pointer (some ⟨b, 0, none⟩)] w (.tuple #[.int .u64 ((f xs).1 : Nat), .int .i64 ((f xs).2.1 : Nat), .int .i64 ((f xs).2.2 : Nat)])) :
    Calls Tryz.prog 185 #[.pointer (some ⟨g, 0, none⟩), .func (Fn.func 186) #[] #[.pointer (some ⟨b, 0, none⟩)]] w fun e w' => e = .returned (.int .u64 ((rdBy f 0 xs er).1 : Nat)) ∧ ∃ ao' cap', Rd w' g r (rdBy f 0 xs er).2.1 (rdBy f 0 xs er).2.2 ao' cap' ∧ Fr [g] w w' := by
  by_cases he : er = 0
  · subst he
    by_cases hc : (f xs).2.2 = 0
    · have hs := hf hc
      have hA := hcl rfl
      obtain ⟨off, rfl, _⟩ := h.sl.lies hs.1
      have e1 : rdBy f 0 xs 0 = ((f xs).1, xs.drop (f xs).2.1, 0) := by simp [rdBy, hc]
      rw [e1]
      rw [hc] at hA
      refine (takeFixed_good _ _ off g r b xs cap w h hs.2 hA).mono ?_
      rintro e w' ⟨rfl, q, rfl⟩
      obtain ⟨h1, h2⟩ := h.went hs.1 (f xs).2.1 q hs.2
      exact ⟨rfl, _, _, h1, h2⟩
    · have e1 : rdBy f 0 xs 0 = (0, xs, (f xs).2.2) := by simp [rdBy, hc]
      rw [e1]
      refine (takeFixed_wrong _ _ _ g r b xs ao cap w h hc (hcl rfl)).mono ?_
      rintro e w' ⟨rfl, q, rfl⟩
      obtain ⟨h1, h2⟩ := h.wrong (f xs).2.2 q
      exact ⟨rfl, _, _, h1, h2⟩
  · have e1 : rdBy f 0 xs er = (0, xs, er) := by simp [rdBy, he]
    rw [e1]
    refine (takeU_gone _ g r xs er ao cap w h he).mono ?_
    rintro e w' ⟨rfl, rfl⟩
    exact ⟨rfl, _, _, h, Fr.refl _ _⟩

set_option maxHeartbeats 1000000 in
set_option maxRecDepth 100000 in
theorem takeText_wrong (t : ByteArray) (k : Int) (c : Nat) (g r b : Nat) (xs : List Nat) (ao : Option Addr) (cap : Nat) (w : World) (h : Rd w g r xs 0 ao cap) (hc : c ≠ 0)
    (hcl : Ans 183 #[.slice ao xs.length cap, .pointer (some ⟨b, 0, none⟩)] w (.tuple #[.string t, .int .i64 k, .int .i64 c])) :
    Calls Tryz.prog 182 #[.pointer (some ⟨g, 0, none⟩), .func (Fn.func 183) #[] #[.pointer (some ⟨b, 0, none⟩)]] w fun e w' => e = .returned (.string ⟨#[]⟩) ∧ ∃ q, w' = (w.setCell ⟨g, 2, none⟩ (.int .i64 c)).drewN q := by
  have hcb : ((c : Int) != 0) = true := by rw [bne_iff_ne]; omega
  have c1 := h.c1
  have c2 := h.c2
  have f2 := h.f2
  clear hc
  go_enter Tryz.func182, Tryz.ntmps182
  go_wp2_with fail
  refine (rThere_any g _ h.c0).mono ?_
  rintro e w' ⟨rfl, rfl⟩
  go_wp2_with fail
  refine hcl.calls.mono ?_
  rintro e w' ⟨rfl, q, rfl⟩
  go_wp2
  go_ret
  exact ⟨rfl, _, rfl⟩
set_option maxHeartbeats 4000000 in
set_option maxRecDepth 100000 in
theorem takeText_good (t : ByteArray) (k off : Nat) (g r b : Nat) (xs : List Nat) (cap : Nat) (w : World) (h : Rd w g r xs 0 (some ⟨r, off, none⟩) cap) (hk : k ≤ xs.length)
    (hcl : Ans 183 #[.slice (some ⟨r, off, none⟩) xs.length cap, .pointer (some ⟨b, 0, none⟩)] w (.tuple #[.string t, .int .i64 k, .int .i64 0])) :
    Calls Tryz.prog 182 #[.pointer (some ⟨g, 0, none⟩), .func (Fn.func 183) #[] #[.pointer (some ⟨b, 0, none⟩)]] w fun e w' => e = .returned (.string t) ∧ ∃ q, w' = (w.setCell ⟨g, 1, none⟩ (.slice (if xs.length = k then some ⟨r, off, none⟩ else some ⟨r, off + k, none⟩) (xs.length - k) (xs.length - k))).drewN q := by
  have c1 := h.c1
  have c2 := h.c2
  have f1 := h.f1
  have hcap := h.cap
  obtain ⟨L, hL⟩ : ∃ L, L = xs.length := ⟨_, rfl⟩
  rw [← hL] at hcl c1 hk hcap ⊢
  clear hL
  go_enter Tryz.func182, Tryz.ntmps182
  go_wp2_with fail
  refine (rThere_any g _ h.c0).mono ?_
  rintro e w' ⟨rfl, rfl⟩
  go_wp2_with fail
  refine hcl.calls.mono ?_
  rintro e w' ⟨rfl, q, rfl⟩
  go_wp2_with fail
  go_region
  go_wp2
  all_goals (go_ret; exact ⟨rfl, _, rfl⟩)

theorem takeText_rd (f : List Nat → ByteArray × Nat × Nat) (g r b : Nat) (xs : List Nat) (er : Nat) (ao : Option Addr) (cap : Nat) (w : World) (h : Rd w g r xs er ao cap) (hf : (f xs).2.2 = 0 → 0 < xs.length ∧ (f xs).2.1 ≤ xs.length)
    (hcl : er = 0 → Ans 183 #[.slice ao xs.length cap, .pointer (some ⟨b, 0, none⟩)] w (.tuple #[.string (f xs).1, .int .i64 ((f xs).2.1 : Nat), .int .i64 ((f xs).2.2 : Nat)])) :
    Calls Tryz.prog 182 #[.pointer (some ⟨g, 0, none⟩), .func (Fn.func 183) #[] #[.pointer (some ⟨b, 0, none⟩)]] w fun e w' => e = .returned (.string (rdBy f ⟨#[]⟩ xs er).1) ∧ ∃ ao' cap', Rd w' g r (rdBy f ⟨#[]⟩ xs er).2.1 (rdBy f ⟨#[]⟩ xs er).2.2 ao' cap' ∧ Fr [g] w w' := by
  by_cases he : er = 0
  · subst he
    by_cases hc : (f xs).2.2 = 0
    · have hs := hf hc
      have hA := hcl rfl
      obtain ⟨off, rfl, _⟩ := h.sl.lies hs.1
      have e1 : rdBy f ⟨#[]⟩ xs 0 = ((f xs).1, xs.drop (f xs).2.1, 0) := by simp [rdBy, hc]
      rw [e1]
      rw [hc] at hA
      refine (takeText_good _ _ off g r b xs cap w h hs.2 hA).mono ?_
      rintro e w' ⟨rfl, q, rfl⟩
      obtain ⟨h1, h2⟩ := h.went hs.1 (f xs).2.1 q hs.2
      exact ⟨rfl, _, _, h1, h2⟩
    · have e1 : rdBy f ⟨#[]⟩ xs 0 = (⟨#[]⟩, xs, (f xs).2.2) := by simp [rdBy, hc]
      rw [e1]
      refine (takeText_wrong _ _ _ g r b xs ao cap w h hc (hcl rfl)).mono ?_
      rintro e w' ⟨rfl, q, rfl⟩
      obtain ⟨h1, h2⟩ := h.wrong (f xs).2.2 q
      exact ⟨rfl, _, _, h1, h2⟩
  · have e1 : rdBy f ⟨#[]⟩ xs er = (⟨#[]⟩, xs, er) := by simp [rdBy, he]
    rw [e1]
    refine (takeS_gone _ g r xs er ao cap w h he).mono ?_
    rintro e w' ⟨rfl, rfl⟩
    exact ⟨rfl, _, _, h, Fr.refl _ _⟩
end Go.Proofs.YtaefninikmaiiaaGreatDoor
/- What the statements' own helpers on bytes answer: SameBytes. Conditions: fewer than 2^41 bytes. -/
namespace Go.Proofs.YtaefninikmaiiaaGreatDoor
open Go.ChangeShapes Go.WideShapes Go.ChangeAt Go.RowKit Go.Lib

/-- The slice at ao reads as the bytes xs. -/
structure Rs (w : World) (ao : Option Addr) (xs : List Nat) : Prop where
  lies : 0 < xs.length → ∃ b off, ao = some ⟨b, off, none⟩ ∧ ∀ j, j < xs.length → w.cell? ⟨b, off + j, none⟩ = some (.int .u8 ((xs.getD j 0 : Nat) : Int))
  len : xs.length < 2^41
theorem Sl.rs {w : World} {r : Nat} {ao : Option Addr} {xs : List Nat} (h : Sl w r ao xs) : Rs w ao xs := ⟨fun h0 => ⟨r, h.lies h0⟩, h.len⟩
theorem Rs.of_row {w : World} {b : Nat} {xs : List Nat} (h : w.heap[b]? = some (.cells (bts xs).toArray 5 (0, 0))) (hl : xs.length < 2^41) : Rs w (some ⟨b, 0, none⟩) xs :=
  ⟨fun _ => ⟨b, 0, rfl, fun j hj => by rw [cell_of_row _ _ _ _ _ _ h, Nat.zero_add]; simpa using bts_get xs j hj⟩, hl⟩
theorem Rs.nil (w : World) (ao : Option Addr) : Rs w ao [] := ⟨fun h => by simp at h, by simp⟩
theorem Rs.take {w : World} {ao : Option Addr} {xs : List Nat} (h : Rs w ao xs) (k : Nat) : Rs w ao (xs.take k) := by
  refine ⟨fun h0 => ?_, by have := h.len; rw [List.length_take]; omega⟩
  rw [List.length_take] at h0
  obtain ⟨b, off, e, hc⟩ := h.lies (by omega)
  refine ⟨b, off, e, fun j hj => ?_⟩
  rw [List.length_take] at hj
  rw [hc j (by omega)]
  simp [List.getD, show j < k by omega]
theorem Rs.drewN {w : World} {ao : Option Addr} {xs : List Nat} (h : Rs w ao xs) (q : Nat) : Rs (w.drewN q) ao xs := ⟨h.lies, h.len⟩
theorem Rs.keep {S : List Nat} {w w' : World} {b off : Nat} {xs : List Nat} (h : Rs w (some ⟨b, off, none⟩) xs) (hf : Fr S w w') (hb : b ∉ S) : Rs w' (some ⟨b, off, none⟩) xs := by
  refine ⟨fun h0 => ?_, h.len⟩
  obtain ⟨b', off', e, hc⟩ := h.lies h0
  cases e
  refine ⟨b, off, rfl, fun j hj => ?_⟩
  have hlt := World.block_lt_of_cell? w _ (hc j hj)
  exact (World.cell?_of_block (hf.block b hlt hb)).trans (hc j hj)

theorem row_src {w : World} {b : Nat} {xs : List Nat} (h : w.heap[b]? = some (.cells (bts xs).toArray 5 (0, 0))) : ∀ j u, (bts xs)[j]? = some u → w.cell? ((⟨b, 0, none⟩ : Addr).add j) = some u := by
  intro j u hj
  rw [show (⟨b, 0, none⟩ : Addr).add j = ⟨b, 0 + j, none⟩ from by simp [Addr.add]; omega, cell_of_row _ _ _ _ _ _ h, Nat.zero_add]
  simpa using hj
theorem same_upto (xs ys : List Nat) (hl : xs.length = ys.length) (h : ∀ j, j < xs.length → xs.getD j 0 = ys.getD j 0) : xs = ys := by
  apply List.ext_getElem hl
  intro i h1 h2
  have := h i h1
  simpa [List.getD, h1, h2] using this

set_option maxHeartbeats 2000000 in
set_option maxRecDepth 100000 in
theorem same_any (a b : Option Addr) (L M ca cb : Nat) (xs ys : List Nat) (w : World) (ha : Rs w a xs) (hb : Rs w b ys) (hL : L = xs.length) (hM : M = ys.length) :
    Calls Tryz.prog 13 #[.slice a L ca, .slice b M cb] w fun e w' => e = .returned (.bool (decide (xs = ys))) ∧ ∃ q, w' = w.drewN q := by
  obtain ⟨R, hR⟩ : ∃ R, R = decide (xs = ys) := ⟨_, rfl⟩
  rw [← hR]
  have HR : Hid (R = decide (xs = ys)) := hR
  have HL : Hid (L = xs.length) := hL
  have HM : Hid (M = ys.length) := hM
  have hLl : L < 2^41 := by have := ha.len; omega
  have hMl : M < 2^41 := by have := hb.len; omega
  clear hR hL hM
  by_cases hLM : L = M
  · subst hLM
    have hne : ((L : Int) != L) = false := by simp
    by_cases h0 : 0 < L
    · obtain ⟨ba, oa, rfl, hca⟩ := ha.lies (by rw [← HL.out]; exact h0)
      obtain ⟨bb, ob, rfl, hcb⟩ := hb.lies (by rw [← HM.out]; exact h0)
      rw [← HL.out] at hca
      rw [← HM.out] at hcb
      go_enter Tryz.func13, Tryz.ntmps13
      go_wp2_with fail
      go_loopw [5] (fun ii wr => ∃ (i q : Nat), ii = .int .i64 i ∧ i ≤ L ∧ Hid (∀ j, j < i → xs.getD j 0 = ys.getD j 0) ∧ wr = w.drewN q) (fun ii _ => L - (RowKit.intOf ii).toNat)
      case atStart => exact ⟨0, 0, rfl, Nat.zero_le _, fun j hj => by omega, rfl⟩
      case round =>
        obtain ⟨i, q, rfl, hiL, HE, rfl⟩ := hrel
        by_cases hi : i < L
        · have hx := hca i hi
          have hy := hcb i hi
          obtain ⟨x, hxx⟩ : ∃ x, x = xs.getD i 0 := ⟨_, rfl⟩
          obtain ⟨y, hyy⟩ : ∃ y, y = ys.getD i 0 := ⟨_, rfl⟩
          rw [← hxx] at hx
          rw [← hyy] at hy
          have HX : Hid (x = xs.getD i 0) := hxx
          have HY : Hid (y = ys.getD i 0) := hyy
          clear hxx hyy hca hcb
          by_cases hxy : x = y
          · subst hxy
            have hb1 : ((x : Int) != x) = false := by simp
            have HE2 : Hid (∀ j, j < i + 1 → xs.getD j 0 = ys.getD j 0) := by
              intro j hj
              by_cases hji : j = i
              · subst hji; exact HX.out.symm.trans HY.out
              · exact HE.out j (by omega)
            go_wp2_with fail
            go_quiet (fail)
            go_wp2
            go_roundw
            case rel => exact ⟨i + 1, _, by simp, by omega, HE2, rfl⟩
            case measure => simp [RowKit.intOf]; omega
          · have hb1 : ((x : Int) != y) = true := by rw [bne_iff_ne]; omega
            have HR' : Hid (R = false) := by
              show R = false
              rw [HR.out, decide_eq_false_iff_not]
              intro h
              exact hxy (by rw [HX.out, HY.out, h])
            clear hxy
            go_wp2_with fail
            go_quiet (fail)
            go_wp2
            go_ret
            rw [HR'.out]
            exact ⟨rfl, q + nq, by simp⟩
        · have HR' : Hid (R = true) := by
            show R = true
            rw [HR.out, decide_eq_true_eq]
            exact same_upto xs ys (HL.out.symm.trans HM.out) (fun j hj => HE.out j (by rw [← HL.out] at hj; omega))
          go_wp2
          go_ret
          rw [HR'.out]
          exact ⟨rfl, _, rfl⟩
    · obtain rfl : L = 0 := by omega
      have HR' : Hid (R = true) := by
        show R = true
        rw [HR.out, decide_eq_true_eq, List.eq_nil_of_length_eq_zero HL.out.symm, List.eq_nil_of_length_eq_zero HM.out.symm]
      go_enter Tryz.func13, Tryz.ntmps13
      go_wp2_with fail
      refine wp_loop_rounds 1 ?_
      rw [rounds_succ]
      go_wp2
      go_ret
      rw [HR'.out]
      exact ⟨rfl, 0, rfl⟩
  · have hne : ((L : Int) != M) = true := by rw [bne_iff_ne]; omega
    have HR' : Hid (R = false) := by
      show R = false
      rw [HR.out, decide_eq_false_iff_not]
      intro h
      exact hLM (by rw [HL.out, HM.out, h])
    clear hLM
    go_enter Tryz.func13, Tryz.ntmps13
    go_wp2
    go_ret
    rw [HR'.out]
    exact ⟨rfl, 0, rfl⟩
theorem same_no (a b : Option Addr) (L M ca cb : Nat) (xs ys : List Nat) (w : World) (ha : Rs w a xs) (hb : Rs w b ys) (hL : L = xs.length) (hM : M = ys.length) (hne : xs ≠ ys) :
    Calls Tryz.prog 13 #[.slice a L ca, .slice b M cb] w fun e w' => e = .returned (.bool false) ∧ ∃ q, w' = w.drewN q := by
  refine (same_any a b L M ca cb xs ys w ha hb hL hM).mono ?_
  rintro e w' ⟨rfl, R⟩
  exact ⟨by simp [hne], R⟩
theorem same_yes (a b : Option Addr) (L M ca cb : Nat) (xs ys : List Nat) (w : World) (ha : Rs w a xs) (hb : Rs w b ys) (hL : L = xs.length) (hM : M = ys.length) (heq : xs = ys) :
    Calls Tryz.prog 13 #[.slice a L ca, .slice b M cb] w fun e w' => e = .returned (.bool true) ∧ ∃ q, w' = w.drewN q := by
  refine (same_any a b L M ca cb xs ys w ha hb hL hM).mono ?_
  rintro e w' ⟨rfl, R⟩
  exact ⟨by simp [heq], R⟩
end Go.Proofs.YtaefninikmaiiaaGreatDoor
/- What the codec's reader takes: contracts of Var, Int, Fixed, Text. Conditions: the reader's bytes are fewer than 2^41. -/
namespace Go.Proofs.YtaefninikmaiiaaGreatDoor
open Go.ChangeShapes Go.WideShapes Go.ChangeAt Go.RowKit Go.Lib

set_option maxHeartbeats 1000000 in
theorem rVar_any (g r : Nat) (xs : List Nat) (er : Nat) (ao : Option Addr) (cap : Nat) (w : World) (h : Rd w g r xs er ao cap) :
    Calls Tryz.prog 188 #[.pointer (some ⟨g, 0, none⟩)] w fun e w' => e = .returned (.int .u64 ((rdBy (shortF 0 0) 0 xs er).1 : Nat)) ∧ ∃ ao' cap', Rd w' g r (rdBy (shortF 0 0) 0 xs er).2.1 (rdBy (shortF 0 0) 0 xs er).2.2 ao' cap' ∧ Fr [g] w w' := by
  have hA : Ans 198 #[.slice ao xs.length cap] w (.tuple #[.int .u64 ((shortF 0 0 xs).1 : Nat), .int .i64 ((shortF 0 0 xs).2.1 : Nat), .int .i64 ((shortF 0 0 xs).2.2 : Nat)]) := by
    refine (cVar_any r ao _ cap xs w h.sl rfl).mono ?_
    rintro e w' ⟨rfl, rfl⟩
    exact ⟨rfl, 0, rfl⟩
  obtain ⟨f, hf⟩ : ∃ f, f = shortF 0 0 := ⟨_, rfl⟩
  rw [← hf] at hA ⊢
  have hsz : (f xs).2.2 = 0 → 0 < xs.length ∧ (f xs).2.1 ≤ xs.length := by
    intro h0
    rw [hf] at h0 ⊢
    have := shortF_size xs 0 0 h0
    omega
  clear hf
  go_enter Tryz.func188, Tryz.ntmps188
  go_wp2_with fail
  refine (takeVar_rd f g r xs er ao cap w h hsz (fun _ => hA)).mono ?_
  rintro e w' ⟨rfl, R⟩
  go_wp2
  go_ret
  exact ⟨rfl, R⟩

theorem intF_size (xs : List Nat) (h : (intF xs).2.2 = 0) : 0 < xs.length ∧ (intF xs).2.1 ≤ xs.length := by
  have := shortF_size xs 0 0 h
  simp only [intF]
  omega
theorem Tryz.undB : Tryz.prog.underlying 5 = some (.int .u8) := by kernel_rfl
theorem conv_eq (w : World) (r off n c : Nat) (ys : List Nat) (hn : ys.length = n) (hc : ∀ j, j < n → w.cell? ⟨r, off + j, none⟩ = some (.int .u8 ((ys.getD j 0 : Nat) : Int))) :
    Sem.run Tryz.prog (convert 26 9 (.slice (some ⟨r, off, none⟩) n c)) w = .ok (.string (toBA ys)) w := by
  rw [run_convert_bytes_string w 26 9 5 _ _ _ Tryz.undBs Tryz.undB Tryz.undStr]
  have hl := run_loadCells_list (P := Tryz.prog) w ⟨r, off, none⟩ (bts ys) (by
    intro j u hj
    have hj' : j < ys.length := by have := (List.getElem?_eq_some_iff.1 hj).1; rwa [bts_length] at this
    rw [bts_get ys j hj'] at hj
    rw [show (⟨r, off, none⟩ : Addr).add j = ⟨r, off + j, none⟩ from by simp [Addr.add], hc j (by omega)]
    exact hj)
  rw [bts_length, hn] at hl
  have e : bts ys = (ys.map (fun (x : Nat) => (x : Int))).map (Value.int .u8) := by simp [bts]
  rw [e] at hl
  rw [run_bytesToString w ⟨r, off, none⟩ n c _ hl, toBA_fold]

set_option maxHeartbeats 4000000 in
set_option maxRecDepth 100000 in
theorem cText_any (r b : Nat) (ao : Option Addr) (L cap : Nat) (xs : List Nat) (most : Int) (w : World) (h : Sl w r ao xs) (hL : L = xs.length) (hcap : L ≤ cap) (hm0 : -9223372036854775808 ≤ most) (hm1 : most ≤ 9223372036854775807) (hb : w.cell? ⟨b, 0, none⟩ = some (.int .i64 most)) :
    Ans 183 #[.slice ao L cap, .pointer (some ⟨b, 0, none⟩)] w (.tuple #[.string (textF most xs).1, .int .i64 ((textF most xs).2.1 : Nat), .int .i64 ((textF most xs).2.2 : Nat)]) := by
  have HL : Hid (L = xs.length) := hL
  have hv := shortF_val xs 0 0 (by omega) (by omega) h.low
  have hLl := h.len
  rw [← hL] at hLl
  have hsz := shortF_size xs 0 0
  show Calls _ _ _ _ _
  have hS := short_sl r ao L cap xs w h hL
  obtain ⟨S, hSS⟩ : ∃ S, S = shortF 0 0 xs := ⟨_, rfl⟩
  obtain ⟨T, hTT⟩ : ∃ T, T = textF most xs := ⟨_, rfl⟩
  have hT2 := hTT
  unfold textF at hT2
  rw [← hSS] at hS hv hT2 hsz
  rw [← hTT]
  have HT : Hid (T = _) := hT2
  have HS : Ans 184 #[.slice ao L cap] w (.tuple #[.int .u64 (S.1 : Nat), .int .i64 (S.2.1 : Nat), .int .i64 (S.2.2 : Nat)]) := by
    refine hS.mono ?_
    rintro e w' ⟨rfl, rfl⟩
    exact ⟨rfl, 0, rfl⟩
  clear hS hSS hL hTT hT2
  obtain ⟨s1, s2, s3⟩ := S
  simp only at hv HT HS hsz
  by_cases hmost : most < 0
  · have HR : Hid (T = (⟨#[]⟩, 0, 1)) := by have := HT.out; rw [if_pos hmost] at this; exact this
    clear HT
    go_enter Tryz.func183, Tryz.ntmps183
    go_wp2
    go_ret3
    rw [HR.out]
    exact ⟨rfl, 0, rfl⟩
  · have hmost' : 0 ≤ most := by omega
    by_cases hs3 : s3 = 0
    · subst hs3
      have hsz' := hsz rfl
      rw [← HL.out] at hsz'
      by_cases hlim : most < (s1 : Int)
      · have HR : Hid (T = (⟨#[]⟩, 0, 3)) := by have := HT.out; rw [if_neg hmost, if_neg (by simp), if_pos hlim] at this; exact this
        clear HT hmost
        go_enter Tryz.func183, Tryz.ntmps183
        go_wp2_with fail
        refine HS.calls.mono ?_
        rintro e w' ⟨rfl, q, rfl⟩
        go_wp2
        go_ret3
        rw [HR.out]
        exact ⟨rfl, _, rfl⟩
      · by_cases hsh : L - s2 < s1
        · have HR : Hid (T = (⟨#[]⟩, 0, 5)) := by have := HT.out; rw [if_neg hmost, if_neg (by simp), if_neg hlim, if_pos (by rw [← HL.out]; exact hsh)] at this; exact this
          have hlim' : (s1 : Int) ≤ most := by omega
          have hsh' : (L : Int) - s2 < s1 := by omega
          clear HT hmost hlim
          go_enter Tryz.func183, Tryz.ntmps183
          go_wp2_with fail
          refine HS.calls.mono ?_
          rintro e w' ⟨rfl, q, rfl⟩
          go_wp2
          go_ret3
          rw [HR.out]
          exact ⟨rfl, _, rfl⟩
        · have HR : Hid (T = (toBA ((xs.drop s2).take s1), s2 + s1, 0)) := by have := HT.out; rw [if_neg hmost, if_neg (by simp), if_neg hlim, if_neg (by rw [← HL.out]; exact hsh)] at this; exact this
          have hlim' : (s1 : Int) ≤ most := by omega
          have hsh' : (s1 : Int) ≤ (L : Int) - s2 := by omega
          have hs12 : (s2 : Int) + s1 ≤ L := by omega
          obtain ⟨off, rfl, hc⟩ := h.lies (by rw [← HL.out]; omega)
          clear HT hmost hlim
          by_cases hcs : cap = s2
          · subst hcs
            obtain rfl : s1 = 0 := by omega
            have heq : ∀ q, Sem.run Tryz.prog (convert 26 9 (.slice (some ⟨r, off, none⟩) 0 0)) (w.drewN q) = .ok (.string (toBA [])) (w.drewN q) := fun q => conv_eq (w.drewN q) r off 0 0 [] rfl (by omega)
            rw [List.take_zero] at HR
            obtain ⟨tb, htb⟩ : ∃ tb, tb = toBA [] := ⟨_, rfl⟩
            rw [← htb] at heq HR
            clear htb
            go_enter Tryz.func183, Tryz.ntmps183
            go_wp2_with fail
            refine HS.calls.mono ?_
            rintro e w' ⟨rfl, q, rfl⟩
            go_wp2
            go_ret3
            rw [HR.out]
            exact ⟨rfl, _, rfl⟩
          · have heq : ∀ q, Sem.run Tryz.prog (convert 26 9 (.slice (some ⟨r, off + s2, none⟩) s1 (cap - s2))) (w.drewN q) = .ok (.string (toBA ((xs.drop s2).take s1))) (w.drewN q) := fun q => conv_eq (w.drewN q) r (off + s2) s1 _ _ (by rw [List.length_take, List.length_drop, ← HL.out]; omega) (by
              intro j hj
              have := hc (s2 + j) (by rw [← HL.out]; omega)
              rw [Nat.add_assoc]
              refine this.trans ?_
              simp [List.getD, hj, List.getElem?_drop])
            obtain ⟨tb, htb⟩ : ∃ tb, tb = toBA ((xs.drop s2).take s1) := ⟨_, rfl⟩
            rw [← htb] at heq HR
            clear htb hc
            go_enter Tryz.func183, Tryz.ntmps183
            go_wp2_with fail
            refine HS.calls.mono ?_
            rintro e w' ⟨rfl, q, rfl⟩
            go_wp2
            go_ret3
            rw [HR.out]
            exact ⟨rfl, _, rfl⟩
    · have hs3b : ((s3 : Int) != 0) = true := by rw [bne_iff_ne]; omega
      have HR : Hid (T = (⟨#[]⟩, 0, s3)) := by have := HT.out; rw [if_neg hmost, if_pos hs3] at this; exact this
      clear HT hs3 hmost
      go_enter Tryz.func183, Tryz.ntmps183
      go_wp2_with fail
      refine HS.calls.mono ?_
      rintro e w' ⟨rfl, q, rfl⟩
      go_wp2
      go_ret3
      rw [HR.out]
      exact ⟨rfl, _, rfl⟩
theorem textF_size (most : Int) (xs : List Nat) (h : (textF most xs).2.2 = 0) : 0 < xs.length ∧ (textF most xs).2.1 ≤ xs.length := by
  unfold textF at h ⊢
  split at h
  · simp at h
  · rename_i h1
    rw [if_neg h1]
    split at h
    · rename_i h2; exact absurd h h2
    · rename_i h2
      rw [if_neg h2]
      split at h
      · simp at h
      · rename_i h3
        rw [if_neg h3]
        split at h
        · simp at h
        · rename_i h4
          rw [if_neg h4]
          have := shortF_size xs 0 0 (by simpa using h2)
          simp only
          omega
set_option maxHeartbeats 1000000 in
theorem rText_any (g r : Nat) (xs : List Nat) (er : Nat) (ao : Option Addr) (cap : Nat) (most : Int) (w : World) (h : Rd w g r xs er ao cap) (hm0 : -9223372036854775808 ≤ most) (hm1 : most ≤ 9223372036854775807) :
    Calls Tryz.prog 164 #[.pointer (some ⟨g, 0, none⟩), .int .i64 most] w fun e w' => e = .returned (.string (rdBy (textF most) ⟨#[]⟩ xs er).1) ∧ ∃ ao' cap', Rd w' g r (rdBy (textF most) ⟨#[]⟩ xs er).2.1 (rdBy (textF most) ⟨#[]⟩ xs er).2.2 ao' cap' ∧ Fr [g] w w' := by
  have hF := Fr.alloc [] w (.cells #[.int .i64 most] 3)
  have h' := h.keep hF (by simp) (by simp)
  have hb : (w.alloc (.cells #[.int .i64 most] 3)).cell? ⟨w.heap.size, 0, none⟩ = some (.int .i64 most) := cell_of_row _ _ _ _ _ _ (heap_alloc_new w _)
  have hA := cText_any r w.heap.size ao _ cap xs most _ h'.sl rfl h'.cap hm0 hm1 hb
  have hsz := textF_size most xs
  obtain ⟨f, hf⟩ : ∃ f, f = textF most := ⟨_, rfl⟩
  rw [← hf] at hA hsz ⊢
  clear hf hb
  go_enter Tryz.func164, Tryz.ntmps164
  go_wp2_with fail
  refine (takeText_rd f g r _ xs er ao cap _ h' hsz (fun _ => hA)).mono ?_
  rintro e w' ⟨rfl, ao', cap', R1, R2⟩
  go_wp2
  go_ret
  exact ⟨rfl, ao', cap', R1, (Fr.alloc [g] w _).then R2⟩
set_option maxHeartbeats 4000000 in
set_option maxRecDepth 100000 in
theorem cFixed_any (r b : Nat) (ao : Option Addr) (L cap : Nat) (xs : List Nat) (width : Int) (w : World) (h : Sl w r ao xs) (hL : L = xs.length) (hcap : L ≤ cap) (hb : w.cell? ⟨b, 0, none⟩ = some (.int .i64 width)) :
    Ans 186 #[.slice ao L cap, .pointer (some ⟨b, 0, none⟩)] w (.tuple #[.int .u64 ((fixF width xs).1 : Nat), .int .i64 ((fixF width xs).2.1 : Nat), .int .i64 ((fixF width xs).2.2 : Nat)]) := by
  have HL : Hid (L = xs.length) := hL
  have hLl := h.len
  rw [← hL] at hLl
  show Calls _ _ _ _ _
  obtain ⟨T, hTT⟩ : ∃ T, T = fixF width xs := ⟨_, rfl⟩
  rw [← hTT]
  have hT2 := hTT
  unfold fixF at hT2
  rw [← hL] at hT2
  have HT : Hid (T = _) := hT2
  clear hL hTT hT2
  by_cases hw : width < 1 ∨ 8 < width
  · have HR : Hid (T = (0, 0, 1)) := by have := HT.out; rw [if_pos hw] at this; exact this
    clear HT
    go_enter Tryz.func186, Tryz.ntmps186
    go_wp2_with fail
    refine (wide_no width _ hw).mono ?_
    rintro e w' ⟨rfl, rfl⟩
    go_wp2
    go_ret3
    rw [HR.out]
    exact ⟨rfl, 0, rfl⟩
  · have hw1 : 1 ≤ width := by omega
    have hw8 : width ≤ 8 := by omega
    by_cases hs : (L : Int) < width
    · have HR : Hid (T = (0, 0, 5)) := by have := HT.out; rw [if_neg hw, if_pos hs] at this; exact this
      clear HT hw
      go_enter Tryz.func186, Tryz.ntmps186
      go_wp2_with fail
      refine (wide_yes width _ hw1 hw8).mono ?_
      rintro e w' ⟨rfl, rfl⟩
      go_wp2
      go_ret3
      rw [HR.out]
      exact ⟨rfl, 0, rfl⟩
    · obtain ⟨X, rfl⟩ := Int.eq_ofNat_of_zero_le (show 0 ≤ width by omega)
      have HR : Hid (T = (leN (xs.take X), X, 0)) := by have := HT.out; rw [if_neg hw, if_neg hs, Int.toNat_natCast] at this; exact this
      have hs' : (X : Int) ≤ L := by omega
      have hXL : X ≤ L := by omega
      have hX8 : X ≤ 8 := by omega
      obtain ⟨off, rfl, hc⟩ := h.lies (by rw [← HL.out]; omega)
      rw [← HL.out] at hc
      clear HT hw hs
      go_enter Tryz.func186, Tryz.ntmps186
      go_wp2_with fail
      refine (wide_yes _ _ hw1 hw8).mono ?_
      rintro e w' ⟨rfl, rfl⟩
      go_wp2_with fail
      go_loop [6, 20] (fun vv ii => ∃ (n i : Nat), vv = .int .u64 n ∧ ii = .int .i64 i ∧ i ≤ X ∧ n < 256 ^ i ∧ Hid (n = leN (xs.take i))) (fun _ ii => X - (RowKit.intOf ii).toNat)
      case atStart => exact ⟨0, 0, rfl, rfl, Nat.zero_le _, by omega, rfl⟩
      case round =>
        obtain ⟨n, i, rfl, rfl, hiX, hn, E⟩ := hrel
        by_cases hi : i < X
        · have hcx := hc i (by omega)
          obtain ⟨x, hx⟩ : ∃ x, x = xs.getD i 0 := ⟨_, rfl⟩
          rw [← hx] at hcx
          have hget : xs[i]? = some x := by rw [hx, List.getD, List.getElem?_eq_getElem (by rw [← HL.out]; omega)]; rfl
          have hx256 : x < 256 := h.low x (List.mem_of_getElem? hget)
          have hg := byt n x i hn (by omega) hx256
          have HG : Hid (_ = _) := hg.1
          have HB : Hid (n + x * 256 ^ i < 256 ^ (i + 1)) := hg.2
          have HE : Hid (n + x * 256 ^ i = leN (xs.take (i + 1))) := by
            show _ = _
            have e : xs.take (i + 1) = xs.take i ++ [x] := by rw [List.take_add_one, hget]; rfl
            rw [e, leN_snoc, ← E.out, List.length_take, ← HL.out, Nat.min_eq_left (by omega)]
          clear hg hget hx hc
          go_wp2
          go_round
          case rel => exact ⟨_, i + 1, congrArg (Value.int .u64) HG.out, by simp, by omega, HB.out, HE⟩
          case measure => simp [RowKit.intOf]; omega
        · have hiX' : i = X := by omega
          have HV : Hid (n = leN (xs.take X)) := by rw [← hiX']; exact E
          clear hiX'
          go_wp2
          go_quiet (fail)
          go_wp2
          go_ret3
          rw [HR.out, HV.out]
          exact ⟨rfl, _, rfl⟩
theorem fixF_size (width : Int) (xs : List Nat) (h : (fixF width xs).2.2 = 0) : 0 < xs.length ∧ (fixF width xs).2.1 ≤ xs.length := by
  unfold fixF at h ⊢
  split at h
  · simp at h
  · rename_i h1
    rw [if_neg h1]
    split at h
    · simp at h
    · rename_i h2
      rw [if_neg h2]
      simp only
      omega
set_option maxHeartbeats 1000000 in
theorem rFixed_any (g r : Nat) (xs : List Nat) (er : Nat) (ao : Option Addr) (cap : Nat) (width : Int) (w : World) (h : Rd w g r xs er ao cap) :
    Calls Tryz.prog 167 #[.pointer (some ⟨g, 0, none⟩), .int .i64 width] w fun e w' => e = .returned (.int .u64 ((rdBy (fixF width) 0 xs er).1 : Nat)) ∧ ∃ ao' cap', Rd w' g r (rdBy (fixF width) 0 xs er).2.1 (rdBy (fixF width) 0 xs er).2.2 ao' cap' ∧ Fr [g] w w' := by
  have hF := Fr.alloc [] w (.cells #[.int .i64 width] 3)
  have h' := h.keep hF (by simp) (by simp)
  have hb : (w.alloc (.cells #[.int .i64 width] 3)).cell? ⟨w.heap.size, 0, none⟩ = some (.int .i64 width) := cell_of_row _ _ _ _ _ _ (heap_alloc_new w _)
  have hA := cFixed_any r w.heap.size ao _ cap xs width _ h'.sl rfl h'.cap hb
  have hsz := fixF_size width xs
  obtain ⟨f, hf⟩ : ∃ f, f = fixF width := ⟨_, rfl⟩
  rw [← hf] at hA hsz ⊢
  clear hf hb
  go_enter Tryz.func167, Tryz.ntmps167
  go_wp2_with fail
  refine (takeFixed_rd f g r _ xs er ao cap _ h' hsz (fun _ => hA)).mono ?_
  rintro e w' ⟨rfl, ao', cap', R1, R2⟩
  go_wp2
  go_ret
  exact ⟨rfl, ao', cap', R1, (Fr.alloc [g] w _).then R2⟩
end Go.Proofs.YtaefninikmaiiaaGreatDoor
/- Short numbers, numbers with a sign and texts as bytes, and back: one form each. Plain lemmas on lists and numbers. -/
namespace Go.Proofs.YtaefninikmaiiaaGreatDoor
open Go.ChangeShapes Go.WideShapes Go.ChangeAt Go.RowKit Go.Lib

theorem encF_low (f x : Nat) (h : x < 128) : encF f x = [x] := by
  cases f with
  | zero => simp [encF, Nat.mod_eq_of_lt h]
  | succ f => simp [encF, h]
theorem encF_high (f x : Nat) (h : 128 ≤ x) : encF (f + 1) x = (128 + x % 128) :: encF f (x / 128) := by
  simp only [encF]
  rw [if_neg (by omega)]

theorem short_form : ∀ (xs : List Nat) (i n : Nat), i ≤ 9 → (∀ x ∈ xs, x < 256) → (shortF i n xs).2.2 = 0 →
    ∃ v, (shortF i n xs).1 = n + 128 ^ i * v ∧ encF (9 - i) v = xs.take ((shortF i n xs).2.1 - i) ∧ (0 < i → 0 < v) := by
  intro xs
  induction xs with
  | nil => intro i n _ _ h; simp [shortF] at h
  | cons x r ih =>
    intro i n hi hb h
    have hx := hb x (by simp)
    have hsz := shortF_size (x :: r) i n h
    rw [shortF_cons] at h hsz ⊢
    split at h
    · simp at h
    · rename_i h1
      rw [if_neg h1] at hsz ⊢
      split at h
      · rename_i h2
        rw [if_pos h2]
        refine ⟨x, by rw [Nat.mul_comm], ?_, by omega⟩
        rw [encF_low _ _ h2]
        simp
      · rename_i h2
        rw [if_neg h2] at hsz ⊢
        have hi8 : i ≤ 8 := by omega
        obtain ⟨v, e1, e2, e3⟩ := ih (i + 1) (n + x % 128 * 128 ^ i) (by omega) (fun y hy => hb y (by simp [hy])) h
        have hv := e3 (by omega)
        have hs2 := shortF_size r _ _ h
        refine ⟨x % 128 + 128 * v, ?_, ?_, by omega⟩
        · rw [e1, Nat.pow_succ, Nat.mul_add, Nat.mul_comm (128 ^ i) (x % 128), Nat.mul_assoc]
          omega
        · rw [show 9 - i = (9 - (i + 1)) + 1 by omega, encF_high _ _ (by omega)]
          rw [show (x % 128 + 128 * v) / 128 = v by omega, e2, show 128 + (x % 128 + 128 * v) % 128 = x by omega]
          rw [show (shortF (i + 1) (n + x % 128 * 128 ^ i) r).2.1 - i = ((shortF (i + 1) (n + x % 128 * 128 ^ i) r).2.1 - (i + 1)) + 1 by omega, List.take_succ_cons]
theorem enc_short (xs : List Nat) (hb : ∀ x ∈ xs, x < 256) (h : (shortF 0 0 xs).2.2 = 0) : enc (shortF 0 0 xs).1 = xs.take (shortF 0 0 xs).2.1 := by
  obtain ⟨v, e1, e2, _⟩ := short_form xs 0 0 (by omega) hb h
  have : (shortF 0 0 xs).1 = v := by rw [e1]; simp
  rw [this]
  simpa [enc] using e2

theorem short_cons_low (i n x : Nat) (r : List Nat) (hx : x < 128) (h9 : i = 9 → x ≤ 1) (h0 : 0 < i → 0 < x) : shortF i n (x :: r) = (n + x * 128 ^ i, i + 1, 0) := by
  rw [shortF_cons, if_neg (by omega), if_pos hx]
theorem short_cons_high (i n x : Nat) (r : List Nat) (hx : 128 ≤ x) (h9 : i ≠ 9) : shortF i n (x :: r) = shortF (i + 1) (n + x % 128 * 128 ^ i) r := by
  rw [shortF_cons, if_neg (by omega), if_neg (by omega)]

theorem encF_shape (f v : Nat) : (v < 128 ∧ encF f v = [v]) ∨ (128 ≤ v ∧ ∃ y ys, encF f v = y :: ys) := by
  by_cases h : v < 128
  · exact Or.inl ⟨h, encF_low f v h⟩
  · refine Or.inr ⟨by omega, ?_⟩
    cases f with
    | zero => exact ⟨_, _, rfl⟩
    | succ f => exact ⟨_, _, encF_high f v (by omega)⟩

/-- The groups that are left, read behind i of them. -/
theorem short_back : ∀ (f i n v : Nat) (rest : List Nat), f + i = 9 → v < 2 * 128 ^ f → (0 < i → 0 < v) → shortF i n (encF f v ++ rest) = (n + 128 ^ i * v, i + (encF f v).length, 0) := by
  intro f
  induction f with
  | zero =>
    intro i n v rest hf hv h0
    have hv1 : v < 2 := by simpa using hv
    rw [encF_low 0 v (by omega)]
    simp only [List.cons_append, List.nil_append, List.length_cons, List.length_nil]
    rw [short_cons_low i n v rest (by omega) (by omega) h0, Nat.mul_comm]
  | succ f ih =>
    intro i n v rest hf hv h0
    by_cases h : v < 128
    · rw [encF_low _ v h]
      simp only [List.cons_append, List.nil_append, List.length_cons, List.length_nil]
      rw [short_cons_low i n v rest h (by omega) h0, Nat.mul_comm]
    · rw [encF_high f v (by omega)]
      simp only [List.cons_append, List.length_cons]
      rw [short_cons_high i n _ _ (by omega) (by omega)]
      rw [Nat.pow_succ] at hv
      rw [ih (i + 1) _ (v / 128) rest (by omega) (by omega) (by omega)]
      have e : n + (128 + v % 128) % 128 * 128 ^ i + 128 ^ (i + 1) * (v / 128) = n + 128 ^ i * v := by
        rw [show (128 + v % 128) % 128 = v % 128 by omega, Nat.pow_succ, Nat.mul_assoc, Nat.mul_comm (v % 128)]
        have : 128 ^ i * v = 128 ^ i * (v % 128) + 128 ^ i * (128 * (v / 128)) := by rw [← Nat.mul_add]; congr 1; omega
        omega
      rw [e]
      refine Prod.ext rfl (Prod.ext ?_ rfl)
      show i + 1 + (encF f (v / 128)).length = i + ((encF f (v / 128)).length + 1)
      omega
theorem short_enc (n : Nat) (rest : List Nat) (hn : n < 2 ^ 64) : shortF 0 0 (enc n ++ rest) = (n, (enc n).length, 0) := by
  have hp : 2 * 128 ^ 9 = 2 ^ 64 := by decide
  have := short_back 9 0 0 n rest rfl (by omega) (by omega)
  simp only [Nat.pow_zero, Nat.one_mul, Nat.zero_add] at this
  exact this

/-- Too few of the bytes of a number. -/
theorem short_few : ∀ (f i n v k : Nat), f + i = 9 → v < 2 * 128 ^ f → (0 < i → 0 < v) → k < (encF f v).length → shortF i n ((encF f v).take k) = (0, 0, 5) := by
  intro f
  induction f with
  | zero =>
    intro i n v k hf hv h0 hk
    have hv1 : v < 2 := by simpa using hv
    rw [encF_low 0 v (by omega)] at hk ⊢
    simp at hk
    subst hk
    simp [shortF]
  | succ f ih =>
    intro i n v k hf hv h0 hk
    by_cases h : v < 128
    · rw [encF_low _ v h] at hk ⊢
      simp at hk
      subst hk
      simp [shortF]
    · rw [encF_high f v (by omega)] at hk ⊢
      cases k with
      | zero => simp [shortF]
      | succ k =>
        simp only [List.length_cons] at hk
        rw [List.take_succ_cons, short_cons_high i n _ _ (by omega) (by omega)]
        rw [Nat.pow_succ] at hv
        exact ih (i + 1) _ (v / 128) k (by omega) (by omega) (by omega) (by omega)
theorem short_cut (n k : Nat) (hn : n < 2 ^ 64) (hk : k < (enc n).length) : shortF 0 0 ((enc n).take k) = (0, 0, 5) := by
  have hp : 2 * 128 ^ 9 = 2 ^ 64 := by decide
  exact short_few 9 0 0 n k rfl (by omega) (by omega) hk
theorem short_err : ∀ (xs : List Nat) (i n : Nat), (shortF i n xs).2.2 = 0 ∨ (shortF i n xs).2.2 = 4 ∨ (shortF i n xs).2.2 = 5 := by
  intro xs
  induction xs with
  | nil => intro i n; simp [shortF]
  | cons x r ih =>
    intro i n
    rw [shortF_cons]
    split
    · simp
    · split
      · simp
      · exact ih _ _
theorem text_form (L : Nat) (xs : List Nat) (hb : ∀ x ∈ xs, x < 256) (h : (textF (L : Int) xs).2.2 = 0) :
    enc (textF (L : Int) xs).1.size ++ strNs (textF (L : Int) xs).1 = xs.take (textF (L : Int) xs).2.1 := by
  unfold textF at h ⊢
  rw [if_neg (by omega)] at h ⊢
  split at h
  · rename_i h2; exact absurd h h2
  · rename_i h2
    rw [if_neg h2]
    split at h
    · simp at h
    · rename_i h3
      rw [if_neg h3]
      split at h
      · simp at h
      · rename_i h4
        rw [if_neg h4]
        have h2' : (shortF 0 0 xs).2.2 = 0 := by simpa using h2
        have hs := shortF_size xs 0 0 h2'
        have he := enc_short xs hb h2'
        simp only
        have hl : ((xs.drop (shortF 0 0 xs).2.1).take (shortF 0 0 xs).1).length = (shortF 0 0 xs).1 := by rw [List.length_take, List.length_drop]; omega
        rw [toBA_size, hl, strNs_toBA _ (fun x hx => hb x (List.mem_of_mem_drop (List.mem_of_mem_take hx))), he, List.take_add]
end Go.Proofs.YtaefninikmaiiaaGreatDoor
/- Transactions as bytes and back, as plain functions on lists: one form, no bytes are the beginning of another's. Plain lemmas. -/
namespace Go.Proofs.YtaefninikmaiiaaGreatDoor
open Go.ChangeShapes Go.WideShapes Go.ChangeAt Go.RowKit Go.Lib

/-- A write. -/
structure Wt where
  key : ByteArray
  val : ByteArray
  drop : Bool

def noS : ByteArray := ⟨#[]⟩
theorem noS_iff (s : ByteArray) : s.size = 0 ↔ s = noS := by
  constructor
  · intro h
    cases s with
    | mk d =>
      have hd : d.size = 0 := h
      have : d = #[] := Array.eq_empty_of_size_eq_zero hd
      rw [this]
      rfl
  · rintro rfl
    rfl

/-- May a write be? -/
def okW (x : Wt) : Prop := 1 ≤ x.key.size ∧ x.key.size ≤ 64 ∧ x.val.size ≤ 1024 ∧ (x.drop = true → x.val = noS)
/-- May a transaction be? -/
def okT (n : Int) (ws : List Wt) : Prop := 1 ≤ n ∧ n ≤ 65536 ∧ ws.length ≤ 32 ∧ ∀ x ∈ ws, okW x

def encS (s : ByteArray) : List Nat := enc s.size ++ strNs s
def encV (x : Wt) : List Nat := if x.drop then [1] else 0 :: encS x.val
def encW (x : Wt) : List Nat := encS x.key ++ encV x
def encWs : List Wt → List Nat
  | [] => []
  | x :: r => encW x ++ encWs r
def encT (n : Nat) (ws : List Wt) : List Nat := enc n ++ (enc ws.length ++ encWs ws)

theorem encWs_snoc (ws : List Wt) (x : Wt) : encWs (ws ++ [x]) = encWs ws ++ encW x := by
  induction ws with
  | nil => simp [encWs]
  | cons y r ih => simp [encWs, ih]
theorem encS_lt (s : ByteArray) : ∀ x ∈ encS s, x < 256 := by
  intro x hx
  rcases List.mem_append.1 hx with h | h
  · exact enc_lt _ x h
  · exact strNs_lt s x h
theorem encW_lt (y : Wt) : ∀ x ∈ encW y, x < 256 := by
  intro x hx
  rcases List.mem_append.1 hx with h | h
  · exact encS_lt _ x h
  · unfold encV at h
    split at h
    · simp at h; omega
    · rcases List.mem_cons.1 h with rfl | h
      · omega
      · exact encS_lt _ x h
theorem encWs_lt (ws : List Wt) : ∀ x ∈ encWs ws, x < 256 := by
  induction ws with
  | nil => intro x hx; simp [encWs] at hx
  | cons y r ih =>
    intro x hx
    rcases List.mem_append.1 hx with h | h
    · exact encW_lt y x h
    · exact ih x h
theorem encT_lt (n : Nat) (ws : List Wt) : ∀ x ∈ encT n ws, x < 256 := by
  intro x hx
  rcases List.mem_append.1 hx with h | h
  · exact enc_lt _ x h
  · rcases List.mem_append.1 h with h | h
    · exact enc_lt _ x h
    · exact encWs_lt ws x h
theorem encS_length (s : ByteArray) : 1 ≤ (encS s).length ∧ (encS s).length ≤ 10 + s.size := by
  have := enc_length s.size
  simp only [encS, List.length_append, strNs_length]
  omega
theorem encW_length (x : Wt) (h : okW x) : 1 ≤ (encW x).length ∧ (encW x).length ≤ 2000 := by
  obtain ⟨h1, h2, h3, _⟩ := h
  have a := encS_length x.key
  have b := encS_length x.val
  simp only [encW, List.length_append, encV]
  split
  · simp only [List.length_cons, List.length_nil]; omega
  · simp only [List.length_cons]; omega
theorem encWs_length (ws : List Wt) (h : ∀ x ∈ ws, okW x) : (encWs ws).length ≤ 2000 * ws.length := by
  induction ws with
  | nil => simp [encWs]
  | cons y r ih =>
    have a := (encW_length y (h y (by simp))).2
    have b := ih (fun x hx => h x (by simp [hx]))
    simp only [encWs, List.length_append, List.length_cons]
    omega
theorem encT_length (n : Nat) (ws : List Wt) (h : okT (n : Int) ws) : 2 ≤ (encT n ws).length ∧ (encT n ws).length ≤ 65000 := by
  have a := enc_length n
  have b := enc_length ws.length
  have c := encWs_length ws h.2.2.2
  have d := h.2.2.1
  simp only [encT, List.length_append]
  omega

/-- One thing taken and looked at: it and what is ahead then, or what is wrong. -/
def tk {α : Type} (f : List Nat → α × Nat × Nat) (ref : α → Nat) (xs : List Nat) : Except Nat (α × List Nat) :=
  if (f xs).2.2 ≠ 0 then .error (f xs).2.2 else if ref (f xs).1 ≠ 0 then .error (ref (f xs).1) else .ok ((f xs).1, xs.drop (f xs).2.1)
def refN (n : Nat) : Nat := if n < 1 ∨ 65536 < n then 1 else 0
def refC (n : Nat) : Nat := if 32 < n then 3 else 0
def refK (s : ByteArray) : Nat := if s.size = 0 then 1 else 0
def refD (n : Nat) : Nat := if n = 0 ∨ n = 1 then 0 else 4
def refV (_ : ByteArray) : Nat := 0
def decV (k : ByteArray) (xs : List Nat) : Except Nat (Wt × List Nat) :=
  match tk (textF 1024) refV xs with
  | .error e => .error e
  | .ok (v, r) => .ok (⟨k, v, false⟩, r)
def decD (k : ByteArray) (xs : List Nat) : Except Nat (Wt × List Nat) :=
  match tk (fixF 1) refD xs with
  | .error e => .error e
  | .ok (d, r) => if d = 1 then .ok (⟨k, noS, true⟩, r) else decV k r
def decW (xs : List Nat) : Except Nat (Wt × List Nat) :=
  match tk (textF 64) refK xs with
  | .error e => .error e
  | .ok (k, r) => decD k r
def decWs : Nat → List Nat → Except Nat (List Wt × List Nat)
  | 0, xs => .ok ([], xs)
  | k + 1, xs => match decW xs with
    | .error e => .error e
    | .ok (x, r) => match decWs k r with
      | .error e => .error e
      | .ok (ws, s) => .ok (x :: ws, s)
def decE (n : Nat) (ws : List Wt) (xs : List Nat) : Except Nat (Nat × List Wt) := if xs.length = 0 then .ok (n, ws) else .error 4
def decC (n : Nat) (xs : List Nat) : Except Nat (Nat × List Wt) :=
  match tk (shortF 0 0) refC xs with
  | .error e => .error e
  | .ok (c, r) => match decWs c r with
    | .error e => .error e
    | .ok (ws, s) => decE n ws s
def decT (xs : List Nat) : Except Nat (Nat × List Wt) :=
  match tk (shortF 0 0) refN xs with
  | .error e => .error e
  | .ok (n, r) => decC n r

/-- A thing that is there, taken. -/
theorem tk_ok {α : Type} {f : List Nat → α × Nat × Nat} {ref : α → Nat} {xs : List Nat} {v : α} {k : Nat} (h : f xs = (v, k, 0)) (hr : ref v = 0) : tk f ref xs = .ok (v, xs.drop k) := by
  simp [tk, h, hr]
theorem tk_err {α : Type} {f : List Nat → α × Nat × Nat} {ref : α → Nat} {xs : List Nat} {v : α} {k e : Nat} (h : f xs = (v, k, e)) (he : e ≠ 0) : tk f ref xs = .error e := by
  simp [tk, h, he]
theorem tk_inv {α : Type} {f : List Nat → α × Nat × Nat} {ref : α → Nat} {xs r : List Nat} {v : α} (h : tk f ref xs = .ok (v, r)) : (f xs).2.2 = 0 ∧ (f xs).1 = v ∧ ref v = 0 ∧ xs.drop (f xs).2.1 = r := by
  unfold tk at h
  split at h
  · cases h
  · rename_i h1
    split at h
    · cases h
    · rename_i h2
      cases h
      exact ⟨by simpa using h1, rfl, by simpa using h2, rfl⟩

theorem drop_left (a b : List Nat) : (a ++ b).drop a.length = b := List.drop_left
theorem take_low (a b : List Nat) (k : Nat) (h : k < a.length) : (a ++ b).take k = a.take k := by
  rw [List.take_append_of_le_length (by omega)]
theorem take_high (a b : List Nat) (k : Nat) (h : a.length ≤ k) : (a ++ b).take k = a ++ b.take (k - a.length) := by
  rw [List.take_append, List.take_of_length_le h]

theorem text_enc (m : Nat) (s : ByteArray) (r : List Nat) (hs : s.size ≤ m) (hm : m < 2 ^ 40) : textF (m : Int) (encS s ++ r) = (s, (encS s).length, 0) := by
  have e : encS s ++ r = enc s.size ++ (strNs s ++ r) := by simp [encS]
  have hsh := short_enc s.size (strNs s ++ r) (by omega)
  rw [e]
  unfold textF
  rw [if_neg (by omega), hsh]
  simp only
  rw [if_neg (by simp), if_neg (by omega), if_neg (by simp only [List.length_append, strNs_length]; omega)]
  rw [drop_left]
  have : (strNs s ++ r).take s.size = strNs s := by
    rw [← strNs_length s, List.take_left]
  rw [this, toBA_strNs]
  simp [encS, strNs_length]
theorem text_cut (m : Nat) (s : ByteArray) (k : Nat) (hs : s.size ≤ m) (hm : m < 2 ^ 40) (hk : k < (encS s).length) : (textF (m : Int) ((encS s).take k)).2.2 = 5 := by
  unfold textF
  rw [if_neg (by omega)]
  by_cases h : k < (enc s.size).length
  · have e : (encS s).take k = (enc s.size).take k := take_low _ _ _ h
    rw [e, short_cut s.size k (by omega) h]
    simp
  · have e : (encS s).take k = enc s.size ++ (strNs s).take (k - (enc s.size).length) := take_high _ _ _ (by omega)
    have hsh := short_enc s.size ((strNs s).take (k - (enc s.size).length)) (by omega)
    rw [e, hsh]
    simp only
    have hl : (encS s).length = (enc s.size).length + s.size := by simp [encS, strNs_length]
    rw [if_neg (by simp), if_neg (by omega), if_pos (by simp only [List.length_append, List.length_take, strNs_length]; omega)]
theorem fix_enc (d : Nat) (r : List Nat) : fixF 1 (d :: r) = (d, 1, 0) := by
  unfold fixF
  rw [if_neg (by decide), if_neg (by simp only [List.length_cons]; omega)]
  simp [leN]
theorem fix_none : fixF 1 [] = (0, 0, 5) := by
  unfold fixF
  rw [if_neg (by decide), if_pos (by decide)]

theorem refK_ok {x : Wt} (h : okW x) : refK x.key = 0 := by
  unfold refK
  rw [if_neg (by have := h.1; omega)]

/-- What stands behind a key, taken back. -/
theorem decD_back (x : Wt) (h : okW x) (r : List Nat) : decD x.key (encV x ++ r) = .ok (x, r) := by
  unfold decD encV
  by_cases hd : x.drop = true
  · rw [if_pos hd]
    have e : ([1] ++ r : List Nat) = 1 :: r := rfl
    rw [e, tk_ok (fix_enc 1 r) (by simp [refD])]
    have hv := h.2.2.2 hd
    cases x with
    | mk k v d =>
      simp only at hd hv ⊢
      subst hd
      subst hv
      simp
  · rw [if_neg hd, List.cons_append, tk_ok (fix_enc 0 _) (by simp [refD])]
    simp only [List.drop_succ_cons, List.drop_zero]
    rw [if_neg (by decide)]
    unfold decV
    have ht := text_enc 1024 x.val r h.2.2.1 (by decide)
    rw [tk_ok (f := textF 1024) ht rfl]
    simp only [drop_left]
    cases x with
    | mk k v d =>
      simp only at hd ⊢
      simp at hd
      subst hd
      rfl
theorem decW_back (x : Wt) (h : okW x) (r : List Nat) : decW (encW x ++ r) = .ok (x, r) := by
  unfold decW
  have e : encW x ++ r = encS x.key ++ (encV x ++ r) := by simp [encW]
  have ht := text_enc 64 x.key (encV x ++ r) h.2.1 (by decide)
  rw [e, tk_ok (f := textF 64) ht (refK_ok h)]
  simp only [drop_left]
  exact decD_back x h r
theorem decD_cut (x : Wt) (h : okW x) (k : Nat) (hk : k < (encV x).length) : decD x.key ((encV x).take k) = .error 5 := by
  unfold decD encV at *
  by_cases hd : x.drop = true
  · rw [if_pos hd] at hk ⊢
    simp at hk
    subst hk
    rw [List.take_zero, tk_err fix_none (by decide)]
  · rw [if_neg hd] at hk ⊢
    cases k with
    | zero => rw [List.take_zero, tk_err fix_none (by decide)]
    | succ k =>
      simp only [List.length_cons] at hk
      rw [List.take_succ_cons, tk_ok (fix_enc 0 _) (by simp [refD])]
      simp only [List.drop_succ_cons, List.drop_zero]
      rw [if_neg (by decide)]
      unfold decV
      have ht := text_cut 1024 x.val k h.2.2.1 (by decide) (by omega)
      have : tk (textF 1024) refV ((encS x.val).take k) = .error 5 := by
        rw [tk_err (f := textF 1024) (v := _) (k := _) (e := 5) (Prod.ext rfl (Prod.ext rfl ht)) (by decide)]
      rw [this]
theorem decW_cut (x : Wt) (h : okW x) (k : Nat) (hk : k < (encW x).length) : decW ((encW x).take k) = .error 5 := by
  unfold decW encW at *
  rw [List.length_append] at hk
  by_cases h1 : k < (encS x.key).length
  · rw [take_low _ _ _ h1]
    have ht := text_cut 64 x.key k h.2.1 (by decide) h1
    have : tk (textF 64) refK ((encS x.key).take k) = .error 5 := by
      rw [tk_err (f := textF 64) (v := _) (k := _) (e := 5) (Prod.ext rfl (Prod.ext rfl ht)) (by decide)]
    rw [this]
  · rw [take_high _ _ _ (by omega)]
    have ht := text_enc 64 x.key ((encV x).take (k - (encS x.key).length)) h.2.1 (by decide)
    rw [tk_ok (f := textF 64) ht (refK_ok h)]
    simp only [drop_left]
    exact decD_cut x h _ (by omega)
theorem decWs_back (ws : List Wt) (h : ∀ x ∈ ws, okW x) (r : List Nat) : decWs ws.length (encWs ws ++ r) = .ok (ws, r) := by
  induction ws with
  | nil => simp [encWs, decWs]
  | cons x s ih =>
    have e : encWs (x :: s) ++ r = encW x ++ (encWs s ++ r) := by simp [encWs]
    rw [e, List.length_cons, decWs, decW_back x (h x (by simp))]
    simp only
    rw [ih (fun y hy => h y (by simp [hy]))]
theorem decWs_cut (ws : List Wt) (h : ∀ x ∈ ws, okW x) (k : Nat) (hk : k < (encWs ws).length) : decWs ws.length ((encWs ws).take k) = .error 5 := by
  induction ws generalizing k with
  | nil => simp [encWs] at hk
  | cons x s ih =>
    rw [List.length_cons, decWs]
    simp only [encWs, List.length_append] at hk ⊢
    by_cases h1 : k < (encW x).length
    · rw [take_low _ _ _ h1, decW_cut x (h x (by simp)) k h1]
    · rw [take_high _ _ _ (by omega), decW_back x (h x (by simp))]
      simp only
      rw [ih (fun y hy => h y (by simp [hy])) (k - (encW x).length) (by omega)]
theorem refN_ok {n : Nat} {ws : List Wt} (h : okT (n : Int) ws) : refN n = 0 := by
  unfold refN
  rw [if_neg (by have := h.1; have := h.2.1; omega)]
theorem refC_ok {n : Int} {ws : List Wt} (h : okT n ws) : refC ws.length = 0 := by
  unfold refC
  rw [if_neg (by have := h.2.2.1; omega)]
/-- Behind a transaction's bytes may stand others: then it is what is left that is wrong. -/
theorem decT_more (n : Nat) (ws : List Wt) (h : okT (n : Int) ws) (r : List Nat) : decT (encT n ws ++ r) = decE n ws r := by
  have e : encT n ws ++ r = enc n ++ (enc ws.length ++ (encWs ws ++ r)) := by simp [encT]
  have hn := h.2.1
  have hl := h.2.2.1
  unfold decT
  rw [e, tk_ok (short_enc n _ (by omega)) (refN_ok h)]
  simp only [drop_left]
  unfold decC
  rw [tk_ok (short_enc ws.length _ (by omega)) (refC_ok h)]
  simp only [drop_left]
  rw [decWs_back ws h.2.2.2]
theorem decT_back (n : Nat) (ws : List Wt) (h : okT (n : Int) ws) : decT (encT n ws) = .ok (n, ws) := by
  have := decT_more n ws h []
  rw [List.append_nil] at this
  rw [this]
  rfl
theorem decT_long (n : Nat) (ws : List Wt) (h : okT (n : Int) ws) (y : Nat) : decT (encT n ws ++ [y]) = .error 4 := by
  rw [decT_more n ws h]
  rfl
theorem decT_cut (n : Nat) (ws : List Wt) (h : okT (n : Int) ws) (k : Nat) (hk : k < (encT n ws).length) : decT ((encT n ws).take k) = .error 5 := by
  have hn := h.2.1
  have hl := h.2.2.1
  unfold decT encT at *
  simp only [List.length_append] at hk
  by_cases h1 : k < (enc n).length
  · rw [take_low _ _ _ h1, tk_err (short_cut n k (by omega) h1) (by decide)]
  · rw [take_high _ _ _ (by omega), tk_ok (short_enc n _ (by omega)) (refN_ok h)]
    simp only [drop_left]
    unfold decC
    by_cases h2 : k - (enc n).length < (enc ws.length).length
    · rw [take_low _ _ _ h2, tk_err (short_cut ws.length _ (by omega) h2) (by decide)]
    · rw [take_high _ _ _ (by omega), tk_ok (short_enc ws.length _ (by omega)) (refC_ok h)]
      simp only [drop_left]
      rw [decWs_cut ws h.2.2.2 _ (by omega)]

/-! ### What is taken is told again -/
theorem lt_drop {xs : List Nat} (hb : ∀ x ∈ xs, x < 256) (k : Nat) : ∀ x ∈ xs.drop k, x < 256 := fun x hx => hb x (List.mem_of_mem_drop hx)
theorem tkS_inv {m : Nat} {ref : ByteArray → Nat} {xs r : List Nat} {s : ByteArray} (hb : ∀ x ∈ xs, x < 256) (h : tk (textF (m : Int)) ref xs = .ok (s, r)) : xs = encS s ++ r ∧ s.size ≤ m ∧ ref s = 0 := by
  obtain ⟨h1, h2, h3, h4⟩ := tk_inv h
  have hf := text_form m xs hb h1
  rw [h2] at hf
  refine ⟨?_, ?_, h3⟩
  · rw [← h4]
    show xs = (enc s.size ++ strNs s) ++ _
    rw [hf, List.take_append_drop]
  · subst h2
    unfold textF at h1 ⊢
    rw [if_neg (by omega)] at h1 ⊢
    split at h1
    · rename_i hh; exact absurd h1 hh
    · rename_i hh
      rw [if_neg hh]
      split at h1
      · simp at h1
      · rename_i hh2
        rw [if_neg hh2]
        split at h1
        · simp at h1
        · rename_i hh3
          rw [if_neg hh3]
          simp only [toBA_size, List.length_take]
          omega
theorem tkN_inv {ref : Nat → Nat} {xs r : List Nat} {n : Nat} (hb : ∀ x ∈ xs, x < 256) (h : tk (shortF 0 0) ref xs = .ok (n, r)) : xs = enc n ++ r ∧ ref n = 0 := by
  obtain ⟨h1, h2, h3, h4⟩ := tk_inv h
  have hf := enc_short xs hb h1
  rw [h2] at hf
  refine ⟨?_, h3⟩
  rw [← h4, hf, List.take_append_drop]
theorem tkD_inv {xs r : List Nat} {d : Nat} (h : tk (fixF 1) refD xs = .ok (d, r)) : xs = d :: r ∧ (d = 0 ∨ d = 1) := by
  cases xs with
  | nil => rw [tk_err fix_none (by decide)] at h; cases h
  | cons y s =>
    obtain ⟨h1, h2, h3, h4⟩ := tk_inv h
    rw [fix_enc] at h2 h4
    simp at h2 h4
    subst h2
    subst h4
    refine ⟨rfl, ?_⟩
    unfold refD at h3
    split at h3
    · assumption
    · cases h3
theorem decW_inv {xs r : List Nat} {x : Wt} (hb : ∀ y ∈ xs, y < 256) (h : decW xs = .ok (x, r)) : xs = encW x ++ r ∧ okW x := by
  unfold decW at h
  split at h
  · cases h
  · rename_i k s hk
    obtain ⟨e1, h1, h2⟩ := tkS_inv (m := 64) hb hk
    have hb1 : ∀ y ∈ s, y < 256 := fun y hy => hb y (by rw [e1]; simp [hy])
    have hk0 : 1 ≤ k.size := by
      unfold refK at h2
      split at h2
      · cases h2
      · omega
    unfold decD at h
    split at h
    · cases h
    · rename_i d s2 hd
      obtain ⟨e2, h3⟩ := tkD_inv hd
      have hb2 : ∀ y ∈ s2, y < 256 := fun y hy => hb1 y (by rw [e2]; simp [hy])
      split at h
      · rename_i hd1
        cases h
        refine ⟨?_, hk0, h1, Nat.zero_le _, fun _ => rfl⟩
        rw [e1, e2, hd1]
        simp [encW, encV]
      · rename_i hd1
        have hd0 : d = 0 := by omega
        unfold decV at h
        split at h
        · cases h
        · rename_i v s3 hv
          cases h
          obtain ⟨e3, h4, _⟩ := tkS_inv (m := 1024) hb2 hv
          refine ⟨?_, hk0, h1, h4, fun hh => by simp at hh⟩
          rw [e1, e2, hd0, e3]
          simp [encW, encV]
theorem decWs_inv : ∀ (k : Nat) {xs r : List Nat} {ws : List Wt}, (∀ y ∈ xs, y < 256) → decWs k xs = .ok (ws, r) → xs = encWs ws ++ r ∧ ws.length = k ∧ ∀ x ∈ ws, okW x := by
  intro k
  induction k with
  | zero =>
    intro xs r ws hb h
    simp only [decWs] at h
    cases h
    exact ⟨rfl, rfl, by simp⟩
  | succ k ih =>
    intro xs r ws hb h
    rw [decWs] at h
    split at h
    · cases h
    · rename_i x s hx
      obtain ⟨e1, h1⟩ := decW_inv hb hx
      have hb1 : ∀ y ∈ s, y < 256 := fun y hy => hb y (by rw [e1]; simp [hy])
      split at h
      · cases h
      · rename_i vs s2 hs
        cases h
        obtain ⟨e2, h2, h3⟩ := ih hb1 hs
        refine ⟨by rw [e1, e2]; simp [encWs], by simp [h2], ?_⟩
        intro y hy
        rcases List.mem_cons.1 hy with rfl | hy
        · exact h1
        · exact h3 y hy
theorem decT_inv {xs : List Nat} {n : Nat} {ws : List Wt} (hb : ∀ y ∈ xs, y < 256) (h : decT xs = .ok (n, ws)) : xs = encT n ws ∧ okT (n : Int) ws := by
  unfold decT at h
  split at h
  · cases h
  · rename_i m s hm
    obtain ⟨e1, h1⟩ := tkN_inv hb hm
    have hb1 : ∀ y ∈ s, y < 256 := fun y hy => hb y (by rw [e1]; simp [hy])
    unfold decC at h
    split at h
    · cases h
    · rename_i c s2 hc
      obtain ⟨e2, h2⟩ := tkN_inv hb1 hc
      have hb2 : ∀ y ∈ s2, y < 256 := fun y hy => hb1 y (by rw [e2]; simp [hy])
      split at h
      · cases h
      · rename_i vs s3 hs
        obtain ⟨e3, h3, h4⟩ := decWs_inv c hb2 hs
        unfold decE at h
        split at h
        · rename_i h5
          cases h
          have e5 : s3 = [] := List.eq_nil_of_length_eq_zero h5
          unfold refN at h1
          unfold refC at h2
          have hn : ¬ (n < 1 ∨ 65536 < n) := by intro hh; rw [if_pos hh] at h1; cases h1
          have hc : ¬ 32 < c := by intro hh; rw [if_pos hh] at h2; cases h2
          refine ⟨?_, by omega, by omega, by omega, h4⟩
          rw [e1, e2, e3, e5, ← h3]
          simp [encT]
        · cases h

/-! ### Errors are none of OK -/
theorem tk_code {α : Type} {f : List Nat → α × Nat × Nat} {ref : α → Nat} {xs : List Nat} {e : Nat} (h : tk f ref xs = .error e) : e ≠ 0 := by
  unfold tk at h
  split at h
  · rename_i h1; cases h; exact h1
  · split at h
    · rename_i h1; cases h; exact h1
    · cases h

/-- No transaction's bytes are the beginning of another one's. -/
theorem encT_apart (n m k : Nat) (ws vs : List Wt) (h : okT (n : Int) ws) (h' : okT (m : Int) vs) (hk : k = min (encT n ws).length (encT m vs).length) : (encT n ws).take k = (encT m vs).take k ↔ n = m ∧ ws = vs := by
  constructor
  · intro e
    have key : ∀ (n m : Nat) (ws vs : List Wt), okT (n : Int) ws → okT (m : Int) vs → (encT n ws).length ≤ (encT m vs).length → encT n ws = (encT m vs).take (encT n ws).length → n = m ∧ ws = vs := by
      intro n m ws vs h h' hl e
      have e2 : encT m vs = encT n ws ++ (encT m vs).drop (encT n ws).length := by
        conv => rhs; lhs; rw [e]
        exact (List.take_append_drop _ _).symm
      have h1 := decT_back m vs h'
      rw [e2, decT_more n ws h] at h1
      unfold decE at h1
      split at h1
      · cases h1; exact ⟨rfl, rfl⟩
      · cases h1
    by_cases hl : (encT n ws).length ≤ (encT m vs).length
    · rw [hk, Nat.min_eq_left hl, List.take_of_length_le (Nat.le_refl _)] at e
      exact key n m ws vs h h' hl e
    · rw [hk, Nat.min_eq_right (by omega), List.take_of_length_le (l := encT m vs) (Nat.le_refl _)] at e
      obtain ⟨a, b⟩ := key m n vs ws h' h (by omega) e.symm
      exact ⟨a.symm, b.symm⟩
  · rintro ⟨rfl, rfl⟩
    rfl
end Go.Proofs.YtaefninikmaiiaaGreatDoor
/- A slice of bytes that came in, and the statements' own test of sizes. Conditions as each lemma names them. -/
namespace Go.Proofs.YtaefninikmaiiaaGreatDoor
open Go.ChangeShapes Go.WideShapes Go.ChangeAt Go.RowKit Go.Lib

/-- The slice that came in reads as the bytes xs. -/
structure BArg (w : World) (ao : Option Addr) (L cap : Nat) (xs : List Nat) : Prop where
  len : L = xs.length
  low : ∀ x ∈ xs, x < 256
  fits : L ≤ cap
  most : L ≤ 9223372036854775807
  lies : 0 < L → ∃ b off, ao = some ⟨b, off, none⟩ ∧ b < w.heap.size ∧ ∀ j, j < L → w.cell? ⟨b, off + j, none⟩ = some (.int .u8 ((xs.getD j 0 : Nat) : Int))
theorem BArg.keep {w w' : World} {ao : Option Addr} {L cap : Nat} {xs : List Nat} (h : BArg w ao L cap xs) (hf : Fr [] w w') : BArg w' ao L cap xs := by
  refine ⟨h.len, h.low, h.fits, h.most, fun h0 => ?_⟩
  obtain ⟨b, off, e, hb, hc⟩ := h.lies h0
  exact ⟨b, off, e, Nat.lt_of_lt_of_le hb hf.size, fun j hj => (World.cell?_of_block (hf.block b hb (by simp))).trans (hc j hj)⟩
theorem BArg.rs {w : World} {ao : Option Addr} {L cap : Nat} {xs : List Nat} (h : BArg w ao L cap xs) (hl : L < 2^41) : Rs w ao xs := by
  refine ⟨fun h0 => ?_, by rw [← h.len]; exact hl⟩
  rw [← h.len] at h0 ⊢
  obtain ⟨b, off, e, _, hc⟩ := h.lies h0
  exact ⟨b, off, e, hc⟩
theorem BArg.src {w : World} {ao : Option Addr} {L cap : Nat} {xs : List Nat} (h : BArg w ao L cap xs) : 0 < L → ∃ a, ao = some a ∧ ∀ j u, (bts xs)[j]? = some u → w.cell? (a.add j) = some u := by
  intro h0
  obtain ⟨b, off, e, _, hc⟩ := h.lies h0
  refine ⟨_, e, fun j u hj => ?_⟩
  have hj' : j < xs.length := by have := (List.getElem?_eq_some_iff.1 hj).1; rwa [bts_length] at this
  rw [bts_get xs j hj'] at hj
  rw [show (⟨b, off, none⟩ : Addr).add j = ⟨b, off + j, none⟩ from by simp [Addr.add], hc j (by rw [h.len]; exact hj')]
  exact hj
/-- What the frame of a law hands on of a slice of integers. -/
def IsRow (k : IntKind) (w : World) (a : Option Addr) (len cap : Nat) (zs : List Int) : Prop :=
  (a = none ∧ len = 0 ∧ cap = 0 ∧ zs = []) ∨
  ∃ x, a = some x ∧ len ≤ cap ∧ cap ≤ maxLen ∧ zs.length = cap ∧ (∀ i, i < zs.length → w.cell? (x.add i) = some (.int k (zs.getD i 0))) ∧ ∀ n ∈ zs, (Lit.int k n).wf = true
theorem BArg.of_row {w : World} {a : Option Addr} {len cap : Nat} {zs : List Int} (h : IsRow .u8 w a len cap zs) : ∃ xs, BArg w a len cap xs := by
  rcases h with ⟨rfl, rfl, rfl, rfl⟩ | ⟨x, rfl, hl, hm, hz, hc, hw⟩
  · exact ⟨[], rfl, by simp, Nat.le_refl _, by omega, fun h => by omega⟩
  · have hbd : ∀ n ∈ zs, 0 ≤ n ∧ n ≤ 255 := fun n hn => bounds_u8 (hw n hn)
    refine ⟨(zs.take len).map Int.toNat, ?_, ?_, hl, by simp only [maxLen] at hm; omega, ?_⟩
    · simp [hz]; omega
    · intro y hy
      obtain ⟨n, hn, rfl⟩ := List.mem_map.1 hy
      have := hbd n (List.mem_of_mem_take hn)
      omega
    · intro h0
      obtain ⟨b, off, spot⟩ := x
      have hspot : spot = none := by simpa [Addr.add] using World.cell?_spot (hc 0 (by omega))
      subst hspot
      refine ⟨b, off, rfl, ?_, fun j hj => ?_⟩
      · have := World.block_lt_of_cell? w _ (hc 0 (by omega))
        simpa [Addr.add] using this
      · have h1 := hc j (by omega)
        rw [show (⟨b, off, none⟩ : Addr).add j = ⟨b, off + j, none⟩ from by simp [Addr.add]] at h1
        rw [h1]
        have hjz : j < zs.length := by omega
        have hg : zs.getD j 0 = zs[j] := by simp [List.getD, hjz]
        have hb := hbd zs[j] (List.getElem_mem _)
        have e : ((zs.take len).map Int.toNat).getD j 0 = (zs[j]).toNat := by simp [List.getD, hj, hjz]
        rw [hg, e]
        congr 2
        omega

set_option maxHeartbeats 1000000 in
theorem beyond_any (k L : Nat) (w : World) (hL : L ≤ 9223372036854775807) (hc : w.cell? ⟨k, 0, none⟩ = some (.int .i64 (L : Int))) :
    Calls Tryz.prog 7 #[.slice (some ⟨k, 0, none⟩) 1 1] w fun e w' => e = .returned (.bool (decide (1048576 < L))) ∧ w = w' := by
  by_cases h : 1048576 < L
  · have h' : (1048576 : Int) < L := by omega
    have E : Hid (decide (1048576 < L) = true) := by simp [Hid, h]
    go_enter Tryz.func7, Tryz.ntmps7
    go_wp2_with fail
    refine wp_loop_rounds 1 ?_
    rw [rounds_succ]
    go_wp2
    go_ret
    rw [E.out]
    exact ⟨rfl, rfl⟩
  · have h' : (L : Int) ≤ 1048576 := by omega
    have E : Hid (decide (1048576 < L) = false) := by simp [Hid, h]
    go_enter Tryz.func7, Tryz.ntmps7
    go_wp2_with fail
    refine wp_loop_rounds 2 ?_
    rw [rounds_succ]
    go_wp2
    rw [rounds_succ]
    go_wp2
    go_ret
    rw [E.out]
    exact ⟨rfl, rfl⟩
end Go.Proofs.YtaefninikmaiiaaGreatDoor
