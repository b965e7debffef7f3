/- Texts of this claim laid together, one behind the other: contracts and plain lemmas; conditions as each names them. -/
import Derived.Test.YtaefninikmaiiaaGreatDoorRows
import Derived.WalkKit
import Derived.ProofKit
import Derived.OpenShut
import Derived.Deep.QuietTactic
import Derived.BigQuiet
import Derived.BigRegion
import Derived.Lib.AppendStr
import Derived.Laws.CopyOwn
import Derived.ShutString
import Derived.ChangeOld
import Derived.Below
import Derived.Deep.Slices
import Derived.SizedLaws
import Derived.Deep.RegionWith
import Derived.Deep.LoopGhost
import Derived.Laws.StructEq
import Derived.Laws.ResultCell
import Derived.Deep.RegionLaw
import Derived.Deep.RegionHeld3
import Derived.Deep.CutRange
/- What the codec's writers and readers are in memory: the frame of a call (which blocks it may write), bytes as cells, and what an append to a row of one's own leaves. No conditions but those each lemma names. -/
namespace Go.Proofs.YtaefninikmaiiaaGreatDoor
open Go.ChangeShapes Go.WideShapes Go.ChangeAt Go.RowKit Go.Lib

theorem Tryz.infoB : (Tryz.prog.info? 5).map (fun i => (i.zero, i.size, i.bytes)) = some (some (.int .u8 0), 1, 1) := by kernel_rfl
theorem Tryz.undStr : Tryz.prog.underlying 9 = some .string := by kernel_rfl

/-- Only blocks of S (and new ones) may differ. -/
structure Fr (S : List Nat) (w w' : World) : Prop where
  os : w'.os = w.os
  tape : w'.tape = w.tape
  output : w'.output = w.output
  size : w.heap.size ≤ w'.heap.size
  block : ∀ k, k < w.heap.size → k ∉ S → w'.heap[k]? = w.heap[k]?

theorem Fr.refl (S : List Nat) (w : World) : Fr S w w := ⟨rfl, rfl, rfl, Nat.le_refl _, fun _ _ _ => rfl⟩
theorem Fr.trans {S T U : List Nat} {a b c : World} (h : Fr S a b) (k : Fr T b c) (hS : ∀ x, x ∈ S → x < a.heap.size → x ∈ U) (hT : ∀ x, x ∈ T → x < a.heap.size → x ∈ U) : Fr U a c :=
  ⟨k.os.trans h.os, k.tape.trans h.tape, k.output.trans h.output, Nat.le_trans h.size k.size,
   fun i hi hn => (k.block i (Nat.lt_of_lt_of_le hi h.size) (fun x => hn (hT i x hi))).trans (h.block i hi (fun x => hn (hS i x hi)))⟩
theorem Fr.mono {S T : List Nat} {a b : World} (h : Fr S a b) (hS : ∀ x, x ∈ S → x < a.heap.size → x ∈ T) : Fr T a b :=
  ⟨h.os, h.tape, h.output, h.size, fun i hi hn => h.block i hi (fun x => hn (hS i x hi))⟩
theorem Fr.then {S : List Nat} {a b c : World} (h : Fr S a b) (k : Fr S b c) : Fr S a c := h.trans k (fun _ x _ => x) (fun _ x _ => x)
theorem Fr.alloc (S : List Nat) (w : World) (o : Obj) : Fr S w (w.alloc o) :=
  ⟨rfl, rfl, rfl, by simp, fun k hk _ => Below.heap_alloc _ _ _ hk⟩
theorem Fr.drew (S : List Nat) (w : World) : Fr S w w.drew := ⟨rfl, rfl, rfl, Nat.le_refl _, fun _ _ _ => rfl⟩
theorem Fr.drewN (S : List Nat) (w : World) (q : Nat) : Fr S w (w.drewN q) := ⟨rfl, rfl, rfl, Nat.le_refl _, fun _ _ _ => rfl⟩
theorem Fr.set {S : List Nat} (w : World) (p : Addr) (u : Value) (h : p.block ∈ S) : Fr S w (w.setCell p u) :=
  ⟨rfl, rfl, rfl, by simp [World.setCell], fun k _ hn => Below.heap_setCell _ _ _ _ (fun e => hn (e ▸ h))⟩
theorem Fr.grown {S : List Nat} {w w' : World} {row : Option Nat} (hg : w.grownBy w' row) (h : ∀ k, row = some k → k < w.heap.size → k ∈ S) : Fr S w w' :=
  ⟨hg.os, hg.tape, hg.output, hg.size, fun k hk hn => hg.block k hk (fun e => hn (h k e.symm hk))⟩
theorem Fr.below {S : List Nat} {w w' : World} {B : Nat} (h : Fr S w w') (hB : B ≤ w.heap.size) (hS : ∀ x, x ∈ S → B ≤ x) : Below B w w' :=
  ⟨h.os, h.tape, h.output, h.size, fun k hk => h.block k (by omega) (fun x => by have := hS k x; omega)⟩
theorem Fr.keep {S : List Nat} {w w' : World} (h : Fr S w w') {b : Nat} {o : Obj} (hb : w.heap[b]? = some o) (hn : b ∉ S) : w'.heap[b]? = some o :=
  (h.block b (lt_of_block hb) hn).trans hb

/-- Bytes as cells. -/
def bts (xs : List Nat) : List Value := xs.map fun (x : Nat) => Value.int .u8 (x : Int)
theorem bts_length (xs : List Nat) : (bts xs).length = xs.length := by simp [bts]
theorem bts_append (xs ys : List Nat) : bts (xs ++ ys) = bts xs ++ bts ys := by simp [bts]
theorem bts_get (xs : List Nat) (j : Nat) (h : j < xs.length) : (bts xs)[j]? = some (.int .u8 ((xs.getD j 0 : Nat) : Int)) := by
  simp [bts, List.getD, h]
theorem bts_oneCell (xs : List Nat) : ∀ u ∈ bts xs, u.oneCell' = true := by
  intro u hu
  obtain ⟨_, _, rfl⟩ := List.mem_map.1 hu
  rfl
/-- A string's bytes as numbers. -/
def strNs (s : ByteArray) : List Nat := s.data.toList.map fun b => b.toNat
theorem strNs_length (s : ByteArray) : (strNs s).length = s.size := by
  rw [strNs, List.length_map, Array.length_toList]
  rfl
theorem bts_strNs (s : ByteArray) : bts (strNs s) = strCells s := by simp [bts, strNs, strCells]
theorem strNs_lt (s : ByteArray) : ∀ x ∈ strNs s, x < 256 := by
  intro x hx
  obtain ⟨b, _, rfl⟩ := List.mem_map.1 hx
  exact b.toNat_lt

/-- The row that a slice owns moved to a new block, or not at all. -/
def Moved (n : Nat) (v v' : Value) : Prop := v'.ownBlock = v.ownBlock ∨ ∃ k, v'.ownBlock = some k ∧ n ≤ k

theorem Moved.refl (n : Nat) (v : Value) : Moved n v v := Or.inl rfl
theorem Moved.trans {n m : Nat} {a b c : Value} (h : Moved n a b) (k : Moved m b c) (hnm : n ≤ m) : Moved n a c := by
  rcases k with k | ⟨x, k1, k2⟩
  · rcases h with h | ⟨y, h1, h2⟩
    · exact Or.inl (k.trans h)
    · exact Or.inr ⟨y, k.trans h1, h2⟩
  · exact Or.inr ⟨x, k1, by omega⟩
theorem Moved.lt {n B : Nat} {v v' : Value} (h : Moved n v v') (hB : B ≤ n) (hv : ∀ k, v.ownBlock = some k → B ≤ k) : ∀ k, v'.ownBlock = some k → B ≤ k := by
  intro k hk
  rcases h with h | ⟨y, h1, h2⟩
  · exact hv k (h ▸ hk)
  · rw [h1] at hk; cases hk; omega

section
variable {P : Program} (w : World)

theorem moved_app (t ty e : TypeId) (i : TypeInfo) (z : Value) (size bytes : Nat) (ht : P.underlying t = some (.slice e)) (hi : P.info? e = some i) (hz : i.zero = some z)
    (hsize : i.size = size) (hby : i.bytes = bytes)
    (v : Value) (n : Nat) (xs : List Value) (hown : w.ownsRow 0 e size v n xs)
    (a : Addr) (m c : Nat) (news : List Value) (hm : 0 < m) (hl : news.length = m * size) (hnews : ∀ j u, news[j]? = some u → w.cell? (a.add j) = some u) (h1 : ∀ u ∈ news, u.oneCell' = true)
    (h63 : n + m ≤ maxLen) (hbytes : (n + m) * bytes ≤ 140737488355328) (v' : Value) (w' : World)
    (hr : (Builtin.append_ #[t, t] ty #[v, .slice (some a) m c]).run P w = .ok v' w') : Moved w.heap.size v v' := by
  subst hsize
  subst hby
  have hsmall : n + m ≤ 9223372036854775807 := by simp only [maxLen] at h63; omega
  rcases hown.2 with ⟨rfl, rfl⟩ | ⟨g, cap, cur, rfl, hbg, hg, hnc, hcm, hcs, htake⟩
  · have hr2 := run_append_nil (P := P) w t ty e i z ht hi hz a m c news hl hnews (by omega) (by omega) (by have hb := hbytes; simp only [Nat.zero_add] at hb; omega)
    rw [hr] at hr2
    cases hr2
    exact Or.inr ⟨_, rfl, Nat.le_refl _⟩
  · by_cases hroom : n + m ≤ cap
    · have hfit : n * i.size + news.length ≤ cur.size := by rw [hl, hcs, ← Nat.add_mul]; exact Nat.mul_le_mul_right _ hroom
      have hr2 := run_append_room (P := P) w t ty e i ht hi g n cap cur hg a m c news hl hnews h1 hroom hfit
      rw [hr] at hr2
      cases hr2
      exact Or.inl rfl
    · have holds : ∀ j u, xs[j]? = some u → w.cell? ((⟨g, 0, none⟩ : Addr).add j) = some u := hown.cells (g := g) rfl
      have hr2 := run_append_grow (P := P) w t ty e i z ht hi hz ⟨g, 0, none⟩ n cap xs hown.1 holds a m c news hl hnews (by omega) (by omega) (growslice_fits (by omega) hbytes)
      rw [hr] at hr2
      cases hr2
      exact Or.inr ⟨_, rfl, Nat.le_refl _⟩

theorem moved_appS (t u ty e : TypeId) (i : TypeInfo) (ht : P.underlying t = some (.slice e)) (hu : P.underlying u = some .string) (hi : P.info? e = some i) (hz : i.zero = some (.int .u8 0))
    (hsize : i.size = 1) (hby : i.bytes = 1)
    (v : Value) (n : Nat) (xs : List Value) (hown : w.ownsRow 0 e 1 v n xs) (s : ByteArray)
    (h63 : n + s.size ≤ maxLen) (hbytes : n + s.size ≤ 140737488355328) (v' : Value) (w' : World)
    (hr : (Builtin.append_ #[t, u] ty #[v, .string s]).run P w = .ok v' w') (hnil : v' = .slice none 0 0 ↔ v = .slice none 0 0 ∧ s.size = 0) : Moved w.heap.size v v' := by
  have hsmall : n + s.size ≤ 9223372036854775807 := by simp only [maxLen] at h63; omega
  rcases hown.2 with ⟨rfl, rfl⟩ | ⟨g, cap, cur, rfl, hbg, hg, hnc, hcm, hcs, htake⟩
  · by_cases hm : s.size = 0
    · rw [hnil.2 ⟨rfl, hm⟩]
      exact Moved.refl _ _
    · have hr2 := run_append_nil_string (P := P) w t u ty e i (.int .u8 0) ht hu hi hz s (by omega) (by omega) (by rw [hby]; omega)
      rw [hr] at hr2
      cases hr2
      exact Or.inr ⟨_, rfl, Nat.le_refl _⟩
  · by_cases hroom : n + s.size ≤ cap
    · have hcs' : cur.size = cap := by simpa using hcs
      have hr2 := run_append_room_string (P := P) w t u ty e i ht hu hi hsize g n cap cur hg s hroom (by omega)
      rw [hr] at hr2
      cases hr2
      exact Or.inl rfl
    · have holds : ∀ j u, xs[j]? = some u → w.cell? ((⟨g, 0, none⟩ : Addr).add j) = some u := hown.cells (g := g) rfl
      have hr2 := run_append_grow_string (P := P) w t u ty e i (.int .u8 0) ht hu hi hz ⟨g, 0, none⟩ n cap xs (by rw [hsize]; exact hown.1) holds s (by omega) (by omega) (by rw [hby]; exact growslice_fits (by omega) (by omega))
      rw [hr] at hr2
      cases hr2
      exact Or.inr ⟨_, rfl, Nat.le_refl _⟩

/-- A string's bytes behind a row of one's own. -/
theorem wpList_appS {ops : Array Oper} {rest : List Oper} {o : Oper} {a : Act} {Q : Exit → Act → World → Prop} (hgd : o.guard = none) (sl x : Operand) (t u : TypeId)
    (ho : o.op = .call { callee := .builtin .append, args := #[sl, x], argTypes := #[t, u] })
    (e : TypeId) (i : TypeInfo) (ht : P.underlying t = some (.slice e)) (hu : P.underlying u = some .string) (hi : P.info? e = some i) (hz : i.zero = some (.int .u8 0))
    (hsize : i.size = 1) (hby : i.bytes = 1)
    (v : Value) (n : Nat) (xs : List Value) (hs : a.eval sl = v) (hown : w.ownsRow 0 e 1 v n xs) (s : ByteArray) (hx : a.eval x = .string s)
    (hbytes : n + s.size ≤ 140737488355328) (h63 : n + s.size ≤ maxLen)
    (h : ∀ ao n' cap w', n' = n + s.size → w'.ownsRow 0 e 1 (.slice ao n' cap) n' (xs ++ strCells s) → w.grownBy w' v.ownBlock → Moved w.heap.size v (.slice ao n' cap) → wpList P ops Q rest (a.put o.dst (.slice ao n' cap)) w') : wpList P ops Q (o :: rest) a w := by
  refine wpList_plain hgd fun K hK => ?_
  obtain ⟨v', w', hr, h2, h3, h4⟩ := run_append_own_string (P := P) w 0 t u o.type e i ht hu hi hz hsize hby v n xs hown s h63 hbytes (Nat.zero_le _)
  have hmv := moved_appS (P := P) w t u o.type e i ht hu hi hz hsize hby v n xs hown s h63 hbytes v' w' hr h4
  obtain ⟨ao, cap, rfl⟩ : ∃ ao cap, v' = .slice ao (n + s.size) cap := by
    rcases h2.2 with ⟨hh, h0⟩ | ⟨g, cap', _, hh, _⟩
    · exact ⟨none, 0, by rw [hh, h0]⟩
    · exact ⟨_, cap', hh⟩
  unfold Oper.wp execOp
  simp only [ho, resolve, invoke, builtin, Sem.run_bind, Sem.run_pure, Result.andThen_ok, List.map_toArray, List.map_cons, List.map_nil, hs, hx, hr]
  exact hK _ _ (h ao _ cap w' rfl h2 h3 hmv)

/-- One more element behind a row of one's own, laid in a block of its own ahead of it. -/
theorem wpList_app1 {ops : Array Oper} {rest : List Oper} {o : Oper} {a : Act} {Q : Exit → Act → World → Prop} (hgd : o.guard = none) (s x : Operand) (t : TypeId)
    (ho : o.op = .call { callee := .builtin .append, args := #[s, x], argTypes := #[t, t] })
    (e : TypeId) (i : TypeInfo) (z : Value) (size bytes : Nat) (ht : P.underlying t = some (.slice e)) (hi : P.info? e = some i) (hz : i.zero = some z)
    (hsize : i.size = size) (hby : i.bytes = bytes) (hzs : z.cells.size = size) (hsz : 0 < size)
    (v : Value) (n : Nat) (xs : List Value) (hs : a.eval s = v) (hown : w.ownsRow 0 e size v n xs)
    (ad : Addr) (c : Nat) (news : List Value) (hx : a.eval x = .slice (some ad) 1 c) (hl : news.length = size) (hnews : ∀ j u, news[j]? = some u → w.cell? (ad.add j) = some u) (h1 : ∀ u ∈ news, u.oneCell' = true)
    (hbytes : (n + 1) * bytes ≤ 140737488355328) (h63 : n + 1 ≤ maxLen)
    (h : ∀ g cap w', w'.ownsRow 0 e size (.slice (some ⟨g, 0, none⟩) (n + 1) cap) (n + 1) (xs ++ news) → w.grownBy w' v.ownBlock → Moved w.heap.size v (.slice (some ⟨g, 0, none⟩) (n + 1) cap) → wpList P ops Q rest (a.put o.dst (.slice (some ⟨g, 0, none⟩) (n + 1) cap)) w') : wpList P ops Q (o :: rest) a w := by
  refine wpList_plain hgd fun K hK => ?_
  have hl' : news.length = 1 * size := by omega
  obtain ⟨v', w', hr, h2, h3, h4⟩ := run_append_own (P := P) w 0 t o.type e i z size bytes ht hi hz hsize hby hzs hsz v n xs hown ad 1 c news hl' hnews h1 h63 hbytes (Nat.zero_le _)
  have hmv := moved_app (P := P) w t o.type e i z size bytes ht hi hz hsize hby v n xs hown ad 1 c news (by omega) hl' hnews h1 h63 hbytes v' w' hr
  obtain ⟨g, cap, rfl⟩ : ∃ g cap, v' = .slice (some ⟨g, 0, none⟩) (n + 1) cap := by
    rcases h2.2 with ⟨_, hh⟩ | ⟨g, cap', _, hh, _⟩
    · omega
    · exact ⟨g, cap', hh⟩
  unfold Oper.wp execOp
  simp only [ho, resolve, invoke, builtin, Sem.run_bind, Sem.run_pure, Result.andThen_ok, List.map_toArray, List.map_cons, List.map_nil, hs, hx, hr]
  exact hK _ _ (h g cap w' h2 h3 hmv)
end

/-- A row of one's own stays where the frame leaves it. -/
theorem owns_keep {S : List Nat} {w w' : World} {e : TypeId} {size : Nat} {v : Value} {n : Nat} {xs : List Value} (h : w.ownsRow 0 e size v n xs) (hf : Fr S w w') (hn : ∀ k, v.ownBlock = some k → k ∉ S) : w'.ownsRow 0 e size v n xs := by
  refine ⟨h.1, ?_⟩
  rcases h.2 with hh | ⟨g, cap, cur, rfl, hb, hgg, rest⟩
  · exact .inl hh
  · exact .inr ⟨g, cap, cur, rfl, hb, hf.keep hgg (hn g rfl), rest⟩

theorem two_setCell1 {w : World} {b : Nat} {u v x : Value} {t : TypeId} (h : w.heap[b]? = some (.cells #[u, v] t (0, 0))) : (w.setCell ⟨b, 1, none⟩ x).heap[b]? = some (.cells #[u, x] t (0, 0)) := by
  have hlt := lt_of_block h
  have h' : w.heap[b] = .cells #[u, v] t (0, 0) := by simpa [Array.getElem?_eq_getElem hlt] using h
  show (w.heap.modify b _)[b]? = _
  rw [Array.getElem?_eq_getElem (by simpa using hlt), Array.getElem_modify_self, h']
  rfl

theorem own_lit {w : World} {e : TypeId} {g n cap : Nat} {xs : List Value} (h : w.ownsRow 0 e 1 (.slice (some ⟨g, 0, none⟩) n cap) n xs) : ∃ cur, w.heap[g]? = some (.cells cur e (0, 0)) ∧ cur.size = cap := by
  rcases h.2 with ⟨hh, _⟩ | ⟨g', cap', cur, hh, _, hg, _, _, hcs, _⟩
  · cases hh
  · cases hh
    exact ⟨cur, hg, by simpa using hcs⟩
theorem Tryz.sizeB : (Tryz.prog.info? 5).map (fun i => i.size) = some 1 := by kernel_rfl
theorem Fr.setRow (w : World) (g : Nat) (cs : Array Value) : Fr [g] w (w.setRow g cs) :=
  ⟨rfl, rfl, rfl, by simp [World.setRow], fun k _ hn => setRow_other w g k cs (by simpa using hn)⟩
theorem Fr.on {T : List Nat} {a b c : World} (h : Fr [] a b) (k : Fr T b c) (hT : ∀ x, x ∈ T → a.heap.size ≤ x) : Fr [] a c :=
  h.trans k (fun _ x _ => x) (fun x hx hl => by have := hT x hx; omega)
end Go.Proofs.YtaefninikmaiiaaGreatDoor
/- A slice of bytes that came in, and the statements' own test of sizes. Conditions as each lemma names them. -/
namespace Go.Proofs.YtaefninikmaiiaaGreatDoor
open Go.ChangeShapes Go.WideShapes Go.ChangeAt Go.RowKit Go.Lib

set_option maxHeartbeats 1000000 in
theorem beyond_any (k L : Nat) (w : World) (hL : L ≤ 9223372036854775807) (hc : w.cell? ⟨k, 0, none⟩ = some (.int .i64 (L : Int))) :
    Calls Tryz.prog 7 #[.slice (some ⟨k, 0, none⟩) 1 1] w fun e w' => e = .returned (.bool (decide (1048576 < L))) ∧ w = w' := by
  by_cases h : 1048576 < L
  · have h' : (1048576 : Int) < L := by omega
    have E : Hid (decide (1048576 < L) = true) := by simp [Hid, h]
    go_enter Tryz.func7, Tryz.ntmps7
    go_wp2_with fail
    refine wp_loop_rounds 1 ?_
    rw [rounds_succ]
    go_wp2
    go_ret
    rw [E.out]
    exact ⟨rfl, rfl⟩
  · have h' : (L : Int) ≤ 1048576 := by omega
    have E : Hid (decide (1048576 < L) = false) := by simp [Hid, h]
    go_enter Tryz.func7, Tryz.ntmps7
    go_wp2_with fail
    refine wp_loop_rounds 2 ?_
    rw [rounds_succ]
    go_wp2
    rw [rounds_succ]
    go_wp2
    go_ret
    rw [E.out]
    exact ⟨rfl, rfl⟩
end Go.Proofs.YtaefninikmaiiaaGreatDoor
/- Transactions as plain things. Plain lemmas. -/
namespace Go.Proofs.YtaefninikmaiiaaGreatDoor
open Go.ChangeShapes Go.WideShapes Go.ChangeAt Go.RowKit Go.Lib

/-- A write. -/
structure Wt where
  key : ByteArray
  val : ByteArray
  drop : Bool

def noS : ByteArray := ⟨#[]⟩
theorem noS_iff (s : ByteArray) : s.size = 0 ↔ s = noS := by
  constructor
  · intro h
    cases s with
    | mk d =>
      have hd : d.size = 0 := h
      have : d = #[] := Array.eq_empty_of_size_eq_zero hd
      rw [this]
      rfl
  · rintro rfl
    rfl

/-- May a write be? -/
def okW (x : Wt) : Prop := 1 ≤ x.key.size ∧ x.key.size ≤ 64 ∧ x.val.size ≤ 1024 ∧ (x.drop = true → x.val = noS)
/-- May a transaction be? -/
def okT (n : Int) (ws : List Wt) : Prop := 1 ≤ n ∧ n ≤ 65536 ∧ ws.length ≤ 32 ∧ ∀ x ∈ ws, okW x

def refN (n : Nat) : Nat := if n < 1 ∨ 65536 < n then 1 else 0
def refC (n : Nat) : Nat := if 32 < n then 3 else 0
def refK (s : ByteArray) : Nat := if s.size = 0 then 1 else 0
def refD (n : Nat) : Nat := if n = 0 ∨ n = 1 then 0 else 4
def refV (_ : ByteArray) : Nat := 0
theorem drop_left (a b : List Nat) : (a ++ b).drop a.length = b := List.drop_left
theorem take_low (a b : List Nat) (k : Nat) (h : k < a.length) : (a ++ b).take k = a.take k := by
  rw [List.take_append_of_le_length (by omega)]
theorem take_high (a b : List Nat) (k : Nat) (h : a.length ≤ k) : (a ++ b).take k = a ++ b.take (k - a.length) := by
  rw [List.take_append, List.take_of_length_le h]

theorem refK_ok {x : Wt} (h : okW x) : refK x.key = 0 := by
  unfold refK
  rw [if_neg (by have := h.1; omega)]

theorem refN_ok {n : Nat} {ws : List Wt} (h : okT (n : Int) ws) : refN n = 0 := by
  unfold refN
  rw [if_neg (by have := h.1; have := h.2.1; omega)]
theorem refC_ok {n : Int} {ws : List Wt} (h : okT n ws) : refC ws.length = 0 := by
  unfold refC
  rw [if_neg (by have := h.2.2.1; omega)]
/-! ### What is taken is told again -/
theorem lt_drop {xs : List Nat} (hb : ∀ x ∈ xs, x < 256) (k : Nat) : ∀ x ∈ xs.drop k, x < 256 := fun x hx => hb x (List.mem_of_mem_drop hx)
/-! ### Errors are none of OK -/
end Go.Proofs.YtaefninikmaiiaaGreatDoor
/- Writes in memory: cells, slices of writes that read as a list, structs of a transaction. Conditions as each lemma names them. -/
namespace Go.Proofs.YtaefninikmaiiaaGreatDoor
open Go.ChangeShapes Go.WideShapes Go.ChangeAt Go.RowKit Go.Lib

def Wt.zero : Wt := ⟨noS, noS, false⟩
/-- A write's cells. -/
def wtC (x : Wt) : List Value := [.string x.key, .string x.val, .bool x.drop]
def wtsC : List Wt → List Value
  | [] => []
  | x :: r => wtC x ++ wtsC r
theorem wtsC_append (a b : List Wt) : wtsC (a ++ b) = wtsC a ++ wtsC b := by
  induction a with
  | nil => rfl
  | cons v r ih => simp [wtsC, ih]
theorem wtsC_length (a : List Wt) : (wtsC a).length = a.length * 3 := by
  induction a with
  | nil => rfl
  | cons v r ih => simp only [wtsC, wtC, List.length_append, List.length_cons, List.length_nil, ih]; omega
theorem wtsC_get (a : List Wt) (j c : Nat) (hj : j < a.length) (hc : c < 3) : (wtsC a)[j * 3 + c]? = (wtC (a.getD j Wt.zero))[c]? := by
  induction a generalizing j with
  | nil => simp at hj
  | cons v r ih =>
    cases j with
    | zero =>
      simp only [wtsC, Nat.zero_mul, Nat.zero_add]
      rw [List.getElem?_append_left (by simp [wtC]; omega)]
      simp
    | succ j =>
      simp only [wtsC]
      rw [List.getElem?_append_right (by simp [wtC]; omega)]
      have e : (j + 1) * 3 + c - (wtC v).length = j * 3 + c := by simp [wtC]; omega
      rw [e, ih j (by simpa using hj)]
      simp
theorem wtsC_oneCell (a : List Wt) : ∀ u ∈ wtsC a, u.oneCell' = true := by
  induction a with
  | nil => intro u hu; simp [wtsC] at hu
  | cons v r ih =>
    intro u hu
    rcases List.mem_append.1 hu with h | h
    · simp only [wtC, List.mem_cons, List.not_mem_nil, or_false] at h
      rcases h with rfl | rfl | rfl <;> rfl
    · exact ih u h

/-- A write lies at o in block b. -/
structure WAt (w : World) (b o : Nat) (x : Wt) : Prop where
  c0 : w.cell? ⟨b, o, none⟩ = some (.string x.key)
  c1 : w.cell? ⟨b, o + 1, none⟩ = some (.string x.val)
  c2 : w.cell? ⟨b, o + 2, none⟩ = some (.bool x.drop)
/-- The slice at ao reads as the writes ws. -/
structure WRs (w : World) (ao : Option Addr) (ws : List Wt) : Prop where
  lies : 0 < ws.length → ∃ b off, ao = some ⟨b, off, none⟩ ∧ b < w.heap.size ∧ ∀ i, i < ws.length → WAt w b (off + i * 3) (ws.getD i Wt.zero)
  few : ws.length ≤ 140737488355328
  each : ∀ x ∈ ws, x.key.size ≤ 140737488355328 ∧ x.val.size ≤ 140737488355328
theorem WRs.nil (w : World) (ao : Option Addr) : WRs w ao [] := ⟨fun h => by simp at h, by simp, by simp⟩
theorem WRs.keepS {S : List Nat} {w w' : World} {ao : Option Addr} {ws : List Wt} (h : WRs w ao ws) (hf : Fr S w w') (hn : 0 < ws.length → ∀ a, ao = some a → a.block ∉ S) : WRs w' ao ws := by
  refine ⟨fun h0 => ?_, h.few, h.each⟩
  obtain ⟨b, off, e, hb, hc⟩ := h.lies h0
  have hk : ∀ o, w'.cell? ⟨b, o, none⟩ = w.cell? ⟨b, o, none⟩ := fun o => World.cell?_of_block (hf.block b hb (hn h0 _ e))
  exact ⟨b, off, e, Nat.lt_of_lt_of_le hb hf.size, fun i hi => ⟨(hk _).trans (hc i hi).c0, (hk _).trans (hc i hi).c1, (hk _).trans (hc i hi).c2⟩⟩
theorem WRs.keep {w w' : World} {ao : Option Addr} {ws : List Wt} (h : WRs w ao ws) (hf : Fr [] w w') : WRs w' ao ws := h.keepS hf (by simp)
theorem WRs.of_row {w : World} {b : Nat} {ws : List Wt} {rest : List Value} {t : TypeId} {f : Nat × Nat} (h : w.heap[b]? = some (.cells (wtsC ws ++ rest).toArray t f)) (hl : ws.length ≤ 140737488355328) (he : ∀ x ∈ ws, x.key.size ≤ 140737488355328 ∧ x.val.size ≤ 140737488355328) : WRs w (some ⟨b, 0, none⟩) ws := by
  refine ⟨fun _ => ⟨b, 0, rfl, lt_of_block h, fun i hi => ?_⟩, hl, he⟩
  have key : ∀ c, c < 3 → w.cell? ⟨b, 0 + i * 3 + c, none⟩ = (wtC (ws.getD i Wt.zero))[c]? := by
    intro c hc
    rw [cell_of_row _ _ _ _ _ _ h, Nat.zero_add, ← wtsC_get ws i c hi hc]
    have hlt : i * 3 + c < (wtsC ws).length := by rw [wtsC_length]; omega
    simp [List.getElem?_append_left hlt]
  exact ⟨key 0 (by omega), key 1 (by omega), key 2 (by omega)⟩
theorem wgetD_mem (ws : List Wt) (i : Nat) (h : i < ws.length) : ws.getD i Wt.zero ∈ ws := by simp [List.getD, h]
theorem wtake_snoc (ws : List Wt) (i : Nat) (h : i < ws.length) : ws.take (i + 1) = ws.take i ++ [ws.getD i Wt.zero] := by
  rw [List.take_add_one]
  simp [List.getD, h]

/-- A transaction as a value. -/
def txV (n : Int) (ao : Option Addr) (L cap : Nat) : Value := .agg #[.int .i64 n, .slice ao L cap]

theorem tl_nil (s : ByteArray) : s.toList = [] ↔ s.size = 0 := by
  rw [ByteArray.toList_eq]
  constructor
  · intro h
    have h2 := congrArg List.length h
    simpa [Array.length_toList] using h2
  · intro h
    have h2 : s.data.toList.length = 0 := by rw [Array.length_toList]; exact h
    exact List.eq_nil_of_length_eq_zero h2
theorem tl_inj (a b : ByteArray) : a.toList = b.toList ↔ a = b := by
  rw [ByteArray.toList_eq, ByteArray.toList_eq]
  constructor
  · intro h
    exact bytes_inj h
  · rintro rfl
    rfl
theorem okW_iff (key val : ByteArray) (drop : Bool) : okW ⟨key, val, drop⟩ ↔ (¬ key.toList = []) ∧ (key.size : Int) ≤ 64 ∧ (val.size : Int) ≤ 1024 ∧ (drop = true → val.toList = []) := by
  unfold okW
  rw [tl_nil, tl_nil, ← noS_iff]
  simp only
  constructor
  · rintro ⟨h1, h2, h3, h4⟩
    exact ⟨by omega, by omega, by omega, h4⟩
  · rintro ⟨h1, h2, h3, h4⟩
    exact ⟨by omega, by omega, by omega, h4⟩
end Go.Proofs.YtaefninikmaiiaaGreatDoor
/- A transaction that came in: how it lies in memory. Conditions as each lemma names them. -/
namespace Go.Proofs.YtaefninikmaiiaaGreatDoor
open Go.ChangeShapes Go.WideShapes Go.ChangeAt Go.RowKit Go.Lib
set_option linter.unusedVariables false
section
variable {H : Type} {enc : TypeId × Value → H}
theorem weightsAll_mem {P : Program} {e : TypeId} : ∀ {ds : List (DataW H)} {d : DataW H}, d ∈ ds → ∀ n ∈ d.weights P e, n ∈ DataW.weightsAll P e ds
  | x :: r, d, hd, n, hn => by
    simp only [DataW.weightsAll, List.mem_append]
    rcases List.mem_cons.1 hd with rfl | hd
    · exact Or.inl hn
    · exact Or.inr (weightsAll_mem hd n hn)
theorem Tryz.undWs' : Tryz.prog.underlying 61 = some (.slice 124) := by kernel_rfl
theorem Tryz.cellsWt : Tryz.prog.cellsOf 124 = 3 := by kernel_rfl
theorem Tryz.wtFields : (match Tryz.prog.underlying 124 with | some (.struct fs) => fs.toList.map (fun f => (f.type, f.offset)) | _ => []) = [(9, 0), (9, 1), (4, 2)] := by kernel_rfl
theorem Tryz.cellsT : Tryz.prog.cellsOf 63 = 2 := by kernel_rfl
theorem Tryz.tFields : (match Tryz.prog.underlying 63 with | some (.struct fs) => fs.toList.map (fun f => (f.type, f.offset)) | _ => []) = [(3, 0), (61, 1)] := by kernel_rfl
theorem Tryz.undI : Tryz.prog.underlying 3 = some (.int .i64) := by kernel_rfl
theorem Tryz.undBl : Tryz.prog.underlying 4 = some .bool := by kernel_rfl
theorem Tryz.cBl : Tryz.prog.cellsOf 4 = 1 := by kernel_rfl
theorem Tryz.cI : Tryz.prog.cellsOf 3 = 1 := by kernel_rfl
theorem Tryz.cS : Tryz.prog.cellsOf 9 = 1 := by kernel_rfl
theorem Tryz.cWs : Tryz.prog.cellsOf 61 = 1 := by kernel_rfl
set_option maxRecDepth 100000 in
theorem wt_open {w : World} {base : Nat} {spare : Nat → Bool} {held : Bool} {fuel : Nat} {cs : List Value} {x : DataW H × List MemPlace} (h : DataW.trod enc Tryz.prog w base spare held fuel 124 cs = some x) :
    ∃ v : Wt, cs = [.string v.key, .string v.val, .bool v.drop] ∧ v.key.size ∈ x.1.weights Tryz.prog 124 ∧ v.val.size ∈ x.1.weights Tryz.prog 124 := by
  have hF := Tryz.wtFields
  cases hu : Tryz.prog.underlying 124 with
  | none => rw [hu] at hF; simp at hF
  | some u =>
    rw [hu] at hF
    cases u with
    | struct fs =>
      simp only at hF
      obtain ⟨ys, n, _, hx, hlen, hys, hf⟩ := DataW.trod_struct hu h
      rw [Tryz.cellsWt] at hlen
      match cs, hlen with
      | [v0, v1, v2], _ =>
        have hl3 : fs.toList.length = 3 := by have := congrArg List.length hF; simpa using this
        obtain ⟨l, hl⟩ : ∃ l, l = fs.toList := ⟨_, rfl⟩
        rw [← hl] at hF hl3
        match l, hl3 with
        | [f0, f1, f2], _ =>
          simp only [List.map_cons, List.map_nil, List.cons.injEq, Prod.mk.injEq, and_true] at hF
          obtain ⟨⟨t0, o0⟩, ⟨t1, o1⟩, ⟨t2, o2⟩⟩ := hF
          have g : ∀ (i : Nat) (f : Field), [f0, f1, f2][i]? = some f → fs[i]? = some f := by
            intro i f hi
            rw [hl] at hi
            simpa using hi
          have r0 := hf 0 f0 (g 0 f0 rfl)
          have r1 := hf 1 f1 (g 1 f1 rfl)
          have r2 := hf 2 f2 (g 2 f2 rfl)
          rw [t0, o0, Tryz.cS] at r0
          rw [t1, o1, Tryz.cS] at r1
          rw [t2, o2, Tryz.cBl] at r2
          simp only [List.drop_zero, List.drop_succ_cons, List.take_succ_cons, List.take_zero] at r0 r1 r2
          have hy3 : ys.length = 3 := by rw [hys]; have := congrArg List.length hl; simpa using this.symm
          match ys, hy3 with
          | [y0, y1, y2], _ =>
            simp only [List.getElem?_cons_zero, List.getElem?_cons_succ] at r0 r1 r2
            obtain ⟨s0, e0, x0, _⟩ := DataW.trod_string Tryz.undStr r0
            obtain ⟨s1, e1, x1, _⟩ := DataW.trod_string Tryz.undStr r1
            obtain ⟨b2, e2, _⟩ := DataW.trod_bool Tryz.undBl r2
            simp only [List.cons.injEq, and_true] at e0 e1 e2
            have hty : fs.toList.map (·.type) = [9, 9, 4] := by rw [← hl]; simp [t0, t1, t2]
            refine ⟨⟨s0, s1, b2⟩, by rw [e0, e1, e2], ?_, ?_⟩
            · rw [hx]
              simp only [DataW.weights, hu]
              rw [hty]
              refine DataW.weights_mem_each (j := 0) (t := 9) (d := y0.1) rfl rfl _ ?_
              rw [x0]
              simp only [DataW.weights, List.mem_singleton]
              show s0.data.size = _
              simp
            · rw [hx]
              simp only [DataW.weights, hu]
              rw [hty]
              refine DataW.weights_mem_each (j := 1) (t := 9) (d := y1.1) rfl rfl _ ?_
              rw [x1]
              simp only [DataW.weights, List.mem_singleton]
              show s1.data.size = _
              simp
    | _ => simp at hF
set_option maxRecDepth 100000 in
theorem ws_open {w : World} {fuel : Nat} {v : Value} {d : DataW H} {ps : List MemPlace} (h : DataW.trod enc Tryz.prog w 0 (fun _ => true) true fuel 61 [v] = some (d, ps)) (hsz : ∀ n ∈ d.weights Tryz.prog 61, n ≤ reachBytes) :
    ∃ ao L cap ws, v = .slice ao L cap ∧ WRs w ao ws ∧ L = ws.length := by
  rcases Go.Deep.open_slice Tryz.undWs' h with ⟨hcs, _⟩ | ⟨a, len, cap, m, n, D, Pl, hcs, hb, hl, hm, hmm, hx, hE⟩
  · simp only [List.cons.injEq, and_true] at hcs
    exact ⟨none, 0, 0, [], hcs, WRs.nil _ _, rfl⟩
  · simp only [List.cons.injEq, and_true] at hcs
    simp only [if_true] at hmm
    subst hmm
    rw [Tryz.cellsWt] at hE hx
    have hO : ∀ i, i < m → ∃ o : Wt, (w.cells? 0 (a.add (i * 3)) 3 = some [.string o.key, .string o.val, .bool o.drop]) ∧ o.key.size ∈ (D i).weights Tryz.prog 124 ∧ o.val.size ∈ (D i).weights Tryz.prog 124 := by
      intro i hi
      obtain ⟨cs', h1, h2⟩ := hE i hi
      obtain ⟨o, rfl, rest⟩ := wt_open h2
      exact ⟨o, h1, rest⟩
    haveI : Inhabited Wt := ⟨Wt.zero⟩
    obtain ⟨F, hF⟩ := Go.Deep.choose_lt hO
    have hd : d = .slice ((List.range len).map D) ((List.range (m - len)).map fun j => D (len + j)) := by have := congrArg Prod.fst hx; simpa using this
    have hr := reachBytes_lt
    have hlen : len ≤ 140737488355328 := by
      have hw : len * Tryz.prog.bytesOf 124 ≤ reachBytes := by
        refine Nat.le_trans (Nat.mul_le_mul_right _ hl) (hsz _ ?_)
        rw [hd]
        simp only [DataW.weights, Tryz.undWs', List.length_map, List.length_range]
        rw [show len + (m - len) = m by omega]
        exact List.mem_cons_self
      have hb40 : 1 ≤ Tryz.prog.bytesOf 124 := by
        rw [show Tryz.prog.bytesOf 124 = 40 from by kernel_rfl]
        decide
      have := Nat.le_mul_of_pos_right len hb40
      omega
    refine ⟨some a, len, m, (List.range len).map F, hcs, ⟨fun h0 => ?_, by simpa using hlen, ?_⟩, by simp⟩
    · simp only [List.length_map, List.length_range] at h0 ⊢
      have hc0 := (World.cells?_some (hF 0 (by omega)).1).2.2
      obtain ⟨b, off, spot⟩ := a
      have hspot : spot = none := by
        have := hc0 0 (by omega)
        simp at this
        simpa [Addr.add] using World.cell?_spot this
      subst hspot
      have hcell : ∀ i, i < len → ∀ j, j < 3 → w.cell? ⟨b, off + i * 3 + j, none⟩ = [Value.string (F i).key, .string (F i).val, .bool (F i).drop][j]? := by
        intro i hi j hj
        have := (World.cells?_some (hF i (by omega)).1).2.2 j hj
        rw [show ((⟨b, off, none⟩ : Addr).add (i * 3)).add j = ⟨b, off + i * 3 + j, none⟩ from by rw [Addr.add_lit, Addr.add_lit]] at this
        exact this
      refine ⟨b, off, rfl, World.block_lt_of_cell? w ⟨b, off + 0 * 3 + 0, none⟩ (by rw [hcell 0 (by omega) 0 (by omega)]; rfl), fun i hi => ?_⟩
      have e : ((List.range len).map F).getD i Wt.zero = F i := by simp [List.getD, hi]
      rw [e]
      exact ⟨hcell i hi 0 (by omega), hcell i hi 1 (by omega), hcell i hi 2 (by omega)⟩
    · intro o ho
      obtain ⟨i, hi, rfl⟩ := List.mem_map.1 ho
      have hi' : i < len := by simpa using hi
      have key : ∀ q ∈ (D i).weights Tryz.prog 124, q ≤ 140737488355328 := by
        intro q hq
        have : q ≤ reachBytes := by
          apply hsz
          rw [hd]
          simp only [DataW.weights, Tryz.undWs']
          refine List.mem_cons_of_mem _ (List.mem_append_left _ ?_)
          exact weightsAll_mem (List.mem_map.2 ⟨i, by simpa using hi', rfl⟩) _ hq
        omega
      exact ⟨key _ (hF i (by omega)).2.1, key _ (hF i (by omega)).2.2⟩
/-- The transaction that came in. -/
structure TArg (w : World) (n : Int) (ao : Option Addr) (L cap : Nat) (ws : List Wt) : Prop where
  rs : WRs w ao ws
  len : L = ws.length
  n0 : -9223372036854775808 ≤ n
  n1 : n ≤ 9223372036854775807
theorem TArg.keep {w w' : World} {n : Int} {ao : Option Addr} {L cap : Nat} {ws : List Wt} (h : TArg w n ao L cap ws) (hf : Fr [] w w') : TArg w' n ao L cap ws := { h with rs := h.rs.keep hf }
set_option maxRecDepth 100000 in
theorem tx_open {w : World} {fuel : Nat} {cs : List Value} {x : DataW H × List MemPlace} (h : DataW.trod enc Tryz.prog w 0 (fun _ => true) true fuel 63 cs = some x) (hsz : ∀ n ∈ x.1.weights Tryz.prog 63, n ≤ reachBytes) :
    ∃ n ao L cap ws, cs = [.int .i64 n, .slice ao L cap] ∧ TArg w n ao L cap ws := by
  have hF := Tryz.tFields
  cases hu : Tryz.prog.underlying 63 with
  | none => rw [hu] at hF; simp at hF
  | some u =>
    rw [hu] at hF
    cases u with
    | struct fs =>
      simp only at hF
      obtain ⟨ys, n, _, hx, hlen, hys, hf⟩ := DataW.trod_struct hu h
      rw [Tryz.cellsT] at hlen
      match cs, hlen with
      | [v0, v1], _ =>
        have hl2 : fs.toList.length = 2 := by have := congrArg List.length hF; simpa using this
        obtain ⟨l, hl⟩ : ∃ l, l = fs.toList := ⟨_, rfl⟩
        rw [← hl] at hF hl2
        match l, hl2 with
        | [f0, f1], _ =>
          simp only [List.map_cons, List.map_nil, List.cons.injEq, Prod.mk.injEq, and_true] at hF
          obtain ⟨⟨t0, o0⟩, ⟨t1, o1⟩⟩ := hF
          have g : ∀ (i : Nat) (f : Field), [f0, f1][i]? = some f → fs[i]? = some f := by
            intro i f hi
            rw [hl] at hi
            simpa using hi
          have r0 := hf 0 f0 (g 0 f0 rfl)
          have r1 := hf 1 f1 (g 1 f1 rfl)
          rw [t0, o0, Tryz.cI] at r0
          rw [t1, o1, Tryz.cWs] at r1
          simp only [List.drop_zero, List.drop_succ_cons, List.take_succ_cons, List.take_zero] at r0 r1
          have hy2 : ys.length = 2 := by rw [hys]; have := congrArg List.length hl; simpa using this.symm
          match ys, hy2 with
          | [y0, y1], _ =>
            simp only [List.getElem?_cons_zero, List.getElem?_cons_succ] at r0 r1
            obtain ⟨k, e0, _, w0⟩ := DataW.trod_int Tryz.undI r0
            have hty : fs.toList.map (·.type) = [3, 61] := by rw [← hl]; simp [t0, t1]
            obtain ⟨ao, L, cap, ws, e1, hW, hL⟩ := ws_open (d := y1.1) (ps := y1.2) r1 (by
              intro q hq
              apply hsz
              rw [hx]
              simp only [DataW.weights, hu]
              rw [hty]
              exact DataW.weights_mem_each (j := 1) (t := 61) (d := y1.1) rfl rfl _ hq)
            simp only [List.cons.injEq, and_true] at e0
            have b0 := bounds_i64 w0
            exact ⟨k, ao, L, cap, ws, by rw [e0, e1], hW, hL, b0.1, b0.2⟩
    | _ => simp at hF
end
end Go.Proofs.YtaefninikmaiiaaGreatDoor
/- What may be of a log, as plain functions on lists. Plain lemmas. -/
/- A log as bytes and back, as plain functions on lists: what is told of any bytes, one form, cut logs. Plain lemmas. -/

namespace Go.Proofs.YtaefninikmaiiaaGreatDoor
open Go.ChangeShapes Go.WideShapes Go.ChangeAt Go.RowKit Go.Lib
set_option linter.unusedVariables false

/-- A transaction. -/
structure Tx where
  n : Int
  ws : List Wt
def Tx.zero : Tx := ⟨0, []⟩
def Tx.ok (t : Tx) : Prop := okT t.n t.ws

theorem Tx.nat {t : Tx} (h : t.ok) : ((t.n.toNat : Nat) : Int) = t.n := by have := h.1; omega
theorem Tx.okN {t : Tx} (h : t.ok) : okT ((t.n.toNat : Nat) : Int) t.ws := by rw [t.nat h]; exact h
/-- May a log be, of which the first number must be k? -/
def okL : Nat → List Tx → Prop
  | _, [] => True
  | k, t :: r => t.ok ∧ t.n = (k : Int) ∧ okL (k + 1) r
/-- What is wrong of it. -/
def Bad : Nat → List Tx → Nat → Prop
  | _, [], c => c = 0
  | k, t :: r, c => (¬ t.ok ∧ c = 1) ∨ (t.ok ∧ t.n ≠ (k : Int) ∧ c = 6) ∨ (t.ok ∧ t.n = (k : Int) ∧ Bad (k + 1) r c)
theorem Bad.ex : ∀ (l : List Tx) (k : Nat), ∃ c, Bad k l c := by
  intro l
  induction l with
  | nil => intro k; exact ⟨0, rfl⟩
  | cons t r ih =>
    intro k
    by_cases h : t.ok
    · by_cases h1 : t.n = (k : Int)
      · obtain ⟨c, hc⟩ := ih (k + 1)
        exact ⟨c, Or.inr (Or.inr ⟨h, h1, hc⟩)⟩
      · exact ⟨6, Or.inr (Or.inl ⟨h, h1, rfl⟩)⟩
    · exact ⟨1, Or.inl ⟨h, rfl⟩⟩
theorem Bad.ok : ∀ {l : List Tx} {k c : Nat}, Bad k l c → (c = 0 ↔ okL k l) := by
  intro l
  induction l with
  | nil => intro k c h; simp only [Bad] at h; simp [okL, h]
  | cons t r ih =>
    intro k c h
    rcases h with ⟨h, rfl⟩ | ⟨h, h1, rfl⟩ | ⟨h, h1, h2⟩
    · exact ⟨fun x => by omega, fun x => absurd x.1 h⟩
    · exact ⟨fun x => by omega, fun x => absurd x.2.1 h1⟩
    · rw [ih h2]
      exact ⟨fun x => ⟨h, h1, x⟩, fun x => x.2.2⟩
theorem Bad.one : ∀ {l : List Tx} {k c d : Nat}, Bad k l c → Bad k l d → c = d := by
  intro l
  induction l with
  | nil => intro k c d h h'; simp only [Bad] at h h'; omega
  | cons t r ih =>
    intro k c d h h'
    rcases h with ⟨h, rfl⟩ | ⟨h, h1, rfl⟩ | ⟨h, h1, h2⟩
    · rcases h' with ⟨_, rfl⟩ | ⟨g, _⟩ | ⟨g, _⟩
      · rfl
      · exact absurd g h
      · exact absurd g h
    · rcases h' with ⟨g, _⟩ | ⟨_, _, rfl⟩ | ⟨_, g, _⟩
      · exact absurd h g
      · rfl
      · exact absurd g h1
    · rcases h' with ⟨g, _⟩ | ⟨_, g, _⟩ | ⟨_, _, g⟩
      · exact absurd h g
      · exact absurd h1 g
      · exact ih h2 g
theorem okL_bad {l : List Tx} {k : Nat} (h : okL k l) : Bad k l 0 := by
  obtain ⟨c, hc⟩ := Bad.ex l k
  have := (Bad.ok hc).2 h
  rw [this] at hc
  exact hc
theorem okL_append : ∀ {a b : List Tx} {k : Nat}, okL k (a ++ b) ↔ okL k a ∧ okL (k + a.length) b := by
  intro a
  induction a with
  | nil => intro b k; simp [okL]
  | cons t r ih =>
    intro b k
    simp only [List.cons_append, okL, ih, List.length_cons]
    rw [show k + 1 + r.length = k + (r.length + 1) by omega]
    constructor
    · rintro ⟨h1, h2, h3, h4⟩; exact ⟨⟨h1, h2, h3⟩, h4⟩
    · rintro ⟨⟨h1, h2, h3⟩, h4⟩; exact ⟨h1, h2, h3, h4⟩
theorem okL_get : ∀ {l : List Tx} {k : Nat}, okL k l → ∀ i, i < l.length → (l.getD i Tx.zero).ok ∧ (l.getD i Tx.zero).n = ((k + i : Nat) : Int) := by
  intro l
  induction l with
  | nil => intro k h i hi; simp at hi
  | cons t r ih =>
    intro k h i hi
    cases i with
    | zero => exact ⟨h.1, by simpa using h.2.1⟩
    | succ i =>
      have := ih h.2.2 i (by simpa using hi)
      rw [show k + 1 + i = k + (i + 1) by omega] at this
      simpa [List.getD] using this
theorem okL_take {l : List Tx} {k : Nat} (h : okL k l) (i : Nat) : okL k (l.take i) := by
  have := h
  rw [← List.take_append_drop i l, okL_append] at this
  exact this.1
theorem okL_few {l : List Tx} (h : okL 1 l) : l.length ≤ 65536 := by
  by_cases h0 : l.length = 0
  · omega
  · obtain ⟨h1, h2⟩ := okL_get h (l.length - 1) (by omega)
    have := h1.2.1
    omega
theorem okL_mem {l : List Tx} {k : Nat} (h : okL k l) : ∀ t ∈ l, t.ok := by
  intro t ht
  obtain ⟨i, hi, rfl⟩ := List.getElem_of_mem ht
  have := (okL_get h i hi).1
  simpa [List.getD, hi] using this
/-! ### A record taken -/
/-! ### A log taken -/
end Go.Proofs.YtaefninikmaiiaaGreatDoor
/- May a transaction be: contracts of Check and of the closure that it asks. Conditions as each names them. -/
namespace Go.Proofs.YtaefninikmaiiaaGreatDoor
open Go.ChangeShapes Go.WideShapes Go.ChangeAt Go.RowKit Go.Lib
set_option linter.unusedVariables false

/-- It tells whether the write may not be. -/
def TellsW (e : Ending) (x : Wt) : Prop := ∃ B : Bool, e = .returned (.bool B) ∧ (B = true ↔ ¬ okW x)
set_option maxHeartbeats 2000000 in
set_option maxRecDepth 100000 in
theorem cCheck_any (i L cap b off g : Nat) (x : Wt) (w : World) (hi : i < L) (hL : L ≤ 140737488355328) (hx : WAt w b (off + i * 3) x) (hk : x.key.size ≤ 140737488355328) (hv : x.val.size ≤ 140737488355328)
    (hg : w.cell? ⟨g, 1, none⟩ = some (.slice (some ⟨b, off, none⟩) L cap)) :
    Calls Tryz.prog 159 #[.int .i64 (i : Int), .pointer (some ⟨g, 0, none⟩)] w fun e w' => TellsW e x ∧ Fr [] w w' := by
  obtain ⟨key, val, drop⟩ := x
  obtain ⟨c0, c1, c2⟩ := hx
  simp only at c0 c1 c2 hk hv
  have HO : Hid (okW ⟨key, val, drop⟩ ↔ _) := okW_iff key val drop
  go_enter Tryz.func159, Tryz.ntmps159
  go_wp2
  all_goals (
    go_ret
    refine ⟨⟨_, rfl, ?_⟩, Fr.alloc _ _ _⟩
    have HO' := HO.out
    clear HO
    simp_all)
  all_goals (intros; exfalso; omega)

theorem okT_no {n : Int} {ws : List Wt} {i : Nat} (hi : i < ws.length) (h : ¬ okW (ws.getD i Wt.zero)) : ¬ okT n ws := fun hh => h (hh.2.2.2 _ (wgetD_mem ws i hi))

set_option maxHeartbeats 4000000 in
set_option maxRecDepth 100000 in
theorem check_any (n : Int) (ao : Option Addr) (L cap c : Nat) (ws : List Wt) (w : World) (hW : WRs w ao ws) (hL : L = ws.length) (hn0 : -9223372036854775808 ≤ n) (hn1 : n ≤ 9223372036854775807)
    (hc : (okT n ws ∧ c = 0) ∨ (¬ okT n ws ∧ c = 1)) :
    Calls Tryz.prog 113 #[.agg #[.int .i64 n, .slice ao L cap]] w fun e w' => e = .returned (.int .i64 (c : Int)) ∧ Fr [] w w' := by
  have HC : Hid (_ ∨ _) := hc
  have HL : Hid (L = ws.length) := hL
  have hLm : L ≤ 140737488355328 := by have := hW.few; omega
  clear hc hL
  by_cases h1 : n < 1
  · have hc1 : c = 1 := by rcases HC.out with ⟨h, _⟩ | ⟨_, h⟩; · exact absurd h.1 (by omega)
                           · exact h
    subst hc1
    clear HC
    go_enter Tryz.func113, Tryz.ntmps113
    go_wp2
    go_ret
    exact ⟨rfl, Fr.alloc _ _ _⟩
  · by_cases h2 : 65536 < n
    · have hc1 : c = 1 := by rcases HC.out with ⟨h, _⟩ | ⟨_, h⟩; · exact absurd h.2.1 (by omega)
                             · exact h
      subst hc1
      clear HC
      have h1' : 1 ≤ n := by omega
      clear h1
      go_enter Tryz.func113, Tryz.ntmps113
      go_wp2
      go_ret
      exact ⟨rfl, Fr.alloc _ _ _⟩
    · have h1' : 1 ≤ n := by omega
      have h2' : n ≤ 65536 := by omega
      clear h1 h2
      by_cases h3 : 32 < L
      · have hc1 : c = 1 := by rcases HC.out with ⟨h, _⟩ | ⟨_, h⟩; · exact absurd h.2.2.1 (by rw [← HL.out]; omega)
                               · exact h
        subst hc1
        clear HC
        have h3' : (32 : Int) < L := by omega
        go_enter Tryz.func113, Tryz.ntmps113
        go_wp2
        go_ret
        exact ⟨rfl, Fr.alloc _ _ _⟩
      · have h3' : (L : Int) ≤ 32 := by omega
        clear h3
        have c1 : (w.alloc (.cells #[.int .i64 n, .slice ao L cap] 63)).cell? ⟨w.heap.size, 1, none⟩ = some (.slice ao L cap) := cell_of_row _ _ _ _ _ _ (heap_alloc_new w _)
        have hd1 : decide (n < 1) = false := by simp; omega
        have hd2 : decide (65536 < n) = false := by simp; omega
        have hd3 : decide ((32 : Int) < L) = false := by simp; omega
        have hF0 : Fr [] w (w.alloc (.cells #[.int .i64 n, .slice ao L cap] 63)) := Fr.alloc _ _ _
        have hW1 := hW.keep hF0
        go_enter Tryz.func113, Tryz.ntmps113
        go_wp2_with fail
        obtain ⟨w1, HW1⟩ : ∃ w1, Hid (w.alloc (.cells #[.int .i64 n, .slice ao L cap] 63) = w1) := ⟨_, rfl⟩
        rw [HW1.out] at c1 hF0 hW1 ⊢
        have hlt : w.heap.size < w1.heap.size := by rw [← HW1.out]; simp
        go_loopw [23] (fun ii wr => ∃ (i : Nat), ii = .int .i64 i ∧ i ≤ L ∧ Hid (∀ j, j < i → okW (ws.getD j Wt.zero)) ∧ Fr [] w1 wr) (fun ii _ => L - (RowKit.intOf ii).toNat)
        case atStart => exact ⟨0, rfl, Nat.zero_le _, fun j hj => by omega, Fr.refl _ _⟩
        case round =>
          obtain ⟨i, rfl, hiL, HE, hFr⟩ := hrel
          have c1r : wr.cell? ⟨w.heap.size, 1, none⟩ = some (.slice ao L cap) := (World.cell?_of_block (hFr.block _ hlt (by simp))).trans c1
          by_cases hi : i < L
          · have hi' : i < ws.length := by rw [← HL.out]; exact hi
            obtain ⟨b, off, rfl, _, hc⟩ := (hW1.keep hFr).lies (by omega)
            have hx := hc i hi'
            have hm := hW.each _ (wgetD_mem ws i hi')
            obtain ⟨x, hxx⟩ : ∃ x, x = ws.getD i Wt.zero := ⟨_, rfl⟩
            rw [← hxx] at hx hm
            have HX : Hid (x = ws.getD i Wt.zero) := hxx
            clear hxx hc
            go_wp2_with fail
            refine (cCheck_any i L cap b off w.heap.size x _ hi hLm hx hm.1 hm.2 c1r).mono ?_
            rintro e w2 ⟨⟨B, rfl, hB⟩, hF2⟩
            cases B with
            | true =>
              have hno : ¬ okW x := hB.1 rfl
              have hc1 : c = 1 := by rcases HC.out with ⟨h, _⟩ | ⟨_, h⟩; · exact absurd h (okT_no hi' (HX.out ▸ hno))
                                     · exact h
              subst hc1
              clear HC hB hno
              go_wp2
              go_ret
              exact ⟨rfl, hF0.then (hFr.then hF2)⟩
            | false =>
              have HE2 : Hid (∀ j, j < i + 1 → okW (ws.getD j Wt.zero)) := by
                intro j hj
                by_cases hji : j = i
                · subst hji
                  rw [← HX.out]
                  exact Classical.byContradiction fun h => absurd (hB.2 h) (by simp)
                · exact HE.out j (by omega)
              clear hB
              go_wp2
              go_roundw
              case rel => exact ⟨i + 1, by simp, by omega, HE2, hFr.then hF2⟩
              case measure => simp [RowKit.intOf]; omega
          · have hc0 : c = 0 := by
              rcases HC.out with ⟨_, h⟩ | ⟨h, _⟩
              · exact h
              · refine absurd ⟨h1', h2', by rw [← HL.out]; omega, ?_⟩ h
                intro x hx
                obtain ⟨j, hj, rfl⟩ := List.getElem_of_mem hx
                have := HE.out j (by have := HL.out; omega)
                simpa [List.getD, hj] using this
            subst hc0
            clear HC
            go_wp2
            go_ret
            exact ⟨rfl, hF0.then hFr⟩
end Go.Proofs.YtaefninikmaiiaaGreatDoor
/- Transactions in memory: slices of them that read as a list, rows of them. Conditions as each lemma names them. -/

namespace Go.Proofs.YtaefninikmaiiaaGreatDoor
open Go.ChangeShapes Go.WideShapes Go.ChangeAt Go.RowKit Go.Lib
set_option linter.unusedVariables false

/-- A transaction, and where its writes lie. -/
structure Tm where
  n : Int
  ao : Option Addr
  L : Nat
  cap : Nat
  ws : List Wt
def Tm.zero : Tm := ⟨0, none, 0, 0, []⟩
def Tm.tx (t : Tm) : Tx := ⟨t.n, t.ws⟩
def Tm.val (t : Tm) : Value := .agg #[.int .i64 t.n, .slice t.ao t.L t.cap]
def txs (ts : List Tm) : List Tx := ts.map Tm.tx
theorem txs_length (ts : List Tm) : (txs ts).length = ts.length := by simp [txs]
theorem txs_getD (ts : List Tm) (i : Nat) : (txs ts).getD i Tx.zero = (ts.getD i Tm.zero).tx := by
  by_cases h : i < ts.length
  · simp [txs, List.getD, h]
  · simp [txs, List.getD, h, Tm.zero, Tm.tx, Tx.zero]
theorem txs_take (ts : List Tm) (i : Nat) : (txs ts).take i = txs (ts.take i) := by simp [txs, List.map_take]
theorem txs_append (a b : List Tm) : txs (a ++ b) = txs a ++ txs b := by simp [txs]
/-- It is there. -/
def Tm.at (t : Tm) (w : World) : Prop := TArg w t.n t.ao t.L t.cap t.ws
theorem Tm.at.keep {t : Tm} {w w' : World} (h : t.at w) (hf : Fr [] w w') : t.at w' := TArg.keep h hf
theorem Tm.zero_at (w : World) : Tm.zero.at w := ⟨WRs.nil _ _, rfl, by decide, by decide⟩
/-- Its struct lies at o in block b. -/
structure TAt (w : World) (b o : Nat) (t : Tm) : Prop where
  c0 : w.cell? ⟨b, o, none⟩ = some (.int .i64 t.n)
  c1 : w.cell? ⟨b, o + 1, none⟩ = some (.slice t.ao t.L t.cap)
/-- The slice at ao reads as the transactions ts. -/
structure TRs (w : World) (ao : Option Addr) (ts : List Tm) : Prop where
  lies : 0 < ts.length → ∃ b off, ao = some ⟨b, off, none⟩ ∧ b < w.heap.size ∧ ∀ i, i < ts.length → TAt w b (off + i * 2) (ts.getD i Tm.zero)
  few : ts.length ≤ 140737488355328
  each : ∀ t ∈ ts, t.at w
theorem TRs.nil (w : World) (ao : Option Addr) : TRs w ao [] := ⟨fun h => by simp at h, by simp, by simp⟩
theorem TRs.keep {w w' : World} {ao : Option Addr} {ts : List Tm} (h : TRs w ao ts) (hf : Fr [] w w') : TRs w' ao ts := by
  refine ⟨fun h0 => ?_, h.few, fun t ht => (h.each t ht).keep hf⟩
  obtain ⟨b, off, e, hb, hc⟩ := h.lies h0
  have hk : ∀ o, w'.cell? ⟨b, o, none⟩ = w.cell? ⟨b, o, none⟩ := fun o => World.cell?_of_block (hf.block b hb (by simp))
  exact ⟨b, off, e, Nat.lt_of_lt_of_le hb hf.size, fun i hi => ⟨(hk _).trans (hc i hi).c0, (hk _).trans (hc i hi).c1⟩⟩
theorem tgetD_mem (ts : List Tm) (i : Nat) (h : i < ts.length) : ts.getD i Tm.zero ∈ ts := by simp [List.getD, h]
theorem ttake_snoc (ts : List Tm) (i : Nat) (h : i < ts.length) : ts.take (i + 1) = ts.take i ++ [ts.getD i Tm.zero] := by
  rw [List.take_add_one]
  simp [List.getD, h]
theorem TRs.take {w : World} {ao : Option Addr} {ts : List Tm} (h : TRs w ao ts) (k : Nat) : TRs w ao (ts.take k) := by
  refine ⟨fun h0 => ?_, by have := h.few; rw [List.length_take]; omega, fun t ht => h.each t (List.mem_of_mem_take ht)⟩
  rw [List.length_take] at h0
  obtain ⟨b, off, e, hb, hc⟩ := h.lies (by omega)
  refine ⟨b, off, e, hb, fun i hi => ?_⟩
  rw [List.length_take] at hi
  have e2 : (ts.take k).getD i Tm.zero = ts.getD i Tm.zero := by
    have : i < k := by omega
    simp [List.getD, this]
  rw [e2]
  exact hc i (by omega)
/-- A transaction's cells. -/
def tmC (t : Tm) : List Value := [.int .i64 t.n, .slice t.ao t.L t.cap]
def tmsC : List Tm → List Value
  | [] => []
  | t :: r => tmC t ++ tmsC r
theorem tmsC_append (a b : List Tm) : tmsC (a ++ b) = tmsC a ++ tmsC b := by
  induction a with
  | nil => rfl
  | cons v r ih => simp [tmsC, ih]
theorem tmsC_length (a : List Tm) : (tmsC a).length = a.length * 2 := by
  induction a with
  | nil => rfl
  | cons v r ih => simp only [tmsC, tmC, List.length_append, List.length_cons, List.length_nil, ih]; omega
theorem tmsC_get (a : List Tm) (j c : Nat) (hj : j < a.length) (hc : c < 2) : (tmsC a)[j * 2 + c]? = (tmC (a.getD j Tm.zero))[c]? := by
  induction a generalizing j with
  | nil => simp at hj
  | cons v r ih =>
    cases j with
    | zero =>
      simp only [tmsC, Nat.zero_mul, Nat.zero_add]
      rw [List.getElem?_append_left (by simp [tmC]; omega)]
      simp
    | succ j =>
      simp only [tmsC]
      rw [List.getElem?_append_right (by simp [tmC]; omega)]
      have e : (j + 1) * 2 + c - (tmC v).length = j * 2 + c := by simp [tmC]; omega
      rw [e, ih j (by simpa using hj)]
      simp
theorem tmsC_oneCell (a : List Tm) : ∀ u ∈ tmsC a, u.oneCell' = true := by
  induction a with
  | nil => intro u hu; simp [tmsC] at hu
  | cons v r ih =>
    intro u hu
    rcases List.mem_append.1 hu with h | h
    · simp only [tmC, List.mem_cons, List.not_mem_nil, or_false] at h
      rcases h with rfl | rfl <;> rfl
    · exact ih u h
theorem TRs.of_row {w : World} {b : Nat} {ts : List Tm} {rest : List Value} {t : TypeId} {f : Nat × Nat} (h : w.heap[b]? = some (.cells (tmsC ts ++ rest).toArray t f)) (hl : ts.length ≤ 140737488355328) (he : ∀ t ∈ ts, t.at w) : TRs w (some ⟨b, 0, none⟩) ts := by
  refine ⟨fun _ => ⟨b, 0, rfl, lt_of_block h, fun i hi => ?_⟩, hl, he⟩
  have key : ∀ c, c < 2 → w.cell? ⟨b, 0 + i * 2 + c, none⟩ = (tmC (ts.getD i Tm.zero))[c]? := by
    intro c hc
    rw [cell_of_row _ _ _ _ _ _ h, Nat.zero_add, ← tmsC_get ts i c hi hc]
    have hlt : i * 2 + c < (tmsC ts).length := by rw [tmsC_length]; omega
    simp [List.getElem?_append_left hlt]
  exact ⟨key 0 (by omega), key 1 (by omega)⟩
/-- Its number is one of 64 bits. -/
theorem Tm.at.bounds {t : Tm} {w : World} (h : t.at w) : -9223372036854775808 ≤ t.n ∧ t.n ≤ 9223372036854775807 := ⟨h.n0, h.n1⟩
end Go.Proofs.YtaefninikmaiiaaGreatDoor
/- What == and != say of two writes. No conditions. -/
namespace Go.Proofs.YtaefninikmaiiaaGreatDoor
open Go.ChangeShapes Go.WideShapes Go.ChangeAt Go.RowKit Go.Lib
set_option linter.unusedVariables false
theorem Tryz.undWt : Tryz.prog.underlying 124 = some (.struct (Tryz.prog.fieldsOf 124)) := by kernel_rfl
theorem Tryz.heldWt : Tryz.prog.stoodInHeld 124 = false := by kernel_rfl
theorem Tryz.guardWt : Tryz.prog.eqGuardType Tryz.prog.depth 124 = false := by kernel_rfl
theorem Tryz.fieldsWt : (Tryz.prog.fieldsOf 124).toList.map (fun f => (f.name == "_", f.type, f.offset)) = [(false, 9, 0), (false, 9, 1), (false, 4, 2)] := by kernel_rfl
theorem Tryz.undBool : Tryz.prog.underlying 4 = some .bool := by kernel_rfl
theorem Tryz.infoStr1 : (Tryz.prog.info? 9).map (fun i => i.size) = some 1 := by kernel_rfl
theorem Tryz.infoBool1 : (Tryz.prog.info? 4).map (fun i => i.size) = some 1 := by kernel_rfl
theorem part_str (w : World) (cs : Array Value) (off : Nat) (v : Value) (h : cs[off]? = some v) : (part 9 cs off).run Tryz.prog w = .ok v w := by
  simp [part, isAgg, run_underlying Tryz.undStr, h, Sem.run_bind]
theorem part_bool (w : World) (cs : Array Value) (off : Nat) (v : Value) (h : cs[off]? = some v) : (part 4 cs off).run Tryz.prog w = .ok v w := by
  simp [part, isAgg, run_underlying Tryz.undBool, h, Sem.run_bind]
theorem eq_str (w : World) (a b : ByteArray) : (Op.equalIn 9999 9 (.string a) (.string b)).run Tryz.prog w = .ok (a.toList == b.toList) w := run_equalIn_string w 9998 _ a b Tryz.undStr
theorem eq_bool (w : World) (a b : Bool) : (Op.equalIn 9999 4 (.bool a) (.bool b)).run Tryz.prog w = .ok (a == b) w := run_equalIn_bool w 9998 _ a b Tryz.undBool
theorem step_field {P : Program} {w : World} {A B : Sem Value} {E : Value → Value → Sem Bool} {K : Sem Bool} {a b : Value} {r : Bool} (hA : A.run P w = .ok a w) (hB : B.run P w = .ok b w) (hE : (E a b).run P w = .ok r w) :
    (do let a ← A; let b ← B; let r ← E a b; if (!r) = true then pure false else K : Sem Bool).run P w = if r = true then K.run P w else .ok false w := by
  simp only [Sem.run_bind, hA, hB, hE, Result.andThen_ok]
  cases r <;> simp
set_option maxRecDepth 100000 in
theorem wt_fields (w : World) (k1 v1 k2 v2 : ByteArray) (p1 p2 : Bool) : (Op.equalIn 10000 124 (.agg #[.string k1, .string v1, .bool p1]) (.agg #[.string k2, .string v2, .bool p2])).run Tryz.prog w = .ok (k1.toList == k2.toList && (v1.toList == v2.toList && p1 == p2)) w := by
  rw [run_equalIn_struct w 9999 _ _ _ Tryz.undWt Tryz.heldWt]
  have hF := Tryz.fieldsWt
  obtain ⟨l, hl⟩ : ∃ l, l = (Tryz.prog.fieldsOf 124).toList := ⟨_, rfl⟩
  rw [← hl] at hF ⊢
  match l, hF with
  | [f0, f1, f2], hF =>
    simp only [List.map_cons, List.map_nil, List.cons.injEq, Prod.mk.injEq, and_true] at hF
    obtain ⟨⟨n0, t0, o0⟩, ⟨n1, t1, o1⟩, ⟨n2, t2, o2⟩⟩ := hF
    have m0 : f0.name ≠ "_" := by simpa using n0
    have m1 : f1.name ≠ "_" := by simpa using n1
    have m2 : f2.name ≠ "_" := by simpa using n2
    simp only [Op.eqFields, if_pos m0, if_pos m1, if_pos m2, t0, t1, t2, o0, o1, o2]
    rw [step_field (part_str w _ 0 _ rfl) (part_str w _ 0 _ rfl) (eq_str w k1 k2)]
    rw [step_field (part_str w _ 1 _ rfl) (part_str w _ 1 _ rfl) (eq_str w v1 v2)]
    rw [step_field (part_bool w _ 2 _ rfl) (part_bool w _ 2 _ rfl) (eq_bool w p1 p2)]
    cases (k1.toList == k2.toList) <;> cases (v1.toList == v2.toList) <;> cases (p1 == p2) <;> simp
/-- Are two writes the same? -/
def sameW (x y : Wt) : Bool := x.key.toList == y.key.toList && (x.val.toList == y.val.toList && x.drop == y.drop)
theorem sameW_iff (x y : Wt) : sameW x y = true ↔ x = y := by
  obtain ⟨k1, v1, p1⟩ := x
  obtain ⟨k2, v2, p2⟩ := y
  simp only [sameW, Bool.and_eq_true, beq_iff_eq, tl_inj, Wt.mk.injEq]
theorem wt_in (w : World) (x y : Wt) : (Op.equalIn 10000 124 (.agg #[.string x.key, .string x.val, .bool x.drop]) (.agg #[.string y.key, .string y.val, .bool y.drop])).run Tryz.prog w = .ok (sameW x y) w := wt_fields w _ _ _ _ _ _
theorem wt_neq (w : World) (x y : Wt) : (binOp .neq 124 (.agg #[.string x.key, .string x.val, .bool x.drop]) (.agg #[.string y.key, .string y.val, .bool y.drop])).run Tryz.prog w = .ok (.bool (!sameW x y)) w := by
  rw [run_neq_struct, wt_fields]
  rfl
theorem wt_eql (w : World) (x y : Wt) : (binOp .eql 124 (.agg #[.string x.key, .string x.val, .bool x.drop]) (.agg #[.string y.key, .string y.val, .bool y.drop])).run Tryz.prog w = .ok (.bool (sameW x y)) w := by
  rw [run_eql_struct, wt_fields]
  rfl
end Go.Proofs.YtaefninikmaiiaaGreatDoor
/- The statements' own helpers: SameWrites, SameTxn, WritesSize, TxnSize, Beyond of two; a transaction that came in. Conditions as each names them. -/
namespace Go.Proofs.YtaefninikmaiiaaGreatDoor
open Go.ChangeShapes Go.WideShapes Go.ChangeAt Go.RowKit Go.Lib
set_option linter.unusedVariables false

theorem wsame_upto (xs ys : List Wt) (hl : xs.length = ys.length) (h : ∀ j, j < xs.length → xs.getD j Wt.zero = ys.getD j Wt.zero) : xs = ys := by
  apply List.ext_getElem hl
  intro i h1 h2
  have := h i h1
  simpa [List.getD, h1, h2] using this

set_option maxHeartbeats 4000000 in
set_option maxRecDepth 100000 in
theorem sameWs_any (a b : Option Addr) (L M ca cb : Nat) (R : Bool) (xs ys : List Wt) (w : World) (ha : WRs w a xs) (hb : WRs w b ys) (hL : L = xs.length) (hM : M = ys.length) (hR : R = true ↔ xs = ys) :
    Calls Tryz.prog 94 #[.slice a L ca, .slice b M cb] w fun e w' => e = .returned (.bool R) ∧ ∃ q, w' = w.drewN q := by
  have HR : Hid (R = true ↔ xs = ys) := hR
  have HL : Hid (L = xs.length) := hL
  have HM : Hid (M = ys.length) := hM
  have hLl : L ≤ 140737488355328 := by have := ha.few; omega
  have hMl : M ≤ 140737488355328 := by have := hb.few; omega
  clear hR hL hM
  by_cases hLM : L = M
  · subst hLM
    have hne : ((L : Int) != L) = false := by simp
    by_cases h0 : 0 < L
    · obtain ⟨ba, oa, rfl, _, hca⟩ := ha.lies (by rw [← HL.out]; exact h0)
      obtain ⟨bb, ob, rfl, _, hcb⟩ := hb.lies (by rw [← HM.out]; exact h0)
      rw [← HL.out] at hca
      rw [← HM.out] at hcb
      go_enter Tryz.func94, Tryz.ntmps94
      go_wp2_with fail
      go_loopw [5] (fun ii wr => ∃ (i q : Nat), ii = .int .i64 i ∧ i ≤ L ∧ Hid (∀ j, j < i → xs.getD j Wt.zero = ys.getD j Wt.zero) ∧ wr = w.drewN q) (fun ii _ => L - (RowKit.intOf ii).toNat)
      case atStart => exact ⟨0, 0, rfl, Nat.zero_le _, fun j hj => by omega, rfl⟩
      case round =>
        obtain ⟨i, q, rfl, hiL, HE, rfl⟩ := hrel
        by_cases hi : i < L
        · obtain ⟨c0, c1, c2⟩ := hca i hi
          obtain ⟨d0, d1, d2⟩ := hcb i hi
          obtain ⟨x, hxx⟩ : ∃ x, x = xs.getD i Wt.zero := ⟨_, rfl⟩
          obtain ⟨y, hyy⟩ : ∃ y, y = ys.getD i Wt.zero := ⟨_, rfl⟩
          rw [← hxx] at c0 c1 c2
          rw [← hyy] at d0 d1 d2
          have HX : Hid (x = xs.getD i Wt.zero) := hxx
          have HY : Hid (y = ys.getD i Wt.zero) := hyy
          clear hxx hyy hca hcb
          have hq : ∀ w', (Op.equalIn 10000 124 (.agg #[.string x.key, .string x.val, .bool x.drop]) (.agg #[.string y.key, .string y.val, .bool y.drop])).run Tryz.prog w' = .ok (sameW x y) w' := fun w' => wt_in w' x y
          have hgd := Tryz.guardWt
          obtain ⟨B, hB⟩ : ∃ B, B = sameW x y := ⟨_, rfl⟩
          rw [← hB] at hq
          have HB : Hid (B = true ↔ x = y) := by rw [hB]; exact sameW_iff x y
          clear hB
          cases B with
          | true =>
            have hxy : x = y := HB.out.1 rfl
            have HE2 : Hid (∀ j, j < i + 1 → xs.getD j Wt.zero = ys.getD j Wt.zero) := by
              intro j hj
              by_cases hji : j = i
              · subst hji; exact HX.out.symm.trans (hxy.trans HY.out)
              · exact HE.out j (by omega)
            clear HB hxy
            go_wp2_with fail
            go_quiet (fail)
            go_wp2
            go_roundw
            case rel => exact ⟨i + 1, _, by simp, by omega, HE2, rfl⟩
            case measure => simp [RowKit.intOf]; omega
          | false =>
            have HR' : Hid (R = false) := by
              show R = false
              have : ¬ R = true := fun h => by
                have hxy : x = y := by rw [HX.out, HY.out, HR.out.1 h]
                exact absurd (HB.out.2 hxy) (by simp)
              simpa using this
            clear HB
            go_wp2_with fail
            go_quiet (fail)
            go_wp2
            go_ret
            rw [HR'.out]
            exact ⟨rfl, q + nq, by simp⟩
        · have HR' : Hid (R = true) := by
            show R = true
            exact HR.out.2 (wsame_upto xs ys (HL.out.symm.trans HM.out) (fun j hj => HE.out j (by rw [← HL.out] at hj; omega)))
          go_wp2
          go_ret
          rw [HR'.out]
          exact ⟨rfl, _, rfl⟩
    · obtain rfl : L = 0 := by omega
      have HR' : Hid (R = true) := by
        show R = true
        rw [HR.out, List.eq_nil_of_length_eq_zero HL.out.symm, List.eq_nil_of_length_eq_zero HM.out.symm]
      go_enter Tryz.func94, Tryz.ntmps94
      go_wp2_with fail
      refine wp_loop_rounds 1 ?_
      rw [rounds_succ]
      go_wp2
      go_ret
      rw [HR'.out]
      exact ⟨rfl, 0, rfl⟩
  · have hne : ((L : Int) != M) = true := by rw [bne_iff_ne]; omega
    have HR' : Hid (R = false) := by
      show R = false
      have : ¬ R = true := fun h => hLM (by rw [HL.out, HM.out, HR.out.1 h])
      simpa using this
    clear hLM
    go_enter Tryz.func94, Tryz.ntmps94
    go_wp2
    go_ret
    rw [HR'.out]
    exact ⟨rfl, 0, rfl⟩

set_option maxHeartbeats 2000000 in
set_option maxRecDepth 100000 in
theorem sameTxn_any (m n : Int) (a b : Option Addr) (L M ca cb : Nat) (R : Bool) (xs ys : List Wt) (w : World) (ha : WRs w a xs) (hb : WRs w b ys) (hL : L = xs.length) (hM : M = ys.length) (hR : R = true ↔ m = n ∧ xs = ys) :
    Calls Tryz.prog 27 #[.agg #[.int .i64 m, .slice a L ca], .agg #[.int .i64 n, .slice b M cb]] w fun e w' => e = .returned (.bool R) ∧ Fr [] w w' := by
  have HR : Hid (R = true ↔ m = n ∧ xs = ys) := hR
  have HL : Hid (L = xs.length) := hL
  have HM : Hid (M = ys.length) := hM
  clear hR hL hM
  have hF0 : Fr [] w ((w.alloc (.cells #[.int .i64 m, .slice a L ca] 63)).alloc (.cells #[.int .i64 n, .slice b M cb] 63)) := (Fr.alloc [] w _).then (Fr.alloc [] _ _)
  have ha0 := ha.keep hF0
  have hb0 := hb.keep hF0
  by_cases h : m = n
  · subst h
    have hbb : (m == m) = true := by simp
    have HR' : Hid (R = true ↔ xs = ys) := by show _ ↔ _; rw [HR.out]; simp
    clear HR
    go_enter Tryz.func27, Tryz.ntmps27
    go_wp2_with fail
    refine (sameWs_any a b L M ca cb R xs ys _ ha0 hb0 HL.out HM.out HR'.out).mono ?_
    rintro e w1 ⟨rfl, q, rfl⟩
    go_wp2
    go_ret
    exact ⟨rfl, hF0.then (Fr.drewN _ _ _)⟩
  · have hbb : (m == n) = false := by rw [beq_eq_false_iff_ne]; exact h
    have HR' : Hid (R = false) := by
      show R = false
      have : ¬ R = true := fun hh => h (HR.out.1 hh).1
      simpa using this
    clear h
    go_enter Tryz.func27, Tryz.ntmps27
    go_wp2
    go_ret
    rw [HR'.out]
    exact ⟨rfl, hF0⟩

/-! ### How great a transaction is -/
def wsum : List Wt → Nat
  | [] => 0
  | x :: r => x.key.size + x.val.size + wsum r
theorem wsum_snoc (l : List Wt) (x : Wt) : wsum (l ++ [x]) = wsum l + x.key.size + x.val.size := by
  induction l with
  | nil => simp [wsum]
  | cons a r ih => simp only [List.cons_append, wsum, ih]; omega
/-- The statements' size of some writes: at least 1048577 if they are more. -/
def Wide (N : Nat) (ws : List Wt) : Prop := ws.length ≤ N ∧ N ≤ 2^50 ∧ (N ≤ 1048576 → ∀ x ∈ ws, x.key.size ≤ 1048576 ∧ x.val.size ≤ 1048576)

set_option maxHeartbeats 4000000 in
set_option maxRecDepth 100000 in
theorem wsSize_any (a : Option Addr) (L ca : Nat) (xs : List Wt) (w : World) (ha : WRs w a xs) (hL : L = xs.length) :
    Calls Tryz.prog 101 #[.slice a L ca] w fun e w' => ∃ N : Nat, e = .returned (.int .i64 (N : Int)) ∧ Wide N xs ∧ ∃ q, w' = w.drewN q := by
  have HL : Hid (L = xs.length) := hL
  have hLl : L ≤ 140737488355328 := by have := ha.few; omega
  clear hL
  by_cases h0 : 0 < L
  · obtain ⟨ba, oa, rfl, _, hca⟩ := ha.lies (by rw [← HL.out]; exact h0)
    rw [← HL.out] at hca
    go_enter Tryz.func101, Tryz.ntmps101
    go_wp2_with fail
    go_loopw [3, 4] (fun vv ii wr => ∃ (n i q : Nat), vv = .int .i64 n ∧ ii = .int .i64 i ∧ i ≤ L ∧ L ≤ n ∧ n ≤ 422212465065984 ∧ Hid (∀ j, j < i → n ≤ 1048576 → (xs.getD j Wt.zero).key.size ≤ 1048576 ∧ (xs.getD j Wt.zero).val.size ≤ 1048576) ∧ wr = w.drewN q) (fun _ ii _ => L - (RowKit.intOf ii).toNat)
    case atStart => exact ⟨L, 0, 0, rfl, rfl, Nat.zero_le _, Nat.le_refl _, by omega, fun j hj => by omega, rfl⟩
    case round =>
      obtain ⟨n, i, q, rfl, rfl, hiL, hLn, hn, HE, rfl⟩ := hrel
      by_cases hi : i < L
      · by_cases hbig : 1048576 < n
        · have hb' : (1048576 : Int) < n := by omega
          have hi' : (i : Int) < L := by omega
          go_wp2
          go_ret
          exact ⟨n, rfl, ⟨by rw [← HL.out]; omega, by omega, fun h => by omega⟩, q, rfl⟩
        · have hb' : (n : Int) ≤ 1048576 := by omega
          obtain ⟨c0, c1, c2⟩ := hca i hi
          have hm := ha.each _ (wgetD_mem xs i (by rw [← HL.out]; exact hi))
          obtain ⟨x, hxx⟩ : ∃ x, x = xs.getD i Wt.zero := ⟨_, rfl⟩
          rw [← hxx] at c0 c1 c2 hm
          have HX : Hid (x = xs.getD i Wt.zero) := hxx
          clear hxx hca
          obtain ⟨key, val, drop⟩ := x
          simp only at c0 c1 c2 hm
          have HE2 : Hid (∀ j, j < i + 1 → n + key.size + val.size ≤ 1048576 → (xs.getD j Wt.zero).key.size ≤ 1048576 ∧ (xs.getD j Wt.zero).val.size ≤ 1048576) := by
            intro j hj hle
            by_cases hji : j = i
            · subst hji
              rw [← HX.out]
              exact ⟨by simp only; omega, by simp only; omega⟩
            · exact HE.out j (by omega) (by omega)
          obtain ⟨K, hK⟩ : ∃ K, K = key.size := ⟨_, rfl⟩
          obtain ⟨V, hV⟩ : ∃ V, V = val.size := ⟨_, rfl⟩
          have hk1 := hm.1
          have hv1 := hm.2
          clear hm
          go_wp2_with fail
          go_quiet (fail)
          go_wp2
          go_roundw
          case rel => exact ⟨n + key.size + val.size, i + 1, _, by simp, by simp, by omega, by omega, by omega, HE2, rfl⟩
          case measure => simp [RowKit.intOf]; omega
      · go_wp2
        go_ret
        refine ⟨n, rfl, ⟨by rw [← HL.out]; omega, by omega, fun h x hx => ?_⟩, q, rfl⟩
        obtain ⟨j, hj, rfl⟩ := List.getElem_of_mem hx
        have := HE.out j (by have := HL.out; omega) h
        simpa [List.getD, hj] using this
  · obtain rfl : L = 0 := by omega
    have : xs = [] := List.eq_nil_of_length_eq_zero HL.out.symm
    subst this
    go_enter Tryz.func101, Tryz.ntmps101
    go_wp2_with fail
    refine wp_loop_rounds 1 ?_
    rw [rounds_succ]
    go_wp2
    go_ret
    exact ⟨0, rfl, ⟨by simp, by omega, by simp⟩, 0, rfl⟩
set_option maxHeartbeats 2000000 in
set_option maxRecDepth 100000 in
theorem txSize_any (m : Int) (a : Option Addr) (L ca : Nat) (xs : List Wt) (w : World) (ha : WRs w a xs) (hL : L = xs.length) :
    Calls Tryz.prog 39 #[.agg #[.int .i64 m, .slice a L ca]] w fun e w' => ∃ N : Nat, e = .returned (.int .i64 ((N + 1 : Nat) : Int)) ∧ Wide N xs ∧ Fr [] w w' := by
  have HL : Hid (L = xs.length) := hL
  clear hL
  have hF0 : Fr [] w (w.alloc (.cells #[.int .i64 m, .slice a L ca] 63)) := Fr.alloc [] w _
  have ha0 := ha.keep hF0
  go_enter Tryz.func39, Tryz.ntmps39
  go_wp2_with fail
  refine (wsSize_any a L ca xs _ ha0 HL.out).mono ?_
  rintro e w1 ⟨N, rfl, hN, q, rfl⟩
  have hN2 := hN.2.1
  have HN : Hid (Wide N xs) := hN
  clear hN
  go_wp2
  go_ret
  exact ⟨N, by simp; omega, HN.out, hF0.then (Fr.drewN _ _ _)⟩
end Go.Proofs.YtaefninikmaiiaaGreatDoor
/- What the statements' helpers TwinWrites, TwinTxn, LeftWrites and LeftTxn answer. Conditions: fewer than 2^21 writes. -/
namespace Go.Proofs.YtaefninikmaiiaaGreatDoor
open Go.ChangeShapes Go.WideShapes Go.ChangeAt Go.RowKit Go.Lib
set_option linter.unusedVariables false
set_option linter.unusedSimpArgs false

/-- The write that stands in a twin's spare room. -/
def spW : Wt := ⟨⟨#[115, 112, 97, 114, 101]⟩, ⟨#[]⟩, false⟩
theorem Tryz.infoWtW : (Tryz.prog.info? 124).map (fun i => (i.zero, i.size, i.bytes)) = some (some (.agg #[.string ⟨#[]⟩, .string ⟨#[]⟩, .bool false]), 3, 40) := by kernel_rfl
theorem Tryz.undWsW : Tryz.prog.underlying 61 = some (.slice 124) := by kernel_rfl
theorem results_cW {fn : Func} {p : Tmp} {ty : TypeId} (h : fn.results = #[.cell p ty]) (tmps : Array Value) (P : Program) (w : World) :
    (results fn tmps).run P w = ((asAddr (tmps.getD p undef)).run P w).andThen fun a w₁ => (loadVar ty a).run P w₁ := by
  simp only [results, h]
  simp [Sem.run_bind, Result.andThen]
theorem wown_full {w : World} {g n : Nat} {xs : List Value} (h : w.ownsRow 0 124 3 (.slice (some ⟨g, 0, none⟩) n n) n xs) : w.heap[g]? = some (.cells xs.toArray 124 (0, 0)) := by
  have hl := h.1
  rcases h.2 with ⟨hh, _⟩ | ⟨g', cap', cur, hh, _, hg, _, _, hcs, ht⟩
  · cases hh
  · cases hh
    rw [hg]
    congr 2
    rw [← Array.toList_inj]
    simp only
    rw [← ht, List.take_of_length_le (by simp [hcs])]

set_option maxHeartbeats 4000000 in
set_option maxRecDepth 100000 in
theorem twinWs_any (ao : Option Addr) (L cap : Nat) (ws : List Wt) (w : World) (h : WRs w ao ws) (hLe : L = ws.length) (hL : L < 2^21) :
    Calls Tryz.prog 102 #[.slice ao L cap] w fun e w' => ∃ b, e = .returned (.slice (some ⟨b, 0, none⟩) L (L + 1)) ∧ w.heap.size ≤ b ∧ w'.heap[b]? = some (.cells (wtsC (ws ++ [spW])).toArray 124 (0, 0)) ∧ Fr [] w w' := by
  obtain ⟨i0, hi, hz0, hz1, hz2⟩ := info_parts Tryz.infoWtW
  have HL : Hid (L = ws.length) := hLe
  clear hLe
  go_enter Tryz.func102, Tryz.ntmps102
  go_wp2_with (at_make; refine wpList_make_own _ rfl (.const (.int .i64 0)) (.tmp 7) 61 rfl 0 124 i0 _ 3 Tryz.undWsW hi hz0 hz1 .i64 .i64 ((L : Int) + 1) (L + 1) rfl rfl ?bC ?b2 ?b3 ?b4 ?_)
  case bC => simp
  case b2 => rw [hz2]; omega
  case b3 => unfold maxLen; omega
  case b4 => exact Nat.zero_le _
  intro w1 hown hgrow
  obtain ⟨g, hg⟩ : ∃ g, g = w.heap.size := ⟨_, rfl⟩
  have hgw : w.heap.size ≤ g := by omega
  rw [← hg] at hown ⊢
  have h01 : Fr [] w w1 := Fr.grown (S := []) hgrow (by simp)
  clear hgrow hg
  go_wp2_with fail
  go_loopw [3, 4] (fun vv ii wr => ∃ i : Nat, vv = .slice (some ⟨g, 0, none⟩) i (L + 1) ∧ ii = .int .i64 i ∧ i ≤ L ∧ wr.ownsRow 0 124 3 (.slice (some ⟨g, 0, none⟩) i (L + 1)) i (wtsC (ws.take i)) ∧ Fr [] w wr) (fun _ ii _ => L - (RowKit.intOf ii).toNat)
  case atStart => exact ⟨0, rfl, rfl, Nat.zero_le _, hown, h01⟩
  case round =>
    obtain ⟨i, rfl, rfl, hiL, hO, hF⟩ := hrel
    have hsz := (hO.lt g rfl).2
    by_cases hil : i < L
    · have hi' : i < ws.length := by rw [← HL.out]; exact hil
      obtain ⟨b, off, e, _, hc⟩ := (h.keep hF).lies (by omega)
      subst e
      obtain ⟨d0, d1, d2⟩ := hc i hi'
      obtain ⟨x, hx⟩ : ∃ x, x = ws.getD i Wt.zero := ⟨_, rfl⟩
      rw [← hx] at d0 d1 d2
      have HE : Hid (wtsC (ws.take (i + 1)) = wtsC (ws.take i) ++ [.string x.key, .string x.val, .bool x.drop]) := by
        show _ = _
        rw [wtake_snoc ws i hi', wtsC_append, ← hx]; rfl
      clear hc hx
      obtain ⟨key, val, drop⟩ := x
      simp only at d0 d1 d2 HE
      go_wp2_with (at_builtin; refine wpList_append_fits _ rfl (.tmp 15) (.tmp 20) 61 rfl 0 124 i0 3 Tryz.undWsW hi hz1 g i (L + 1) _ rfl (hO.alloc _) ⟨wr.heap.size, 0, none⟩ 1 1 [.string key, .string val, .bool drop] rfl rfl ?c1 ?c2 ?c3 ?_)
      case c1 => intro j u hj; match j, hj with | 0, hj => simp at hj; subst hj; simp [Addr.add] | 1, hj => simp at hj; subst hj; simp [Addr.add] | 2, hj => simp at hj; subst hj; simp [Addr.add]
      case c2 => intro u hu; simp at hu; rcases hu with rfl | rfl | rfl <;> rfl
      case c3 => omega
      intro w2 hO2 hg2
      rw [← HE.out] at hO2
      have hF2 : Fr [] w w2 := (hF.then (Fr.alloc [] wr _)).on (Fr.grown (S := [g]) hg2 (by intro k hk _; cases hk; simp)) (by intro y hy; simp at hy; omega)
      clear hO hg2 hF d0 d1 d2
      go_wp2
      go_roundw
      case rel => exact ⟨i + 1, rfl, by simp, by omega, hO2, hF2⟩
      case measure => simp [RowKit.intOf]; omega
    · have hiL' : L ≤ i := by omega
      obtain rfl : i = L := by omega
      have HE : Hid (wtsC (ws ++ [spW]) = wtsC (ws.take i) ++ [.string ⟨#[115, 112, 97, 114, 101]⟩, .string ⟨#[]⟩, .bool false]) := by
        show _ = _
        rw [List.take_of_length_le (by rw [← HL.out]; omega), wtsC_append]; rfl
      go_wp2_with (at_builtin; refine wpList_append_fits _ rfl (.tmp 22) (.tmp 24) 61 rfl 0 124 i0 3 Tryz.undWsW hi hz1 g i (i + 1) _ rfl (hO.alloc _) ⟨wr.heap.size, 0, none⟩ 1 1 [.string ⟨#[115, 112, 97, 114, 101]⟩, .string ⟨#[]⟩, .bool false] rfl rfl ?c1 ?c2 ?c3 ?_)
      case c1 => intro j u hj; match j, hj with | 0, hj => simp at hj; subst hj; simp [Addr.add] | 1, hj => simp at hj; subst hj; simp [Addr.add] | 2, hj => simp at hj; subst hj; simp [Addr.add]
      case c2 => intro u hu; simp at hu; rcases hu with rfl | rfl | rfl <;> rfl
      case c3 => omega
      intro w2 hO2 hg2
      rw [← HE.out] at hO2
      have hF2 : Fr [] w w2 := (hF.then (Fr.alloc [] wr _)).on (Fr.grown (S := [g]) hg2 (by intro k hk _; cases hk; simp)) (by intro y hy; simp at hy; omega)
      have HRow : Hid (w2.heap[g]? = some (.cells (wtsC (ws ++ [spW])).toArray 124 (0, 0))) := wown_full hO2
      clear hO hg2 hF hO2
      go_wp2
      go_ret
      exact ⟨g, rfl, hgw, HRow.out, hF2⟩

set_option maxHeartbeats 4000000 in
set_option maxRecDepth 100000 in
theorem twinTxn_any (n : Int) (ao : Option Addr) (L cap : Nat) (ws : List Wt) (w : World) (h : WRs w ao ws) (hLe : L = ws.length) (hL : L < 2^21) :
    Calls Tryz.prog 40 #[.agg #[.int .i64 n, .slice ao L cap]] w fun e w' => ∃ b, e = .returned (.agg #[.int .i64 n, .slice (some ⟨b, 0, none⟩) L (L + 1)]) ∧ w.heap.size ≤ b ∧ w'.heap[b]? = some (.cells (wtsC (ws ++ [spW])).toArray 124 (0, 0)) ∧ Fr [] w w' := by
  have HLe : Hid (L = ws.length) := hLe
  clear hLe
  obtain ⟨w0, HW0⟩ : ∃ w0, Hid ((w.alloc (.cells #[.int .i64 n, .slice ao L cap] 63)).alloc (.cells #[.int .i64 0, .slice none 0 0] 63) = w0) := ⟨_, rfl⟩
  have hF0 : Fr [] w w0 := by rw [← HW0.out]; exact (Fr.alloc [] w _).then (Fr.alloc [] _ _)
  have hb0 : w0.heap[w.heap.size]? = some (.cells #[.int .i64 n, .slice ao L cap] 63 (0, 0)) := by rw [← HW0.out]; exact (Fr.alloc [] _ _).keep (heap_alloc_new w _) (by simp)
  have hb1 : w0.heap[w.heap.size + 1]? = some (.cells #[.int .i64 0, .slice none 0 0] 63 (0, 0)) := by
    rw [← HW0.out]
    have := heap_alloc_new (w.alloc (.cells #[.int .i64 n, .slice ao L cap] 63)) (.cells #[.int .i64 0, .slice none 0 0] 63)
    simpa using this
  have HB : Hid (∀ W, Fr [] w0 W → W.heap[w.heap.size]? = some (.cells #[.int .i64 n, .slice ao L cap] 63 (0, 0)) ∧ W.heap[w.heap.size + 1]? = some (.cells #[.int .i64 0, .slice none 0 0] 63 (0, 0))) := fun W hf => ⟨hf.keep hb0 (by simp), hf.keep hb1 (by simp)⟩
  have hcell : ∀ W, Fr [] w0 W → W.cell? ⟨w.heap.size, 0, none⟩ = some (.int .i64 n) ∧ W.cell? ⟨w.heap.size, 1, none⟩ = some (.slice ao L cap) ∧ W.cell? ⟨w.heap.size + 1, 0, none⟩ = some (.int .i64 0) ∧ W.cell? ⟨w.heap.size + 1, 1, none⟩ = some (.slice none 0 0) ∧ W.frozen? ⟨w.heap.size + 1, 0, none⟩ = false ∧ W.frozen? ⟨w.heap.size + 1, 1, none⟩ = false := by
    intro W hf
    obtain ⟨a, b⟩ := HB.out W hf
    refine ⟨?_, ?_, ?_, ?_, ?_, ?_⟩
    · rw [cell_of_row _ _ _ _ _ _ a]; rfl
    · rw [cell_of_row _ _ _ _ _ _ a]; rfl
    · rw [cell_of_row _ _ _ _ _ _ b]; rfl
    · rw [cell_of_row _ _ _ _ _ _ b]; rfl
    · simp [World.frozen?, b]
    · simp [World.frozen?, b]
  have HCe : Hid (∀ W, Fr [] w0 W → _) := hcell
  obtain ⟨k0, k1, k2, k3, k4, k5⟩ := hcell _ (Fr.drew [] w0)
  have hT := twinWs_any ao L cap ws w0.drew (h.keep (hF0.then (Fr.drew [] w0))) HLe.out hL
  clear hcell hb0 hb1
  have hs0 : w0.heap.size = w.heap.size + 2 := by rw [← HW0.out]; simp
  go_enter Tryz.func40, Tryz.ntmps40
  go_upto_region 1 with fail
  rw [HW0.out]
  first
    | go_loud (go_region_held3 (fun W => W.cell? ⟨w.heap.size, 0, none⟩ = some (.int .i64 n) ∧ W.cell? ⟨w.heap.size, 1, none⟩ = some (.slice ao L cap)) (go_keep)
        (first
        | (go_at_call 102; with_reducible refine hT.mono ?_; rintro e w1 ⟨b, rfl, hb, hrow, hF1⟩; have hG1 := (Fr.drew [] w0).then hF1; obtain ⟨j0, j1, j2, j3, j4, j5⟩ := HCe.out _ hG1)))
    | fail
  have hbb : b ≠ w.heap.size + 1 := by have : w0.drew.heap.size = w0.heap.size := rfl; omega
  have hFs : Fr [w.heap.size + 1] w1 ((w1.setCell ⟨w.heap.size + 1, 0, none⟩ (.int .i64 n)).setCell ⟨w.heap.size + 1, 1, none⟩ (.slice (some ⟨b, 0, none⟩) L (L + 1))) := (Fr.set w1 ⟨w.heap.size + 1, 0, none⟩ _ (by simp)).then (Fr.set _ ⟨w.heap.size + 1, 1, none⟩ _ (by simp))
  have HR : Hid (_ ∧ _) := ⟨hFs.keep hrow (by simp; exact hbb), (hF0.then hG1).on hFs (by intro x hx; simp at hx; omega)⟩
  have hbw : w.heap.size ≤ b := by have : w0.drew.heap.size = w0.heap.size := rfl; omega
  clear hFs hrow hF1 hG1 hT
  go_wp2
  refine bodyPost_ret (v := (.agg #[.int .i64 n, .slice (some ⟨b, 0, none⟩) L (L + 1)])) (by rw [results_cW rfl]; go_simp) rfl ⟨b, rfl, hbw, HR.out.1, HR.out.2⟩

set_option maxHeartbeats 4000000 in
set_option maxRecDepth 100000 in
theorem leftWs_any (t : Nat) (ao : Option Addr) (L cap : Nat) (ws : List Wt) (w : World) (h : WRs w ao ws) (hLe : L = ws.length) (hL : L < 2^21) (hrow : w.heap[t]? = some (.cells (wtsC (ws ++ [spW])).toArray 124 (0, 0))) :
    Calls Tryz.prog 114 #[.slice (some ⟨t, 0, none⟩) L (L + 1), .slice ao L cap] w fun e w' => e = .returned (.bool true) ∧ Fr [] w w' := by
  have HL : Hid (L = ws.length) := hLe
  clear hLe
  have hct : ∀ j, j < L → WAt w t (j * 3) (ws.getD j Wt.zero) := by
    intro j hj
    have key : ∀ c, c < 3 → w.cell? ⟨t, j * 3 + c, none⟩ = (wtC (ws.getD j Wt.zero))[c]? := by
      intro c hc
      rw [cell_of_row _ _ _ _ _ _ hrow]
      have := wtsC_get (ws ++ [spW]) j c (by rw [List.length_append, ← HL.out]; simp; omega) hc
      have e : (ws ++ [spW]).getD j Wt.zero = ws.getD j Wt.zero := by simp [List.getD, List.getElem?_append_left (show j < ws.length by rw [← HL.out]; exact hj)]
      rw [e] at this
      simpa using this
    exact ⟨key 0 (by omega), key 1 (by omega), key 2 (by omega)⟩
  have hsp : WAt w t (L * 3) spW := by
    have key : ∀ c, c < 3 → w.cell? ⟨t, L * 3 + c, none⟩ = (wtC spW)[c]? := by
      intro c hc
      rw [cell_of_row _ _ _ _ _ _ hrow]
      have := wtsC_get (ws ++ [spW]) L c (by rw [List.length_append, ← HL.out]; simp) hc
      have e : (ws ++ [spW]).getD L Wt.zero = spW := by simp [List.getD, HL.out]
      rw [e] at this
      simpa using this
    exact ⟨key 0 (by omega), key 1 (by omega), key 2 (by omega)⟩
  have hne : ((L : Int) != L) = false := by simp
  have hgd := Tryz.guardWt
  clear hrow
  go_enter Tryz.func114, Tryz.ntmps114
  go_wp2_with fail
  go_loopw [5] (fun ii wr => ∃ (i q : Nat), ii = .int .i64 i ∧ i ≤ L ∧ Hid (wr = w.drewN q)) (fun ii _ => L - (RowKit.intOf ii).toNat)
  case atStart => exact ⟨0, 0, rfl, Nat.zero_le _, rfl⟩
  case round =>
    obtain ⟨i, q, rfl, hiL, HQ⟩ := hrel
    have hce : ∀ a, wr.cell? a = w.cell? a := fun a => by rw [HQ.out]; rfl
    by_cases hi : i < L
    · have hi' : i < ws.length := by rw [← HL.out]; exact hi
      obtain ⟨b, off, e, _, hc⟩ := h.lies (by omega)
      subst e
      obtain ⟨c0, c1, c2⟩ := hct i hi
      obtain ⟨d0, d1, d2⟩ := hc i hi'
      obtain ⟨x, hxx⟩ : ∃ x, x = ws.getD i Wt.zero := ⟨_, rfl⟩
      rw [← hxx, ← hce] at c0 c1 c2 d0 d1 d2
      clear hxx hct hc hsp hce
      have hq : ∀ w', (Op.equalIn 10000 124 (.agg #[.string x.key, .string x.val, .bool x.drop]) (.agg #[.string x.key, .string x.val, .bool x.drop])).run Tryz.prog w' = .ok true w' := fun w' => by rw [wt_in w' x x, (sameW_iff x x).2 rfl]
      go_wp2_with fail
      go_quiet (fail)
      go_wp2
      go_roundw
      case rel => exact ⟨i + 1, q + nq, by simp, by omega, by show _ = _; rw [HQ.out]; simp⟩
      case measure => simp [RowKit.intOf]; omega
    · have hiL' : L ≤ i := by omega
      obtain ⟨c0, c1, c2⟩ := hsp
      rw [← hce] at c0 c1 c2
      have hFq : Fr [] w wr := by rw [HQ.out]; exact Fr.drewN _ _ _
      clear hct hce
      have hq : ∀ w', (Op.equalIn 10000 124 (.agg #[.string ⟨#[115, 112, 97, 114, 101]⟩, .string ⟨#[]⟩, .bool false]) (.agg #[.string ⟨#[115, 112, 97, 114, 101]⟩, .string ⟨#[]⟩, .bool false])).run Tryz.prog w' = .ok true w' := fun w' => by
        have := wt_in w' spW spW
        rw [(sameW_iff spW spW).2 rfl] at this
        exact this
      simp only [spW] at c0 c1 c2
      go_wp2
      go_ret
      exact ⟨by simp, hFq.then (Fr.alloc [] _ _)⟩
set_option maxHeartbeats 2000000 in
set_option maxRecDepth 100000 in
theorem leftTxn_any (n : Int) (t : Nat) (ao : Option Addr) (L cap : Nat) (ws : List Wt) (w : World) (h : WRs w ao ws) (hLe : L = ws.length) (hL : L < 2^21) (hrow : w.heap[t]? = some (.cells (wtsC (ws ++ [spW])).toArray 124 (0, 0))) :
    Calls Tryz.prog 50 #[.agg #[.int .i64 n, .slice (some ⟨t, 0, none⟩) L (L + 1)], .agg #[.int .i64 n, .slice ao L cap]] w fun e w' => e = .returned (.bool true) ∧ Fr [] w w' := by
  have HL : Hid (L = ws.length) := hLe
  clear hLe
  have hF0 : Fr [] w ((w.alloc (.cells #[.int .i64 n, .slice (some ⟨t, 0, none⟩) L (L + 1)] 63)).alloc (.cells #[.int .i64 n, .slice ao L cap] 63)) := (Fr.alloc [] w _).then (Fr.alloc [] _ _)
  have hX := leftWs_any t ao L cap ws _ (h.keep hF0) HL.out hL (hF0.keep hrow (by simp))
  have hnn : (n == n) = true := by simp
  go_enter Tryz.func50, Tryz.ntmps50
  go_wp2_with fail
  refine hX.mono ?_
  rintro e w1 ⟨rfl, hF1⟩
  have HG : Hid (Fr [] w w1) := hF0.then hF1
  clear hX hF1
  go_wp2
  go_ret
  exact ⟨by simp, HG.out⟩
end Go.Proofs.YtaefninikmaiiaaGreatDoor
/- What the statements' helpers TwinTxns and LeftTxns answer. Conditions: fewer than 2^21 transactions, of fewer than 2^21 writes each. -/
namespace Go.Proofs.YtaefninikmaiiaaGreatDoor
open Go.ChangeShapes Go.WideShapes Go.ChangeAt Go.RowKit Go.Lib
set_option linter.unusedVariables false
set_option linter.unusedSimpArgs false

/-- The transaction that stands in a twin's spare room. -/
def spT : Tm := ⟨7777, none, 0, 0, []⟩
/-- The twin of a transaction, its writes in block b. -/
def twT (t : Tm) (b : Nat) : Tm := ⟨t.n, some ⟨b, 0, none⟩, t.L, t.L + 1, t.ws⟩
def twTs (ts : List Tm) (ks : List Nat) : List Tm := List.zipWith twT ts ks
theorem twTs_length (ts : List Tm) (ks : List Nat) (h : ks.length = ts.length) : (twTs ts ks).length = ts.length := by simp [twTs, h]
theorem twTs_snoc (ts : List Tm) (ks : List Nat) (t : Tm) (k : Nat) (h : ks.length = ts.length) : twTs (ts ++ [t]) (ks ++ [k]) = twTs ts ks ++ [twT t k] := by
  unfold twTs
  rw [List.zipWith_append h.symm]
  rfl
theorem twTs_get {ts : List Tm} {ks : List Nat} {i : Nat} {u : Tm} (h : (twTs ts ks)[i]? = some u) : ∃ t k, ts[i]? = some t ∧ ks[i]? = some k ∧ u = twT t k := by
  unfold twTs at h
  rw [List.getElem?_zipWith] at h
  cases ht : ts[i]? with
  | none => simp [ht] at h
  | some t =>
    cases hk : ks[i]? with
    | none => simp [ht, hk] at h
    | some k => simp [ht, hk] at h; exact ⟨t, k, rfl, rfl, h.symm⟩
theorem txs_twTs (ts : List Tm) (ks : List Nat) (h : ks.length = ts.length) : txs (twTs ts ks) = txs ts := by
  apply List.ext_getElem?
  intro i
  unfold txs
  rw [List.getElem?_map, List.getElem?_map]
  by_cases hi : i < ts.length
  · have h1 : i < (twTs ts ks).length := by rw [twTs_length ts ks h]; exact hi
    obtain ⟨u, hu⟩ : ∃ u, (twTs ts ks)[i]? = some u := ⟨_, List.getElem?_eq_getElem h1⟩
    obtain ⟨t, k, ht, hk, rfl⟩ := twTs_get hu
    rw [hu, ht]
    rfl
  · rw [List.getElem?_eq_none (by rw [twTs_length ts ks h]; omega), List.getElem?_eq_none (by omega)]
/-- The twins' writes lie in blocks of their own, made since w. -/
structure Twd (w w' : World) (ts : List Tm) (ks : List Nat) : Prop where
  len : ks.length = ts.length
  new : ∀ k ∈ ks, w.heap.size ≤ k
  row : ∀ (i : Nat) (t : Tm) (k : Nat), ts[i]? = some t → ks[i]? = some k → w'.heap[k]? = some (.cells (wtsC (t.ws ++ [spW])).toArray 124 (0, 0))
  apart : ks.Nodup
theorem Twd.nil (w w' : World) : Twd w w' [] [] := ⟨rfl, by simp, by simp, by simp⟩
theorem Twd.keep {S : List Nat} {w w1 w2 : World} {ts : List Tm} {ks : List Nat} (h : Twd w w1 ts ks) (hf : Fr S w1 w2) (hn : ∀ k ∈ ks, k ∉ S) : Twd w w2 ts ks :=
  ⟨h.len, h.new, fun i t k ht hk => hf.keep (h.row i t k ht hk) (hn k (List.mem_of_getElem? hk)), h.apart⟩
theorem Twd.lt {w w' : World} {ts : List Tm} {ks : List Nat} (h : Twd w w' ts ks) : ∀ k ∈ ks, k < w'.heap.size := by
  intro k hk
  obtain ⟨i, hi⟩ := List.getElem?_of_mem hk
  have hl : i < ts.length := by rw [← h.len]; exact (List.getElem?_eq_some_iff.1 hi).1
  exact lt_of_block (h.row i _ k (List.getElem?_eq_getElem hl) hi)
theorem Twd.snoc {w w1 w2 : World} {ts : List Tm} {ks : List Nat} (h : Twd w w1 ts ks) (hf : Fr [] w1 w2) (hw : w.heap.size ≤ w1.heap.size) (t : Tm) (k : Nat) (hk : w1.heap.size ≤ k) (hr : w2.heap[k]? = some (.cells (wtsC (t.ws ++ [spW])).toArray 124 (0, 0))) : Twd w w2 (ts ++ [t]) (ks ++ [k]) := by
  have hl := h.len
  refine ⟨by simp [hl], ?_, ?_, ?_⟩
  · intro j hj
    rcases List.mem_append.1 hj with hj | hj
    · exact h.new j hj
    · simp at hj; omega
  · intro i u j hu hj
    by_cases hi : i < ts.length
    · rw [List.getElem?_append_left hi] at hu
      rw [List.getElem?_append_left (by omega)] at hj
      exact hf.keep (h.row i u j hu hj) (by simp)
    · have hi2 : i = ts.length := by have := (List.getElem?_eq_some_iff.1 hu).1; simp at this; omega
      subst hi2
      rw [List.getElem?_append_right (Nat.le_refl _)] at hu
      rw [← hl, List.getElem?_append_right (Nat.le_refl _)] at hj
      simp at hu hj
      subst hu hj
      exact hr
  · rw [List.nodup_append]
    refine ⟨h.apart, by simp, ?_⟩
    intro a ha b hb
    simp at hb
    have := h.lt a ha
    omega
/-- All writes of a row are few. -/
def Few (ts : List Tm) : Prop := ∀ t ∈ ts, t.L < 2^21
theorem tms_full {w : World} {g n : Nat} {xs : List Value} (h : w.ownsRow 0 63 2 (.slice (some ⟨g, 0, none⟩) n n) n xs) : w.heap[g]? = some (.cells xs.toArray 63 (0, 0)) := by
  have hl := h.1
  rcases h.2 with ⟨hh, _⟩ | ⟨g', cap', cur, hh, _, hg, _, _, hcs, ht⟩
  · cases hh
  · cases hh
    rw [hg]
    congr 2
    rw [← Array.toList_inj]
    simp only
    rw [← ht, List.take_of_length_le (by simp [hcs])]
theorem own_typeT {w : World} {e : TypeId} {size : Nat} {v : Value} {n : Nat} {vs : List Value} (h : w.ownsRow 0 e size v n vs) : ∀ k, v.ownBlock = some k → ∃ cs, w.heap[k]? = some (.cells cs e (0, 0)) := by
  intro k hk
  rcases h.2 with ⟨rfl, _⟩ | ⟨g, cap, cur, rfl, _, hg, _⟩
  · simp [Value.ownBlock] at hk
  · simp [Value.ownBlock] at hk
    subst hk
    exact ⟨_, hg⟩
theorem Tryz.infoTW : (Tryz.prog.info? 63).map (fun i => (i.zero, i.size, i.bytes)) = some (some (.agg #[.int .i64 0, .slice none 0 0]), 2, 32) := by kernel_rfl
theorem Tryz.undTsW : Tryz.prog.underlying 22 = some (.slice 63) := by kernel_rfl

set_option maxHeartbeats 8000000 in
set_option maxRecDepth 100000 in
theorem twinTs_any (ao : Option Addr) (L cap : Nat) (ts : List Tm) (w : World) (h : TRs w ao ts) (hLe : L = ts.length) (hL : L < 2^21) (hfew : Few ts) :
    Calls Tryz.prog 9 #[.slice ao L cap] w fun e w' => ∃ b ks, e = .returned (.slice (some ⟨b, 0, none⟩) L (L + 1)) ∧ w.heap.size ≤ b ∧ w'.heap[b]? = some (.cells (tmsC (twTs ts ks ++ [spT])).toArray 63 (0, 0)) ∧ Twd w w' ts ks ∧ Fr [] w w' := by
  obtain ⟨i0, hi, hz0, hz1, hz2⟩ := info_parts Tryz.infoTW
  have HL : Hid (L = ts.length) := hLe
  have HFew : Hid (Few ts) := hfew
  clear hLe hfew
  go_enter Tryz.func9, Tryz.ntmps9
  go_wp2_with (at_make; refine wpList_make_own _ rfl (.const (.int .i64 0)) (.tmp 7) 22 rfl 0 63 i0 _ 2 Tryz.undTsW hi hz0 hz1 .i64 .i64 ((L : Int) + 1) (L + 1) rfl rfl ?bC ?b2 ?b3 ?b4 ?_)
  case bC => simp
  case b2 => rw [hz2]; omega
  case b3 => unfold maxLen; omega
  case b4 => exact Nat.zero_le _
  intro w1 hown hgrow
  obtain ⟨g, hg⟩ : ∃ g, g = w.heap.size := ⟨_, rfl⟩
  have hgw : w.heap.size ≤ g := by omega
  rw [← hg] at hown ⊢
  have h01 : Fr [] w w1 := Fr.grown (S := []) hgrow (by simp)
  clear hgrow hg
  go_wp2_with fail
  go_loopw [3, 4] (fun vv ii wr => ∃ (i : Nat) (ks : List Nat), vv = .slice (some ⟨g, 0, none⟩) i (L + 1) ∧ ii = .int .i64 i ∧ i ≤ L ∧ wr.ownsRow 0 63 2 (.slice (some ⟨g, 0, none⟩) i (L + 1)) i (tmsC (twTs (ts.take i) ks)) ∧ Hid (Twd w wr (ts.take i) ks) ∧ Fr [] w wr) (fun _ ii _ => L - (RowKit.intOf ii).toNat)
  case atStart => exact ⟨0, [], rfl, rfl, Nat.zero_le _, by simpa [twTs, tmsC] using hown, Twd.nil _ _, h01⟩
  case round =>
    obtain ⟨i, ks, rfl, rfl, hiL, hO, HW, hF⟩ := hrel
    have hsz := (hO.lt g rfl).2
    by_cases hil : i < L
    · have hi' : i < ts.length := by rw [← HL.out]; exact hil
      obtain ⟨b, off, e, _, hc⟩ := (h.keep hF).lies (by omega)
      subst e
      obtain ⟨d0, d1⟩ := hc i hi'
      have hat := (h.keep hF).each _ (tgetD_mem ts i hi')
      have hfw := HFew.out _ (tgetD_mem ts i hi')
      obtain ⟨x, hx⟩ : ∃ x, x = ts.getD i Tm.zero := ⟨_, rfl⟩
      rw [← hx] at d0 d1 hat hfw
      have HTK : Hid (ts.take (i + 1) = ts.take i ++ [x]) := by show _ = _; rw [ttake_snoc ts i hi', hx]
      clear hc hx
      obtain ⟨n, xo, M, cm, ws⟩ := x
      simp only at d0 d1 hfw
      have hat' : TArg wr n xo M cm ws := hat
      go_wp2_with fail
      refine (twinTxn_any n xo M cm ws _ hat'.rs hat'.len hfw).mono ?_
      rintro e w2 ⟨k, rfl, hk, hrow2, hF2⟩
      have hO2 := owns_keep hO hF2 (by simp)
      have HW2 : Hid (Twd w w2 (ts.take (i + 1)) (ks ++ [k])) := by
        show Twd _ _ _ _
        rw [HTK.out]
        exact HW.out.snoc hF2 hF.size ⟨n, xo, M, cm, ws⟩ k hk hrow2
      have HE : Hid (tmsC (twTs (ts.take (i + 1)) (ks ++ [k])) = tmsC (twTs (ts.take i) ks) ++ [.int .i64 n, .slice (some ⟨k, 0, none⟩) M (M + 1)]) := by
        show _ = _
        rw [HTK.out, twTs_snoc _ _ _ _ HW.out.len, tmsC_append]
        rfl
      have hG2 := hF.then hF2
      have hs2 := hF2.size
      have hgk : g ∉ (ks ++ [k]) := by
        intro hm
        obtain ⟨j, hj⟩ := List.getElem?_of_mem hm
        have hl : j < (ts.take (i + 1)).length := by rw [← HW2.out.len]; exact (List.getElem?_eq_some_iff.1 hj).1
        have h1 := HW2.out.row j _ g (List.getElem?_eq_getElem hl) hj
        obtain ⟨cs, h2⟩ := own_typeT hO2 g rfl
        rw [h1] at h2
        simp at h2
      clear hat hat' hO hrow2 hF2 d0 d1 hF HW
      go_wp2_with (at_builtin; refine wpList_append_fits _ rfl (.tmp 15) (.tmp 21) 22 rfl 0 63 i0 2 Tryz.undTsW hi hz1 g i (L + 1) _ rfl (hO2.alloc _) ⟨w2.heap.size, 0, none⟩ 1 1 [.int .i64 n, .slice (some ⟨k, 0, none⟩) M (M + 1)] rfl rfl ?c1 ?c2 ?c3 ?_)
      case c1 => intro j u hj; match j, hj with | 0, hj => simp at hj; subst hj; simp [Addr.add] | 1, hj => simp at hj; subst hj; simp [Addr.add]
      case c2 => intro u hu; simp at hu; rcases hu with rfl | rfl <;> rfl
      case c3 => omega
      intro w3 hO3 hg3
      rw [← HE.out] at hO3
      have hF3 : Fr [g] w2 w3 := ((Fr.alloc [] w2 _).mono (by simp)).then (Fr.grown (S := [g]) hg3 (by intro k hk _; cases hk; simp))
      have HW3 : Hid (Twd w w3 (ts.take (i + 1)) (ks ++ [k])) := HW2.out.keep hF3 (fun j hj => by intro hh; simp at hh; subst hh; exact hgk hj)
      have hG3 : Fr [] w w3 := hG2.on hF3 (by intro y hy; simp at hy; omega)
      clear hO2 hg3 hF3 hG2 HW2 hgk
      go_wp2
      go_roundw
      case rel => exact ⟨i + 1, ks ++ [k], rfl, by simp, by omega, hO3, HW3, hG3⟩
      case measure => simp [RowKit.intOf]; omega
    · have hiL' : L ≤ i := by omega
      obtain rfl : i = L := by omega
      have HTK : Hid (ts.take i = ts) := List.take_of_length_le (by rw [← HL.out]; omega)
      have HE : Hid (tmsC (twTs ts ks ++ [spT]) = tmsC (twTs (ts.take i) ks) ++ [.int .i64 7777, .slice none 0 0]) := by
        show _ = _
        rw [HTK.out, tmsC_append]; rfl
      have hgk : g ∉ ks := by
        intro hm
        obtain ⟨j, hj⟩ := List.getElem?_of_mem hm
        have hl : j < (ts.take i).length := by rw [← HW.out.len]; exact (List.getElem?_eq_some_iff.1 hj).1
        have h1 := HW.out.row j _ g (List.getElem?_eq_getElem hl) hj
        obtain ⟨cs, h2⟩ := own_typeT hO g rfl
        rw [h1] at h2
        simp at h2
      go_wp2_with (at_builtin; refine wpList_append_fits _ rfl (.tmp 23) (.tmp 25) 22 rfl 0 63 i0 2 Tryz.undTsW hi hz1 g i (i + 1) _ rfl (hO.alloc _) ⟨wr.heap.size, 0, none⟩ 1 1 [.int .i64 7777, .slice none 0 0] rfl rfl ?c1 ?c2 ?c3 ?_)
      case c1 => intro j u hj; match j, hj with | 0, hj => simp at hj; subst hj; simp [Addr.add] | 1, hj => simp at hj; subst hj; simp [Addr.add]
      case c2 => intro u hu; simp at hu; rcases hu with rfl | rfl <;> rfl
      case c3 => omega
      intro w2 hO2 hg2
      rw [← HE.out] at hO2
      have hF1 : Fr [g] wr w2 := ((Fr.alloc [] wr _).mono (by simp)).then (Fr.grown (S := [g]) hg2 (by intro k hk _; cases hk; simp))
      have hF2 : Fr [] w w2 := hF.on hF1 (by intro y hy; simp at hy; omega)
      have HRow : Hid (w2.heap[g]? = some (.cells (tmsC (twTs ts ks ++ [spT])).toArray 63 (0, 0))) := tms_full hO2
      have HW2 : Hid (Twd w w2 ts ks) := by
        have := HW.out.keep hF1 (fun j hj => by intro hh; simp at hh; subst hh; exact hgk hj)
        rw [HTK.out] at this
        exact this
      clear hO hg2 hF hO2 hF1 HW hgk
      go_wp2
      go_ret
      exact ⟨g, ks, rfl, hgw, HRow.out, HW2.out, hF2⟩
end Go.Proofs.YtaefninikmaiiaaGreatDoor
/- What the statements' helper LeftTxns answers of twins; a stronger word on TxnsSize; twins read as what they were made of. Conditions as each names them. -/
namespace Go.Proofs.YtaefninikmaiiaaGreatDoor
open Go.ChangeShapes Go.WideShapes Go.ChangeAt Go.RowKit Go.Lib
set_option linter.unusedVariables false
set_option linter.unusedSimpArgs false

set_option maxHeartbeats 4000000 in
set_option maxRecDepth 100000 in
theorem txnsSizeB_any (ao : Option Addr) (L cap : Nat) (ts : List Tm) (w : World) (hT : TRs w ao ts) (hL : L = ts.length) :
    Calls Tryz.prog 8 #[.slice ao L cap] w fun e w' => ∃ N : Nat, e = .returned (.int .i64 (N : Int)) ∧ N ≤ 9007199254740992 ∧ L ≤ N ∧ (N ≤ 1048576 → Few ts) ∧ Fr [] w w' := by
  have HL : Hid (L = ts.length) := hL
  have hLm : L ≤ 140737488355328 := by have := hT.few; omega
  clear hL
  go_enter Tryz.func8, Tryz.ntmps8
  go_wp2_with fail
  go_loopw [3, 4] (fun nn ii wr => ∃ (n i : Nat), nn = .int .i64 n ∧ ii = .int .i64 i ∧ i ≤ L ∧ n ≤ 9007199254740992 ∧ L ≤ n ∧ Hid (∀ j, j < i → (ts.getD j Tm.zero).L < n) ∧ Fr [] w wr) (fun _ ii _ => L - (RowKit.intOf ii).toNat)
  case atStart => exact ⟨L, 0, rfl, rfl, Nat.zero_le _, by omega, Nat.le_refl _, fun j hj => by omega, Fr.refl _ _⟩
  case round =>
    obtain ⟨n, i, rfl, rfl, hiL, hn, hLn, HE, hFr⟩ := hrel
    by_cases hi : i < L
    · by_cases hbig : n ≤ 1048576
      · have hi' : i < ts.length := by rw [← HL.out]; exact hi
        have hb' : (n : Int) ≤ 1048576 := by omega
        obtain ⟨bb, off, rfl, _, hc⟩ := (hT.keep hFr).lies (by omega)
        have hx := hc i hi'
        have hat := (hT.keep hFr).each _ (tgetD_mem ts i hi')
        obtain ⟨x, hxx⟩ : ∃ x, x = ts.getD i Tm.zero := ⟨_, rfl⟩
        rw [← hxx] at hx hat
        have HX : Hid (x = ts.getD i Tm.zero) := hxx
        clear hxx hc
        obtain ⟨nn, xo, M, cm, ws⟩ := x
        obtain ⟨c0, c1⟩ := hx
        simp only at c0 c1
        have hat' : TArg wr nn xo M cm ws := hat
        have hML := hat'.len
        have HML : Hid (M = ws.length) := hML
        clear hML
        go_wp2_with fail
        refine (txSize_any nn xo M cm ws _ hat'.rs hat'.len).mono ?_
        rintro e w2 ⟨K, rfl, hW, hF2⟩
        have hK : K ≤ 1125899906842624 := hW.2.1
        have hKM : M ≤ K := by have := hW.1; rw [HML.out]; exact this
        have HE2 : Hid (∀ j, j < i + 1 → (ts.getD j Tm.zero).L < n + (K + 1)) := by
          intro j hj
          by_cases hji : j = i
          · subst hji
            rw [← HX.out]
            show M < _
            omega
          · have := HE.out j (by omega); omega
        have hG2 := hFr.then hF2
        clear hat hat' hW hF2 hFr
        go_wp2
        go_roundw
        case rel => exact ⟨n + (K + 1), i + 1, by simp, by simp, by omega, by omega, by omega, HE2, hG2⟩
        case measure => simp [RowKit.intOf]; omega
      · have hb' : (1048576 : Int) < n := by omega
        have hb2 : ¬ ((n : Int) ≤ 1048576) := by omega
        go_wp2
        go_ret
        exact ⟨n, rfl, hn, hLn, fun h => absurd h hbig, hFr⟩
    · go_wp2
      go_ret
      refine ⟨n, rfl, hn, hLn, fun h t ht => ?_, hFr⟩
      obtain ⟨j, hj, rfl⟩ := List.getElem_of_mem ht
      have := HE.out j (by have := HL.out; omega)
      simp only [List.getD, List.getElem?_eq_getElem hj, Option.getD_some] at this
      omega
set_option maxHeartbeats 8000000 in
set_option maxRecDepth 100000 in
theorem leftTs_any (b : Nat) (ks : List Nat) (w0 : World) (ao : Option Addr) (L cap : Nat) (ts : List Tm) (w : World) (h : TRs w ao ts) (hLe : L = ts.length) (hL : L < 2^21) (hfew : Few ts) (hT : Twd w0 w ts ks) (hrow : w.heap[b]? = some (.cells (tmsC (twTs ts ks ++ [spT])).toArray 63 (0, 0))) :
    Calls Tryz.prog 14 #[.slice (some ⟨b, 0, none⟩) L (L + 1), .slice ao L cap] w fun e w' => e = .returned (.bool true) ∧ Fr [] w w' := by
  have HL : Hid (L = ts.length) := hLe
  have HFew : Hid (Few ts) := hfew
  have HT : Hid (Twd w0 w ts ks) := hT
  have hcl : ∀ j c, j < L + 1 → c < 2 → w.cell? ⟨b, j * 2 + c, none⟩ = (tmC ((twTs ts ks ++ [spT]).getD j Tm.zero))[c]? := by
    intro j c hj hc
    rw [cell_of_row _ _ _ _ _ _ hrow]
    have := tmsC_get (twTs ts ks ++ [spT]) j c (by rw [List.length_append, twTs_length ts ks hT.len, ← hLe]; simpa using hj) hc
    simpa using this
  have hlb := lt_of_block hrow
  have hct : ∀ j t k, ts[j]? = some t → ks[j]? = some k → w.cell? ⟨b, j * 2, none⟩ = some (.int .i64 t.n) ∧ w.cell? ⟨b, j * 2 + 1, none⟩ = some (.slice (some ⟨k, 0, none⟩) t.L (t.L + 1)) := by
    intro j t k ht hk
    have hj : j < ts.length := (List.getElem?_eq_some_iff.1 ht).1
    have hu : (twTs ts ks)[j]? = some (twT t k) := by
      unfold twTs
      rw [List.getElem?_zipWith, ht, hk]
    have e : (twTs ts ks ++ [spT]).getD j Tm.zero = twT t k := by
      rw [List.getD, List.getElem?_append_left (by rw [twTs_length ts ks hT.len]; exact hj), hu]
      rfl
    have a := hcl j 0 (by omega) (by omega)
    have c := hcl j 1 (by omega) (by omega)
    rw [e] at a c
    exact ⟨a, c⟩
  have hsp : w.cell? ⟨b, L * 2, none⟩ = some (.int .i64 7777) ∧ w.cell? ⟨b, L * 2 + 1, none⟩ = some (.slice none 0 0) := by
    have e : (twTs ts ks ++ [spT]).getD L Tm.zero = spT := by
      rw [List.getD, List.getElem?_append_right (by rw [twTs_length ts ks hT.len]; omega), twTs_length ts ks hT.len, hLe]
      simp
    have a := hcl L 0 (by omega) (by omega)
    have c := hcl L 1 (by omega) (by omega)
    rw [e] at a c
    exact ⟨a, c⟩
  have HCT : Hid (∀ j t k, ts[j]? = some t → ks[j]? = some k → _) := hct
  have hne : ((L : Int) != L) = false := by simp
  clear hLe hfew hT hrow hcl hct
  go_enter Tryz.func14, Tryz.ntmps14
  go_wp2_with fail
  go_loopw [5] (fun ii wr => ∃ (i : Nat), ii = .int .i64 i ∧ i ≤ L ∧ Fr [] w wr) (fun ii _ => L - (RowKit.intOf ii).toNat)
  case atStart => exact ⟨0, rfl, Nat.zero_le _, Fr.refl _ _⟩
  case round =>
    obtain ⟨i, rfl, hiL, hFr⟩ := hrel
    by_cases hi : i < L
    · have hix : i < ts.length := by rw [← HL.out]; exact hi
      have hik : i < ks.length := by rw [HT.out.len]; exact hix
      obtain ⟨b2, o2, rfl, hlt2, hc2⟩ := (h.keep hFr).lies (by omega)
      have hy := hc2 i hix
      have haty := (h.keep hFr).each _ (tgetD_mem ts i hix)
      have hfw := HFew.out _ (tgetD_mem ts i hix)
      have hty : ts[i]? = some (ts.getD i Tm.zero) := by simp [List.getD, hix]
      obtain ⟨k, hk⟩ : ∃ k, ks[i]? = some k := ⟨_, List.getElem?_eq_getElem hik⟩
      obtain ⟨c0, c1⟩ := HCT.out i _ k hty hk
      have hrowk := HT.out.row i _ k hty hk
      obtain ⟨y, hyy⟩ : ∃ y, y = ts.getD i Tm.zero := ⟨_, rfl⟩
      rw [← hyy] at hy haty c0 c1 hrowk hfw
      clear hyy hc2 hty hk
      obtain ⟨n2, x2, m2, k2, ws2⟩ := y
      obtain ⟨d0, d1⟩ := hy
      simp only at c0 c1 d0 d1 hrowk hfw
      have hay : TArg wr n2 x2 m2 k2 ws2 := haty
      have hST := leftTxn_any n2 k x2 m2 k2 ws2 wr.drew (hay.rs.keep (Fr.drew [] wr)) hay.len hfw ((hFr.then (Fr.drew [] wr)).keep hrowk (by simp))
      have p0 : wr.drew.cell? ⟨b, i * 2, none⟩ = some (.int .i64 n2) := (World.cell?_of_block ((hFr.then (Fr.drew [] wr)).block b hlb (by simp))).trans c0
      have p1 : wr.drew.cell? ⟨b, i * 2 + 1, none⟩ = some (.slice (some ⟨k, 0, none⟩) m2 (m2 + 1)) := (World.cell?_of_block ((hFr.then (Fr.drew [] wr)).block b hlb (by simp))).trans c1
      have g0 : wr.drew.cell? ⟨b2, o2 + i * 2, none⟩ = some (.int .i64 n2) := d0
      have g1 : wr.drew.cell? ⟨b2, o2 + i * 2 + 1, none⟩ = some (.slice x2 m2 k2) := d1
      have hq1 : b < wr.drew.heap.size := by have := (hFr.then (Fr.drew [] wr)).size; omega
      have hq2 : b2 < wr.drew.heap.size := hlt2
      have r0 : wr.cell? ⟨b, i * 2, none⟩ = some (.int .i64 n2) := p0
      have r1 : wr.cell? ⟨b, i * 2 + 1, none⟩ = some (.slice (some ⟨k, 0, none⟩) m2 (m2 + 1)) := p1
      clear haty hay hlt2 c0 c1 hrowk
      go_wp2_with fail
      go_region_held3 (fun W => W.cell? ⟨b, i * 2, none⟩ = some (.int .i64 n2) ∧ W.cell? ⟨b, i * 2 + 1, none⟩ = some (.slice (some ⟨k, 0, none⟩) m2 (m2 + 1)) ∧ W.cell? ⟨b2, o2 + i * 2, none⟩ = some (.int .i64 n2) ∧ W.cell? ⟨b2, o2 + i * 2 + 1, none⟩ = some (.slice x2 m2 k2)) (go_keep)
        (with_reducible refine hST.mono ?_; rintro e w2 ⟨rfl, hF2⟩; have z0 := (World.cell?_of_block (hF2.block b hq1 (by simp))).trans p0; have z1 := (World.cell?_of_block (hF2.block b hq1 (by simp))).trans p1; have z2 := (World.cell?_of_block (hF2.block b2 hq2 (by simp))).trans g0; have z3 := (World.cell?_of_block (hF2.block b2 hq2 (by simp))).trans g1)
      have hG2 := hFr.then ((Fr.drew [] wr).then hF2)
      clear hST hF2 d0 d1 p0 p1 g0 g1 r0 r1 z0 z1 z2 z3
      go_wp2
      go_roundw
      case rel => exact ⟨i + 1, by simp, by omega, hG2⟩
      case measure => simp [RowKit.intOf]; omega
    · obtain rfl : i = L := by omega
      have c0 : wr.cell? ⟨b, i * 2, none⟩ = some (.int .i64 7777) := (World.cell?_of_block (hFr.block b hlb (by simp))).trans hsp.1
      have c1 : wr.cell? ⟨b, i * 2 + 1, none⟩ = some (.slice none 0 0) := (World.cell?_of_block (hFr.block b hlb (by simp))).trans hsp.2
      go_wp2
      go_ret
      exact ⟨by simp, hFr.then (Fr.alloc [] _ _)⟩
/-- A twin reads as what it was made of. -/
theorem twin_at {w w' : World} {t : Tm} {k : Nat} (h : t.at w) (hr : w'.heap[k]? = some (.cells (wtsC (t.ws ++ [spW])).toArray 124 (0, 0))) : (twT t k).at w' :=
  ⟨WRs.of_row (rest := wtsC [spW]) (t := 124) (f := (0, 0)) (by rw [← wtsC_append]; exact hr) h.rs.few h.rs.each, h.len, h.n0, h.n1⟩
theorem twins_trs {w0 w w' : World} {ts : List Tm} {ks : List Nat} {b : Nat} {ao : Option Addr} (h : TRs w0 ao ts) (hT : Twd w w' ts ks) (hb : w'.heap[b]? = some (.cells (tmsC (twTs ts ks ++ [spT])).toArray 63 (0, 0))) : TRs w' (some ⟨b, 0, none⟩) (twTs ts ks) := by
  refine TRs.of_row (rest := tmsC [spT]) (t := 63) (f := (0, 0)) (by rw [← tmsC_append]; exact hb) (by rw [twTs_length ts ks hT.len]; exact h.few) ?_
  intro u hu
  obtain ⟨i, hi⟩ := List.getElem?_of_mem hu
  obtain ⟨t, k, ht, hk, rfl⟩ := twTs_get hi
  exact twin_at (h.each t (List.mem_of_getElem? ht)) (hT.row i t k ht hk)
end Go.Proofs.YtaefninikmaiiaaGreatDoor
