/- Texts of this claim laid together, one behind the other: contracts and plain lemmas; conditions as each names them. -/
import Derived.Test.YtaefninikmaiiaaGreatDoorRows
import Derived.WalkKit
import Derived.ProofKit
import Derived.OpenShut
import Derived.Deep.QuietTactic
import Derived.BigQuiet
import Derived.BigRegion
import Derived.Lib.AppendStr
import Derived.Laws.CopyOwn
import Derived.ShutString
import Derived.ChangeOld
import Derived.Below
import Derived.Deep.Slices
import Derived.SizedLaws
import Derived.Deep.RegionWith
import Derived.Deep.LoopGhost
import Derived.Deep.CutRange
import Derived.Laws.ResultCell
import Derived.Laws.AppendOwn
import Derived.Deep.RegionLaw
import Derived.Deep.RegionHeld3
/- What the codec's writers and readers are in memory: the frame of a call (which blocks it may write), bytes as cells, and what an append to a row of one's own leaves. No conditions but those each lemma names. -/
namespace Go.Proofs.YtaefninikmaiiaaGreatDoor
open Go.ChangeShapes Go.WideShapes Go.ChangeAt Go.RowKit Go.Lib

theorem Tryz.infoB : (Tryz.prog.info? 5).map (fun i => (i.zero, i.size, i.bytes)) = some (some (.int .u8 0), 1, 1) := by kernel_rfl
theorem Tryz.undStr : Tryz.prog.underlying 9 = some .string := by kernel_rfl

/-- Only blocks of S (and new ones) may differ. -/
structure Fr (S : List Nat) (w w' : World) : Prop where
  os : w'.os = w.os
  tape : w'.tape = w.tape
  output : w'.output = w.output
  size : w.heap.size ≤ w'.heap.size
  block : ∀ k, k < w.heap.size → k ∉ S → w'.heap[k]? = w.heap[k]?

theorem Fr.refl (S : List Nat) (w : World) : Fr S w w := ⟨rfl, rfl, rfl, Nat.le_refl _, fun _ _ _ => rfl⟩
theorem Fr.trans {S T U : List Nat} {a b c : World} (h : Fr S a b) (k : Fr T b c) (hS : ∀ x, x ∈ S → x < a.heap.size → x ∈ U) (hT : ∀ x, x ∈ T → x < a.heap.size → x ∈ U) : Fr U a c :=
  ⟨k.os.trans h.os, k.tape.trans h.tape, k.output.trans h.output, Nat.le_trans h.size k.size,
   fun i hi hn => (k.block i (Nat.lt_of_lt_of_le hi h.size) (fun x => hn (hT i x hi))).trans (h.block i hi (fun x => hn (hS i x hi)))⟩
theorem Fr.mono {S T : List Nat} {a b : World} (h : Fr S a b) (hS : ∀ x, x ∈ S → x < a.heap.size → x ∈ T) : Fr T a b :=
  ⟨h.os, h.tape, h.output, h.size, fun i hi hn => h.block i hi (fun x => hn (hS i x hi))⟩
theorem Fr.then {S : List Nat} {a b c : World} (h : Fr S a b) (k : Fr S b c) : Fr S a c := h.trans k (fun _ x _ => x) (fun _ x _ => x)
theorem Fr.alloc (S : List Nat) (w : World) (o : Obj) : Fr S w (w.alloc o) :=
  ⟨rfl, rfl, rfl, by simp, fun k hk _ => Below.heap_alloc _ _ _ hk⟩
theorem Fr.drew (S : List Nat) (w : World) : Fr S w w.drew := ⟨rfl, rfl, rfl, Nat.le_refl _, fun _ _ _ => rfl⟩
theorem Fr.drewN (S : List Nat) (w : World) (q : Nat) : Fr S w (w.drewN q) := ⟨rfl, rfl, rfl, Nat.le_refl _, fun _ _ _ => rfl⟩
theorem Fr.set {S : List Nat} (w : World) (p : Addr) (u : Value) (h : p.block ∈ S) : Fr S w (w.setCell p u) :=
  ⟨rfl, rfl, rfl, by simp [World.setCell], fun k _ hn => Below.heap_setCell _ _ _ _ (fun e => hn (e ▸ h))⟩
theorem Fr.grown {S : List Nat} {w w' : World} {row : Option Nat} (hg : w.grownBy w' row) (h : ∀ k, row = some k → k < w.heap.size → k ∈ S) : Fr S w w' :=
  ⟨hg.os, hg.tape, hg.output, hg.size, fun k hk hn => hg.block k hk (fun e => hn (h k e.symm hk))⟩
theorem Fr.below {S : List Nat} {w w' : World} {B : Nat} (h : Fr S w w') (hB : B ≤ w.heap.size) (hS : ∀ x, x ∈ S → B ≤ x) : Below B w w' :=
  ⟨h.os, h.tape, h.output, h.size, fun k hk => h.block k (by omega) (fun x => by have := hS k x; omega)⟩
theorem Fr.keep {S : List Nat} {w w' : World} (h : Fr S w w') {b : Nat} {o : Obj} (hb : w.heap[b]? = some o) (hn : b ∉ S) : w'.heap[b]? = some o :=
  (h.block b (lt_of_block hb) hn).trans hb

/-- Bytes as cells. -/
def bts (xs : List Nat) : List Value := xs.map fun (x : Nat) => Value.int .u8 (x : Int)
theorem bts_length (xs : List Nat) : (bts xs).length = xs.length := by simp [bts]
theorem bts_append (xs ys : List Nat) : bts (xs ++ ys) = bts xs ++ bts ys := by simp [bts]
theorem bts_get (xs : List Nat) (j : Nat) (h : j < xs.length) : (bts xs)[j]? = some (.int .u8 ((xs.getD j 0 : Nat) : Int)) := by
  simp [bts, List.getD, h]
theorem bts_oneCell (xs : List Nat) : ∀ u ∈ bts xs, u.oneCell' = true := by
  intro u hu
  obtain ⟨_, _, rfl⟩ := List.mem_map.1 hu
  rfl
/-- A string's bytes as numbers. -/
def strNs (s : ByteArray) : List Nat := s.data.toList.map fun b => b.toNat
theorem strNs_length (s : ByteArray) : (strNs s).length = s.size := by
  rw [strNs, List.length_map, Array.length_toList]
  rfl
theorem bts_strNs (s : ByteArray) : bts (strNs s) = strCells s := by simp [bts, strNs, strCells]
theorem strNs_lt (s : ByteArray) : ∀ x ∈ strNs s, x < 256 := by
  intro x hx
  obtain ⟨b, _, rfl⟩ := List.mem_map.1 hx
  exact b.toNat_lt

/-- The row that a slice owns moved to a new block, or not at all. -/
def Moved (n : Nat) (v v' : Value) : Prop := v'.ownBlock = v.ownBlock ∨ ∃ k, v'.ownBlock = some k ∧ n ≤ k

theorem Moved.refl (n : Nat) (v : Value) : Moved n v v := Or.inl rfl
theorem Moved.trans {n m : Nat} {a b c : Value} (h : Moved n a b) (k : Moved m b c) (hnm : n ≤ m) : Moved n a c := by
  rcases k with k | ⟨x, k1, k2⟩
  · rcases h with h | ⟨y, h1, h2⟩
    · exact Or.inl (k.trans h)
    · exact Or.inr ⟨y, k.trans h1, h2⟩
  · exact Or.inr ⟨x, k1, by omega⟩
theorem Moved.lt {n B : Nat} {v v' : Value} (h : Moved n v v') (hB : B ≤ n) (hv : ∀ k, v.ownBlock = some k → B ≤ k) : ∀ k, v'.ownBlock = some k → B ≤ k := by
  intro k hk
  rcases h with h | ⟨y, h1, h2⟩
  · exact hv k (h ▸ hk)
  · rw [h1] at hk; cases hk; omega

section
variable {P : Program} (w : World)

theorem moved_app (t ty e : TypeId) (i : TypeInfo) (z : Value) (size bytes : Nat) (ht : P.underlying t = some (.slice e)) (hi : P.info? e = some i) (hz : i.zero = some z)
    (hsize : i.size = size) (hby : i.bytes = bytes)
    (v : Value) (n : Nat) (xs : List Value) (hown : w.ownsRow 0 e size v n xs)
    (a : Addr) (m c : Nat) (news : List Value) (hm : 0 < m) (hl : news.length = m * size) (hnews : ∀ j u, news[j]? = some u → w.cell? (a.add j) = some u) (h1 : ∀ u ∈ news, u.oneCell' = true)
    (h63 : n + m ≤ maxLen) (hbytes : (n + m) * bytes ≤ 140737488355328) (v' : Value) (w' : World)
    (hr : (Builtin.append_ #[t, t] ty #[v, .slice (some a) m c]).run P w = .ok v' w') : Moved w.heap.size v v' := by
  subst hsize
  subst hby
  have hsmall : n + m ≤ 9223372036854775807 := by simp only [maxLen] at h63; omega
  rcases hown.2 with ⟨rfl, rfl⟩ | ⟨g, cap, cur, rfl, hbg, hg, hnc, hcm, hcs, htake⟩
  · have hr2 := run_append_nil (P := P) w t ty e i z ht hi hz a m c news hl hnews (by omega) (by omega) (by have hb := hbytes; simp only [Nat.zero_add] at hb; omega)
    rw [hr] at hr2
    cases hr2
    exact Or.inr ⟨_, rfl, Nat.le_refl _⟩
  · by_cases hroom : n + m ≤ cap
    · have hfit : n * i.size + news.length ≤ cur.size := by rw [hl, hcs, ← Nat.add_mul]; exact Nat.mul_le_mul_right _ hroom
      have hr2 := run_append_room (P := P) w t ty e i ht hi g n cap cur hg a m c news hl hnews h1 hroom hfit
      rw [hr] at hr2
      cases hr2
      exact Or.inl rfl
    · have holds : ∀ j u, xs[j]? = some u → w.cell? ((⟨g, 0, none⟩ : Addr).add j) = some u := hown.cells (g := g) rfl
      have hr2 := run_append_grow (P := P) w t ty e i z ht hi hz ⟨g, 0, none⟩ n cap xs hown.1 holds a m c news hl hnews (by omega) (by omega) (growslice_fits (by omega) hbytes)
      rw [hr] at hr2
      cases hr2
      exact Or.inr ⟨_, rfl, Nat.le_refl _⟩

theorem moved_appS (t u ty e : TypeId) (i : TypeInfo) (ht : P.underlying t = some (.slice e)) (hu : P.underlying u = some .string) (hi : P.info? e = some i) (hz : i.zero = some (.int .u8 0))
    (hsize : i.size = 1) (hby : i.bytes = 1)
    (v : Value) (n : Nat) (xs : List Value) (hown : w.ownsRow 0 e 1 v n xs) (s : ByteArray)
    (h63 : n + s.size ≤ maxLen) (hbytes : n + s.size ≤ 140737488355328) (v' : Value) (w' : World)
    (hr : (Builtin.append_ #[t, u] ty #[v, .string s]).run P w = .ok v' w') (hnil : v' = .slice none 0 0 ↔ v = .slice none 0 0 ∧ s.size = 0) : Moved w.heap.size v v' := by
  have hsmall : n + s.size ≤ 9223372036854775807 := by simp only [maxLen] at h63; omega
  rcases hown.2 with ⟨rfl, rfl⟩ | ⟨g, cap, cur, rfl, hbg, hg, hnc, hcm, hcs, htake⟩
  · by_cases hm : s.size = 0
    · rw [hnil.2 ⟨rfl, hm⟩]
      exact Moved.refl _ _
    · have hr2 := run_append_nil_string (P := P) w t u ty e i (.int .u8 0) ht hu hi hz s (by omega) (by omega) (by rw [hby]; omega)
      rw [hr] at hr2
      cases hr2
      exact Or.inr ⟨_, rfl, Nat.le_refl _⟩
  · by_cases hroom : n + s.size ≤ cap
    · have hcs' : cur.size = cap := by simpa using hcs
      have hr2 := run_append_room_string (P := P) w t u ty e i ht hu hi hsize g n cap cur hg s hroom (by omega)
      rw [hr] at hr2
      cases hr2
      exact Or.inl rfl
    · have holds : ∀ j u, xs[j]? = some u → w.cell? ((⟨g, 0, none⟩ : Addr).add j) = some u := hown.cells (g := g) rfl
      have hr2 := run_append_grow_string (P := P) w t u ty e i (.int .u8 0) ht hu hi hz ⟨g, 0, none⟩ n cap xs (by rw [hsize]; exact hown.1) holds s (by omega) (by omega) (by rw [hby]; exact growslice_fits (by omega) (by omega))
      rw [hr] at hr2
      cases hr2
      exact Or.inr ⟨_, rfl, Nat.le_refl _⟩

/-- A string's bytes behind a row of one's own. -/
theorem wpList_appS {ops : Array Oper} {rest : List Oper} {o : Oper} {a : Act} {Q : Exit → Act → World → Prop} (hgd : o.guard = none) (sl x : Operand) (t u : TypeId)
    (ho : o.op = .call { callee := .builtin .append, args := #[sl, x], argTypes := #[t, u] })
    (e : TypeId) (i : TypeInfo) (ht : P.underlying t = some (.slice e)) (hu : P.underlying u = some .string) (hi : P.info? e = some i) (hz : i.zero = some (.int .u8 0))
    (hsize : i.size = 1) (hby : i.bytes = 1)
    (v : Value) (n : Nat) (xs : List Value) (hs : a.eval sl = v) (hown : w.ownsRow 0 e 1 v n xs) (s : ByteArray) (hx : a.eval x = .string s)
    (hbytes : n + s.size ≤ 140737488355328) (h63 : n + s.size ≤ maxLen)
    (h : ∀ ao n' cap w', n' = n + s.size → w'.ownsRow 0 e 1 (.slice ao n' cap) n' (xs ++ strCells s) → w.grownBy w' v.ownBlock → Moved w.heap.size v (.slice ao n' cap) → wpList P ops Q rest (a.put o.dst (.slice ao n' cap)) w') : wpList P ops Q (o :: rest) a w := by
  refine wpList_plain hgd fun K hK => ?_
  obtain ⟨v', w', hr, h2, h3, h4⟩ := run_append_own_string (P := P) w 0 t u o.type e i ht hu hi hz hsize hby v n xs hown s h63 hbytes (Nat.zero_le _)
  have hmv := moved_appS (P := P) w t u o.type e i ht hu hi hz hsize hby v n xs hown s h63 hbytes v' w' hr h4
  obtain ⟨ao, cap, rfl⟩ : ∃ ao cap, v' = .slice ao (n + s.size) cap := by
    rcases h2.2 with ⟨hh, h0⟩ | ⟨g, cap', _, hh, _⟩
    · exact ⟨none, 0, by rw [hh, h0]⟩
    · exact ⟨_, cap', hh⟩
  unfold Oper.wp execOp
  simp only [ho, resolve, invoke, builtin, Sem.run_bind, Sem.run_pure, Result.andThen_ok, List.map_toArray, List.map_cons, List.map_nil, hs, hx, hr]
  exact hK _ _ (h ao _ cap w' rfl h2 h3 hmv)

/-- One more element behind a row of one's own, laid in a block of its own ahead of it. -/
theorem wpList_app1 {ops : Array Oper} {rest : List Oper} {o : Oper} {a : Act} {Q : Exit → Act → World → Prop} (hgd : o.guard = none) (s x : Operand) (t : TypeId)
    (ho : o.op = .call { callee := .builtin .append, args := #[s, x], argTypes := #[t, t] })
    (e : TypeId) (i : TypeInfo) (z : Value) (size bytes : Nat) (ht : P.underlying t = some (.slice e)) (hi : P.info? e = some i) (hz : i.zero = some z)
    (hsize : i.size = size) (hby : i.bytes = bytes) (hzs : z.cells.size = size) (hsz : 0 < size)
    (v : Value) (n : Nat) (xs : List Value) (hs : a.eval s = v) (hown : w.ownsRow 0 e size v n xs)
    (ad : Addr) (c : Nat) (news : List Value) (hx : a.eval x = .slice (some ad) 1 c) (hl : news.length = size) (hnews : ∀ j u, news[j]? = some u → w.cell? (ad.add j) = some u) (h1 : ∀ u ∈ news, u.oneCell' = true)
    (hbytes : (n + 1) * bytes ≤ 140737488355328) (h63 : n + 1 ≤ maxLen)
    (h : ∀ g cap w', w'.ownsRow 0 e size (.slice (some ⟨g, 0, none⟩) (n + 1) cap) (n + 1) (xs ++ news) → w.grownBy w' v.ownBlock → Moved w.heap.size v (.slice (some ⟨g, 0, none⟩) (n + 1) cap) → wpList P ops Q rest (a.put o.dst (.slice (some ⟨g, 0, none⟩) (n + 1) cap)) w') : wpList P ops Q (o :: rest) a w := by
  refine wpList_plain hgd fun K hK => ?_
  have hl' : news.length = 1 * size := by omega
  obtain ⟨v', w', hr, h2, h3, h4⟩ := run_append_own (P := P) w 0 t o.type e i z size bytes ht hi hz hsize hby hzs hsz v n xs hown ad 1 c news hl' hnews h1 h63 hbytes (Nat.zero_le _)
  have hmv := moved_app (P := P) w t o.type e i z size bytes ht hi hz hsize hby v n xs hown ad 1 c news (by omega) hl' hnews h1 h63 hbytes v' w' hr
  obtain ⟨g, cap, rfl⟩ : ∃ g cap, v' = .slice (some ⟨g, 0, none⟩) (n + 1) cap := by
    rcases h2.2 with ⟨_, hh⟩ | ⟨g, cap', _, hh, _⟩
    · omega
    · exact ⟨g, cap', hh⟩
  unfold Oper.wp execOp
  simp only [ho, resolve, invoke, builtin, Sem.run_bind, Sem.run_pure, Result.andThen_ok, List.map_toArray, List.map_cons, List.map_nil, hs, hx, hr]
  exact hK _ _ (h g cap w' h2 h3 hmv)
end

/-- A row of one's own stays where the frame leaves it. -/
theorem owns_keep {S : List Nat} {w w' : World} {e : TypeId} {size : Nat} {v : Value} {n : Nat} {xs : List Value} (h : w.ownsRow 0 e size v n xs) (hf : Fr S w w') (hn : ∀ k, v.ownBlock = some k → k ∉ S) : w'.ownsRow 0 e size v n xs := by
  refine ⟨h.1, ?_⟩
  rcases h.2 with hh | ⟨g, cap, cur, rfl, hb, hgg, rest⟩
  · exact .inl hh
  · exact .inr ⟨g, cap, cur, rfl, hb, hf.keep hgg (hn g rfl), rest⟩

theorem two_setCell1 {w : World} {b : Nat} {u v x : Value} {t : TypeId} (h : w.heap[b]? = some (.cells #[u, v] t (0, 0))) : (w.setCell ⟨b, 1, none⟩ x).heap[b]? = some (.cells #[u, x] t (0, 0)) := by
  have hlt := lt_of_block h
  have h' : w.heap[b] = .cells #[u, v] t (0, 0) := by simpa [Array.getElem?_eq_getElem hlt] using h
  show (w.heap.modify b _)[b]? = _
  rw [Array.getElem?_eq_getElem (by simpa using hlt), Array.getElem_modify_self, h']
  rfl

theorem own_lit {w : World} {e : TypeId} {g n cap : Nat} {xs : List Value} (h : w.ownsRow 0 e 1 (.slice (some ⟨g, 0, none⟩) n cap) n xs) : ∃ cur, w.heap[g]? = some (.cells cur e (0, 0)) ∧ cur.size = cap := by
  rcases h.2 with ⟨hh, _⟩ | ⟨g', cap', cur, hh, _, hg, _, _, hcs, _⟩
  · cases hh
  · cases hh
    exact ⟨cur, hg, by simpa using hcs⟩
theorem Tryz.sizeB : (Tryz.prog.info? 5).map (fun i => i.size) = some 1 := by kernel_rfl
theorem Fr.setRow (w : World) (g : Nat) (cs : Array Value) : Fr [g] w (w.setRow g cs) :=
  ⟨rfl, rfl, rfl, by simp [World.setRow], fun k _ hn => setRow_other w g k cs (by simpa using hn)⟩
theorem Fr.on {T : List Nat} {a b c : World} (h : Fr [] a b) (k : Fr T b c) (hT : ∀ x, x ∈ T → a.heap.size ≤ x) : Fr [] a c :=
  h.trans k (fun _ x _ => x) (fun x hx hl => by have := hT x hx; omega)
end Go.Proofs.YtaefninikmaiiaaGreatDoor
/- A slice of bytes that came in, and the statements' own test of sizes. Conditions as each lemma names them. -/
namespace Go.Proofs.YtaefninikmaiiaaGreatDoor
open Go.ChangeShapes Go.WideShapes Go.ChangeAt Go.RowKit Go.Lib

set_option maxHeartbeats 1000000 in
theorem beyond_any (k L : Nat) (w : World) (hL : L ≤ 9223372036854775807) (hc : w.cell? ⟨k, 0, none⟩ = some (.int .i64 (L : Int))) :
    Calls Tryz.prog 7 #[.slice (some ⟨k, 0, none⟩) 1 1] w fun e w' => e = .returned (.bool (decide (1048576 < L))) ∧ w = w' := by
  by_cases h : 1048576 < L
  · have h' : (1048576 : Int) < L := by omega
    have E : Hid (decide (1048576 < L) = true) := by simp [Hid, h]
    go_enter Tryz.func7, Tryz.ntmps7
    go_wp2_with fail
    refine wp_loop_rounds 1 ?_
    rw [rounds_succ]
    go_wp2
    go_ret
    rw [E.out]
    exact ⟨rfl, rfl⟩
  · have h' : (L : Int) ≤ 1048576 := by omega
    have E : Hid (decide (1048576 < L) = false) := by simp [Hid, h]
    go_enter Tryz.func7, Tryz.ntmps7
    go_wp2_with fail
    refine wp_loop_rounds 2 ?_
    rw [rounds_succ]
    go_wp2
    rw [rounds_succ]
    go_wp2
    go_ret
    rw [E.out]
    exact ⟨rfl, rfl⟩
end Go.Proofs.YtaefninikmaiiaaGreatDoor
/- Transactions as plain things. Plain lemmas. -/
namespace Go.Proofs.YtaefninikmaiiaaGreatDoor
open Go.ChangeShapes Go.WideShapes Go.ChangeAt Go.RowKit Go.Lib

/-- A write. -/
structure Wt where
  key : ByteArray
  val : ByteArray
  drop : Bool

def noS : ByteArray := ⟨#[]⟩
theorem noS_iff (s : ByteArray) : s.size = 0 ↔ s = noS := by
  constructor
  · intro h
    cases s with
    | mk d =>
      have hd : d.size = 0 := h
      have : d = #[] := Array.eq_empty_of_size_eq_zero hd
      rw [this]
      rfl
  · rintro rfl
    rfl

/-- May a write be? -/
def okW (x : Wt) : Prop := 1 ≤ x.key.size ∧ x.key.size ≤ 64 ∧ x.val.size ≤ 1024 ∧ (x.drop = true → x.val = noS)
/-- May a transaction be? -/
def okT (n : Int) (ws : List Wt) : Prop := 1 ≤ n ∧ n ≤ 65536 ∧ ws.length ≤ 32 ∧ ∀ x ∈ ws, okW x

def refN (n : Nat) : Nat := if n < 1 ∨ 65536 < n then 1 else 0
def refC (n : Nat) : Nat := if 32 < n then 3 else 0
def refK (s : ByteArray) : Nat := if s.size = 0 then 1 else 0
def refD (n : Nat) : Nat := if n = 0 ∨ n = 1 then 0 else 4
def refV (_ : ByteArray) : Nat := 0
theorem drop_left (a b : List Nat) : (a ++ b).drop a.length = b := List.drop_left
theorem take_low (a b : List Nat) (k : Nat) (h : k < a.length) : (a ++ b).take k = a.take k := by
  rw [List.take_append_of_le_length (by omega)]
theorem take_high (a b : List Nat) (k : Nat) (h : a.length ≤ k) : (a ++ b).take k = a ++ b.take (k - a.length) := by
  rw [List.take_append, List.take_of_length_le h]

theorem refK_ok {x : Wt} (h : okW x) : refK x.key = 0 := by
  unfold refK
  rw [if_neg (by have := h.1; omega)]

theorem refN_ok {n : Nat} {ws : List Wt} (h : okT (n : Int) ws) : refN n = 0 := by
  unfold refN
  rw [if_neg (by have := h.1; have := h.2.1; omega)]
theorem refC_ok {n : Int} {ws : List Wt} (h : okT n ws) : refC ws.length = 0 := by
  unfold refC
  rw [if_neg (by have := h.2.2.1; omega)]
/-! ### What is taken is told again -/
theorem lt_drop {xs : List Nat} (hb : ∀ x ∈ xs, x < 256) (k : Nat) : ∀ x ∈ xs.drop k, x < 256 := fun x hx => hb x (List.mem_of_mem_drop hx)
/-! ### Errors are none of OK -/
end Go.Proofs.YtaefninikmaiiaaGreatDoor
/- Writes in memory: cells, slices of writes that read as a list, structs of a transaction. Conditions as each lemma names them. -/
namespace Go.Proofs.YtaefninikmaiiaaGreatDoor
open Go.ChangeShapes Go.WideShapes Go.ChangeAt Go.RowKit Go.Lib

def Wt.zero : Wt := ⟨noS, noS, false⟩
/-- A write's cells. -/
def wtC (x : Wt) : List Value := [.string x.key, .string x.val, .bool x.drop]
def wtsC : List Wt → List Value
  | [] => []
  | x :: r => wtC x ++ wtsC r
theorem wtsC_append (a b : List Wt) : wtsC (a ++ b) = wtsC a ++ wtsC b := by
  induction a with
  | nil => rfl
  | cons v r ih => simp [wtsC, ih]
theorem wtsC_length (a : List Wt) : (wtsC a).length = a.length * 3 := by
  induction a with
  | nil => rfl
  | cons v r ih => simp only [wtsC, wtC, List.length_append, List.length_cons, List.length_nil, ih]; omega
theorem wtsC_get (a : List Wt) (j c : Nat) (hj : j < a.length) (hc : c < 3) : (wtsC a)[j * 3 + c]? = (wtC (a.getD j Wt.zero))[c]? := by
  induction a generalizing j with
  | nil => simp at hj
  | cons v r ih =>
    cases j with
    | zero =>
      simp only [wtsC, Nat.zero_mul, Nat.zero_add]
      rw [List.getElem?_append_left (by simp [wtC]; omega)]
      simp
    | succ j =>
      simp only [wtsC]
      rw [List.getElem?_append_right (by simp [wtC]; omega)]
      have e : (j + 1) * 3 + c - (wtC v).length = j * 3 + c := by simp [wtC]; omega
      rw [e, ih j (by simpa using hj)]
      simp
theorem wtsC_oneCell (a : List Wt) : ∀ u ∈ wtsC a, u.oneCell' = true := by
  induction a with
  | nil => intro u hu; simp [wtsC] at hu
  | cons v r ih =>
    intro u hu
    rcases List.mem_append.1 hu with h | h
    · simp only [wtC, List.mem_cons, List.not_mem_nil, or_false] at h
      rcases h with rfl | rfl | rfl <;> rfl
    · exact ih u h

/-- A write lies at o in block b. -/
structure WAt (w : World) (b o : Nat) (x : Wt) : Prop where
  c0 : w.cell? ⟨b, o, none⟩ = some (.string x.key)
  c1 : w.cell? ⟨b, o + 1, none⟩ = some (.string x.val)
  c2 : w.cell? ⟨b, o + 2, none⟩ = some (.bool x.drop)
/-- The slice at ao reads as the writes ws. -/
structure WRs (w : World) (ao : Option Addr) (ws : List Wt) : Prop where
  lies : 0 < ws.length → ∃ b off, ao = some ⟨b, off, none⟩ ∧ b < w.heap.size ∧ ∀ i, i < ws.length → WAt w b (off + i * 3) (ws.getD i Wt.zero)
  few : ws.length ≤ 140737488355328
  each : ∀ x ∈ ws, x.key.size ≤ 140737488355328 ∧ x.val.size ≤ 140737488355328
theorem WRs.nil (w : World) (ao : Option Addr) : WRs w ao [] := ⟨fun h => by simp at h, by simp, by simp⟩
theorem WRs.keepS {S : List Nat} {w w' : World} {ao : Option Addr} {ws : List Wt} (h : WRs w ao ws) (hf : Fr S w w') (hn : 0 < ws.length → ∀ a, ao = some a → a.block ∉ S) : WRs w' ao ws := by
  refine ⟨fun h0 => ?_, h.few, h.each⟩
  obtain ⟨b, off, e, hb, hc⟩ := h.lies h0
  have hk : ∀ o, w'.cell? ⟨b, o, none⟩ = w.cell? ⟨b, o, none⟩ := fun o => World.cell?_of_block (hf.block b hb (hn h0 _ e))
  exact ⟨b, off, e, Nat.lt_of_lt_of_le hb hf.size, fun i hi => ⟨(hk _).trans (hc i hi).c0, (hk _).trans (hc i hi).c1, (hk _).trans (hc i hi).c2⟩⟩
theorem WRs.keep {w w' : World} {ao : Option Addr} {ws : List Wt} (h : WRs w ao ws) (hf : Fr [] w w') : WRs w' ao ws := h.keepS hf (by simp)
theorem WRs.of_row {w : World} {b : Nat} {ws : List Wt} {rest : List Value} {t : TypeId} {f : Nat × Nat} (h : w.heap[b]? = some (.cells (wtsC ws ++ rest).toArray t f)) (hl : ws.length ≤ 140737488355328) (he : ∀ x ∈ ws, x.key.size ≤ 140737488355328 ∧ x.val.size ≤ 140737488355328) : WRs w (some ⟨b, 0, none⟩) ws := by
  refine ⟨fun _ => ⟨b, 0, rfl, lt_of_block h, fun i hi => ?_⟩, hl, he⟩
  have key : ∀ c, c < 3 → w.cell? ⟨b, 0 + i * 3 + c, none⟩ = (wtC (ws.getD i Wt.zero))[c]? := by
    intro c hc
    rw [cell_of_row _ _ _ _ _ _ h, Nat.zero_add, ← wtsC_get ws i c hi hc]
    have hlt : i * 3 + c < (wtsC ws).length := by rw [wtsC_length]; omega
    simp [List.getElem?_append_left hlt]
  exact ⟨key 0 (by omega), key 1 (by omega), key 2 (by omega)⟩
theorem wgetD_mem (ws : List Wt) (i : Nat) (h : i < ws.length) : ws.getD i Wt.zero ∈ ws := by simp [List.getD, h]
theorem wtake_snoc (ws : List Wt) (i : Nat) (h : i < ws.length) : ws.take (i + 1) = ws.take i ++ [ws.getD i Wt.zero] := by
  rw [List.take_add_one]
  simp [List.getD, h]

/-- A transaction as a value. -/
def txV (n : Int) (ao : Option Addr) (L cap : Nat) : Value := .agg #[.int .i64 n, .slice ao L cap]

theorem tl_nil (s : ByteArray) : s.toList = [] ↔ s.size = 0 := by
  rw [ByteArray.toList_eq]
  constructor
  · intro h
    have h2 := congrArg List.length h
    simpa [Array.length_toList] using h2
  · intro h
    have h2 : s.data.toList.length = 0 := by rw [Array.length_toList]; exact h
    exact List.eq_nil_of_length_eq_zero h2
theorem tl_inj (a b : ByteArray) : a.toList = b.toList ↔ a = b := by
  rw [ByteArray.toList_eq, ByteArray.toList_eq]
  constructor
  · intro h
    exact bytes_inj h
  · rintro rfl
    rfl
theorem okW_iff (key val : ByteArray) (drop : Bool) : okW ⟨key, val, drop⟩ ↔ (¬ key.toList = []) ∧ (key.size : Int) ≤ 64 ∧ (val.size : Int) ≤ 1024 ∧ (drop = true → val.toList = []) := by
  unfold okW
  rw [tl_nil, tl_nil, ← noS_iff]
  simp only
  constructor
  · rintro ⟨h1, h2, h3, h4⟩
    exact ⟨by omega, by omega, by omega, h4⟩
  · rintro ⟨h1, h2, h3, h4⟩
    exact ⟨by omega, by omega, by omega, h4⟩
end Go.Proofs.YtaefninikmaiiaaGreatDoor
/- A transaction that came in: how it lies in memory. Conditions as each lemma names them. -/
namespace Go.Proofs.YtaefninikmaiiaaGreatDoor
open Go.ChangeShapes Go.WideShapes Go.ChangeAt Go.RowKit Go.Lib
set_option linter.unusedVariables false
section
variable {H : Type} {enc : TypeId × Value → H}
theorem weightsAll_mem {P : Program} {e : TypeId} : ∀ {ds : List (DataW H)} {d : DataW H}, d ∈ ds → ∀ n ∈ d.weights P e, n ∈ DataW.weightsAll P e ds
  | x :: r, d, hd, n, hn => by
    simp only [DataW.weightsAll, List.mem_append]
    rcases List.mem_cons.1 hd with rfl | hd
    · exact Or.inl hn
    · exact Or.inr (weightsAll_mem hd n hn)
theorem Tryz.undWs' : Tryz.prog.underlying 61 = some (.slice 124) := by kernel_rfl
theorem Tryz.cellsWt : Tryz.prog.cellsOf 124 = 3 := by kernel_rfl
theorem Tryz.wtFields : (match Tryz.prog.underlying 124 with | some (.struct fs) => fs.toList.map (fun f => (f.type, f.offset)) | _ => []) = [(9, 0), (9, 1), (4, 2)] := by kernel_rfl
theorem Tryz.cellsT : Tryz.prog.cellsOf 63 = 2 := by kernel_rfl
theorem Tryz.tFields : (match Tryz.prog.underlying 63 with | some (.struct fs) => fs.toList.map (fun f => (f.type, f.offset)) | _ => []) = [(3, 0), (61, 1)] := by kernel_rfl
theorem Tryz.undI : Tryz.prog.underlying 3 = some (.int .i64) := by kernel_rfl
theorem Tryz.undBl : Tryz.prog.underlying 4 = some .bool := by kernel_rfl
theorem Tryz.cBl : Tryz.prog.cellsOf 4 = 1 := by kernel_rfl
theorem Tryz.cI : Tryz.prog.cellsOf 3 = 1 := by kernel_rfl
theorem Tryz.cS : Tryz.prog.cellsOf 9 = 1 := by kernel_rfl
theorem Tryz.cWs : Tryz.prog.cellsOf 61 = 1 := by kernel_rfl
set_option maxRecDepth 100000 in
theorem wt_open {w : World} {base : Nat} {spare : Nat → Bool} {held : Bool} {fuel : Nat} {cs : List Value} {x : DataW H × List MemPlace} (h : DataW.trod enc Tryz.prog w base spare held fuel 124 cs = some x) :
    ∃ v : Wt, cs = [.string v.key, .string v.val, .bool v.drop] ∧ v.key.size ∈ x.1.weights Tryz.prog 124 ∧ v.val.size ∈ x.1.weights Tryz.prog 124 := by
  have hF := Tryz.wtFields
  cases hu : Tryz.prog.underlying 124 with
  | none => rw [hu] at hF; simp at hF
  | some u =>
    rw [hu] at hF
    cases u with
    | struct fs =>
      simp only at hF
      obtain ⟨ys, n, _, hx, hlen, hys, hf⟩ := DataW.trod_struct hu h
      rw [Tryz.cellsWt] at hlen
      match cs, hlen with
      | [v0, v1, v2], _ =>
        have hl3 : fs.toList.length = 3 := by have := congrArg List.length hF; simpa using this
        obtain ⟨l, hl⟩ : ∃ l, l = fs.toList := ⟨_, rfl⟩
        rw [← hl] at hF hl3
        match l, hl3 with
        | [f0, f1, f2], _ =>
          simp only [List.map_cons, List.map_nil, List.cons.injEq, Prod.mk.injEq, and_true] at hF
          obtain ⟨⟨t0, o0⟩, ⟨t1, o1⟩, ⟨t2, o2⟩⟩ := hF
          have g : ∀ (i : Nat) (f : Field), [f0, f1, f2][i]? = some f → fs[i]? = some f := by
            intro i f hi
            rw [hl] at hi
            simpa using hi
          have r0 := hf 0 f0 (g 0 f0 rfl)
          have r1 := hf 1 f1 (g 1 f1 rfl)
          have r2 := hf 2 f2 (g 2 f2 rfl)
          rw [t0, o0, Tryz.cS] at r0
          rw [t1, o1, Tryz.cS] at r1
          rw [t2, o2, Tryz.cBl] at r2
          simp only [List.drop_zero, List.drop_succ_cons, List.take_succ_cons, List.take_zero] at r0 r1 r2
          have hy3 : ys.length = 3 := by rw [hys]; have := congrArg List.length hl; simpa using this.symm
          match ys, hy3 with
          | [y0, y1, y2], _ =>
            simp only [List.getElem?_cons_zero, List.getElem?_cons_succ] at r0 r1 r2
            obtain ⟨s0, e0, x0, _⟩ := DataW.trod_string Tryz.undStr r0
            obtain ⟨s1, e1, x1, _⟩ := DataW.trod_string Tryz.undStr r1
            obtain ⟨b2, e2, _⟩ := DataW.trod_bool Tryz.undBl r2
            simp only [List.cons.injEq, and_true] at e0 e1 e2
            have hty : fs.toList.map (·.type) = [9, 9, 4] := by rw [← hl]; simp [t0, t1, t2]
            refine ⟨⟨s0, s1, b2⟩, by rw [e0, e1, e2], ?_, ?_⟩
            · rw [hx]
              simp only [DataW.weights, hu]
              rw [hty]
              refine DataW.weights_mem_each (j := 0) (t := 9) (d := y0.1) rfl rfl _ ?_
              rw [x0]
              simp only [DataW.weights, List.mem_singleton]
              show s0.data.size = _
              simp
            · rw [hx]
              simp only [DataW.weights, hu]
              rw [hty]
              refine DataW.weights_mem_each (j := 1) (t := 9) (d := y1.1) rfl rfl _ ?_
              rw [x1]
              simp only [DataW.weights, List.mem_singleton]
              show s1.data.size = _
              simp
    | _ => simp at hF
set_option maxRecDepth 100000 in
theorem ws_open {w : World} {fuel : Nat} {v : Value} {d : DataW H} {ps : List MemPlace} (h : DataW.trod enc Tryz.prog w 0 (fun _ => true) true fuel 61 [v] = some (d, ps)) (hsz : ∀ n ∈ d.weights Tryz.prog 61, n ≤ reachBytes) :
    ∃ ao L cap ws, v = .slice ao L cap ∧ WRs w ao ws ∧ L = ws.length := by
  rcases Go.Deep.open_slice Tryz.undWs' h with ⟨hcs, _⟩ | ⟨a, len, cap, m, n, D, Pl, hcs, hb, hl, hm, hmm, hx, hE⟩
  · simp only [List.cons.injEq, and_true] at hcs
    exact ⟨none, 0, 0, [], hcs, WRs.nil _ _, rfl⟩
  · simp only [List.cons.injEq, and_true] at hcs
    simp only [if_true] at hmm
    subst hmm
    rw [Tryz.cellsWt] at hE hx
    have hO : ∀ i, i < m → ∃ o : Wt, (w.cells? 0 (a.add (i * 3)) 3 = some [.string o.key, .string o.val, .bool o.drop]) ∧ o.key.size ∈ (D i).weights Tryz.prog 124 ∧ o.val.size ∈ (D i).weights Tryz.prog 124 := by
      intro i hi
      obtain ⟨cs', h1, h2⟩ := hE i hi
      obtain ⟨o, rfl, rest⟩ := wt_open h2
      exact ⟨o, h1, rest⟩
    haveI : Inhabited Wt := ⟨Wt.zero⟩
    obtain ⟨F, hF⟩ := Go.Deep.choose_lt hO
    have hd : d = .slice ((List.range len).map D) ((List.range (m - len)).map fun j => D (len + j)) := by have := congrArg Prod.fst hx; simpa using this
    have hr := reachBytes_lt
    have hlen : len ≤ 140737488355328 := by
      have hw : len * Tryz.prog.bytesOf 124 ≤ reachBytes := by
        refine Nat.le_trans (Nat.mul_le_mul_right _ hl) (hsz _ ?_)
        rw [hd]
        simp only [DataW.weights, Tryz.undWs', List.length_map, List.length_range]
        rw [show len + (m - len) = m by omega]
        exact List.mem_cons_self
      have hb40 : 1 ≤ Tryz.prog.bytesOf 124 := by
        rw [show Tryz.prog.bytesOf 124 = 40 from by kernel_rfl]
        decide
      have := Nat.le_mul_of_pos_right len hb40
      omega
    refine ⟨some a, len, m, (List.range len).map F, hcs, ⟨fun h0 => ?_, by simpa using hlen, ?_⟩, by simp⟩
    · simp only [List.length_map, List.length_range] at h0 ⊢
      have hc0 := (World.cells?_some (hF 0 (by omega)).1).2.2
      obtain ⟨b, off, spot⟩ := a
      have hspot : spot = none := by
        have := hc0 0 (by omega)
        simp at this
        simpa [Addr.add] using World.cell?_spot this
      subst hspot
      have hcell : ∀ i, i < len → ∀ j, j < 3 → w.cell? ⟨b, off + i * 3 + j, none⟩ = [Value.string (F i).key, .string (F i).val, .bool (F i).drop][j]? := by
        intro i hi j hj
        have := (World.cells?_some (hF i (by omega)).1).2.2 j hj
        rw [show ((⟨b, off, none⟩ : Addr).add (i * 3)).add j = ⟨b, off + i * 3 + j, none⟩ from by rw [Addr.add_lit, Addr.add_lit]] at this
        exact this
      refine ⟨b, off, rfl, World.block_lt_of_cell? w ⟨b, off + 0 * 3 + 0, none⟩ (by rw [hcell 0 (by omega) 0 (by omega)]; rfl), fun i hi => ?_⟩
      have e : ((List.range len).map F).getD i Wt.zero = F i := by simp [List.getD, hi]
      rw [e]
      exact ⟨hcell i hi 0 (by omega), hcell i hi 1 (by omega), hcell i hi 2 (by omega)⟩
    · intro o ho
      obtain ⟨i, hi, rfl⟩ := List.mem_map.1 ho
      have hi' : i < len := by simpa using hi
      have key : ∀ q ∈ (D i).weights Tryz.prog 124, q ≤ 140737488355328 := by
        intro q hq
        have : q ≤ reachBytes := by
          apply hsz
          rw [hd]
          simp only [DataW.weights, Tryz.undWs']
          refine List.mem_cons_of_mem _ (List.mem_append_left _ ?_)
          exact weightsAll_mem (List.mem_map.2 ⟨i, by simpa using hi', rfl⟩) _ hq
        omega
      exact ⟨key _ (hF i (by omega)).2.1, key _ (hF i (by omega)).2.2⟩
/-- The transaction that came in. -/
structure TArg (w : World) (n : Int) (ao : Option Addr) (L cap : Nat) (ws : List Wt) : Prop where
  rs : WRs w ao ws
  len : L = ws.length
  n0 : -9223372036854775808 ≤ n
  n1 : n ≤ 9223372036854775807
theorem TArg.keep {w w' : World} {n : Int} {ao : Option Addr} {L cap : Nat} {ws : List Wt} (h : TArg w n ao L cap ws) (hf : Fr [] w w') : TArg w' n ao L cap ws := { h with rs := h.rs.keep hf }
set_option maxRecDepth 100000 in
theorem tx_open {w : World} {fuel : Nat} {cs : List Value} {x : DataW H × List MemPlace} (h : DataW.trod enc Tryz.prog w 0 (fun _ => true) true fuel 63 cs = some x) (hsz : ∀ n ∈ x.1.weights Tryz.prog 63, n ≤ reachBytes) :
    ∃ n ao L cap ws, cs = [.int .i64 n, .slice ao L cap] ∧ TArg w n ao L cap ws := by
  have hF := Tryz.tFields
  cases hu : Tryz.prog.underlying 63 with
  | none => rw [hu] at hF; simp at hF
  | some u =>
    rw [hu] at hF
    cases u with
    | struct fs =>
      simp only at hF
      obtain ⟨ys, n, _, hx, hlen, hys, hf⟩ := DataW.trod_struct hu h
      rw [Tryz.cellsT] at hlen
      match cs, hlen with
      | [v0, v1], _ =>
        have hl2 : fs.toList.length = 2 := by have := congrArg List.length hF; simpa using this
        obtain ⟨l, hl⟩ : ∃ l, l = fs.toList := ⟨_, rfl⟩
        rw [← hl] at hF hl2
        match l, hl2 with
        | [f0, f1], _ =>
          simp only [List.map_cons, List.map_nil, List.cons.injEq, Prod.mk.injEq, and_true] at hF
          obtain ⟨⟨t0, o0⟩, ⟨t1, o1⟩⟩ := hF
          have g : ∀ (i : Nat) (f : Field), [f0, f1][i]? = some f → fs[i]? = some f := by
            intro i f hi
            rw [hl] at hi
            simpa using hi
          have r0 := hf 0 f0 (g 0 f0 rfl)
          have r1 := hf 1 f1 (g 1 f1 rfl)
          rw [t0, o0, Tryz.cI] at r0
          rw [t1, o1, Tryz.cWs] at r1
          simp only [List.drop_zero, List.drop_succ_cons, List.take_succ_cons, List.take_zero] at r0 r1
          have hy2 : ys.length = 2 := by rw [hys]; have := congrArg List.length hl; simpa using this.symm
          match ys, hy2 with
          | [y0, y1], _ =>
            simp only [List.getElem?_cons_zero, List.getElem?_cons_succ] at r0 r1
            obtain ⟨k, e0, _, w0⟩ := DataW.trod_int Tryz.undI r0
            have hty : fs.toList.map (·.type) = [3, 61] := by rw [← hl]; simp [t0, t1]
            obtain ⟨ao, L, cap, ws, e1, hW, hL⟩ := ws_open (d := y1.1) (ps := y1.2) r1 (by
              intro q hq
              apply hsz
              rw [hx]
              simp only [DataW.weights, hu]
              rw [hty]
              exact DataW.weights_mem_each (j := 1) (t := 61) (d := y1.1) rfl rfl _ hq)
            simp only [List.cons.injEq, and_true] at e0
            have b0 := bounds_i64 w0
            exact ⟨k, ao, L, cap, ws, by rw [e0, e1], hW, hL, b0.1, b0.2⟩
    | _ => simp at hF
end
end Go.Proofs.YtaefninikmaiiaaGreatDoor
/- What may be of a log, as plain functions on lists. Plain lemmas. -/
/- A log as bytes and back, as plain functions on lists: what is told of any bytes, one form, cut logs. Plain lemmas. -/

namespace Go.Proofs.YtaefninikmaiiaaGreatDoor
open Go.ChangeShapes Go.WideShapes Go.ChangeAt Go.RowKit Go.Lib
set_option linter.unusedVariables false

/-- A transaction. -/
structure Tx where
  n : Int
  ws : List Wt
def Tx.zero : Tx := ⟨0, []⟩
def Tx.ok (t : Tx) : Prop := okT t.n t.ws

theorem Tx.nat {t : Tx} (h : t.ok) : ((t.n.toNat : Nat) : Int) = t.n := by have := h.1; omega
theorem Tx.okN {t : Tx} (h : t.ok) : okT ((t.n.toNat : Nat) : Int) t.ws := by rw [t.nat h]; exact h
/-- May a log be, of which the first number must be k? -/
def okL : Nat → List Tx → Prop
  | _, [] => True
  | k, t :: r => t.ok ∧ t.n = (k : Int) ∧ okL (k + 1) r
/-- What is wrong of it. -/
def Bad : Nat → List Tx → Nat → Prop
  | _, [], c => c = 0
  | k, t :: r, c => (¬ t.ok ∧ c = 1) ∨ (t.ok ∧ t.n ≠ (k : Int) ∧ c = 6) ∨ (t.ok ∧ t.n = (k : Int) ∧ Bad (k + 1) r c)
theorem Bad.ex : ∀ (l : List Tx) (k : Nat), ∃ c, Bad k l c := by
  intro l
  induction l with
  | nil => intro k; exact ⟨0, rfl⟩
  | cons t r ih =>
    intro k
    by_cases h : t.ok
    · by_cases h1 : t.n = (k : Int)
      · obtain ⟨c, hc⟩ := ih (k + 1)
        exact ⟨c, Or.inr (Or.inr ⟨h, h1, hc⟩)⟩
      · exact ⟨6, Or.inr (Or.inl ⟨h, h1, rfl⟩)⟩
    · exact ⟨1, Or.inl ⟨h, rfl⟩⟩
theorem Bad.ok : ∀ {l : List Tx} {k c : Nat}, Bad k l c → (c = 0 ↔ okL k l) := by
  intro l
  induction l with
  | nil => intro k c h; simp only [Bad] at h; simp [okL, h]
  | cons t r ih =>
    intro k c h
    rcases h with ⟨h, rfl⟩ | ⟨h, h1, rfl⟩ | ⟨h, h1, h2⟩
    · exact ⟨fun x => by omega, fun x => absurd x.1 h⟩
    · exact ⟨fun x => by omega, fun x => absurd x.2.1 h1⟩
    · rw [ih h2]
      exact ⟨fun x => ⟨h, h1, x⟩, fun x => x.2.2⟩
theorem Bad.one : ∀ {l : List Tx} {k c d : Nat}, Bad k l c → Bad k l d → c = d := by
  intro l
  induction l with
  | nil => intro k c d h h'; simp only [Bad] at h h'; omega
  | cons t r ih =>
    intro k c d h h'
    rcases h with ⟨h, rfl⟩ | ⟨h, h1, rfl⟩ | ⟨h, h1, h2⟩
    · rcases h' with ⟨_, rfl⟩ | ⟨g, _⟩ | ⟨g, _⟩
      · rfl
      · exact absurd g h
      · exact absurd g h
    · rcases h' with ⟨g, _⟩ | ⟨_, _, rfl⟩ | ⟨_, g, _⟩
      · exact absurd h g
      · rfl
      · exact absurd g h1
    · rcases h' with ⟨g, _⟩ | ⟨_, g, _⟩ | ⟨_, _, g⟩
      · exact absurd h g
      · exact absurd h1 g
      · exact ih h2 g
theorem okL_bad {l : List Tx} {k : Nat} (h : okL k l) : Bad k l 0 := by
  obtain ⟨c, hc⟩ := Bad.ex l k
  have := (Bad.ok hc).2 h
  rw [this] at hc
  exact hc
theorem okL_append : ∀ {a b : List Tx} {k : Nat}, okL k (a ++ b) ↔ okL k a ∧ okL (k + a.length) b := by
  intro a
  induction a with
  | nil => intro b k; simp [okL]
  | cons t r ih =>
    intro b k
    simp only [List.cons_append, okL, ih, List.length_cons]
    rw [show k + 1 + r.length = k + (r.length + 1) by omega]
    constructor
    · rintro ⟨h1, h2, h3, h4⟩; exact ⟨⟨h1, h2, h3⟩, h4⟩
    · rintro ⟨⟨h1, h2, h3⟩, h4⟩; exact ⟨h1, h2, h3, h4⟩
theorem okL_get : ∀ {l : List Tx} {k : Nat}, okL k l → ∀ i, i < l.length → (l.getD i Tx.zero).ok ∧ (l.getD i Tx.zero).n = ((k + i : Nat) : Int) := by
  intro l
  induction l with
  | nil => intro k h i hi; simp at hi
  | cons t r ih =>
    intro k h i hi
    cases i with
    | zero => exact ⟨h.1, by simpa using h.2.1⟩
    | succ i =>
      have := ih h.2.2 i (by simpa using hi)
      rw [show k + 1 + i = k + (i + 1) by omega] at this
      simpa [List.getD] using this
theorem okL_take {l : List Tx} {k : Nat} (h : okL k l) (i : Nat) : okL k (l.take i) := by
  have := h
  rw [← List.take_append_drop i l, okL_append] at this
  exact this.1
theorem okL_few {l : List Tx} (h : okL 1 l) : l.length ≤ 65536 := by
  by_cases h0 : l.length = 0
  · omega
  · obtain ⟨h1, h2⟩ := okL_get h (l.length - 1) (by omega)
    have := h1.2.1
    omega
theorem okL_mem {l : List Tx} {k : Nat} (h : okL k l) : ∀ t ∈ l, t.ok := by
  intro t ht
  obtain ⟨i, hi, rfl⟩ := List.getElem_of_mem ht
  have := (okL_get h i hi).1
  simpa [List.getD, hi] using this
/-! ### A record taken -/
/-! ### A log taken -/
end Go.Proofs.YtaefninikmaiiaaGreatDoor
/- May a transaction be: contracts of Check and of the closure that it asks. Conditions as each names them. -/
namespace Go.Proofs.YtaefninikmaiiaaGreatDoor
open Go.ChangeShapes Go.WideShapes Go.ChangeAt Go.RowKit Go.Lib
set_option linter.unusedVariables false

/-- It tells whether the write may not be. -/
def TellsW (e : Ending) (x : Wt) : Prop := ∃ B : Bool, e = .returned (.bool B) ∧ (B = true ↔ ¬ okW x)
set_option maxHeartbeats 2000000 in
set_option maxRecDepth 100000 in
theorem cCheck_any (i L cap b off g : Nat) (x : Wt) (w : World) (hi : i < L) (hL : L ≤ 140737488355328) (hx : WAt w b (off + i * 3) x) (hk : x.key.size ≤ 140737488355328) (hv : x.val.size ≤ 140737488355328)
    (hg : w.cell? ⟨g, 1, none⟩ = some (.slice (some ⟨b, off, none⟩) L cap)) :
    Calls Tryz.prog 159 #[.int .i64 (i : Int), .pointer (some ⟨g, 0, none⟩)] w fun e w' => TellsW e x ∧ Fr [] w w' := by
  obtain ⟨key, val, drop⟩ := x
  obtain ⟨c0, c1, c2⟩ := hx
  simp only at c0 c1 c2 hk hv
  have HO : Hid (okW ⟨key, val, drop⟩ ↔ _) := okW_iff key val drop
  go_enter Tryz.func159, Tryz.ntmps159
  go_wp2
  all_goals (
    go_ret
    refine ⟨⟨_, rfl, ?_⟩, Fr.alloc _ _ _⟩
    have HO' := HO.out
    clear HO
    simp_all)
  all_goals (intros; exfalso; omega)

theorem okT_no {n : Int} {ws : List Wt} {i : Nat} (hi : i < ws.length) (h : ¬ okW (ws.getD i Wt.zero)) : ¬ okT n ws := fun hh => h (hh.2.2.2 _ (wgetD_mem ws i hi))

set_option maxHeartbeats 4000000 in
set_option maxRecDepth 100000 in
theorem check_any (n : Int) (ao : Option Addr) (L cap c : Nat) (ws : List Wt) (w : World) (hW : WRs w ao ws) (hL : L = ws.length) (hn0 : -9223372036854775808 ≤ n) (hn1 : n ≤ 9223372036854775807)
    (hc : (okT n ws ∧ c = 0) ∨ (¬ okT n ws ∧ c = 1)) :
    Calls Tryz.prog 113 #[.agg #[.int .i64 n, .slice ao L cap]] w fun e w' => e = .returned (.int .i64 (c : Int)) ∧ Fr [] w w' := by
  have HC : Hid (_ ∨ _) := hc
  have HL : Hid (L = ws.length) := hL
  have hLm : L ≤ 140737488355328 := by have := hW.few; omega
  clear hc hL
  by_cases h1 : n < 1
  · have hc1 : c = 1 := by rcases HC.out with ⟨h, _⟩ | ⟨_, h⟩; · exact absurd h.1 (by omega)
                           · exact h
    subst hc1
    clear HC
    go_enter Tryz.func113, Tryz.ntmps113
    go_wp2
    go_ret
    exact ⟨rfl, Fr.alloc _ _ _⟩
  · by_cases h2 : 65536 < n
    · have hc1 : c = 1 := by rcases HC.out with ⟨h, _⟩ | ⟨_, h⟩; · exact absurd h.2.1 (by omega)
                             · exact h
      subst hc1
      clear HC
      have h1' : 1 ≤ n := by omega
      clear h1
      go_enter Tryz.func113, Tryz.ntmps113
      go_wp2
      go_ret
      exact ⟨rfl, Fr.alloc _ _ _⟩
    · have h1' : 1 ≤ n := by omega
      have h2' : n ≤ 65536 := by omega
      clear h1 h2
      by_cases h3 : 32 < L
      · have hc1 : c = 1 := by rcases HC.out with ⟨h, _⟩ | ⟨_, h⟩; · exact absurd h.2.2.1 (by rw [← HL.out]; omega)
                               · exact h
        subst hc1
        clear HC
        have h3' : (32 : Int) < L := by omega
        go_enter Tryz.func113, Tryz.ntmps113
        go_wp2
        go_ret
        exact ⟨rfl, Fr.alloc _ _ _⟩
      · have h3' : (L : Int) ≤ 32 := by omega
        clear h3
        have c1 : (w.alloc (.cells #[.int .i64 n, .slice ao L cap] 63)).cell? ⟨w.heap.size, 1, none⟩ = some (.slice ao L cap) := cell_of_row _ _ _ _ _ _ (heap_alloc_new w _)
        have hd1 : decide (n < 1) = false := by simp; omega
        have hd2 : decide (65536 < n) = false := by simp; omega
        have hd3 : decide ((32 : Int) < L) = false := by simp; omega
        have hF0 : Fr [] w (w.alloc (.cells #[.int .i64 n, .slice ao L cap] 63)) := Fr.alloc _ _ _
        have hW1 := hW.keep hF0
        go_enter Tryz.func113, Tryz.ntmps113
        go_wp2_with fail
        obtain ⟨w1, HW1⟩ : ∃ w1, Hid (w.alloc (.cells #[.int .i64 n, .slice ao L cap] 63) = w1) := ⟨_, rfl⟩
        rw [HW1.out] at c1 hF0 hW1 ⊢
        have hlt : w.heap.size < w1.heap.size := by rw [← HW1.out]; simp
        go_loopw [23] (fun ii wr => ∃ (i : Nat), ii = .int .i64 i ∧ i ≤ L ∧ Hid (∀ j, j < i → okW (ws.getD j Wt.zero)) ∧ Fr [] w1 wr) (fun ii _ => L - (RowKit.intOf ii).toNat)
        case atStart => exact ⟨0, rfl, Nat.zero_le _, fun j hj => by omega, Fr.refl _ _⟩
        case round =>
          obtain ⟨i, rfl, hiL, HE, hFr⟩ := hrel
          have c1r : wr.cell? ⟨w.heap.size, 1, none⟩ = some (.slice ao L cap) := (World.cell?_of_block (hFr.block _ hlt (by simp))).trans c1
          by_cases hi : i < L
          · have hi' : i < ws.length := by rw [← HL.out]; exact hi
            obtain ⟨b, off, rfl, _, hc⟩ := (hW1.keep hFr).lies (by omega)
            have hx := hc i hi'
            have hm := hW.each _ (wgetD_mem ws i hi')
            obtain ⟨x, hxx⟩ : ∃ x, x = ws.getD i Wt.zero := ⟨_, rfl⟩
            rw [← hxx] at hx hm
            have HX : Hid (x = ws.getD i Wt.zero) := hxx
            clear hxx hc
            go_wp2_with fail
            refine (cCheck_any i L cap b off w.heap.size x _ hi hLm hx hm.1 hm.2 c1r).mono ?_
            rintro e w2 ⟨⟨B, rfl, hB⟩, hF2⟩
            cases B with
            | true =>
              have hno : ¬ okW x := hB.1 rfl
              have hc1 : c = 1 := by rcases HC.out with ⟨h, _⟩ | ⟨_, h⟩; · exact absurd h (okT_no hi' (HX.out ▸ hno))
                                     · exact h
              subst hc1
              clear HC hB hno
              go_wp2
              go_ret
              exact ⟨rfl, hF0.then (hFr.then hF2)⟩
            | false =>
              have HE2 : Hid (∀ j, j < i + 1 → okW (ws.getD j Wt.zero)) := by
                intro j hj
                by_cases hji : j = i
                · subst hji
                  rw [← HX.out]
                  exact Classical.byContradiction fun h => absurd (hB.2 h) (by simp)
                · exact HE.out j (by omega)
              clear hB
              go_wp2
              go_roundw
              case rel => exact ⟨i + 1, by simp, by omega, HE2, hFr.then hF2⟩
              case measure => simp [RowKit.intOf]; omega
          · have hc0 : c = 0 := by
              rcases HC.out with ⟨_, h⟩ | ⟨h, _⟩
              · exact h
              · refine absurd ⟨h1', h2', by rw [← HL.out]; omega, ?_⟩ h
                intro x hx
                obtain ⟨j, hj, rfl⟩ := List.getElem_of_mem hx
                have := HE.out j (by have := HL.out; omega)
                simpa [List.getD, hj] using this
            subst hc0
            clear HC
            go_wp2
            go_ret
            exact ⟨rfl, hF0.then hFr⟩
end Go.Proofs.YtaefninikmaiiaaGreatDoor
/- Transactions in memory: slices of them that read as a list, rows of them. Conditions as each lemma names them. -/

namespace Go.Proofs.YtaefninikmaiiaaGreatDoor
open Go.ChangeShapes Go.WideShapes Go.ChangeAt Go.RowKit Go.Lib
set_option linter.unusedVariables false

/-- A transaction, and where its writes lie. -/
structure Tm where
  n : Int
  ao : Option Addr
  L : Nat
  cap : Nat
  ws : List Wt
def Tm.zero : Tm := ⟨0, none, 0, 0, []⟩
def Tm.tx (t : Tm) : Tx := ⟨t.n, t.ws⟩
def Tm.val (t : Tm) : Value := .agg #[.int .i64 t.n, .slice t.ao t.L t.cap]
def txs (ts : List Tm) : List Tx := ts.map Tm.tx
theorem txs_length (ts : List Tm) : (txs ts).length = ts.length := by simp [txs]
theorem txs_getD (ts : List Tm) (i : Nat) : (txs ts).getD i Tx.zero = (ts.getD i Tm.zero).tx := by
  by_cases h : i < ts.length
  · simp [txs, List.getD, h]
  · simp [txs, List.getD, h, Tm.zero, Tm.tx, Tx.zero]
theorem txs_take (ts : List Tm) (i : Nat) : (txs ts).take i = txs (ts.take i) := by simp [txs, List.map_take]
theorem txs_append (a b : List Tm) : txs (a ++ b) = txs a ++ txs b := by simp [txs]
/-- It is there. -/
def Tm.at (t : Tm) (w : World) : Prop := TArg w t.n t.ao t.L t.cap t.ws
theorem Tm.at.keep {t : Tm} {w w' : World} (h : t.at w) (hf : Fr [] w w') : t.at w' := TArg.keep h hf
theorem Tm.zero_at (w : World) : Tm.zero.at w := ⟨WRs.nil _ _, rfl, by decide, by decide⟩
/-- Its struct lies at o in block b. -/
structure TAt (w : World) (b o : Nat) (t : Tm) : Prop where
  c0 : w.cell? ⟨b, o, none⟩ = some (.int .i64 t.n)
  c1 : w.cell? ⟨b, o + 1, none⟩ = some (.slice t.ao t.L t.cap)
/-- The slice at ao reads as the transactions ts. -/
structure TRs (w : World) (ao : Option Addr) (ts : List Tm) : Prop where
  lies : 0 < ts.length → ∃ b off, ao = some ⟨b, off, none⟩ ∧ b < w.heap.size ∧ ∀ i, i < ts.length → TAt w b (off + i * 2) (ts.getD i Tm.zero)
  few : ts.length ≤ 140737488355328
  each : ∀ t ∈ ts, t.at w
theorem TRs.nil (w : World) (ao : Option Addr) : TRs w ao [] := ⟨fun h => by simp at h, by simp, by simp⟩
theorem TRs.keep {w w' : World} {ao : Option Addr} {ts : List Tm} (h : TRs w ao ts) (hf : Fr [] w w') : TRs w' ao ts := by
  refine ⟨fun h0 => ?_, h.few, fun t ht => (h.each t ht).keep hf⟩
  obtain ⟨b, off, e, hb, hc⟩ := h.lies h0
  have hk : ∀ o, w'.cell? ⟨b, o, none⟩ = w.cell? ⟨b, o, none⟩ := fun o => World.cell?_of_block (hf.block b hb (by simp))
  exact ⟨b, off, e, Nat.lt_of_lt_of_le hb hf.size, fun i hi => ⟨(hk _).trans (hc i hi).c0, (hk _).trans (hc i hi).c1⟩⟩
theorem tgetD_mem (ts : List Tm) (i : Nat) (h : i < ts.length) : ts.getD i Tm.zero ∈ ts := by simp [List.getD, h]
theorem ttake_snoc (ts : List Tm) (i : Nat) (h : i < ts.length) : ts.take (i + 1) = ts.take i ++ [ts.getD i Tm.zero] := by
  rw [List.take_add_one]
  simp [List.getD, h]
theorem TRs.take {w : World} {ao : Option Addr} {ts : List Tm} (h : TRs w ao ts) (k : Nat) : TRs w ao (ts.take k) := by
  refine ⟨fun h0 => ?_, by have := h.few; rw [List.length_take]; omega, fun t ht => h.each t (List.mem_of_mem_take ht)⟩
  rw [List.length_take] at h0
  obtain ⟨b, off, e, hb, hc⟩ := h.lies (by omega)
  refine ⟨b, off, e, hb, fun i hi => ?_⟩
  rw [List.length_take] at hi
  have e2 : (ts.take k).getD i Tm.zero = ts.getD i Tm.zero := by
    have : i < k := by omega
    simp [List.getD, this]
  rw [e2]
  exact hc i (by omega)
/-- A transaction's cells. -/
def tmC (t : Tm) : List Value := [.int .i64 t.n, .slice t.ao t.L t.cap]
def tmsC : List Tm → List Value
  | [] => []
  | t :: r => tmC t ++ tmsC r
theorem tmsC_append (a b : List Tm) : tmsC (a ++ b) = tmsC a ++ tmsC b := by
  induction a with
  | nil => rfl
  | cons v r ih => simp [tmsC, ih]
theorem tmsC_length (a : List Tm) : (tmsC a).length = a.length * 2 := by
  induction a with
  | nil => rfl
  | cons v r ih => simp only [tmsC, tmC, List.length_append, List.length_cons, List.length_nil, ih]; omega
theorem tmsC_get (a : List Tm) (j c : Nat) (hj : j < a.length) (hc : c < 2) : (tmsC a)[j * 2 + c]? = (tmC (a.getD j Tm.zero))[c]? := by
  induction a generalizing j with
  | nil => simp at hj
  | cons v r ih =>
    cases j with
    | zero =>
      simp only [tmsC, Nat.zero_mul, Nat.zero_add]
      rw [List.getElem?_append_left (by simp [tmC]; omega)]
      simp
    | succ j =>
      simp only [tmsC]
      rw [List.getElem?_append_right (by simp [tmC]; omega)]
      have e : (j + 1) * 2 + c - (tmC v).length = j * 2 + c := by simp [tmC]; omega
      rw [e, ih j (by simpa using hj)]
      simp
theorem tmsC_oneCell (a : List Tm) : ∀ u ∈ tmsC a, u.oneCell' = true := by
  induction a with
  | nil => intro u hu; simp [tmsC] at hu
  | cons v r ih =>
    intro u hu
    rcases List.mem_append.1 hu with h | h
    · simp only [tmC, List.mem_cons, List.not_mem_nil, or_false] at h
      rcases h with rfl | rfl <;> rfl
    · exact ih u h
theorem TRs.of_row {w : World} {b : Nat} {ts : List Tm} {rest : List Value} {t : TypeId} {f : Nat × Nat} (h : w.heap[b]? = some (.cells (tmsC ts ++ rest).toArray t f)) (hl : ts.length ≤ 140737488355328) (he : ∀ t ∈ ts, t.at w) : TRs w (some ⟨b, 0, none⟩) ts := by
  refine ⟨fun _ => ⟨b, 0, rfl, lt_of_block h, fun i hi => ?_⟩, hl, he⟩
  have key : ∀ c, c < 2 → w.cell? ⟨b, 0 + i * 2 + c, none⟩ = (tmC (ts.getD i Tm.zero))[c]? := by
    intro c hc
    rw [cell_of_row _ _ _ _ _ _ h, Nat.zero_add, ← tmsC_get ts i c hi hc]
    have hlt : i * 2 + c < (tmsC ts).length := by rw [tmsC_length]; omega
    simp [List.getElem?_append_left hlt]
  exact ⟨key 0 (by omega), key 1 (by omega)⟩
/-- Its number is one of 64 bits. -/
theorem Tm.at.bounds {t : Tm} {w : World} (h : t.at w) : -9223372036854775808 ≤ t.n ∧ t.n ≤ 9223372036854775807 := ⟨h.n0, h.n1⟩
end Go.Proofs.YtaefninikmaiiaaGreatDoor
/- May a log be: contracts of inTurn, of the closure that it makes, of Check. Conditions as each names them. -/
namespace Go.Proofs.YtaefninikmaiiaaGreatDoor
open Go.ChangeShapes Go.WideShapes Go.ChangeAt Go.RowKit Go.Lib
set_option linter.unusedVariables false

theorem row_setCell {w : World} {b j : Nat} {cs : Array Value} {t : TypeId} (x : Value) (h : w.heap[b]? = some (.cells cs t (0, 0))) : (w.setCell ⟨b, j, none⟩ x).heap[b]? = some (.cells (cs.setIfInBounds j x) t (0, 0)) := by
  have hlt := lt_of_block h
  have h' : w.heap[b] = .cells cs t (0, 0) := by simpa [Array.getElem?_eq_getElem hlt] using h
  show (w.heap.modify b _)[b]? = _
  rw [Array.getElem?_eq_getElem (by simpa using hlt), Array.getElem_modify_self, h']
  rfl
/-- A variable in a block of its own. -/
structure Bv (w : World) (b : Nat) (t : TypeId) (v : Value) : Prop where
  box : w.heap[b]? = some (.cells #[v] t (0, 0))
theorem Bv.lt {w : World} {b : Nat} {t : TypeId} {v : Value} (h : Bv w b t v) : b < w.heap.size := lt_of_block h.box
theorem Bv.c {w : World} {b : Nat} {t : TypeId} {v : Value} (h : Bv w b t v) : w.cell? ⟨b, 0, none⟩ = some v := by simp [World.cell?, h.box]
theorem Bv.f {w : World} {b : Nat} {t : TypeId} {v : Value} (h : Bv w b t v) : w.frozen? ⟨b, 0, none⟩ = false := by simp [World.frozen?, h.box]
theorem Bv.keep {S : List Nat} {w w' : World} {b : Nat} {t : TypeId} {v : Value} (h : Bv w b t v) (hf : Fr S w w') (hn : b ∉ S) : Bv w' b t v := ⟨hf.keep h.box hn⟩
theorem Bv.set {w : World} {b : Nat} {t : TypeId} {v : Value} (h : Bv w b t v) (u : Value) : Bv (w.setCell ⟨b, 0, none⟩ u) b t u := by
  have := row_setCell (j := 0) u h.box
  exact ⟨by simpa using this⟩
theorem Bv.new (w : World) (t : TypeId) (v : Value) : Bv (w.alloc (.cells #[v] t)) w.heap.size t v := ⟨heap_alloc_new w _⟩

theorem inTurn_any (w : World) : Calls Tryz.prog 49 #[] w fun e w' => e = .returned (.func (Fn.func 112) #[] #[.pointer (some ⟨w.heap.size, 0, none⟩)]) ∧ w' = w.alloc (.cells #[.int .i64 1] 3) := by
  go_enter Tryz.func49, Tryz.ntmps49
  go_wp2
  go_ret
  exact ⟨rfl, rfl⟩

set_option maxHeartbeats 2000000 in
set_option maxRecDepth 100000 in
theorem turn1_no (b k c : Nat) (n : Int) (ao : Option Addr) (L cap : Nat) (ws : List Wt) (w : World) (hb : Bv w b 3 (.int .i64 (k : Int))) (ht : TArg w n ao L cap ws) (hk : k ≤ 140737488355329)
    (hc : (¬ okT n ws ∧ c = 1) ∨ (okT n ws ∧ n ≠ (k : Int) ∧ c = 6)) :
    Calls Tryz.prog 112 #[.agg #[.int .i64 n, .slice ao L cap], .pointer (some ⟨b, 0, none⟩)] w fun e w' => e = .returned (.int .i64 (c : Int)) ∧ Fr [] w w' := by
  have HL : Hid (L = ws.length) := ht.len
  have hn0 := ht.n0
  have hn1 := ht.n1
  have hF0 : Fr [] w (w.alloc (.cells #[.int .i64 n, .slice ao L cap] 63)) := Fr.alloc _ _ _
  have hW0 := ht.rs.keep hF0
  have hb0 := hb.keep hF0 (by simp)
  have c0 : (w.alloc (.cells #[.int .i64 n, .slice ao L cap] 63)).cell? ⟨w.heap.size, 0, none⟩ = some (.int .i64 n) := cell_of_row _ _ _ _ _ _ (heap_alloc_new w _)
  have hsz : w.heap.size < (w.alloc (.cells #[.int .i64 n, .slice ao L cap] 63)).heap.size := by simp
  obtain ⟨w0, HW0⟩ : ∃ w0, Hid (w.alloc (.cells #[.int .i64 n, .slice ao L cap] 63) = w0) := ⟨_, rfl⟩
  rw [HW0.out] at hF0 hW0 hb0 c0 hsz
  clear hb
  rcases hc with ⟨hno, rfl⟩ | ⟨hok, hne, rfl⟩
  · have HN : Hid (¬ okT n ws) := hno
    clear hno
    go_enter Tryz.func112, Tryz.ntmps112
    go_wp2_with fail
    rw [HW0.out]
    refine (check_any n ao L cap 1 ws _ hW0 HL.out hn0 hn1 (Or.inr ⟨HN.out, rfl⟩)).mono ?_
    rintro e w1 ⟨rfl, hF1⟩
    have hF := hF0.then hF1
    clear hF0 hF1 hW0
    go_wp2
    go_ret
    exact ⟨rfl, hF⟩
  · have HK : Hid (okT n ws) := hok
    have hnb : (n != (k : Int)) = true := by rw [bne_iff_ne]; exact hne
    clear hok
    go_enter Tryz.func112, Tryz.ntmps112
    go_wp2_with fail
    rw [HW0.out]
    refine (check_any n ao L cap 0 ws _ hW0 HL.out hn0 hn1 (Or.inl ⟨HK.out, rfl⟩)).mono ?_
    rintro e w1 ⟨rfl, hF1⟩
    have hF := hF0.then hF1
    have d0 : w1.cell? ⟨w.heap.size, 0, none⟩ = some (.int .i64 n) := (World.cell?_of_block (hF1.block _ hsz (by simp))).trans c0
    have d1 := (hb0.keep hF1 (by simp)).c
    clear hF0 hF1 hW0 hne
    go_wp2
    go_ret
    exact ⟨rfl, hF⟩

set_option maxHeartbeats 2000000 in
set_option maxRecDepth 100000 in
theorem turn1_ok (b k : Nat) (n : Int) (ao : Option Addr) (L cap : Nat) (ws : List Wt) (w : World) (hb : Bv w b 3 (.int .i64 (k : Int))) (ht : TArg w n ao L cap ws) (hk : k ≤ 140737488355329)
    (hok : okT n ws) (hn : n = (k : Int)) :
    Calls Tryz.prog 112 #[.agg #[.int .i64 n, .slice ao L cap], .pointer (some ⟨b, 0, none⟩)] w fun e w' => e = .returned (.int .i64 0) ∧ Bv w' b 3 (.int .i64 ((k + 1 : Nat) : Int)) ∧ Fr [b] w w' := by
  subst hn
  have HL : Hid (L = ws.length) := ht.len
  have hn0 := ht.n0
  have hn1 := ht.n1
  have HK : Hid (okT (k : Int) ws) := hok
  clear hok
  have hF0 : Fr [] w (w.alloc (.cells #[.int .i64 (k : Int), .slice ao L cap] 63)) := Fr.alloc _ _ _
  have hW0 := ht.rs.keep hF0
  have hb0 := hb.keep hF0 (by simp)
  have c0 : (w.alloc (.cells #[.int .i64 (k : Int), .slice ao L cap] 63)).cell? ⟨w.heap.size, 0, none⟩ = some (.int .i64 (k : Int)) := cell_of_row _ _ _ _ _ _ (heap_alloc_new w _)
  have hsz : w.heap.size < (w.alloc (.cells #[.int .i64 (k : Int), .slice ao L cap] 63)).heap.size := by simp
  obtain ⟨w0, HW0⟩ : ∃ w0, Hid (w.alloc (.cells #[.int .i64 (k : Int), .slice ao L cap] 63) = w0) := ⟨_, rfl⟩
  rw [HW0.out] at hF0 hW0 hb0 c0 hsz
  clear hb
  have hnb : ((k : Int) != (k : Int)) = false := by simp
  go_enter Tryz.func112, Tryz.ntmps112
  go_wp2_with fail
  rw [HW0.out]
  refine (check_any (k : Int) ao L cap 0 ws _ hW0 HL.out hn0 hn1 (Or.inl ⟨HK.out, rfl⟩)).mono ?_
  rintro e w1 ⟨rfl, hF1⟩
  have hF := hF0.then hF1
  have d0 : w1.cell? ⟨w.heap.size, 0, none⟩ = some (.int .i64 (k : Int)) := (World.cell?_of_block (hF1.block _ hsz (by simp))).trans c0
  have hb1 := hb0.keep hF1 (by simp)
  have d1 := hb1.c
  have d2 := hb1.f
  have hR : Bv (w1.setCell ⟨b, 0, none⟩ (.int .i64 ((k : Int) + 1))) b 3 (.int .i64 ((k + 1 : Nat) : Int)) := by
    have := hb1.set (.int .i64 ((k : Int) + 1))
    simpa using this
  have HR : Hid (_ ∧ Fr [b] w (w1.setCell ⟨b, 0, none⟩ (.int .i64 ((k : Int) + 1)))) := ⟨hR, (hF.mono (by simp)).then (Fr.set _ _ _ (by simp))⟩
  clear hF0 hF1 hW0 hb0 hR hb1 hF
  go_wp2
  go_ret
  exact ⟨rfl, HR.out⟩

theorem tdrop_cons (ts : List Tm) (i : Nat) (h : i < ts.length) : ts.drop i = ts.getD i Tm.zero :: ts.drop (i + 1) := by
  rw [List.drop_eq_getElem_cons h]
  simp [List.getD, h]
set_option maxHeartbeats 4000000 in
set_option maxRecDepth 100000 in
theorem lcheck_any (ao : Option Addr) (L cap c : Nat) (ts : List Tm) (w : World) (hT : TRs w ao ts) (hL : L = ts.length) (hc : Bad 1 (txs ts) c) :
    Calls Tryz.prog 12 #[.slice ao L cap] w fun e w' => e = .returned (.int .i64 (c : Int)) ∧ Fr [] w w' := by
  have HC : Hid (Bad 1 (txs ts) c) := hc
  have HL : Hid (L = ts.length) := hL
  have hLm : L ≤ 140737488355328 := by have := hT.few; omega
  clear hc hL
  have hF0 : Fr [] w (w.alloc (.cells #[.int .i64 1] 3)) := Fr.alloc _ _ _
  have hB0 : Bv (w.alloc (.cells #[.int .i64 1] 3)) w.heap.size 3 (.int .i64 ((1 : Nat) : Int)) := Bv.new w _ _
  go_enter Tryz.func12, Tryz.ntmps12
  go_wp2_with fail
  refine (inTurn_any _).mono ?_
  rintro e w0 ⟨rfl, HW0⟩
  rw [← HW0] at hF0 hB0
  obtain ⟨b, hb⟩ : ∃ b, b = w.heap.size := ⟨_, rfl⟩
  rw [← hb] at hB0 ⊢
  have hbw : w.heap.size ≤ b := by omega
  clear hb HW0
  go_wp2_with fail
  go_loopw [10] (fun ii wr => ∃ (i : Nat), ii = .int .i64 i ∧ i ≤ L ∧ Hid (Bad (1 + i) (txs (ts.drop i)) c) ∧ Bv wr b 3 (.int .i64 ((1 + i : Nat) : Int)) ∧ Fr [] w wr) (fun ii _ => L - (RowKit.intOf ii).toNat)
  case atStart => exact ⟨0, rfl, Nat.zero_le _, HC.out, hB0, hF0⟩
  case round =>
    obtain ⟨i, rfl, hiL, HE, hBi, hFr⟩ := hrel
    by_cases hi : i < L
    · have hi' : i < ts.length := by rw [← HL.out]; exact hi
      obtain ⟨bb, off, rfl, _, hc⟩ := (hT.keep hFr).lies (by omega)
      have hx := hc i hi'
      have hat := (hT.keep hFr).each _ (tgetD_mem ts i hi')
      obtain ⟨x, hxx⟩ : ∃ x, x = ts.getD i Tm.zero := ⟨_, rfl⟩
      rw [← hxx] at hx hat
      have HX : Hid (x = ts.getD i Tm.zero) := hxx
      clear hxx hc
      obtain ⟨n, ao, M, cm, ws⟩ := x
      obtain ⟨c0, c1⟩ := hx
      simp only at c0 c1
      have e1 := HE.out
      rw [tdrop_cons ts i hi', ← HX.out] at e1
      have hF1 : Fr [] wr (wr.alloc (.cells #[.int .i64 n, .slice ao M cm] 63)) := Fr.alloc _ _ _
      have hB1 := hBi.keep hF1 (by simp)
      have hat1 : TArg (wr.alloc (.cells #[.int .i64 n, .slice ao M cm] 63)) n ao M cm ws := TArg.keep hat hF1
      have hG := hFr.then hF1
      clear HE HC
      rcases e1 with ⟨h1, rfl⟩ | ⟨h1, h2, rfl⟩ | ⟨h1, h2, h3⟩
      · have HN : Hid (¬ okT n ws) := h1
        clear h1
        go_wp2_with fail
        refine (turn1_no b (1 + i) 1 n ao M cm ws _ hB1 hat1 (by omega) (Or.inl ⟨HN.out, rfl⟩)).mono ?_
        rintro e w2 ⟨rfl, hF2⟩
        have hG2 := hG.then hF2
        clear hG hF2 hB1 hat1 hF1
        go_wp2
        go_ret
        exact ⟨rfl, hG2⟩
      · have HN : Hid (okT n ws ∧ n ≠ ((1 + i : Nat) : Int)) := ⟨h1, h2⟩
        clear h1 h2
        go_wp2_with fail
        refine (turn1_no b (1 + i) 6 n ao M cm ws _ hB1 hat1 (by omega) (Or.inr ⟨HN.out.1, HN.out.2, rfl⟩)).mono ?_
        rintro e w2 ⟨rfl, hF2⟩
        have hG2 := hG.then hF2
        clear hG hF2 hB1 hat1 hF1
        go_wp2
        go_ret
        exact ⟨rfl, hG2⟩
      · have HN : Hid (okT n ws ∧ n = ((1 + i : Nat) : Int) ∧ Bad (1 + i + 1) (txs (ts.drop (i + 1))) c) := ⟨h1, h2, h3⟩
        clear h1 h2 h3
        go_wp2_with fail
        refine (turn1_ok b (1 + i) n ao M cm ws _ hB1 hat1 (by omega) HN.out.1 HN.out.2.1).mono ?_
        rintro e w2 ⟨rfl, hB2, hF2⟩
        have hG2 := hG.on hF2 (by intro x hx; simp at hx; omega)
        clear hG hF2 hB1 hat1 hF1
        go_wp2
        go_roundw
        case rel => exact ⟨i + 1, by simp, by omega, by show Bad _ _ _; rw [show 1 + (i + 1) = 1 + i + 1 by omega]; exact HN.out.2.2, by rw [show 1 + (i + 1) = 1 + i + 1 by omega]; exact hB2, hG2⟩
        case measure => simp [RowKit.intOf]; omega
    · have hc0 : c = 0 := by
        have e1 := HE.out
        rw [List.drop_eq_nil_of_le (by rw [← HL.out]; omega)] at e1
        exact e1
      subst hc0
      clear HC HE
      go_wp2
      go_ret
      exact ⟨rfl, hFr⟩
end Go.Proofs.YtaefninikmaiiaaGreatDoor
/- What the source's texts lean on, without the reading of logs: transactions in blocks of their own. Conditions as each names them. -/
namespace Go.Proofs.YtaefninikmaiiaaGreatDoor
open Go.ChangeShapes Go.WideShapes Go.ChangeAt Go.RowKit Go.Lib
set_option linter.unusedVariables false

theorem info_parts2 {P : Program} {t : TypeId} {z : Value} {n : Nat} (h : (P.info? t).map (fun i => (i.zero, i.size)) = some (some z, n)) : ∃ i, P.info? t = some i ∧ i.zero = some z ∧ i.size = n := by
  cases hi : P.info? t with
  | none => rw [hi] at h; cases h
  | some i =>
    rw [hi] at h
    simp only [Option.map_some, Option.some.injEq, Prod.mk.injEq] at h
    exact ⟨i, rfl, h.1, h.2⟩
theorem Tryz.infoWt : (Tryz.prog.info? 124).map (fun i => (i.zero, i.size)) = some (some (.agg #[.string ⟨#[]⟩, .string ⟨#[]⟩, .bool false]), 3) := by kernel_rfl
theorem Tryz.bytesWt : ((Tryz.prog.info? 124).map (fun i => decide (i.bytes ≤ 64))) = some true := by kernel_rfl
theorem Tryz.undWs : Tryz.prog.underlying 61 = some (.slice 124) := by kernel_rfl
/-- A row of writes in a block of its own: those that are there, and others behind. -/
structure Ww (w : World) (k : Nat) (ds : List Wt) (R : List Value) : Prop where
  box : w.heap[k]? = some (.cells (wtsC ds ++ R).toArray 124 (0, 0))
theorem made_row {w' : World} {b C : Nat} {ys : List Value} (h : w'.ownsRow 0 124 3 (.slice (some ⟨b, 0, none⟩) C C) C ys) : ∃ R : List Value, R.length = C * 3 ∧ Ww w' b [] R := by
  have hl := h.1
  rcases h.2 with ⟨hh, _⟩ | ⟨g', cap', cur, hh, hb, hg, hnc, hcm, hcs, ht⟩
  · cases hh
  · cases hh
    exact ⟨cur.toList, by simpa using hcs, ⟨by simpa [wtsC] using hg⟩⟩
/-- A transaction's struct in a block of its own. -/
structure B2 (w : World) (b : Nat) (u v : Value) : Prop where
  box : w.heap[b]? = some (.cells #[u, v] 63 (0, 0))
theorem B2.lt {w : World} {b : Nat} {u v : Value} (h : B2 w b u v) : b < w.heap.size := lt_of_block h.box
theorem B2.c0 {w : World} {b : Nat} {u v : Value} (h : B2 w b u v) : w.cell? ⟨b, 0, none⟩ = some u := by simp [World.cell?, h.box]
theorem B2.c1 {w : World} {b : Nat} {u v : Value} (h : B2 w b u v) : w.cell? ⟨b, 1, none⟩ = some v := by simp [World.cell?, h.box]
theorem B2.f0 {w : World} {b : Nat} {u v : Value} (h : B2 w b u v) : w.frozen? ⟨b, 0, none⟩ = false := by simp [World.frozen?, h.box]
theorem B2.f1 {w : World} {b : Nat} {u v : Value} (h : B2 w b u v) : w.frozen? ⟨b, 1, none⟩ = false := by simp [World.frozen?, h.box]
theorem B2.keep {w w' : World} {b : Nat} {u v : Value} (h : B2 w b u v) (hf : Fr [] w w') : B2 w' b u v := ⟨hf.keep h.box (by simp)⟩
theorem B2.keepS {S : List Nat} {w w' : World} {b : Nat} {u v : Value} (h : B2 w b u v) (hf : Fr S w w') (hn : b ∉ S) : B2 w' b u v := ⟨hf.keep h.box hn⟩
theorem Fr.box2 (w1 : World) (b : Nat) (u v : Value) : Fr [b] w1 ((w1.setCell ⟨b, 0, none⟩ u).setCell ⟨b, 1, none⟩ v) := (Fr.set w1 ⟨b, 0, none⟩ u (by simp)).then (Fr.set _ ⟨b, 1, none⟩ v (by simp))
theorem Tryz.infoT : (Tryz.prog.info? 63).map (fun i => (i.zero, i.size, i.bytes)) = some (some (.agg #[.int .i64 0, .slice none 0 0]), 2, 32) := by kernel_rfl
theorem Tryz.undTs : Tryz.prog.underlying 22 = some (.slice 63) := by kernel_rfl
theorem okT_few {n : Int} {ws : List Wt} (h : okT n ws) : ws.length ≤ 140737488355328 ∧ ∀ x ∈ ws, x.key.size ≤ 140737488355328 ∧ x.val.size ≤ 140737488355328 := by
  refine ⟨by have := h.2.2.1; omega, fun x hx => ?_⟩
  obtain ⟨_, a, b, _⟩ := h.2.2.2 x hx
  exact ⟨by omega, by omega⟩
theorem WRs.of_ok {w : World} {k : Nat} {n : Int} {ws : List Wt} (h : okT n ws) (hr : w.heap[k]? = some (.cells (wtsC ws).toArray 124 (0, 0))) : WRs w (some ⟨k, 0, none⟩) ws :=
  WRs.of_row (rest := []) (t := 124) (f := (0, 0)) (by rw [List.append_nil]; exact hr) (okT_few h).1 (okT_few h).2
theorem three_setCell2 {w : World} {b : Nat} {u v x y : Value} {t : TypeId} (h : w.heap[b]? = some (.cells #[u, v, x] t (0, 0))) : (w.setCell ⟨b, 2, none⟩ y).heap[b]? = some (.cells #[u, v, y] t (0, 0)) := by
  have hlt := lt_of_block h
  have h' : w.heap[b] = .cells #[u, v, x] t (0, 0) := by simpa [Array.getElem?_eq_getElem hlt] using h
  show (w.heap.modify b _)[b]? = _
  rw [Array.getElem?_eq_getElem (by simpa using hlt), Array.getElem_modify_self, h']
  rfl
/-- A transaction that was told: its writes lie in a block of their own, made since w0. -/
def Tnew (w0 w : World) (t : Tm) : Prop := ∃ k, t.ao = some ⟨k, 0, none⟩ ∧ t.cap = t.L ∧ t.L = t.ws.length ∧ w0.heap.size ≤ k ∧ w.heap[k]? = some (.cells (wtsC t.ws).toArray 124 (0, 0)) ∧ okT t.n t.ws
theorem Tnew.at {w0 w : World} {t : Tm} (h : Tnew w0 w t) : t.at w := by
  obtain ⟨k, e1, e2, e3, _, hr, hok⟩ := h
  refine ⟨by rw [e1]; exact WRs.of_ok hok hr, e3, ?_, ?_⟩
  · have := hok.1; omega
  · have := hok.2.1; omega
theorem Tnew.keepS {S : List Nat} {w0 w w' : World} {t : Tm} (h : Tnew w0 w t) (hf : Fr S w w') (hS : ∀ k, w.heap[k]? = some (.cells (wtsC t.ws).toArray 124 (0, 0)) → k ∉ S) : Tnew w0 w' t := by
  obtain ⟨k, e1, e2, e3, hk, hr, hok⟩ := h
  exact ⟨k, e1, e2, e3, hk, hf.keep hr (hS k hr), hok⟩
end Go.Proofs.YtaefninikmaiiaaGreatDoor
/- A source of records: contracts of copied, there, New, Get, Asked, Last. Conditions as each names them. -/
namespace Go.Proofs.YtaefninikmaiiaaGreatDoor
open Go.ChangeShapes Go.WideShapes Go.ChangeAt Go.RowKit Go.Lib
set_option linter.unusedVariables false

theorem run_copy_big {P : Program} (w : World) (dT sT ty elem : TypeId) (size g L dCap : Nat) (a : Addr) (sCap : Nat) (cur : Array Value) (t : TypeId) (cs : List Value)
    (hu : P.underlying dT = some (.slice elem)) (hs : (P.info? elem).map (·.size) = some size) (hg : w.heap[g]? = some (.cells cur t (0, 0))) (hn : cs.length = L * size)
    (hsrc : ∀ j v, cs[j]? = some v → w.cell? (a.add j) = some v) (hfit : cs.length = cur.size) (h1 : ∀ v ∈ cs, v.oneCell' = true) :
    (Builtin.copy_ #[dT, sT] ty #[.slice (some ⟨g, 0, none⟩) L dCap, .slice (some a) L sCap]).run P w = .ok (goInt L) (w.setRow g cs.toArray) := by
  have hl := run_loadCells_list (P := P) w a cs hsrc
  have hst := run_storeCells_at P g 0 t cs 0 cur w hg (by omega) h1
  have hm : Nat.min L L = L := Nat.min_self L
  have hd : cur.toList.drop cs.length = [] := by rw [hfit]; simp
  cases hq : P.info? elem with
  | none => simp [hq] at hs
  | some i =>
    have hi : i.size = size := by simpa [hq] using hs
    simp [Builtin.copy_, run_underlying hu, Builtin.lenOf, Builtin.firstCells, sizeOf, typeInfo, hq, hi, ← hn, hl, hst, hd]
theorem run_copy_zero {P : Program} (w : World) (dT sT ty elem : TypeId) (size : Nat) (d a : Option Addr) (dCap sCap : Nat) (hu : P.underlying dT = some (.slice elem)) (hs : (P.info? elem).map (·.size) = some size) :
    (Builtin.copy_ #[dT, sT] ty #[.slice d 0 dCap, .slice a 0 sCap]).run P w = .ok (goInt 0) w := by
  cases hq : P.info? elem with
  | none => simp [hq] at hs
  | some i =>
    have hl : ∀ (x : Addr), (loadCells x 0).run P w = .ok #[] w := fun x => by simpa using run_loadCells_list (P := P) w x [] (by simp)
    cases d <;> cases a <;> simp [Builtin.copy_, run_underlying hu, Builtin.lenOf, Builtin.firstCells, sizeOf, typeInfo, hq, storeCells, hl]
theorem Tryz.sizeWt : (Tryz.prog.info? 124).map (·.size) = some 3 := by kernel_rfl
theorem res_cell1 {fn : Func} {p : Tmp} {t : TypeId} (h : fn.results = #[.cell p t]) (tmps : Array Value) (P : Program) (w : World) :
    (results fn tmps).run P w = ((asAddr (tmps.getD p undef)).run P w).andThen fun a w₁ => (loadVar t a).run P w₁ := by
  simp only [results, h]
  simp [Sem.run_bind, Result.andThen]
/-- The writes of a slice as cells of memory. -/
theorem WRs.src {w : World} {b off : Nat} {ws : List Wt} (h : WRs w (some ⟨b, off, none⟩) ws) (h0 : 0 < ws.length) : ∀ j u, (wtsC ws)[j]? = some u → w.cell? ((⟨b, off, none⟩ : Addr).add j) = some u := by
  intro j u hj
  obtain ⟨b', off', e, _, hc⟩ := h.lies h0
  cases e
  have hlt : j < ws.length * 3 := by have := (List.getElem?_eq_some_iff.1 hj).1; rwa [wtsC_length] at this
  have hi : j / 3 < ws.length := by omega
  have hr : j % 3 < 3 := Nat.mod_lt _ (by omega)
  have hjj : j / 3 * 3 + j % 3 = j := by omega
  have h1 := wtsC_get ws (j / 3) (j % 3) hi hr
  rw [hjj, hj] at h1
  have hA := hc (j / 3) hi
  rw [Addr.add_lit]
  have hcase : j % 3 = 0 ∨ j % 3 = 1 ∨ j % 3 = 2 := by omega
  rcases hcase with h2 | h2 | h2
  · rw [h2] at h1
    have e1 : off + j = off + j / 3 * 3 := by omega
    rw [e1, hA.c0]
    simpa [wtC] using h1.symm
  · rw [h2] at h1
    have e1 : off + j = off + j / 3 * 3 + 1 := by omega
    rw [e1, hA.c1]
    simpa [wtC] using h1.symm
  · rw [h2] at h1
    have e1 : off + j = off + j / 3 * 3 + 2 := by omega
    rw [e1, hA.c2]
    simpa [wtC] using h1.symm

set_option maxHeartbeats 4000000 in
set_option maxRecDepth 100000 in
theorem copied_any (n : Int) (ao : Option Addr) (L cap : Nat) (ws : List Wt) (w : World) (ht : TArg w n ao L cap ws) (hL : L ≤ 32) :
    Calls Tryz.prog 91 #[.agg #[.int .i64 n, .slice ao L cap]] w fun e w' => ∃ k, e = .returned (.agg #[.int .i64 n, .slice (some ⟨k, 0, none⟩) L L]) ∧ w.heap.size ≤ k ∧ w'.heap[k]? = some (.cells (wtsC ws).toArray 124 (0, 0)) ∧ Fr [] w w' := by
  have HL : Hid (L = ws.length) := ht.len
  obtain ⟨iW, hiW, hzW, hsW⟩ := info_parts2 Tryz.infoWt
  have hbW : iW.bytes ≤ 64 := by have := Tryz.bytesWt; rw [hiW] at this; simpa using this
  obtain ⟨w0, HW0⟩ : ∃ w0, Hid ((w.alloc (.cells #[.int .i64 n, .slice ao L cap] 63)).alloc (.cells #[.int .i64 0, .slice none 0 0] 63) = w0) := ⟨_, rfl⟩
  have hF0 : Fr [] w w0 := by rw [← HW0.out]; exact (Fr.alloc [] w _).then (Fr.alloc [] _ _)
  have hP0 : B2 w0 w.heap.size (.int .i64 n) (.slice ao L cap) := ⟨by rw [← HW0.out]; exact (Below.heap_alloc _ _ _ (by simp)).trans (heap_alloc_new w _)⟩
  have hT0 : B2 w0 (w.heap.size + 1) (.int .i64 0) (.slice none 0 0) := ⟨by rw [← HW0.out]; have := heap_alloc_new (w.alloc (.cells #[.int .i64 n, .slice ao L cap] 63)) (.cells #[.int .i64 0, .slice none 0 0] 63); rw [World.size_alloc] at this; exact this⟩
  have hs0 : w.heap.size + 2 ≤ w0.heap.size := by rw [← HW0.out]; simp
  obtain ⟨p0, p1⟩ : _ ∧ _ := ⟨hP0.c0, hP0.c1⟩
  have hW0 := ht.rs.keep hF0
  go_enter Tryz.func91, Tryz.ntmps91
  go_upto_region 1 with fail
  rw [HW0.out]
  clear HW0
  go_wp2_with (at_make; refine wpList_make_full _ rfl (.tmp 6) (.tmp 6) 61 rfl 0 124 iW _ 3 Tryz.undWs hiW hzW hsW .i64 .i64 L L L rfl rfl rfl rfl ?b2 ?b3 ?b4 ?_)
  case b2 => have : iW.bytes * L ≤ 64 * 32 := Nat.mul_le_mul hbW hL; omega
  case b3 => unfold maxLen; omega
  case b4 => exact Nat.zero_le _
  intro w1 hown hgrow
  obtain ⟨R0, hR0, hM0⟩ := made_row hown
  have hF1 : Fr [] w0 w1 := Fr.grown (S := []) hgrow (by simp)
  obtain ⟨k, hk⟩ : ∃ k, k = w0.heap.size := ⟨_, rfl⟩
  have hk0 : w.heap.size + 2 ≤ k := by omega
  rw [← hk] at hM0 ⊢
  have hrow1 : w1.heap[k]? = some (.cells R0.toArray 124 (0, 0)) := by have := hM0.box; simpa [wtsC] using this
  have hP1 := hP0.keep hF1
  have hT1 := hT0.keep hF1
  have hW1 := hW0.keep hF1
  have hG1 := hF0.then hF1
  obtain ⟨q0, q1⟩ : _ ∧ _ := ⟨hP1.c0, hP1.c1⟩
  clear hown hgrow hM0 hk p0 p1 hP0 hT0 hW0 hF0 hF1
  by_cases h0 : 0 < L
  · obtain ⟨b, off, e1, _, _⟩ := hW1.lies (by have := HL.out; omega)
    subst e1
    have hcp := run_copy_big (P := Tryz.prog) w1 61 61 3 124 3 k L L ⟨b, off, none⟩ cap R0.toArray 124 (wtsC ws) Tryz.undWs Tryz.sizeWt hrow1 (by rw [wtsC_length, HL.out]) (hW1.src (by have := HL.out; omega)) (by rw [wtsC_length, ← HL.out]; simp [hR0]) (wtsC_oneCell ws)
    have hrow2 := setRow_heap w1 k R0.toArray (wtsC ws).toArray 124 (0, 0) hrow1
    have hF2 := Fr.setRow w1 k (wtsC ws).toArray
    obtain ⟨w2, HW2⟩ : ∃ w2, Hid (w1.setRow k (wtsC ws).toArray = w2) := ⟨_, rfl⟩
    rw [HW2.out] at hcp hrow2 hF2
    have hP2 := hP1.keepS hF2 (by simp; omega)
    have hT2 := hT1.keepS hF2 (by simp; omega)
    obtain ⟨r0, r1, s0, s1, s2, s3⟩ : _ ∧ _ ∧ _ ∧ _ ∧ _ ∧ _ := ⟨hP2.c0, hP2.c1, hT2.c0, hT2.c1, hT2.f0, hT2.f1⟩
    have hG2 := hG1.on hF2 (by intro x hx; simp at hx; omega)
    have hF3 := Fr.box2 w2 (w.heap.size + 1) (.int .i64 n) (.slice (some ⟨k, 0, none⟩) L L)
    have HF : Hid (_ ∧ _) := ⟨hF3.keep hrow2 (by simp; omega), hG2.on hF3 (by intro x hx; simp at hx; omega)⟩
    clear hP2 hT2 hG2 hF3 hrow2 hF2 HW2 hP1 hT1 hW1 hG1 hrow1
    go_wp2_with fail
    refine bodyPost_ret (v := .agg #[.int .i64 n, .slice (some ⟨k, 0, none⟩) L L]) (by rw [res_cell1 rfl]; go_simp) rfl ⟨k, rfl, by omega, HF.out⟩
  · have hL0 : L = 0 := by omega
    subst hL0
    have hws : ws = [] := List.eq_nil_of_length_eq_zero HL.out.symm
    subst hws
    have hR00 : R0 = [] := List.eq_nil_of_length_eq_zero (by omega)
    subst hR00
    have hcp := run_copy_zero (P := Tryz.prog) w1 61 61 3 124 3 (some ⟨k, 0, none⟩) ao 0 cap Tryz.undWs Tryz.sizeWt
    obtain ⟨s0, s1, s2, s3⟩ : _ ∧ _ ∧ _ ∧ _ := ⟨hT1.c0, hT1.c1, hT1.f0, hT1.f1⟩
    have hF3 := Fr.box2 w1 (w.heap.size + 1) (.int .i64 n) (.slice (some ⟨k, 0, none⟩) 0 0)
    have HF : Hid (_ ∧ _) := ⟨hF3.keep hrow1 (by simp; omega), hG1.on hF3 (by intro x hx; simp at hx; omega)⟩
    clear hF3 hP1 hT1 hW1 hG1 hrow1
    go_wp2_with fail
    refine bodyPost_ret (v := .agg #[.int .i64 n, .slice (some ⟨k, 0, none⟩) 0 0]) (by rw [res_cell1 rfl]; go_simp) rfl ⟨k, rfl, by omega, HF.out⟩
end Go.Proofs.YtaefninikmaiiaaGreatDoor
/- A source of records is made: contracts of there and New. Conditions as each names them. -/
namespace Go.Proofs.YtaefninikmaiiaaGreatDoor
open Go.ChangeShapes Go.WideShapes Go.ChangeAt Go.RowKit Go.Lib
set_option linter.unusedVariables false

/-- Numbers qs cells. -/
def ints (xs : List Nat) : List Value := xs.map fun (x : Nat) => Value.int .i64 (x : Int)
theorem ints_length (xs : List Nat) : (ints xs).length = xs.length := by simp [ints]
theorem ints_append (xs ys : List Nat) : ints (xs ++ ys) = ints xs ++ ints ys := by simp [ints]
theorem ints_get (xs : List Nat) (j : Nat) (h : j < xs.length) : (ints xs)[j]? = some (.int .i64 ((xs.getD j 0 : Nat) : Int)) := by simp [ints, List.getD, h]
theorem ints_oneCell (xs : List Nat) : ∀ u ∈ ints xs, u.oneCell' = true := by
  intro u hu
  obtain ⟨_, _, rfl⟩ := List.mem_map.1 hu
  rfl
/-- A source: its struct lies in block g, its log in lb, the numbers asked are qs. -/
structure Src (w0 w : World) (g lb L : Nat) (ts : List Tm) (v : Value) (qs : List Nat) : Prop where
  box : w.heap[g]? = some (.cells #[.bool true, .slice (some ⟨lb, 0, none⟩) L L, v] 72 (0, 0))
  log : w.heap[lb]? = some (.cells (tmsC ts).toArray 63 (0, 0))
  len : L = ts.length
  few : L ≤ 65536
  each : ∀ t ∈ ts, Tnew w0 w t
  row : w.ownsRow 0 3 1 v qs.length (ints qs)
  gn : w0.heap.size ≤ g
  ln : w0.heap.size ≤ lb
  rn : ∀ k, v.ownBlock = some k → w0.heap.size ≤ k
section
variable {w0 w w' : World} {g lb L : Nat} {ts : List Tm} {v : Value} {qs : List Nat}
theorem Src.lt (h : Src w0 w g lb L ts v qs) : g < w.heap.size := lt_of_block h.box
theorem Src.c0 (h : Src w0 w g lb L ts v qs) : w.cell? ⟨g, 0, none⟩ = some (.bool true) := by simp [World.cell?, h.box]
theorem Src.c1 (h : Src w0 w g lb L ts v qs) : w.cell? ⟨g, 1, none⟩ = some (.slice (some ⟨lb, 0, none⟩) L L) := by simp [World.cell?, h.box]
theorem Src.c2 (h : Src w0 w g lb L ts v qs) : w.cell? ⟨g, 2, none⟩ = some v := by simp [World.cell?, h.box]
theorem Src.f2 (h : Src w0 w g lb L ts v qs) : w.frozen? ⟨g, 2, none⟩ = false := by simp [World.frozen?, h.box]
theorem Src.rowNe (h : Src w0 w g lb L ts v qs) {x : Nat} (hx : v.ownBlock = some x) : ∃ cur, w.heap[x]? = some (.cells cur 3 (0, 0)) := by
  rcases h.row.2 with ⟨rfl, _⟩ | ⟨g', cap, cur, rfl, _, hgg, _⟩
  · simp [Value.ownBlock] at hx
  · simp [Value.ownBlock] at hx
    subst hx
    exact ⟨cur, hgg⟩
theorem Src.keep (h : Src w0 w g lb L ts v qs) (hf : Fr [] w w') : Src w0 w' g lb L ts v qs :=
  ⟨hf.keep h.box (by simp), hf.keep h.log (by simp), h.len, h.few, fun t ht => (h.each t ht).keepS hf (by simp), owns_keep h.row hf (by simp), h.gn, h.ln, h.rn⟩
theorem Src.trs (h : Src w0 w g lb L ts v qs) : TRs w (some ⟨lb, 0, none⟩) ts :=
  TRs.of_row (rest := []) (t := 63) (f := (0, 0)) (by rw [List.append_nil]; exact h.log) (by have := h.len; have := h.few; omega) (fun t ht => (h.each t ht).at)
theorem sThere_any (h : Src w0 w g lb L ts v qs) : Calls Tryz.prog 93 #[.pointer (some ⟨g, 0, none⟩)] w fun e w' => e = .returned (.bool true) ∧ w = w' := by
  have c0 := h.c0
  go_enter Tryz.func93, Tryz.ntmps93
  go_wp2
  go_ret
  exact ⟨rfl, rfl⟩
set_option maxHeartbeats 2000000 in
theorem sLast_any (h : Src w0 w g lb L ts v qs) : Calls Tryz.prog 28 #[.pointer (some ⟨g, 0, none⟩)] w fun e w' => e = .returned (.int .i64 (L : Int)) ∧ w = w' := by
  have c1 := h.c1
  go_enter Tryz.func28, Tryz.ntmps28
  go_wp2_with fail
  refine (sThere_any h).mono ?_
  rintro e w1 ⟨rfl, rfl⟩
  go_wp2
  go_ret
  exact ⟨rfl, rfl⟩
end
/-- A row of transactions, some of them laid. -/
structure Wt2 (w : World) (k : Nat) (ds : List Tm) (R : List Value) : Prop where
  box : w.heap[k]? = some (.cells (tmsC ds ++ R).toArray 63 (0, 0))
theorem Wt2.keep {S : List Nat} {w w' : World} {k : Nat} {ds : List Tm} {R : List Value} (h : Wt2 w k ds R) (hf : Fr S w w') (hn : k ∉ S) : Wt2 w' k ds R := ⟨hf.keep h.box hn⟩
theorem Wt2.lt {w : World} {k : Nat} {ds : List Tm} {R : List Value} (h : Wt2 w k ds R) : k < w.heap.size := lt_of_block h.box
theorem Wt2.cell {w : World} {k : Nat} {ds : List Tm} {a b : Value} {R : List Value} (h : Wt2 w k ds (a :: b :: R)) :
    w.cell? ⟨k, ds.length * 2, none⟩ = some a ∧ w.cell? ⟨k, ds.length * 2 + 1, none⟩ = some b := by
  refine ⟨?_, ?_⟩ <;> (rw [cell_of_row _ _ _ _ _ _ h.box]; simp only [List.getElem?_toArray]; rw [List.getElem?_append_right (by rw [tmsC_length]; omega), tmsC_length])
  · simp
  · rw [show ds.length * 2 + 1 - ds.length * 2 = 1 by omega]; rfl
theorem Wt2.free {w : World} {k : Nat} {ds : List Tm} {R : List Value} (h : Wt2 w k ds R) (j : Nat) : w.frozen? ⟨k, j, none⟩ = false := by simp [World.frozen?, h.box]
theorem set2 (xs R : List Value) (a b x y : Value) (n : Nat) (hn : xs.length = n) : ((xs ++ a :: b :: R).set n x).set (n + 1) y = xs ++ x :: y :: R := by
  subst hn
  rw [List.set_append_right _ _ (by omega), List.set_append_right _ _ (by omega)]
  simp
theorem Wt2.put {w : World} {k : Nat} {ds : List Tm} {a b : Value} {R : List Value} (h : Wt2 w k ds (a :: b :: R)) (t : Tm) :
    Wt2 ((w.setCell ⟨k, ds.length * 2, none⟩ (.int .i64 t.n)).setCell ⟨k, ds.length * 2 + 1, none⟩ (.slice t.ao t.L t.cap)) k (ds ++ [t]) R := by
  refine ⟨?_⟩
  rw [row_setCell _ (row_setCell _ h.box)]
  congr 2
  apply Array.toList_inj.1
  simp only [Array.toList_setIfInBounds]
  rw [set2 (tmsC ds) R a b _ _ _ (tmsC_length ds), tmsC_append]
  simp [tmsC, tmC]
theorem made_row2 {w' : World} {b C : Nat} {ys : List Value} (h : w'.ownsRow 0 63 2 (.slice (some ⟨b, 0, none⟩) C C) C ys) : ∃ R : List Value, R.length = C * 2 ∧ Wt2 w' b [] R := by
  rcases h.2 with ⟨hh, _⟩ | ⟨g', cap', cur, hh, hb, hg, hnc, hcm, hcs, ht⟩
  · cases hh
  · cases hh
    exact ⟨cur.toList, by simpa using hcs, ⟨by simpa [tmsC] using hg⟩⟩
theorem more2 {R : List Value} {m : Nat} (h : R.length = (m + 1) * 2) : ∃ a b S, R = a :: b :: S ∧ S.length = m * 2 := by
  match R, h with
  | a :: b :: S, h => exact ⟨a, b, S, rfl, by simp at h; omega⟩
  | [], h => simp at h
  | [_], h => simp at h; omega
theorem Fr.at2 (w : World) (k a b : Nat) (x y : Value) : Fr [k] w ((w.setCell ⟨k, a, none⟩ x).setCell ⟨k, b, none⟩ y) :=
  (Fr.set w ⟨k, a, none⟩ x (by simp)).then (Fr.set _ ⟨k, b, none⟩ y (by simp))

set_option maxHeartbeats 4000000 in
set_option maxRecDepth 100000 in
theorem new_no (ao : Option Addr) (L cap c : Nat) (ts : List Tm) (w : World) (hT : TRs w ao ts) (hL : L = ts.length) (hc : Bad 1 (txs ts) c) (hc0 : c ≠ 0) :
    Calls Tryz.prog 23 #[.slice ao L cap] w fun e w' => e = .returned (.tuple #[.pointer none, .int .i64 (c : Int)]) ∧ Fr [] w w' := by
  have HC : Hid (Bad 1 (txs ts) c) := hc
  have HL : Hid (L = ts.length) := hL
  have hcb : ((c : Int) != 0) = true := by rw [bne_iff_ne]; omega
  clear hc hL hc0
  go_enter Tryz.func23, Tryz.ntmps23
  go_wp2_with fail
  refine (lcheck_any ao L cap c ts _ hT HL.out HC.out).mono ?_
  rintro e w1 ⟨rfl, hF1⟩
  go_wp2
  go_ret2
  exact ⟨rfl, hF1⟩

set_option maxHeartbeats 8000000 in
set_option maxRecDepth 100000 in
theorem new_ok (ao : Option Addr) (L cap : Nat) (ts : List Tm) (w : World) (hT : TRs w ao ts) (hL : L = ts.length) (hok : okL 1 (txs ts)) :
    Calls Tryz.prog 23 #[.slice ao L cap] w fun e w' => ∃ g lb ds, e = .returned (.tuple #[.pointer (some ⟨g, 0, none⟩), .int .i64 0]) ∧ Src w w' g lb L ds (.slice none 0 0) [] ∧ txs ds = txs ts ∧ Fr [] w w' := by
  have HK : Hid (okL 1 (txs ts)) := hok
  have HL : Hid (L = ts.length) := hL
  have hL2 : L ≤ 65536 := by have := okL_few hok; rw [txs_length] at this; omega
  obtain ⟨iT, hiT, hzT, hsT, hbT⟩ := info_parts Tryz.infoT
  clear hok hL
  go_enter Tryz.func23, Tryz.ntmps23
  go_wp2_with fail
  refine (lcheck_any ao L cap 0 ts _ hT HL.out (okL_bad HK.out)).mono ?_
  rintro e w1 ⟨rfl, hF1⟩
  go_wp2_with (at_make; refine wpList_make_full _ rfl (.tmp 14) (.tmp 14) 22 rfl 0 63 iT _ 2 Tryz.undTs hiT hzT hsT .i64 .i64 L L L rfl rfl rfl rfl ?b2 ?b3 ?b4 ?_)
  case b2 => rw [hbT]; omega
  case b3 => unfold maxLen; omega
  case b4 => exact Nat.zero_le _
  intro w2 hown hgrow
  obtain ⟨R0, hR0, hW0⟩ := made_row2 hown
  have hF2 : Fr [] w1 w2 := Fr.grown (S := []) hgrow (by simp)
  obtain ⟨k, hk⟩ : ∃ k, k = w1.heap.size := ⟨_, rfl⟩
  have hkw : w.heap.size ≤ k := by have := hF1.size; omega
  rw [← hk] at hW0 ⊢
  have hG2 := hF1.then hF2
  clear hown hgrow hF1 hF2 hk
  go_wp2_with fail
  go_loopw [18] (fun ii wr => ∃ (i : Nat) (ds : List Tm) (R : List Value), ii = .int .i64 i ∧ i ≤ L ∧ Hid (ds.length = i) ∧ Hid (R.length = (L - i) * 2) ∧ Hid (txs ds = (txs ts).take i) ∧ (∀ t ∈ ds, Tnew w wr t) ∧ Wt2 wr k ds R ∧ Fr [] w wr) (fun ii _ => L - (RowKit.intOf ii).toNat)
  case atStart => exact ⟨0, [], R0, rfl, Nat.zero_le _, rfl, hR0, rfl, by simp, hW0, hG2⟩
  case round =>
    obtain ⟨i, ds, R, rfl, hiL, HI, HRl, HTX, hEa, hWr, hFr⟩ := hrel
    by_cases hi : i < L
    · obtain ⟨m, hm⟩ : ∃ m, L - i = m + 1 := ⟨L - i - 1, by omega⟩
      obtain ⟨a, b, S, rfl, hS⟩ := more2 (hm ▸ HRl.out)
      have hi' : i < ts.length := by rw [← HL.out]; exact hi
      obtain ⟨bb, off, rfl, _, hc⟩ := (hT.keep hFr).lies (by omega)
      have hx := hc i hi'
      have hat := (hT.keep hFr).each _ (tgetD_mem ts i hi')
      have hokx := (okL_get HK.out i (by rw [txs_length]; exact hi')).1
      rw [txs_getD] at hokx
      have HTX2 : Hid (txs ds ++ [(ts.getD i Tm.zero).tx] = (txs ts).take (i + 1)) := by
        show _ = _
        rw [txs_take, ttake_snoc ts i hi', txs_append, HTX.out, txs_take]
        rfl
      obtain ⟨x, hxx⟩ : ∃ x, x = ts.getD i Tm.zero := ⟨_, rfl⟩
      rw [← hxx] at hx hat hokx HTX2
      clear hxx hc
      obtain ⟨n, xo, M, cm, ws⟩ := x
      obtain ⟨c0, c1⟩ := hx
      simp only at c0 c1
      have hF3 : Fr [] wr (wr.alloc (.cells #[.int .i64 n, .slice xo M cm] 63)) := Fr.alloc _ _ _
      have hat3 : TArg (wr.alloc (.cells #[.int .i64 n, .slice xo M cm] 63)) n xo M cm ws := TArg.keep hat hF3
      have HOK : Hid (okT n ws) := hokx
      have HM : Hid (M = ws.length) := hat3.len
      have hM32 : M ≤ 32 := by have := hokx.2.2.1; have := hat3.len; simp only [Tm.tx] at *; omega
      clear hokx hat
      go_wp2_with fail
      refine (copied_any n xo M cm ws _ hat3 hM32).mono ?_
      rintro e w4 ⟨kk, rfl, hkk, hrow4, hF4⟩
      have hG4 := hF3.then hF4
      have hW4 := hWr.keep hG4 (by simp)
      obtain ⟨q0, q1⟩ := hW4.cell
      have p0 := hW4.free (ds.length * 2)
      have p1 := hW4.free (ds.length * 2 + 1)
      rw [HI.out] at q0 q1 p0 p1
      have hW5 := hW4.put ⟨n, some ⟨kk, 0, none⟩, M, M, ws⟩
      rw [HI.out] at hW5
      have hF5 := Fr.at2 w4 k (i * 2) (i * 2 + 1) (.int .i64 n) (.slice (some ⟨kk, 0, none⟩) M M)
      have hkkk : kk ∉ [k] := by
        have := hWr.lt
        have := hF3.size
        simp
        omega
      have HN : Hid (_ ∧ _ ∧ _) := ⟨fun t (ht : t ∈ ds ++ [(⟨n, some ⟨kk, 0, none⟩, M, M, ws⟩ : Tm)]) => (by
        rcases List.mem_append.1 ht with h1 | h1
        · refine ((hEa t h1).keepS hG4 (by simp)).keepS hF5 (fun j hj hh => ?_)
          simp only [List.mem_singleton] at hh
          subst hh
          rw [hW4.box] at hj
          simp at hj
        · simp only [List.mem_singleton] at h1
          subst h1
          exact ⟨kk, rfl, rfl, HM.out, by have := hFr.size; have := hF3.size; omega, hF5.keep hrow4 hkkk, HOK.out⟩ : Tnew w _ t), hW5, (hFr.then hG4).on hF5 (by intro x hx; simp at hx; omega)⟩
      clear hW4 hW5 hF5 hG4 hF4 hF3 hrow4 hat3 hWr hEa hFr
      go_wp2
      go_roundw
      case rel => exact ⟨i + 1, _, S, by simp, by omega, by show _ = _; simp [HI.out], by show _ = _; rw [hS]; congr 1; omega, by show _ = _; rw [txs_append]; exact HTX2.out, HN.out.1, HN.out.2.1, HN.out.2.2⟩
      case measure => simp [RowKit.intOf]; omega
    · have hLi : L - i = 0 := by omega
      have hR0' : R = [] := List.eq_nil_of_length_eq_zero (by rw [HRl.out, hLi])
      subst hR0'
      have HT2 : Hid (txs ds = txs ts) := by show _ = _; rw [HTX.out, List.take_of_length_le (by rw [txs_length, ← HL.out]; omega)]
      have HDL : Hid (L = ds.length) := by show _ = _; have := congrArg List.length HT2.out; rw [txs_length, txs_length] at this; have := HL.out; omega
      have hFz : Fr [] wr (wr.alloc (.cells #[.bool true, .slice (some ⟨k, 0, none⟩) L L, .slice none 0 0] 72)) := Fr.alloc _ _ _
      have hklt := hWr.lt
      have HE : Hid (Src w (wr.alloc (.cells #[.bool true, .slice (some ⟨k, 0, none⟩) L L, .slice none 0 0] 72)) wr.heap.size k L ds (.slice none 0 0) [] ∧ Fr [] w (wr.alloc (.cells #[.bool true, .slice (some ⟨k, 0, none⟩) L L, .slice none 0 0] 72))) :=
        ⟨⟨heap_alloc_new _ _, by have := (hWr.keep hFz (by simp)).box; rw [List.append_nil] at this; exact this, HDL.out, hL2, fun t ht => (hEa t ht).keepS hFz (by simp), ⟨rfl, .inl ⟨rfl, rfl⟩⟩, hFr.size, hkw, fun j hj => by simp [Value.ownBlock] at hj⟩, hFr.then hFz⟩
      clear hFz hWr hEa hFr
      go_wp2
      go_ret2
      exact ⟨_, k, ds, rfl, HE.out.1, HT2.out, HE.out.2⟩
end Go.Proofs.YtaefninikmaiiaaGreatDoor
/- How the value of a row of one's own looks. No conditions. -/
namespace Go.Proofs.YtaefninikmaiiaaGreatDoor
open Go.ChangeShapes Go.WideShapes Go.ChangeAt Go.RowKit Go.Lib

section
variable (w : World)
theorem own_shape {e : TypeId} {v : Value} {n : Nat} {xs : List Value} (h : w.ownsRow 0 e 1 v n xs) : ∃ ao cap, v = .slice ao n cap := by
  rcases h.2 with ⟨hh, h0⟩ | ⟨g, cap', _, hh, _⟩
  · exact ⟨none, 0, by rw [hh, h0]⟩
  · exact ⟨_, cap', hh⟩
end
end Go.Proofs.YtaefninikmaiiaaGreatDoor
/- A source of records: contracts of Get and Asked. Conditions as each names them. -/
namespace Go.Proofs.YtaefninikmaiiaaGreatDoor
open Go.ChangeShapes Go.WideShapes Go.ChangeAt Go.RowKit Go.Lib
set_option linter.unusedVariables false

theorem Tryz.infoI : (Tryz.prog.info? 3).map (fun i => (i.zero, i.size, i.bytes)) = some (some (.int .i64 0), 1, 8) := by kernel_rfl
theorem Tryz.undIs : Tryz.prog.underlying 54 = some (.slice 3) := by kernel_rfl
theorem Tryz.sizeI : (Tryz.prog.info? 3).map (·.size) = some 1 := by kernel_rfl
section
variable {w0 w w' : World} {g lb L : Nat} {ts : List Tm} {v : Value} {qs : List Nat}
theorem Src.apart (h : Src w0 w g lb L ts v qs) {k : Nat} {cs : Array Value} {t : TypeId} {f : Nat × Nat} (hk : w.heap[k]? = some (.cells cs t f)) (ht : t ≠ 3) : v.ownBlock ≠ some k := by
  intro hv
  obtain ⟨cur, hc⟩ := h.rowNe hv
  rw [hc] at hk
  simp only [Option.some.injEq, Obj.cells.injEq] at hk
  exact ht hk.2.1.symm
/-- What of a source an ask may write. -/
def Src.own (g : Nat) (v : Value) : List Nat := g :: v.ownBlock.toList
/-- Behind the append and the store of the new slice. -/
theorem Src.put {w1 : World} {v' : Value} {n N : Nat} {cs : List Value} (h : Src w0 w g lb L ts v qs) (hown : w1.ownsRow 0 3 1 v' N cs) (hN : N = (qs ++ [n]).length) (hcs : cs = ints (qs ++ [n])) (hg : w.grownBy w1 v.ownBlock) {k : Nat} (hm : Moved k v v') (hk : w0.heap.size ≤ k) :
    Src w0 (w1.setCell ⟨g, 2, none⟩ v') g lb L ts v' (qs ++ [n]) ∧ Fr (Src.own g v) w (w1.setCell ⟨g, 2, none⟩ v') := by
  subst hN
  subst hcs
  have hog := h.apart h.box (by decide)
  have hol := h.apart h.log (by decide)
  have hbox := (hg.block g h.lt (fun e => hog e.symm)).trans h.box
  have hlog := (hg.block lb (lt_of_block h.log) (fun e => hol e.symm)).trans h.log
  have hoth : v'.ownBlock ≠ some g := by
    intro hv
    rcases hown.2 with ⟨rfl, _⟩ | ⟨g', cap, cur, rfl, _, hgg, _⟩
    · simp [Value.ownBlock] at hv
    · simp [Value.ownBlock] at hv
      subst hv
      rw [hgg] at hbox
      simp at hbox
  have hlg : lb ≠ g := by
    intro e
    subst e
    have := h.box
    rw [h.log] at this
    simp at this
  have hF : Fr (Src.own g v) w (w1.setCell ⟨g, 2, none⟩ v') := (Fr.grown (S := Src.own g v) hg (by intro k hk _; simp [Src.own, hk])).then (Fr.set _ _ _ (by simp [Src.own]))
  refine ⟨⟨three_setCell2 hbox, (Fr.set (S := [g]) w1 ⟨g, 2, none⟩ v' (by simp)).keep hlog (by simpa using hlg), h.len, h.few, fun t ht => (h.each t ht).keepS hF ?_, ownsRow_setCell_other hown hoth _, h.gn, h.ln, hm.lt hk h.rn⟩, hF⟩
  intro j hj hh
  simp only [Src.own, List.mem_cons, Option.mem_toList] at hh
  rcases hh with rfl | hh
  · rw [h.box] at hj; simp at hj
  · exact h.apart hj (by decide) hh

set_option maxHeartbeats 4000000 in
set_option maxRecDepth 100000 in
theorem get_no (h : Src w0 w g lb L ts v qs) (n : Nat) (hn : n < 1 ∨ L < n) (hn2 : n < 2 ^ 40) :
    Calls Tryz.prog 25 #[.pointer (some ⟨g, 0, none⟩), .int .i64 (n : Int)] w fun e w' => e = .returned (.tuple #[.agg #[.int .i64 0, .slice none 0 0], .int .i64 1]) ∧ Fr [] w w' := by
  have hF0 : Fr [] w (w.alloc (.cells #[.int .i64 0, .slice none 0 0] 63)) := Fr.alloc _ _ _
  have h0 := h.keep hF0
  have c1 := h0.c1
  have hfew := h.few
  have hB : B2 (w.alloc (.cells #[.int .i64 0, .slice none 0 0] 63)) w.heap.size (.int .i64 0) (.slice none 0 0) := ⟨heap_alloc_new _ _⟩
  obtain ⟨s0, s1, s2, s3⟩ : _ ∧ _ ∧ _ ∧ _ := ⟨hB.c0, hB.c1, hB.f0, hB.f1⟩
  have hF1 := hF0.on (Fr.box2 (w.alloc (.cells #[.int .i64 0, .slice none 0 0] 63)) w.heap.size (.int .i64 0) (.slice none 0 0)) (by simp)
  obtain ⟨W, HW⟩ : ∃ W, Hid (w.alloc (.cells #[.int .i64 0, .slice none 0 0] 63) = W) := ⟨_, rfl⟩
  rw [HW.out] at h0 c1 s0 s1 s2 s3 hF1
  have HF : Hid (Fr [] w ((W.setCell ⟨w.heap.size, 0, none⟩ (.int .i64 0)).setCell ⟨w.heap.size, 1, none⟩ (.slice none 0 0))) := hF1
  clear hF0 hB hF1
  go_enter Tryz.func25, Tryz.ntmps25
  go_upto_region 1 with fail
  rw [HW.out]
  clear HW
  go_wp2_with fail
  refine (sThere_any h0).mono ?_
  rintro e w1 ⟨rfl, rfl⟩
  rcases hn with hn | hn
  · obtain rfl : n = 0 := by omega
    go_wp2
    refine bodyPost_ret (v := .tuple #[.agg #[.int .i64 0, .slice none 0 0], .int .i64 1]) (by rw [results_cell_tmp rfl]; go_simp) rfl ⟨rfl, HF.out⟩
  · have hn1 : ¬ n < 1 := by omega
    go_wp2
    refine bodyPost_ret (v := .tuple #[.agg #[.int .i64 0, .slice none 0 0], .int .i64 1]) (by rw [results_cell_tmp rfl]; go_simp) rfl ⟨rfl, HF.out⟩

set_option maxHeartbeats 8000000 in
set_option maxRecDepth 100000 in
theorem get_ok (h : Src w0 w g lb L ts v qs) (n : Nat) (hn : 1 ≤ n) (hnL : n ≤ L) (hq : qs.length < 2 ^ 40) (h00 : w0.heap.size ≤ w.heap.size) (t : Tm) (ht : t = ts.getD (n - 1) Tm.zero) :
    Calls Tryz.prog 25 #[.pointer (some ⟨g, 0, none⟩), .int .i64 (n : Int)] w fun e w' => ∃ k v', e = .returned (.tuple #[.agg #[.int .i64 t.n, .slice (some ⟨k, 0, none⟩) t.L t.L], .int .i64 0]) ∧ w.heap.size ≤ k ∧ w'.heap[k]? = some (.cells (wtsC t.ws).toArray 124 (0, 0)) ∧
      Src w0 w' g lb L ts v' (qs ++ [n]) ∧ Fr (Src.own g v) w w' ∧ Moved w.heap.size v v' := by
  obtain ⟨iI, hiI, hzI, hsI, hbI⟩ := info_parts Tryz.infoI
  have hfew := h.few
  have HN : Hid (n - 1 < ts.length) := by show _ < _; have := h.len; omega
  have HT : Hid (t = ts.getD (n - 1) Tm.zero) := ht
  obtain ⟨ao, cap, hv⟩ := own_shape w h.row
  obtain ⟨N, hN⟩ : ∃ N, N = qs.length := ⟨_, rfl⟩
  rw [← hN] at hv hq
  have HL : Hid (N = qs.length) := hN
  subst hv
  clear hN ht
  have hF0 : Fr [] w (w.alloc (.cells #[.int .i64 0, .slice none 0 0] 63)) := Fr.alloc _ _ _
  have h0 := h.keep hF0
  have hB : B2 (w.alloc (.cells #[.int .i64 0, .slice none 0 0] 63)) w.heap.size (.int .i64 0) (.slice none 0 0) := ⟨heap_alloc_new _ _⟩
  have hs0 : (w.alloc (.cells #[.int .i64 0, .slice none 0 0] 63)).heap.size = w.heap.size + 1 := by simp
  obtain ⟨W, HW⟩ : ∃ W, Hid (w.alloc (.cells #[.int .i64 0, .slice none 0 0] 63) = W) := ⟨_, rfl⟩
  rw [HW.out] at h0 hB hF0 hs0
  have HS0 : Hid (W.heap.size = w.heap.size + 1) := hs0
  clear hs0
  obtain ⟨c1, c2, f2⟩ : _ ∧ _ ∧ _ := ⟨h0.c1, h0.c2, h0.f2⟩
  have hgW := h0.lt
  have HR : Hid (W.ownsRow 0 3 1 (.slice ao N cap) N (ints qs)) := by show World.ownsRow _ _ _ _ _ _ _; have := h0.row; rw [← HL.out] at this; exact this
  have hn1 : ¬ n < 1 := by omega
  have hnL2 : ¬ L < n := by omega
  go_enter Tryz.func25, Tryz.ntmps25
  go_upto_region 1 with fail
  rw [HW.out]
  clear HW
  go_wp2_with fail
  refine (sThere_any h0).mono ?_
  rintro e w1 ⟨rfl, rfl⟩
  go_upto_region 5 with fail
  go_wp2_with (at_builtin; go_loud (refine wpList_app1 _ rfl (.tmp 28) (.tmp 30) 54 rfl 3 iI (.int .i64 0) 1 8 Tryz.undIs hiI hzI hsI hbI rfl (by decide) _ N _ rfl (HR.out.alloc _) ⟨W.heap.size, 0, none⟩ 1 [.int .i64 (n : Int)] rfl rfl ?c1 ?c2 ?c3 ?c4 ?_))
  case c1 => intro j u hj; match j, hj with | 0, hj => simp at hj; subst hj; simp [Addr.add]
  case c2 => intro u hu; simp at hu; subst hu; rfl
  case c3 => omega
  case c4 => unfold maxLen; omega
  intro g' cap' w1 hown hgrow hmov
  have hFa : Fr [] W (W.alloc (.cells #[.int .i64 (n : Int)] 3)) := Fr.alloc _ _ _
  have hSa := h0.keep hFa
  have hka : w.heap.size + 2 ≤ (W.alloc (.cells #[.int .i64 (n : Int)] 3)).heap.size := by have := HS0.out; simp; omega
  obtain ⟨hS1, hF1⟩ := hSa.put (n := n) hown (by simp [HL.out]) (by rw [ints_append]; rfl) hgrow hmov (by have := HS0.out; omega)
  have hbB : B2 (W.alloc (.cells #[.int .i64 (n : Int)] 3)) w.heap.size (.int .i64 0) (.slice none 0 0) := hB.keep hFa
  have hb1 := hSa.apart hbB.box (by decide)
  have hgw := h.lt
  have hlw := lt_of_block h.log
  have hB1 : B2 (w1.setCell ⟨g, 2, none⟩ (.slice (some ⟨g', 0, none⟩) (N + 1) cap')) w.heap.size (.int .i64 0) (.slice none 0 0) := ⟨hF1.keep hbB.box (by
    simp only [Src.own, List.mem_cons, Option.mem_toList, not_or]
    exact ⟨by omega, fun hh => hb1 hh⟩)⟩
  have c2' : w1.cell? ⟨g, 2, none⟩ = some (.slice ao N cap) := by
    have := hgrow.block g hSa.lt (fun e => hSa.apart hSa.box (by decide) e.symm)
    simp [World.cell?, this, hSa.box]
  have f2' : w1.frozen? ⟨g, 2, none⟩ = false := by
    have := hgrow.block g hSa.lt (fun e => hSa.apart hSa.box (by decide) e.symm)
    simp [World.frozen?, this, hSa.box]
  have hG1 : Fr (Src.own g (.slice ao N cap)) w (w1.setCell ⟨g, 2, none⟩ (.slice (some ⟨g', 0, none⟩) (N + 1) cap')) := ((hF0.then hFa).mono (by simp)).then hF1
  have hM1 : Moved w.heap.size (.slice ao N cap) (.slice (some ⟨g', 0, none⟩) (N + 1) cap') := (Moved.refl _ _).trans hmov (by have := HS0.out; omega)
  obtain ⟨w2, HW2⟩ : ∃ w2, Hid (w1.setCell ⟨g, 2, none⟩ (.slice (some ⟨g', 0, none⟩) (N + 1) cap') = w2) := ⟨_, rfl⟩
  rw [HW2.out] at hS1 hB1 hG1
  obtain ⟨v', hv'⟩ : ∃ v' : Value, v' = .slice (some ⟨g', 0, none⟩) (N + 1) cap' := ⟨_, rfl⟩
  have d1 := hS1.c1
  have hTR := hS1.trs
  have hx := hTR.each _ (tgetD_mem ts (n - 1) HN.out)
  have hokx := (hS1.each _ (tgetD_mem ts (n - 1) HN.out))
  obtain ⟨bb, off, e9, _, hc⟩ := hTR.lies (by have := HN.out; omega)
  cases e9
  have hcx := hc (n - 1) HN.out
  rw [← HT.out] at hx hokx hcx
  obtain ⟨tn, xo, M, cm, ws⟩ := t
  obtain ⟨x0, x1⟩ := hcx
  simp only at x0 x1
  have hxa : TArg w2 tn xo M cm ws := hx
  have hM32 : M ≤ 32 := by obtain ⟨_, _, _, e5, _, _, e6⟩ := hokx; have := e6.2.2.1; simp only at e5 this; omega
  have hnn : (n : Int) - 1 = ((n - 1 : Nat) : Int) := by omega
  obtain ⟨m, hm⟩ : ∃ m, n = m + 1 := ⟨n - 1, by omega⟩
  subst hm
  simp only [Nat.add_sub_cancel, Nat.zero_add] at x0 x1
  clear hown hgrow hmov hbB hb1 hSa hFa hF1 hB hF0 hc hnn hx hokx c1 c2 f2 HR h h0
  go_upto_region 6 with fail
  rw [HW2.out]
  clear HW2 c2' f2'
  go_wp2_with fail
  refine (copied_any tn xo M cm ws _ hxa hM32).mono ?_
  rintro e w4 ⟨k, rfl, hk, hrow4, hF4⟩
  have hB4 := hB1.keep hF4
  obtain ⟨s0, s1, s2, s3⟩ : _ ∧ _ ∧ _ ∧ _ := ⟨hB4.c0, hB4.c1, hB4.f0, hB4.f1⟩
  have hF5 := Fr.box2 w4 w.heap.size (.int .i64 tn) (.slice (some ⟨k, 0, none⟩) M M)
  have hwk : w.heap.size < k := by have := hB1.lt; omega
  have hS4 := hS1.keep hF4
  have hS5 : Src w0 ((w4.setCell ⟨w.heap.size, 0, none⟩ (.int .i64 tn)).setCell ⟨w.heap.size, 1, none⟩ (.slice (some ⟨k, 0, none⟩) M M)) g lb L ts (.slice (some ⟨g', 0, none⟩) (N + 1) cap') (qs ++ [m + 1]) := by
    have a1 := hS4.apart hB4.box (by decide)
    refine ⟨hF5.keep hS4.box (by simp; omega), hF5.keep hS4.log ?_, hS4.len, hS4.few, fun t ht => (hS4.each t ht).keepS hF5 ?_, owns_keep hS4.row hF5 ?_, hS4.gn, hS4.ln, hS4.rn⟩
    · simp; omega
    · intro j hj hh
      simp only [List.mem_singleton] at hh
      subst hh
      rw [hB4.box] at hj
      simp at hj
    · intro j hj hh
      simp only [List.mem_singleton] at hh
      subst hh
      exact a1 hj
  have HE : Hid (_ ∧ _ ∧ _) := ⟨hF5.keep hrow4 (by simp; omega), hS5, (hG1.then (hF4.mono (by simp))).trans hF5 (U := Src.own g (.slice ao N cap)) (fun _ x _ => x) (by intro x hx hl; simp at hx; omega)⟩
  clear hF5 hS5 hS4 hS1 hB4 hB1 hG1 hF4 hrow4
  go_wp2
  refine bodyPost_ret (v := .tuple #[.agg #[.int .i64 tn, .slice (some ⟨k, 0, none⟩) M M], .int .i64 0]) (by rw [results_cell_tmp rfl]; go_simp) rfl ⟨k, rfl, by omega, HE.out.1, _, HE.out.2.1, HE.out.2.2, hM1⟩
end
end Go.Proofs.YtaefninikmaiiaaGreatDoor
/- Rows of writes and of transactions of one's own, for the document's source; append of nothing. Conditions as each names them. -/
namespace Go.Proofs.YtaefninikmaiiaaGreatDoor
open Go.ChangeShapes Go.WideShapes Go.ChangeAt Go.RowKit Go.Lib
set_option linter.unusedVariables false
set_option linter.unusedSimpArgs false

theorem owns_keepB {S : List Nat} {w w' : World} {base : Nat} {e : TypeId} {size : Nat} {v : Value} {n : Nat} {xs : List Value} (h : w.ownsRow base e size v n xs) (hf : Fr S w w') (hn : ∀ k, v.ownBlock = some k → k ∉ S) : w'.ownsRow base e size v n xs := by
  refine ⟨h.1, ?_⟩
  rcases h.2 with h0 | ⟨g, cap, cur, hv, hb, hg, hr⟩
  · exact Or.inl h0
  · exact Or.inr ⟨g, cap, cur, hv, hb, hf.keep hg (hn g (by rw [hv]; rfl)), hr⟩
theorem owns_cells {w : World} {base : Nat} {e : TypeId} {size : Nat} {v : Value} {n : Nat} {xs : List Value} (h : w.ownsRow base e size v n xs) {k : Nat} (hk : v.ownBlock = some k) : base ≤ k ∧ ∃ cur, w.heap[k]? = some (.cells cur e (0, 0)) := by
  rcases h.2 with ⟨rfl, _⟩ | ⟨g, cap, cur, rfl, hb, hg, hr⟩
  · simp [Value.ownBlock] at hk
  · simp [Value.ownBlock] at hk
    subst hk
    exact ⟨hb, cur, hg⟩
theorem own_base {w : World} {base base' : Nat} {e : TypeId} {size : Nat} {v : Value} {n : Nat} {xs : List Value} (h : w.ownsRow base e size v n xs) (hb : base' ≤ base) : w.ownsRow base' e size v n xs := by
  refine ⟨h.1, ?_⟩
  rcases h.2 with h0 | ⟨g, cap, cur, hv, hg, hr⟩
  · exact Or.inl h0
  · exact Or.inr ⟨g, cap, cur, hv, by omega, hr⟩
/-- A row of writes of one's own, made since a world. -/
structure WOw (w0 w : World) (ro : Option Addr) (N rc : Nat) (ws : List Wt) : Prop where
  len : N = ws.length
  row : w.ownsRow w0.heap.size 124 3 (.slice ro N rc) N (wtsC ws)
theorem WOw.rs {w0 w : World} {ro : Option Addr} {N rc : Nat} {ws : List Wt} (h : WOw w0 w ro N rc ws) (hl : ws.length ≤ 140737488355328) (he : ∀ x ∈ ws, x.key.size ≤ 140737488355328 ∧ x.val.size ≤ 140737488355328) : WRs w ro ws := by
  rcases h.row.2 with ⟨_, h1⟩ | ⟨g, cap, cur, hv, _, hg, _, _, _, ht⟩
  · have : ws = [] := List.eq_nil_of_length_eq_zero (by have := h.len; omega)
    subst this
    exact WRs.nil _ _
  · cases hv
    refine ⟨fun h0 => ⟨g, 0, rfl, lt_of_block hg, fun i hi => ?_⟩, hl, he⟩
    have hN := h.len
    have key : ∀ c u, c < 3 → (wtC (ws.getD i Wt.zero))[c]? = some u → w.cell? ⟨g, 0 + i * 3 + c, none⟩ = some u := by
      intro c u hc hu
      rw [← wtsC_get ws i c hi hc] at hu
      rw [cell_of_row _ _ _ _ _ _ hg, Nat.zero_add, ← Array.getElem?_toList, ← hu, ← ht, List.getElem?_take_of_lt (by omega)]
    exact ⟨key 0 _ (by omega) rfl, key 1 _ (by omega) rfl, key 2 _ (by omega) rfl⟩
theorem WOw.keepS {S : List Nat} {w0 w w' : World} {ro : Option Addr} {N rc : Nat} {ws : List Wt} (h : WOw w0 w ro N rc ws) (hf : Fr S w w') (hn : ∀ k, (Value.slice ro N rc).ownBlock = some k → k ∉ S) : WOw w0 w' ro N rc ws := ⟨h.len, owns_keepB h.row hf hn⟩
theorem WOw.later {w0 w1 w : World} {ro : Option Addr} {N rc : Nat} {ws : List Wt} (h : WOw w1 w ro N rc ws) (hs : w0.heap.size ≤ w1.heap.size) : WOw w0 w ro N rc ws := ⟨h.len, own_base h.row hs⟩
theorem Tryz.undWs9 : Tryz.prog.underlying 61 = some (.slice 124) := by kernel_rfl
theorem Tryz.infoWt9 : (Tryz.prog.info? 124).map (fun i => (i.zero, i.size, i.bytes)) = some (some (.agg #[.string ⟨#[]⟩, .string ⟨#[]⟩, .bool false]), 3, 40) := by kernel_rfl
/-- A row of transactions of one's own, each with its writes in a row of its own. -/
structure TOw (w0 w : World) (ro : Option Addr) (N rc : Nat) (us : List Tm) : Prop where
  len : N = us.length
  row : w.ownsRow w0.heap.size 63 2 (.slice ro N rc) N (tmsC us)
  each : ∀ u ∈ us, WOw w0 w u.ao u.L u.cap u.ws
theorem TOw.keepS {S : List Nat} {w0 w w' : World} {ro : Option Addr} {N rc : Nat} {us : List Tm} (h : TOw w0 w ro N rc us) (hf : Fr S w w') (hS : ∀ k ∈ S, w.heap.size ≤ k) : TOw w0 w' ro N rc us := by
  refine ⟨h.len, owns_keepB h.row hf (fun k hk hm => ?_), fun u hu => (h.each u hu).keepS hf (fun k hk hm => ?_)⟩
  · obtain ⟨_, c, e⟩ := owns_cells h.row hk
    have := lt_of_block e
    have := hS k hm
    omega
  · obtain ⟨_, c, e⟩ := owns_cells (h.each u hu).row hk
    have := lt_of_block e
    have := hS k hm
    omega
theorem TOw.rs {w0 w : World} {ro : Option Addr} {N rc : Nat} {us : List Tm} (h : TOw w0 w ro N rc us) (hok : okL 1 (txs us)) (he : ∀ u ∈ us, ∀ x ∈ u.ws, x.key.size ≤ 140737488355328 ∧ x.val.size ≤ 140737488355328) (hl : N ≤ 1000000) : TRs w ro us := by
  refine ⟨fun h0 => ?_, by have := h.len; omega, fun u hu => ?_⟩
  · rcases h.row.2 with ⟨_, h1⟩ | ⟨g, cap, cur, hv, _, hg, _, _, _, ht⟩
    · have := h.len; omega
    · cases hv
      refine ⟨g, 0, rfl, lt_of_block hg, fun i hi => ?_⟩
      have hN := h.len
      have key : ∀ c u, c < 2 → (tmC (us.getD i Tm.zero))[c]? = some u → w.cell? ⟨g, 0 + i * 2 + c, none⟩ = some u := by
        intro c u hc hu
        rw [← tmsC_get us i c hi hc] at hu
        rw [cell_of_row _ _ _ _ _ _ hg, Nat.zero_add, ← Array.getElem?_toList, ← hu, ← ht, List.getElem?_take_of_lt (by omega)]
      exact ⟨key 0 _ (by omega) rfl, key 1 _ (by omega) rfl⟩
  · have ho : okT u.n u.ws := okL_mem hok u.tx (List.mem_map.2 ⟨u, hu, rfl⟩)
    have hw := h.each u hu
    exact ⟨hw.rs (by have := ho.2.2.1; omega) (he u hu), hw.len, by have := ho.1; omega, by have := ho.2.1; omega⟩
theorem Tryz.undTs9 : Tryz.prog.underlying 22 = some (.slice 63) := by kernel_rfl
theorem Tryz.infoT9 : (Tryz.prog.info? 63).map (fun i => (i.zero, i.size, i.bytes)) = some (some (.agg #[.int .i64 0, .slice none 0 0]), 2, 32) := by kernel_rfl
/-- One transaction more. -/
theorem wpList_appT (w0 w : World) {ops : Array Oper} {rest : List Oper} {o : Oper} {a : Act} {Q : Exit → Act → World → Prop} (hgd : o.guard = none) (s x : Operand)
    (ho : o.op = .call { callee := .builtin .append, args := #[s, x], argTypes := #[22, 22] })
    (so : Option Addr) (N c : Nat) (us : List Tm) (hs : a.eval s = .slice so N c) (hK : TOw w0 w so N c us) (hN : N < 1000000) (h0 : w0.heap.size ≤ w.heap.size) (p : Tm) (hp : WOw w0 w p.ao p.L p.cap p.ws) (hx : a.eval x = .slice (some ⟨w.heap.size, 0, none⟩) 1 1)
    (h : ∀ so' c' w', TOw w0 w' so' (N + 1) c' (us ++ [p]) → Fr (Value.slice so N c).ownBlock.toList w w' → wpList Tryz.prog ops Q rest (a.put o.dst (.slice so' (N + 1) c')) w') : wpList Tryz.prog ops Q (o :: rest) a (w.alloc (.cells #[.int .i64 p.n, .slice p.ao p.L p.cap] 63)) := by
  obtain ⟨i0, hi, hz0, hz1, hz2⟩ := info_parts Tryz.infoT9
  refine wpList_append_own (w.alloc (.cells #[.int .i64 p.n, .slice p.ao p.L p.cap] 63)) hgd s x 22 ho w0.heap.size 63 i0 _ 2 32 Tryz.undTs9 hi hz0 hz1 hz2 rfl (by decide) (.slice so N c) N (tmsC us) hs (owns_keepB hK.row (Fr.alloc [] w _) (by simp)) ⟨w.heap.size, 0, none⟩ 1 1 (tmC p) hx rfl ?_ (fun u hu => tmsC_oneCell [p] u (by simpa [tmsC] using hu)) (by unfold maxLen; omega) (by omega) (by simp; omega) ?_
  · intro j u hu
    have hr := heap_alloc_new w (.cells #[.int .i64 p.n, .slice p.ao p.L p.cap] 63)
    rw [Addr.add_lit, cell_of_row _ _ _ _ _ _ hr, Nat.zero_add]
    simpa [tmC] using hu
  · intro v' w' hown' hg' _
    obtain ⟨bo, cap', rfl⟩ : ∃ bo cap', v' = .slice bo (N + 1) cap' := by
      rcases hown'.2 with ⟨_, h1⟩ | ⟨g, cap, _, rfl, _⟩
      · omega
      · exact ⟨_, cap, rfl⟩
    have hst : tmsC (us ++ [p]) = tmsC us ++ tmC p := by rw [tmsC_append]; simp [tmsC]
    rw [← hst] at hown'
    have hF : Fr (Value.slice so N c).ownBlock.toList w w' := ((Fr.alloc [] w _).mono (by simp)).then (Fr.grown (S := (Value.slice so N c).ownBlock.toList) hg' (fun y hy _ => Option.mem_toList.2 hy))
    refine h bo cap' w' ⟨by rw [hK.len]; simp, hown', fun u hu => ?_⟩ hF
    have hu2 : WOw w0 w u.ao u.L u.cap u.ws := by
      rcases List.mem_append.1 hu with h1 | h1
      · exact hK.each u h1
      · simp at h1; subst h1; exact hp
    refine hu2.keepS hF (fun k hk hm => ?_)
    obtain ⟨_, c1, e1⟩ := owns_cells hu2.row hk
    obtain ⟨_, c2, e2⟩ := owns_cells hK.row (Option.mem_toList.1 hm)
    rw [e1] at e2
    simp only [Option.some.injEq, Obj.cells.injEq] at e2
    exact absurd e2.2.1 (by decide)
/-- Nothing behind nothing. -/
theorem wpList_append_zero {P : Program} {w : World} {ops : Array Oper} {rest : List Oper} {o : Oper} {a : Act} {Q : Exit → Act → World → Prop} (hgd : o.guard = none) (s x : Operand) (t : TypeId)
    (ho : o.op = .call { callee := .builtin .append, args := #[s, x], argTypes := #[t, t] })
    (e : TypeId) (i : TypeInfo) (ht : P.underlying t = some (.slice e)) (hi : P.info? e = some i)
    (hs : a.eval s = .slice none 0 0) (xo : Option Addr) (xc : Nat) (hx : a.eval x = .slice xo 0 xc)
    (h : wpList P ops Q rest (a.put o.dst (.slice none 0 0)) w) : wpList P ops Q (o :: rest) a w := by
  refine wpList_plain hgd fun K hK => ?_
  have hl : ∀ (x : Addr), (loadCells x 0).run P w = .ok #[] w := fun x => by simpa using run_loadCells_list (P := P) w x [] (by simp)
  have hrun : (Builtin.append_ #[t, t] o.type #[.slice none 0 0, .slice xo 0 xc]).run P w = .ok (.slice none 0 0) w := by
    cases xo <;> simp [Builtin.append_, run_underlying ht, sizeOf, typeInfo, hi, Builtin.lenOf, Builtin.firstCells, hl, storeCells]
  unfold Oper.wp
  simp [execOp, ho, resolve, invoke, builtin, hs, hx, hrun, Result.andThen]
  exact hK _ _ h
end Go.Proofs.YtaefninikmaiiaaGreatDoor
/- The document's source of records: contracts of Own, and how a source lies in memory; Last, Asked. Conditions as each names them. -/
namespace Go.Proofs.YtaefninikmaiiaaGreatDoor
open Go.ChangeShapes Go.WideShapes Go.ChangeAt Go.RowKit Go.Lib
set_option linter.unusedVariables false
set_option linter.unusedSimpArgs false

theorem own_shapeB {w : World} {base : Nat} {e : TypeId} {size : Nat} {v : Value} {n : Nat} {xs : List Value} (h : w.ownsRow base e size v n xs) : ∃ bo cap, v = .slice bo n cap := by
  rcases h.2 with ⟨rfl, rfl⟩ | ⟨g, cap, _, rfl, _⟩
  · exact ⟨none, 0, rfl⟩
  · exact ⟨_, cap, rfl⟩

set_option maxHeartbeats 4000000 in
set_option maxRecDepth 100000 in
theorem yown_any (n : Int) (ao : Option Addr) (L cap : Nat) (ws : List Wt) (w : World) (ht : TArg w n ao L cap ws) (hL : L ≤ 32) :
    Calls Tryz.prog 92 #[.agg #[.int .i64 n, .slice ao L cap]] w fun e w' => ∃ bo rc, e = .returned (.agg #[.int .i64 n, .slice bo L rc]) ∧ WOw w w' bo L rc ws ∧ Fr [] w w' := by
  have HL : Hid (L = ws.length) := ht.len
  obtain ⟨i0, hi, hz0, hz1, hz2⟩ := info_parts Tryz.infoWt9
  obtain ⟨w0, HW0⟩ : ∃ w0, Hid ((w.alloc (.cells #[.int .i64 n, .slice ao L cap] 63)).alloc (.cells #[.int .i64 0, .slice none 0 0] 63) = w0) := ⟨_, rfl⟩
  have hF0 : Fr [] w w0 := by rw [← HW0.out]; exact (Fr.alloc [] w _).then (Fr.alloc [] _ _)
  have hP0 : B2 w0 w.heap.size (.int .i64 n) (.slice ao L cap) := ⟨by rw [← HW0.out]; exact (Below.heap_alloc _ _ _ (by simp)).trans (heap_alloc_new w _)⟩
  have hT0 : B2 w0 (w.heap.size + 1) (.int .i64 0) (.slice none 0 0) := ⟨by rw [← HW0.out]; have := heap_alloc_new (w.alloc (.cells #[.int .i64 n, .slice ao L cap] 63)) (.cells #[.int .i64 0, .slice none 0 0] 63); rw [World.size_alloc] at this; exact this⟩
  have hs0 : w.heap.size + 2 ≤ w0.heap.size := by rw [← HW0.out]; simp
  obtain ⟨p0, p1⟩ : _ ∧ _ := ⟨hP0.c0, hP0.c1⟩
  have hW0 := ht.rs.keep hF0
  go_enter Tryz.func92, Tryz.ntmps92
  go_upto_region 1 with fail
  rw [HW0.out]
  clear HW0
  by_cases h0 : 0 < L
  · obtain ⟨b, off, e1, _, _⟩ := hW0.lies (by have := HL.out; omega)
    subst e1
    have HS : Hid (∀ j u, (wtsC ws)[j]? = some u → w0.cell? ((⟨b, off, none⟩ : Addr).add j) = some u) := hW0.src (by have := HL.out; omega)
    go_wp2_with (at_builtin; refine wpList_append_own _ rfl (.tmp 4) (.tmp 6) 61 rfl w.heap.size 124 i0 _ 3 40 Tryz.undWs9 hi hz0 hz1 hz2 rfl (by decide) (.slice none 0 0) 0 [] rfl (World.ownsRow_nil _ _ _ _) ⟨b, off, none⟩ L cap (wtsC ws) rfl (by rw [wtsC_length, HL.out]) HS.out (wtsC_oneCell ws) ?c3 ?c4 ?c5 ?_)
    case c3 => unfold maxLen; omega
    case c4 => omega
    case c5 => omega
    intro v' w1 hown hgrow _
    obtain ⟨bo, rc, rfl⟩ := own_shapeB hown
    have hF1 : Fr [] w0 w1 := Fr.grown (S := []) hgrow (fun k hk => by simp [Value.ownBlock] at hk)
    have hO1 : WOw w w1 bo L rc ws := ⟨HL.out, hown⟩
    have hP1 := hP0.keep hF1
    have hT1 := hT0.keep hF1
    obtain ⟨r0, r1, s0, s1, s2, s3⟩ : _ ∧ _ ∧ _ ∧ _ ∧ _ ∧ _ := ⟨hP1.c0, hP1.c1, hT1.c0, hT1.c1, hT1.f0, hT1.f1⟩
    have hF3 := Fr.box2 w1 (w.heap.size + 1) (.int .i64 n) (.slice bo L rc)
    have HF : Hid (_ ∧ _) := ⟨hO1.keepS hF3 (fun k hk hm => by
      simp only [List.mem_singleton] at hm
      subst hm
      obtain ⟨_, c, e⟩ := owns_cells hown hk
      rw [hT1.box] at e
      simp at e), (hF0.then hF1).on hF3 (by intro x hx; simp at hx; omega)⟩
    clear hP1 hT1 hF3 hO1 hF1 hown hgrow hP0 hT0 hF0 hW0 HS
    go_wp2_with fail
    refine bodyPost_ret (v := .agg #[.int .i64 n, .slice bo L rc]) (by rw [res_cell1 rfl]; go_simp) rfl ⟨bo, rc, rfl, HF.out⟩
  · have hL0 : L = 0 := by omega
    subst hL0
    have hws : ws = [] := List.eq_nil_of_length_eq_zero HL.out.symm
    subst hws
    obtain ⟨s0, s1, s2, s3⟩ : _ ∧ _ ∧ _ ∧ _ := ⟨hT0.c0, hT0.c1, hT0.f0, hT0.f1⟩
    have hF3 := Fr.box2 w0 (w.heap.size + 1) (.int .i64 n) (.slice none 0 0)
    have HF : Hid (Fr [] w _) := hF0.on hF3 (by intro x hx; simp at hx; omega)
    clear hF3 hP0 hT0 hF0 hW0
    go_wp2_with (at_builtin; refine wpList_append_zero rfl (.tmp 4) (.tmp 6) 61 rfl 124 i0 Tryz.undWs9 hi rfl ao cap rfl ?_)
    go_wp2_with fail
    refine bodyPost_ret (v := .agg #[.int .i64 n, .slice none 0 0]) (by rw [res_cell1 rfl]; go_simp) rfl ⟨none, 0, rfl, ⟨rfl, World.ownsRow_nil _ _ _ _⟩, HF.out⟩

/-- The document's source: its struct lies in block g, its log is a row of its own, the numbers asked are qs. -/
structure YSrc (w0 w : World) (g L : Nat) (lo : Option Addr) (lc : Nat) (us : List Tm) (v : Value) (qs : List Nat) : Prop where
  box : w.heap[g]? = some (.cells #[.slice lo L lc, v] 109 (0, 0))
  log : TOw w0 w lo L lc us
  ok : okL 1 (txs us)
  few : L ≤ 65536
  row : w.ownsRow 0 3 1 v qs.length (ints qs)
  gn : w0.heap.size ≤ g
  rn : ∀ k, v.ownBlock = some k → w0.heap.size ≤ k
section
variable {w0 w w' : World} {g L lc : Nat} {lo : Option Addr} {us : List Tm} {v : Value} {qs : List Nat}
theorem YSrc.lt (h : YSrc w0 w g L lo lc us v qs) : g < w.heap.size := lt_of_block h.box
theorem YSrc.c0 (h : YSrc w0 w g L lo lc us v qs) : w.cell? ⟨g, 0, none⟩ = some (.slice lo L lc) := by simp [World.cell?, h.box]
theorem YSrc.c1 (h : YSrc w0 w g L lo lc us v qs) : w.cell? ⟨g, 1, none⟩ = some v := by simp [World.cell?, h.box]
theorem YSrc.f1 (h : YSrc w0 w g L lo lc us v qs) : w.frozen? ⟨g, 1, none⟩ = false := by simp [World.frozen?, h.box]
theorem YSrc.keep (h : YSrc w0 w g L lo lc us v qs) (hf : Fr [] w w') : YSrc w0 w' g L lo lc us v qs :=
  ⟨hf.keep h.box (by simp), h.log.keepS hf (by simp), h.ok, h.few, owns_keep h.row hf (by simp), h.gn, h.rn⟩
theorem YSrc.trs (h : YSrc w0 w g L lo lc us v qs) : TRs w lo us :=
  h.log.rs h.ok (fun u hu => (okT_few (okL_mem h.ok u.tx (List.mem_map.2 ⟨u, hu, rfl⟩))).2) (by have := h.few; omega)
theorem YSrc.rowAt (h : YSrc w0 w g L lo lc us v qs) {x : Nat} (hx : v.ownBlock = some x) : ∃ cur, w.heap[x]? = some (.cells cur 3 (0, 0)) := (owns_cells h.row hx).2
theorem YSrc.apart (h : YSrc w0 w g L lo lc us v qs) {k : Nat} {cs : Array Value} {t : TypeId} {f : Nat × Nat} (hk : w.heap[k]? = some (.cells cs t f)) (ht : t ≠ 3) : v.ownBlock ≠ some k := by
  intro hv
  obtain ⟨cur, hc⟩ := h.rowAt hv
  rw [hc] at hk
  simp only [Option.some.injEq, Obj.cells.injEq] at hk
  exact ht hk.2.1.symm
/-- It stays where none of its blocks is written. -/
theorem YSrc.keepS {S : List Nat} (h : YSrc w0 w g L lo lc us v qs) (hf : Fr S w w') (hS : ∀ k ∈ S, ∀ cs t, w.heap[k]? = some (.cells cs t (0, 0)) → (t = 3 → v.ownBlock ≠ some k) ∧ t ≠ 109 ∧ (t = 63 ∨ t = 124 → k < w0.heap.size)) : YSrc w0 w' g L lo lc us v qs := by
  have hr : ∀ k, v.ownBlock = some k → k ∉ S := fun k hk hm => by
    obtain ⟨cur, hc⟩ := h.rowAt hk
    exact (hS k hm _ _ hc).1 rfl hk
  refine ⟨hf.keep h.box (fun hm => (hS g hm _ _ h.box).2.1 rfl), ⟨h.log.len, owns_keepB h.log.row hf (fun k hk hm => ?_), fun u hu => (h.log.each u hu).keepS hf (fun k hk hm => ?_)⟩, h.ok, h.few, owns_keep h.row hf hr, h.gn, h.rn⟩
  · obtain ⟨hb, c, e⟩ := owns_cells h.log.row hk
    have := (hS k hm _ _ e).2.2 (Or.inl rfl)
    omega
  · obtain ⟨hb, c, e⟩ := owns_cells (h.log.each u hu).row hk
    have := (hS k hm _ _ e).2.2 (Or.inr rfl)
    omega
set_option maxHeartbeats 2000000 in
theorem yLast_any (h : YSrc w0 w g L lo lc us v qs) : Calls Tryz.prog 29 #[.pointer (some ⟨g, 0, none⟩)] w fun e w' => e = .returned (.int .i64 (L : Int)) ∧ w = w' := by
  have c0 := h.c0
  go_enter Tryz.func29, Tryz.ntmps29
  go_wp2
  go_ret
  exact ⟨rfl, rfl⟩
set_option maxHeartbeats 2000000 in
theorem yAsked_any (h : YSrc w0 w g L lo lc us v qs) : Calls Tryz.prog 34 #[.pointer (some ⟨g, 0, none⟩)] w fun e w' => e = .returned v ∧ w = w' := by
  have c1 := h.c1
  obtain ⟨ao, cap, hv⟩ := own_shapeB h.row
  subst hv
  go_enter Tryz.func34, Tryz.ntmps34
  go_wp2
  go_ret
  exact ⟨rfl, rfl⟩
end
set_option maxHeartbeats 2000000 in
theorem yLast_nil (w : World) : Calls Tryz.prog 29 #[.pointer none] w fun e w' => e = .returned (.int .i64 0) ∧ w = w' := by
  go_enter Tryz.func29, Tryz.ntmps29
  go_wp2
  go_ret
  exact ⟨rfl, rfl⟩
set_option maxHeartbeats 2000000 in
theorem yAsked_nil (w : World) : Calls Tryz.prog 34 #[.pointer none] w fun e w' => e = .returned (.slice none 0 0) ∧ w = w' := by
  go_enter Tryz.func34, Tryz.ntmps34
  go_wp2
  go_ret
  exact ⟨rfl, rfl⟩
end Go.Proofs.YtaefninikmaiiaaGreatDoor
/- A source that is not there: contracts of there, Get, Last, Asked of the program, and of the document's Get. No conditions but how a zero struct lies in memory. -/
namespace Go.Proofs.YtaefninikmaiiaaGreatDoor
open Go.ChangeShapes Go.WideShapes Go.ChangeAt Go.RowKit Go.Lib
set_option linter.unusedVariables false
set_option linter.unusedSimpArgs false

/-- None, or a zero struct. -/
def NoS (p : Value) (w : World) : Prop := p = .pointer none ∨ ∃ g, p = .pointer (some ⟨g, 0, none⟩) ∧ w.heap[g]? = some (.cells #[.bool false, .slice none 0 0, .slice none 0 0] 72 (0, 0))
theorem NoS.keep {p : Value} {w w' : World} (h : NoS p w) (hf : Fr [] w w') : NoS p w' := by
  rcases h with h | ⟨g, e, hg⟩
  · exact Or.inl h
  · exact Or.inr ⟨g, e, hf.keep hg (by simp)⟩
set_option maxHeartbeats 2000000 in
theorem sThere_no {p : Value} {w : World} (h : NoS p w) : Calls Tryz.prog 93 #[p] w fun e w' => e = .returned (.bool false) ∧ w = w' := by
  rcases h with rfl | ⟨g, rfl, hg⟩
  · go_enter Tryz.func93, Tryz.ntmps93
    go_wp2
    go_ret
    exact ⟨rfl, rfl⟩
  · have c0 : w.cell? ⟨g, 0, none⟩ = some (.bool false) := by simp [World.cell?, hg]
    go_enter Tryz.func93, Tryz.ntmps93
    go_wp2
    go_ret
    exact ⟨rfl, rfl⟩
set_option maxHeartbeats 2000000 in
theorem sLast_no {p : Value} {w : World} (h : NoS p w) : Calls Tryz.prog 28 #[p] w fun e w' => e = .returned (.int .i64 0) ∧ w = w' := by
  go_enter Tryz.func28, Tryz.ntmps28
  go_wp2_with fail
  refine (sThere_no h).mono ?_
  rintro e w1 ⟨rfl, rfl⟩
  go_wp2
  go_ret
  exact ⟨rfl, rfl⟩
set_option maxHeartbeats 2000000 in
theorem sAsked_no {p : Value} {w : World} (h : NoS p w) : Calls Tryz.prog 32 #[p] w fun e w' => e = .returned (.slice none 0 0) ∧ w = w' := by
  go_enter Tryz.func32, Tryz.ntmps32
  go_wp2_with fail
  refine (sThere_no h).mono ?_
  rintro e w1 ⟨rfl, rfl⟩
  go_wp2
  go_ret
  exact ⟨rfl, rfl⟩
set_option maxHeartbeats 4000000 in
set_option maxRecDepth 100000 in
theorem sGet_none {p : Value} {w : World} (h : NoS p w) (n : Int) : Calls Tryz.prog 25 #[p, .int .i64 n] w fun e w' => e = .returned (.tuple #[.agg #[.int .i64 0, .slice none 0 0], .int .i64 2]) ∧ Fr [] w w' := by
  have hF0 : Fr [] w (w.alloc (.cells #[.int .i64 0, .slice none 0 0] 63)) := Fr.alloc _ _ _
  have h0 := h.keep hF0
  have hB : B2 (w.alloc (.cells #[.int .i64 0, .slice none 0 0] 63)) w.heap.size (.int .i64 0) (.slice none 0 0) := ⟨heap_alloc_new _ _⟩
  obtain ⟨s0, s1, s2, s3⟩ : _ ∧ _ ∧ _ ∧ _ := ⟨hB.c0, hB.c1, hB.f0, hB.f1⟩
  have hF1 := hF0.on (Fr.box2 (w.alloc (.cells #[.int .i64 0, .slice none 0 0] 63)) w.heap.size (.int .i64 0) (.slice none 0 0)) (by simp)
  obtain ⟨W, HW⟩ : ∃ W, Hid (w.alloc (.cells #[.int .i64 0, .slice none 0 0] 63) = W) := ⟨_, rfl⟩
  rw [HW.out] at h0 s0 s1 s2 s3 hF1
  have HF : Hid (Fr [] w ((W.setCell ⟨w.heap.size, 0, none⟩ (.int .i64 0)).setCell ⟨w.heap.size, 1, none⟩ (.slice none 0 0))) := hF1
  clear hF0 hB hF1
  go_enter Tryz.func25, Tryz.ntmps25
  go_upto_region 1 with fail
  rw [HW.out]
  clear HW
  go_wp2_with fail
  refine (sThere_no h0).mono ?_
  rintro e w1 ⟨rfl, rfl⟩
  go_wp2
  refine bodyPost_ret (v := .tuple #[.agg #[.int .i64 0, .slice none 0 0], .int .i64 2]) (by rw [results_cell_tmp rfl]; go_simp) rfl ⟨rfl, HF.out⟩
set_option maxHeartbeats 4000000 in
set_option maxRecDepth 100000 in
theorem yGet_nil (w : World) (n : Int) : Calls Tryz.prog 26 #[.pointer none, .int .i64 n] w fun e w' => e = .returned (.tuple #[.agg #[.int .i64 0, .slice none 0 0], .int .i64 2]) ∧ Fr [] w w' := by
  have hF0 : Fr [] w (w.alloc (.cells #[.int .i64 0, .slice none 0 0] 63)) := Fr.alloc _ _ _
  have hB : B2 (w.alloc (.cells #[.int .i64 0, .slice none 0 0] 63)) w.heap.size (.int .i64 0) (.slice none 0 0) := ⟨heap_alloc_new _ _⟩
  obtain ⟨s0, s1, s2, s3⟩ : _ ∧ _ ∧ _ ∧ _ := ⟨hB.c0, hB.c1, hB.f0, hB.f1⟩
  have hF1 := hF0.on (Fr.box2 (w.alloc (.cells #[.int .i64 0, .slice none 0 0] 63)) w.heap.size (.int .i64 0) (.slice none 0 0)) (by simp)
  obtain ⟨W, HW⟩ : ∃ W, Hid (w.alloc (.cells #[.int .i64 0, .slice none 0 0] 63) = W) := ⟨_, rfl⟩
  rw [HW.out] at s0 s1 s2 s3 hF1
  have HF : Hid (Fr [] w ((W.setCell ⟨w.heap.size, 0, none⟩ (.int .i64 0)).setCell ⟨w.heap.size, 1, none⟩ (.slice none 0 0))) := hF1
  clear hF0 hB hF1
  go_enter Tryz.func26, Tryz.ntmps26
  go_upto_region 1 with fail
  rw [HW.out]
  clear HW
  go_wp2
  refine bodyPost_ret (v := .tuple #[.agg #[.int .i64 0, .slice none 0 0], .int .i64 2]) (by rw [results_cell_tmp rfl]; go_simp) rfl ⟨rfl, HF.out⟩
section
variable {w0 w w' : World} {g lb L : Nat} {ts : List Tm} {v : Value} {qs : List Nat}
set_option maxHeartbeats 4000000 in
set_option maxRecDepth 100000 in
/-- Get of a number that the log has not, whatever number it is. -/
theorem get_noZ (h : Src w0 w g lb L ts v qs) (n : Int) (hn : n < 1 ∨ (L : Int) < n) :
    Calls Tryz.prog 25 #[.pointer (some ⟨g, 0, none⟩), .int .i64 n] w fun e w' => e = .returned (.tuple #[.agg #[.int .i64 0, .slice none 0 0], .int .i64 1]) ∧ Fr [] w w' := by
  have hF0 : Fr [] w (w.alloc (.cells #[.int .i64 0, .slice none 0 0] 63)) := Fr.alloc _ _ _
  have h0 := h.keep hF0
  have c1 := h0.c1
  have hfew := h.few
  have hB : B2 (w.alloc (.cells #[.int .i64 0, .slice none 0 0] 63)) w.heap.size (.int .i64 0) (.slice none 0 0) := ⟨heap_alloc_new _ _⟩
  obtain ⟨s0, s1, s2, s3⟩ : _ ∧ _ ∧ _ ∧ _ := ⟨hB.c0, hB.c1, hB.f0, hB.f1⟩
  have hF1 := hF0.on (Fr.box2 (w.alloc (.cells #[.int .i64 0, .slice none 0 0] 63)) w.heap.size (.int .i64 0) (.slice none 0 0)) (by simp)
  obtain ⟨W, HW⟩ : ∃ W, Hid (w.alloc (.cells #[.int .i64 0, .slice none 0 0] 63) = W) := ⟨_, rfl⟩
  rw [HW.out] at h0 c1 s0 s1 s2 s3 hF1
  have HF : Hid (Fr [] w ((W.setCell ⟨w.heap.size, 0, none⟩ (.int .i64 0)).setCell ⟨w.heap.size, 1, none⟩ (.slice none 0 0))) := hF1
  clear hF0 hB hF1
  go_enter Tryz.func25, Tryz.ntmps25
  go_upto_region 1 with fail
  rw [HW.out]
  clear HW
  go_wp2_with fail
  refine (sThere_any h0).mono ?_
  rintro e w1 ⟨rfl, rfl⟩
  by_cases hn1 : n < 1
  · go_wp2
    refine bodyPost_ret (v := .tuple #[.agg #[.int .i64 0, .slice none 0 0], .int .i64 1]) (by rw [results_cell_tmp rfl]; go_simp) rfl ⟨rfl, HF.out⟩
  · have hn2 : (L : Int) < n := by omega
    go_wp2
    refine bodyPost_ret (v := .tuple #[.agg #[.int .i64 0, .slice none 0 0], .int .i64 1]) (by rw [results_cell_tmp rfl]; go_simp) rfl ⟨rfl, HF.out⟩
end
end Go.Proofs.YtaefninikmaiiaaGreatDoor
/- The document's Check of a transaction, and what it leans on. Conditions as each names them. -/
namespace Go.Proofs.YtaefninikmaiiaaGreatDoor
open Go.ChangeShapes Go.WideShapes Go.ChangeAt Go.RowKit Go.Lib
set_option linter.unusedVariables false
set_option linter.unusedSimpArgs false

theorem xKey_any (s : ByteArray) (B : Bool) (w : World) (hs : s.size ≤ 140737488355328) (hB : B = true ↔ 1 ≤ s.size ∧ s.size ≤ 64) : Calls Tryz.prog 178 #[.string s] w fun e w' => e = .returned (.bool B) ∧ w = w' := by
  have HB : Hid (B = true ↔ 1 ≤ s.size ∧ s.size ≤ 64) := hB
  clear hB
  by_cases h1 : 1 ≤ s.size
  · have h1' : (1 : Int) ≤ s.size := by omega
    by_cases h2 : s.size ≤ 64
    · have h2' : (s.size : Int) ≤ 64 := by omega
      have HR : Hid (B = true) := HB.out.2 ⟨h1, h2⟩
      go_enter Tryz.func178, Tryz.ntmps178
      go_wp2
      go_ret
      rw [HR.out]
      simp [h2']
    · have h2' : decide ((s.size : Int) ≤ 64) = false := by simp; omega
      have HR : Hid (B = false) := by show B = false; simpa using fun h : B = true => h2 (HB.out.1 h).2
      clear h2
      go_enter Tryz.func178, Tryz.ntmps178
      go_wp2
      go_ret
      rw [HR.out]
      simp [h2']
  · have h1' : decide ((1 : Int) ≤ s.size) = false := by simp; omega
    have h1'' : (s.size : Int) < 1 := by omega
    have HR : Hid (B = false) := by show B = false; simpa using fun h : B = true => h1 (HB.out.1 h).1
    clear h1
    go_enter Tryz.func178, Tryz.ntmps178
    go_wp2
    go_ret
    rw [HR.out]
    simp
theorem xVal_any (s : ByteArray) (B : Bool) (w : World) (hs : s.size ≤ 140737488355328) (hB : B = true ↔ s.size ≤ 1024) : Calls Tryz.prog 179 #[.string s] w fun e w' => e = .returned (.bool B) ∧ w = w' := by
  have HB : Hid (decide ((s.size : Int) ≤ 1024) = B) := by
    show _ = _
    cases B with
    | true => have := hB.1 rfl; simp; omega
    | false => have : ¬ s.size ≤ 1024 := fun h => by have := hB.2 h; simp at this
               simp; omega
  clear hB
  go_enter Tryz.func179, Tryz.ntmps179
  go_wp2
  go_ret
  rw [← HB.out]
  exact ⟨rfl, rfl⟩
/-- It tells whether the write may be. -/
def TellsY (e : Ending) (x : Wt) : Prop := ∃ B : Bool, e = .returned (.bool B) ∧ (B = true ↔ okW x)
set_option maxHeartbeats 2000000 in
set_option maxRecDepth 100000 in
theorem xWrite_any (key val : ByteArray) (drop : Bool) (w : World) (hk : key.size ≤ 140737488355328) (hv : val.size ≤ 140737488355328) :
    Calls Tryz.prog 158 #[.agg #[.string key, .string val, .bool drop]] w fun e w' => TellsY e ⟨key, val, drop⟩ ∧ Fr [] w w' := by
  have hF0 : Fr [] w (w.alloc (.cells #[.string key, .string val, .bool drop] 124)) := Fr.alloc [] w _
  have HO : Hid (okW ⟨key, val, drop⟩ ↔ (1 ≤ key.size ∧ key.size ≤ 64) ∧ val.size ≤ 1024 ∧ (drop = true → val.size = 0)) := by
    show _ ↔ _
    unfold okW
    rw [← noS_iff]
    simp only
    constructor
    · rintro ⟨a, b, c, d⟩; exact ⟨⟨a, b⟩, c, d⟩
    · rintro ⟨⟨a, b⟩, c, d⟩; exact ⟨a, b, c, d⟩
  by_cases h1 : 1 ≤ key.size ∧ key.size ≤ 64
  · by_cases h2 : val.size ≤ 1024
    · cases drop with
      | true =>
        by_cases h3 : val.size = 0
        · have h3' : ((val.size : Int) == 0) = true := by rw [h3]; rfl
          have HA : Hid (okW ⟨key, val, true⟩) := HO.out.2 ⟨h1, h2, fun _ => h3⟩
          go_enter Tryz.func158, Tryz.ntmps158
          go_wp2_with fail
          refine (xKey_any key true _ hk (by simpa using h1)).mono ?_
          rintro e w1 ⟨rfl, rfl⟩
          go_wp2_with fail
          refine (xVal_any val true _ hv (by simpa using h2)).mono ?_
          rintro e w1 ⟨rfl, rfl⟩
          go_wp2
          go_ret
          exact ⟨⟨true, by simp [h3'], by simp [HA.out]⟩, hF0⟩
        · have h3' : ((val.size : Int) == 0) = false := by rw [beq_eq_false_iff_ne]; omega
          have HA : Hid (¬ okW ⟨key, val, true⟩) := fun h => h3 ((HO.out.1 h).2.2 rfl)
          clear h3
          go_enter Tryz.func158, Tryz.ntmps158
          go_wp2_with fail
          refine (xKey_any key true _ hk (by simpa using h1)).mono ?_
          rintro e w1 ⟨rfl, rfl⟩
          go_wp2_with fail
          refine (xVal_any val true _ hv (by simpa using h2)).mono ?_
          rintro e w1 ⟨rfl, rfl⟩
          go_wp2
          go_ret
          exact ⟨⟨false, by simp [h3'], by simp [HA.out]⟩, hF0⟩
      | false =>
        have HA : Hid (okW ⟨key, val, false⟩) := HO.out.2 ⟨h1, h2, fun h => by simp at h⟩
        go_enter Tryz.func158, Tryz.ntmps158
        go_wp2_with fail
        refine (xKey_any key true _ hk (by simpa using h1)).mono ?_
        rintro e w1 ⟨rfl, rfl⟩
        go_wp2_with fail
        refine (xVal_any val true _ hv (by simpa using h2)).mono ?_
        rintro e w1 ⟨rfl, rfl⟩
        go_wp2
        go_ret
        exact ⟨⟨true, by simp, by simp [HA.out]⟩, hF0⟩
    · have HA : Hid (¬ okW ⟨key, val, drop⟩) := fun h => h2 (HO.out.1 h).2.1
      go_enter Tryz.func158, Tryz.ntmps158
      go_wp2_with fail
      refine (xKey_any key true _ hk (by simpa using h1)).mono ?_
      rintro e w1 ⟨rfl, rfl⟩
      go_wp2_with fail
      refine (xVal_any val false _ hv (by simpa using h2)).mono ?_
      rintro e w1 ⟨rfl, rfl⟩
      go_wp2
      go_ret
      exact ⟨⟨false, by simp, by simp [HA.out]⟩, hF0⟩
  · have HA : Hid (¬ okW ⟨key, val, drop⟩) := fun h => h1 (HO.out.1 h).1
    have HB : Hid (false = true ↔ 1 ≤ key.size ∧ key.size ≤ 64) := ⟨fun h => by simp at h, fun h => absurd h h1⟩
    clear h1
    go_enter Tryz.func158, Tryz.ntmps158
    go_wp2_with fail
    refine (xKey_any key false _ hk HB.out).mono ?_
    rintro e w1 ⟨rfl, rfl⟩
    go_wp2
    go_ret
    exact ⟨⟨false, by simp, by simp [HA.out]⟩, hF0⟩
theorem xNumber_any (n : Int) (B : Bool) (w : World) (hB : B = true ↔ 1 ≤ n ∧ n ≤ 65536) : Calls Tryz.prog 157 #[.int .i64 n] w fun e w' => e = .returned (.bool B) ∧ w = w' := by
  have HB : Hid (B = true ↔ 1 ≤ n ∧ n ≤ 65536) := hB
  clear hB
  by_cases h1 : 1 ≤ n
  · have HR : Hid (decide (n ≤ 65536) = B) := by
      show _ = _
      cases B with
      | true => have := HB.out.1 rfl; simp; omega
      | false => have : ¬ n ≤ 65536 := fun h => by have := HB.out.2 ⟨h1, h⟩; simp at this
                 simp; omega
    go_enter Tryz.func157, Tryz.ntmps157
    go_wp2
    go_ret
    rw [← HR.out]
    exact ⟨by simp, rfl⟩
  · have h1' : n < 1 := by omega
    have HR : Hid (B = false) := by show B = false; simpa using fun h : B = true => h1 (HB.out.1 h).1
    clear h1
    go_enter Tryz.func157, Tryz.ntmps157
    go_wp2
    go_ret
    rw [HR.out]
    simp

set_option maxHeartbeats 4000000 in
set_option maxRecDepth 100000 in
theorem xCheck_any (n : Int) (ao : Option Addr) (L cap c : Nat) (ws : List Wt) (w : World) (hW : WRs w ao ws) (hL : L = ws.length) (hn0 : -9223372036854775808 ≤ n) (hn1 : n ≤ 9223372036854775807)
    (hc : (okT n ws ∧ c = 0) ∨ (¬ okT n ws ∧ c = 1)) :
    Calls Tryz.prog 108 #[.agg #[.int .i64 n, .slice ao L cap]] w fun e w' => e = .returned (.int .i64 (c : Int)) ∧ Fr [] w w' := by
  have HC : Hid (_ ∨ _) := hc
  have HL : Hid (L = ws.length) := hL
  have hLm : L ≤ 140737488355328 := by have := hW.few; omega
  have hF0 : Fr [] w (w.alloc (.cells #[.int .i64 n, .slice ao L cap] 63)) := Fr.alloc _ _ _
  have hW1 := hW.keep hF0
  clear hc hL
  by_cases h1 : 1 ≤ n ∧ n ≤ 65536
  · have hN := fun w => xNumber_any n true w (by simpa using h1)
    by_cases h3 : 32 < L
    · have hc1 : c = 1 := by rcases HC.out with ⟨h, _⟩ | ⟨_, h⟩; · exact absurd h.2.2.1 (by rw [← HL.out]; omega)
                             · exact h
      subst hc1
      clear HC
      have h3' : (32 : Int) < L := by omega
      go_enter Tryz.func108, Tryz.ntmps108
      go_wp2_with fail
      refine (hN _).mono ?_
      rintro e w1 ⟨rfl, rfl⟩
      clear hN
      go_wp2
      go_ret
      exact ⟨rfl, hF0⟩
    · have h3' : (L : Int) ≤ 32 := by omega
      have hd3 : decide ((32 : Int) < L) = false := by simp; omega
      clear h3
      have c1 : (w.alloc (.cells #[.int .i64 n, .slice ao L cap] 63)).cell? ⟨w.heap.size, 1, none⟩ = some (.slice ao L cap) := cell_of_row _ _ _ _ _ _ (heap_alloc_new w _)
      go_enter Tryz.func108, Tryz.ntmps108
      go_wp2_with fail
      refine (hN _).mono ?_
      rintro e w1 ⟨rfl, rfl⟩
      clear hN
      go_wp2_with fail
      obtain ⟨w1, HW1⟩ : ∃ w1, Hid (w.alloc (.cells #[.int .i64 n, .slice ao L cap] 63) = w1) := ⟨_, rfl⟩
      rw [HW1.out] at c1 hF0 hW1 ⊢
      have hlt : w.heap.size < w1.heap.size := by rw [← HW1.out]; simp
      go_loopw [3] (fun ii wr => ∃ (i : Nat), ii = .int .i64 i ∧ i ≤ L ∧ Hid (∀ j, j < i → okW (ws.getD j Wt.zero)) ∧ Fr [] w1 wr) (fun ii _ => L - (RowKit.intOf ii).toNat)
      case atStart => exact ⟨0, rfl, Nat.zero_le _, fun j hj => by omega, Fr.refl _ _⟩
      case round =>
        obtain ⟨i, rfl, hiL, HE, hFr⟩ := hrel
        have c1r : wr.cell? ⟨w.heap.size, 1, none⟩ = some (.slice ao L cap) := (World.cell?_of_block (hFr.block _ hlt (by simp))).trans c1
        by_cases hi : i < L
        · have hi' : i < ws.length := by rw [← HL.out]; exact hi
          obtain ⟨b, off, rfl, _, hc⟩ := (hW1.keep hFr).lies (by omega)
          obtain ⟨d0, d1, d2⟩ := hc i hi'
          have hm := hW.each _ (wgetD_mem ws i hi')
          obtain ⟨x, hxx⟩ : ∃ x, x = ws.getD i Wt.zero := ⟨_, rfl⟩
          rw [← hxx] at d0 d1 d2 hm
          have HX : Hid (x = ws.getD i Wt.zero) := hxx
          clear hxx hc
          obtain ⟨key, val, drop⟩ := x
          simp only at d0 d1 d2 hm
          go_wp2_with fail
          refine (xWrite_any key val drop _ hm.1 hm.2).mono ?_
          rintro e w2 ⟨⟨B, rfl, hB⟩, hF2⟩
          cases B with
          | false =>
            have hno : ¬ okW ⟨key, val, drop⟩ := fun h => by have := hB.2 h; simp at this
            have hc1 : c = 1 := by rcases HC.out with ⟨h, _⟩ | ⟨_, h⟩; · exact absurd h (okT_no hi' (HX.out ▸ hno))
                                   · exact h
            subst hc1
            clear HC hB hno
            go_wp2
            go_ret
            exact ⟨rfl, hF0.then (hFr.then hF2)⟩
          | true =>
            have HE2 : Hid (∀ j, j < i + 1 → okW (ws.getD j Wt.zero)) := by
              intro j hj
              by_cases hji : j = i
              · subst hji
                rw [← HX.out]
                exact hB.1 rfl
              · exact HE.out j (by omega)
            clear hB
            go_wp2
            go_roundw
            case rel => exact ⟨i + 1, by simp, by omega, HE2, hFr.then hF2⟩
            case measure => simp [RowKit.intOf]; omega
        · have hc0 : c = 0 := by
            rcases HC.out with ⟨_, h⟩ | ⟨h, _⟩
            · exact h
            · refine absurd ⟨h1.1, h1.2, by rw [← HL.out]; omega, ?_⟩ h
              intro x hx
              obtain ⟨j, hj, rfl⟩ := List.getElem_of_mem hx
              have := HE.out j (by have := HL.out; omega)
              simpa [List.getD, hj] using this
          subst hc0
          clear HC
          go_wp2
          go_ret
          exact ⟨rfl, hF0.then hFr⟩
  · have hN := fun w => xNumber_any n false w ⟨fun h => by simp at h, fun h => absurd h h1⟩
    have hc1 : c = 1 := by rcases HC.out with ⟨h, _⟩ | ⟨_, h⟩; · exact absurd ⟨h.1, h.2.1⟩ h1
                           · exact h
    subst hc1
    clear HC h1
    go_enter Tryz.func108, Tryz.ntmps108
    go_wp2_with fail
    refine (hN _).mono ?_
    rintro e w1 ⟨rfl, rfl⟩
    clear hN
    go_wp2
    go_ret
    exact ⟨rfl, hF0⟩
end Go.Proofs.YtaefninikmaiiaaGreatDoor
