/- Texts of this claim laid together, one behind the other: contracts and plain lemmas; conditions as each names them. -/
import Derived.Test.YtomajifklajilaaGreatRows
import Derived.WalkKit
import Derived.ProofKit
import Derived.OpenShut
import Derived.Deep.QuietTactic
import Derived.BigQuiet
import Derived.BigRegion
import Derived.Lib.AppendStr
import Derived.Laws.CopyOwn
import Derived.ShutString
import Derived.ChangeOld
import Derived.Below
import Derived.Deep.Slices
import Derived.SizedLaws
import Derived.Deep.RegionWith
import Derived.Deep.LoopGhost
import Derived.Laws.StructEq
/- What the codec's writers and readers are in memory: the frame of a call (which blocks it may write), bytes as cells, and what an append to a row of one's own leaves. No conditions but those each lemma names. -/
namespace Go.Proofs.YtomajifklajilaaGreat
open Go.ChangeShapes Go.WideShapes Go.ChangeAt Go.RowKit Go.Lib

theorem Tryz.infoB : (Tryz.prog.info? 5).map (fun i => (i.zero, i.size, i.bytes)) = some (some (.int .u8 0), 1, 1) := by kernel_rfl
theorem Tryz.undStr : Tryz.prog.underlying 9 = some .string := by kernel_rfl

/-- Only blocks of S (and new ones) may differ. -/
structure Fr (S : List Nat) (w w' : World) : Prop where
  os : w'.os = w.os
  tape : w'.tape = w.tape
  output : w'.output = w.output
  size : w.heap.size ≤ w'.heap.size
  block : ∀ k, k < w.heap.size → k ∉ S → w'.heap[k]? = w.heap[k]?

theorem Fr.refl (S : List Nat) (w : World) : Fr S w w := ⟨rfl, rfl, rfl, Nat.le_refl _, fun _ _ _ => rfl⟩
theorem Fr.trans {S T U : List Nat} {a b c : World} (h : Fr S a b) (k : Fr T b c) (hS : ∀ x, x ∈ S → x < a.heap.size → x ∈ U) (hT : ∀ x, x ∈ T → x < a.heap.size → x ∈ U) : Fr U a c :=
  ⟨k.os.trans h.os, k.tape.trans h.tape, k.output.trans h.output, Nat.le_trans h.size k.size,
   fun i hi hn => (k.block i (Nat.lt_of_lt_of_le hi h.size) (fun x => hn (hT i x hi))).trans (h.block i hi (fun x => hn (hS i x hi)))⟩
theorem Fr.mono {S T : List Nat} {a b : World} (h : Fr S a b) (hS : ∀ x, x ∈ S → x < a.heap.size → x ∈ T) : Fr T a b :=
  ⟨h.os, h.tape, h.output, h.size, fun i hi hn => h.block i hi (fun x => hn (hS i x hi))⟩
theorem Fr.then {S : List Nat} {a b c : World} (h : Fr S a b) (k : Fr S b c) : Fr S a c := h.trans k (fun _ x _ => x) (fun _ x _ => x)
theorem Fr.alloc (S : List Nat) (w : World) (o : Obj) : Fr S w (w.alloc o) :=
  ⟨rfl, rfl, rfl, by simp, fun k hk _ => Below.heap_alloc _ _ _ hk⟩
theorem Fr.drew (S : List Nat) (w : World) : Fr S w w.drew := ⟨rfl, rfl, rfl, Nat.le_refl _, fun _ _ _ => rfl⟩
theorem Fr.drewN (S : List Nat) (w : World) (q : Nat) : Fr S w (w.drewN q) := ⟨rfl, rfl, rfl, Nat.le_refl _, fun _ _ _ => rfl⟩
theorem Fr.set {S : List Nat} (w : World) (p : Addr) (u : Value) (h : p.block ∈ S) : Fr S w (w.setCell p u) :=
  ⟨rfl, rfl, rfl, by simp [World.setCell], fun k _ hn => Below.heap_setCell _ _ _ _ (fun e => hn (e ▸ h))⟩
theorem Fr.grown {S : List Nat} {w w' : World} {row : Option Nat} (hg : w.grownBy w' row) (h : ∀ k, row = some k → k < w.heap.size → k ∈ S) : Fr S w w' :=
  ⟨hg.os, hg.tape, hg.output, hg.size, fun k hk hn => hg.block k hk (fun e => hn (h k e.symm hk))⟩
theorem Fr.below {S : List Nat} {w w' : World} {B : Nat} (h : Fr S w w') (hB : B ≤ w.heap.size) (hS : ∀ x, x ∈ S → B ≤ x) : Below B w w' :=
  ⟨h.os, h.tape, h.output, h.size, fun k hk => h.block k (by omega) (fun x => by have := hS k x; omega)⟩
theorem Fr.keep {S : List Nat} {w w' : World} (h : Fr S w w') {b : Nat} {o : Obj} (hb : w.heap[b]? = some o) (hn : b ∉ S) : w'.heap[b]? = some o :=
  (h.block b (lt_of_block hb) hn).trans hb

/-- Bytes as cells. -/
def bts (xs : List Nat) : List Value := xs.map fun (x : Nat) => Value.int .u8 (x : Int)
theorem bts_length (xs : List Nat) : (bts xs).length = xs.length := by simp [bts]
theorem bts_append (xs ys : List Nat) : bts (xs ++ ys) = bts xs ++ bts ys := by simp [bts]
theorem bts_get (xs : List Nat) (j : Nat) (h : j < xs.length) : (bts xs)[j]? = some (.int .u8 ((xs.getD j 0 : Nat) : Int)) := by
  simp [bts, List.getD, h]
theorem bts_oneCell (xs : List Nat) : ∀ u ∈ bts xs, u.oneCell' = true := by
  intro u hu
  obtain ⟨_, _, rfl⟩ := List.mem_map.1 hu
  rfl
/-- A string's bytes as numbers. -/
def strNs (s : ByteArray) : List Nat := s.data.toList.map fun b => b.toNat
theorem strNs_length (s : ByteArray) : (strNs s).length = s.size := by
  rw [strNs, List.length_map, Array.length_toList]
  rfl
theorem bts_strNs (s : ByteArray) : bts (strNs s) = strCells s := by simp [bts, strNs, strCells]
theorem strNs_lt (s : ByteArray) : ∀ x ∈ strNs s, x < 256 := by
  intro x hx
  obtain ⟨b, _, rfl⟩ := List.mem_map.1 hx
  exact b.toNat_lt

/-- The row that a slice owns moved to a new block, or not at all. -/
def Moved (n : Nat) (v v' : Value) : Prop := v'.ownBlock = v.ownBlock ∨ ∃ k, v'.ownBlock = some k ∧ n ≤ k

theorem Moved.refl (n : Nat) (v : Value) : Moved n v v := Or.inl rfl
theorem Moved.trans {n m : Nat} {a b c : Value} (h : Moved n a b) (k : Moved m b c) (hnm : n ≤ m) : Moved n a c := by
  rcases k with k | ⟨x, k1, k2⟩
  · rcases h with h | ⟨y, h1, h2⟩
    · exact Or.inl (k.trans h)
    · exact Or.inr ⟨y, k.trans h1, h2⟩
  · exact Or.inr ⟨x, k1, by omega⟩
theorem Moved.lt {n B : Nat} {v v' : Value} (h : Moved n v v') (hB : B ≤ n) (hv : ∀ k, v.ownBlock = some k → B ≤ k) : ∀ k, v'.ownBlock = some k → B ≤ k := by
  intro k hk
  rcases h with h | ⟨y, h1, h2⟩
  · exact hv k (h ▸ hk)
  · rw [h1] at hk; cases hk; omega

section
variable {P : Program} (w : World)

theorem moved_app (t ty e : TypeId) (i : TypeInfo) (z : Value) (size bytes : Nat) (ht : P.underlying t = some (.slice e)) (hi : P.info? e = some i) (hz : i.zero = some z)
    (hsize : i.size = size) (hby : i.bytes = bytes)
    (v : Value) (n : Nat) (xs : List Value) (hown : w.ownsRow 0 e size v n xs)
    (a : Addr) (m c : Nat) (news : List Value) (hm : 0 < m) (hl : news.length = m * size) (hnews : ∀ j u, news[j]? = some u → w.cell? (a.add j) = some u) (h1 : ∀ u ∈ news, u.oneCell' = true)
    (h63 : n + m ≤ maxLen) (hbytes : (n + m) * bytes ≤ 140737488355328) (v' : Value) (w' : World)
    (hr : (Builtin.append_ #[t, t] ty #[v, .slice (some a) m c]).run P w = .ok v' w') : Moved w.heap.size v v' := by
  subst hsize
  subst hby
  have hsmall : n + m ≤ 9223372036854775807 := by simp only [maxLen] at h63; omega
  rcases hown.2 with ⟨rfl, rfl⟩ | ⟨g, cap, cur, rfl, hbg, hg, hnc, hcm, hcs, htake⟩
  · have hr2 := run_append_nil (P := P) w t ty e i z ht hi hz a m c news hl hnews (by omega) (by omega) (by have hb := hbytes; simp only [Nat.zero_add] at hb; omega)
    rw [hr] at hr2
    cases hr2
    exact Or.inr ⟨_, rfl, Nat.le_refl _⟩
  · by_cases hroom : n + m ≤ cap
    · have hfit : n * i.size + news.length ≤ cur.size := by rw [hl, hcs, ← Nat.add_mul]; exact Nat.mul_le_mul_right _ hroom
      have hr2 := run_append_room (P := P) w t ty e i ht hi g n cap cur hg a m c news hl hnews h1 hroom hfit
      rw [hr] at hr2
      cases hr2
      exact Or.inl rfl
    · have holds : ∀ j u, xs[j]? = some u → w.cell? ((⟨g, 0, none⟩ : Addr).add j) = some u := hown.cells (g := g) rfl
      have hr2 := run_append_grow (P := P) w t ty e i z ht hi hz ⟨g, 0, none⟩ n cap xs hown.1 holds a m c news hl hnews (by omega) (by omega) (growslice_fits (by omega) hbytes)
      rw [hr] at hr2
      cases hr2
      exact Or.inr ⟨_, rfl, Nat.le_refl _⟩

theorem moved_appS (t u ty e : TypeId) (i : TypeInfo) (ht : P.underlying t = some (.slice e)) (hu : P.underlying u = some .string) (hi : P.info? e = some i) (hz : i.zero = some (.int .u8 0))
    (hsize : i.size = 1) (hby : i.bytes = 1)
    (v : Value) (n : Nat) (xs : List Value) (hown : w.ownsRow 0 e 1 v n xs) (s : ByteArray)
    (h63 : n + s.size ≤ maxLen) (hbytes : n + s.size ≤ 140737488355328) (v' : Value) (w' : World)
    (hr : (Builtin.append_ #[t, u] ty #[v, .string s]).run P w = .ok v' w') (hnil : v' = .slice none 0 0 ↔ v = .slice none 0 0 ∧ s.size = 0) : Moved w.heap.size v v' := by
  have hsmall : n + s.size ≤ 9223372036854775807 := by simp only [maxLen] at h63; omega
  rcases hown.2 with ⟨rfl, rfl⟩ | ⟨g, cap, cur, rfl, hbg, hg, hnc, hcm, hcs, htake⟩
  · by_cases hm : s.size = 0
    · rw [hnil.2 ⟨rfl, hm⟩]
      exact Moved.refl _ _
    · have hr2 := run_append_nil_string (P := P) w t u ty e i (.int .u8 0) ht hu hi hz s (by omega) (by omega) (by rw [hby]; omega)
      rw [hr] at hr2
      cases hr2
      exact Or.inr ⟨_, rfl, Nat.le_refl _⟩
  · by_cases hroom : n + s.size ≤ cap
    · have hcs' : cur.size = cap := by simpa using hcs
      have hr2 := run_append_room_string (P := P) w t u ty e i ht hu hi hsize g n cap cur hg s hroom (by omega)
      rw [hr] at hr2
      cases hr2
      exact Or.inl rfl
    · have holds : ∀ j u, xs[j]? = some u → w.cell? ((⟨g, 0, none⟩ : Addr).add j) = some u := hown.cells (g := g) rfl
      have hr2 := run_append_grow_string (P := P) w t u ty e i (.int .u8 0) ht hu hi hz ⟨g, 0, none⟩ n cap xs (by rw [hsize]; exact hown.1) holds s (by omega) (by omega) (by rw [hby]; exact growslice_fits (by omega) (by omega))
      rw [hr] at hr2
      cases hr2
      exact Or.inr ⟨_, rfl, Nat.le_refl _⟩

/-- A string's bytes behind a row of one's own. -/
theorem wpList_appS {ops : Array Oper} {rest : List Oper} {o : Oper} {a : Act} {Q : Exit → Act → World → Prop} (hgd : o.guard = none) (sl x : Operand) (t u : TypeId)
    (ho : o.op = .call { callee := .builtin .append, args := #[sl, x], argTypes := #[t, u] })
    (e : TypeId) (i : TypeInfo) (ht : P.underlying t = some (.slice e)) (hu : P.underlying u = some .string) (hi : P.info? e = some i) (hz : i.zero = some (.int .u8 0))
    (hsize : i.size = 1) (hby : i.bytes = 1)
    (v : Value) (n : Nat) (xs : List Value) (hs : a.eval sl = v) (hown : w.ownsRow 0 e 1 v n xs) (s : ByteArray) (hx : a.eval x = .string s)
    (hbytes : n + s.size ≤ 140737488355328) (h63 : n + s.size ≤ maxLen)
    (h : ∀ ao n' cap w', n' = n + s.size → w'.ownsRow 0 e 1 (.slice ao n' cap) n' (xs ++ strCells s) → w.grownBy w' v.ownBlock → Moved w.heap.size v (.slice ao n' cap) → wpList P ops Q rest (a.put o.dst (.slice ao n' cap)) w') : wpList P ops Q (o :: rest) a w := by
  refine wpList_plain hgd fun K hK => ?_
  obtain ⟨v', w', hr, h2, h3, h4⟩ := run_append_own_string (P := P) w 0 t u o.type e i ht hu hi hz hsize hby v n xs hown s h63 hbytes (Nat.zero_le _)
  have hmv := moved_appS (P := P) w t u o.type e i ht hu hi hz hsize hby v n xs hown s h63 hbytes v' w' hr h4
  obtain ⟨ao, cap, rfl⟩ : ∃ ao cap, v' = .slice ao (n + s.size) cap := by
    rcases h2.2 with ⟨hh, h0⟩ | ⟨g, cap', _, hh, _⟩
    · exact ⟨none, 0, by rw [hh, h0]⟩
    · exact ⟨_, cap', hh⟩
  unfold Oper.wp execOp
  simp only [ho, resolve, invoke, builtin, Sem.run_bind, Sem.run_pure, Result.andThen_ok, List.map_toArray, List.map_cons, List.map_nil, hs, hx, hr]
  exact hK _ _ (h ao _ cap w' rfl h2 h3 hmv)

/-- One more element behind a row of one's own, laid in a block of its own ahead of it. -/
theorem wpList_app1 {ops : Array Oper} {rest : List Oper} {o : Oper} {a : Act} {Q : Exit → Act → World → Prop} (hgd : o.guard = none) (s x : Operand) (t : TypeId)
    (ho : o.op = .call { callee := .builtin .append, args := #[s, x], argTypes := #[t, t] })
    (e : TypeId) (i : TypeInfo) (z : Value) (size bytes : Nat) (ht : P.underlying t = some (.slice e)) (hi : P.info? e = some i) (hz : i.zero = some z)
    (hsize : i.size = size) (hby : i.bytes = bytes) (hzs : z.cells.size = size) (hsz : 0 < size)
    (v : Value) (n : Nat) (xs : List Value) (hs : a.eval s = v) (hown : w.ownsRow 0 e size v n xs)
    (ad : Addr) (c : Nat) (news : List Value) (hx : a.eval x = .slice (some ad) 1 c) (hl : news.length = size) (hnews : ∀ j u, news[j]? = some u → w.cell? (ad.add j) = some u) (h1 : ∀ u ∈ news, u.oneCell' = true)
    (hbytes : (n + 1) * bytes ≤ 140737488355328) (h63 : n + 1 ≤ maxLen)
    (h : ∀ g cap w', w'.ownsRow 0 e size (.slice (some ⟨g, 0, none⟩) (n + 1) cap) (n + 1) (xs ++ news) → w.grownBy w' v.ownBlock → Moved w.heap.size v (.slice (some ⟨g, 0, none⟩) (n + 1) cap) → wpList P ops Q rest (a.put o.dst (.slice (some ⟨g, 0, none⟩) (n + 1) cap)) w') : wpList P ops Q (o :: rest) a w := by
  refine wpList_plain hgd fun K hK => ?_
  have hl' : news.length = 1 * size := by omega
  obtain ⟨v', w', hr, h2, h3, h4⟩ := run_append_own (P := P) w 0 t o.type e i z size bytes ht hi hz hsize hby hzs hsz v n xs hown ad 1 c news hl' hnews h1 h63 hbytes (Nat.zero_le _)
  have hmv := moved_app (P := P) w t o.type e i z size bytes ht hi hz hsize hby v n xs hown ad 1 c news (by omega) hl' hnews h1 h63 hbytes v' w' hr
  obtain ⟨g, cap, rfl⟩ : ∃ g cap, v' = .slice (some ⟨g, 0, none⟩) (n + 1) cap := by
    rcases h2.2 with ⟨_, hh⟩ | ⟨g, cap', _, hh, _⟩
    · omega
    · exact ⟨g, cap', hh⟩
  unfold Oper.wp execOp
  simp only [ho, resolve, invoke, builtin, Sem.run_bind, Sem.run_pure, Result.andThen_ok, List.map_toArray, List.map_cons, List.map_nil, hs, hx, hr]
  exact hK _ _ (h g cap w' h2 h3 hmv)
end

/-- A row of one's own stays where the frame leaves it. -/
theorem owns_keep {S : List Nat} {w w' : World} {e : TypeId} {size : Nat} {v : Value} {n : Nat} {xs : List Value} (h : w.ownsRow 0 e size v n xs) (hf : Fr S w w') (hn : ∀ k, v.ownBlock = some k → k ∉ S) : w'.ownsRow 0 e size v n xs := by
  refine ⟨h.1, ?_⟩
  rcases h.2 with hh | ⟨g, cap, cur, rfl, hb, hgg, rest⟩
  · exact .inl hh
  · exact .inr ⟨g, cap, cur, rfl, hb, hf.keep hgg (hn g rfl), rest⟩

theorem two_setCell1 {w : World} {b : Nat} {u v x : Value} {t : TypeId} (h : w.heap[b]? = some (.cells #[u, v] t (0, 0))) : (w.setCell ⟨b, 1, none⟩ x).heap[b]? = some (.cells #[u, x] t (0, 0)) := by
  have hlt := lt_of_block h
  have h' : w.heap[b] = .cells #[u, v] t (0, 0) := by simpa [Array.getElem?_eq_getElem hlt] using h
  show (w.heap.modify b _)[b]? = _
  rw [Array.getElem?_eq_getElem (by simpa using hlt), Array.getElem_modify_self, h']
  rfl

theorem own_lit {w : World} {e : TypeId} {g n cap : Nat} {xs : List Value} (h : w.ownsRow 0 e 1 (.slice (some ⟨g, 0, none⟩) n cap) n xs) : ∃ cur, w.heap[g]? = some (.cells cur e (0, 0)) ∧ cur.size = cap := by
  rcases h.2 with ⟨hh, _⟩ | ⟨g', cap', cur, hh, _, hg, _, _, hcs, _⟩
  · cases hh
  · cases hh
    exact ⟨cur, hg, by simpa using hcs⟩
theorem Tryz.sizeB : (Tryz.prog.info? 5).map (fun i => i.size) = some 1 := by kernel_rfl
theorem Fr.setRow (w : World) (g : Nat) (cs : Array Value) : Fr [g] w (w.setRow g cs) :=
  ⟨rfl, rfl, rfl, by simp [World.setRow], fun k _ hn => setRow_other w g k cs (by simpa using hn)⟩
theorem Fr.on {T : List Nat} {a b c : World} (h : Fr [] a b) (k : Fr T b c) (hT : ∀ x, x ∈ T → a.heap.size ≤ x) : Fr [] a c :=
  h.trans k (fun _ x _ => x) (fun x hx hl => by have := hT x hx; omega)
end Go.Proofs.YtomajifklajilaaGreat
/- A slice of bytes that came in, and the statements' own test of sizes. Conditions as each lemma names them. -/
namespace Go.Proofs.YtomajifklajilaaGreat
open Go.ChangeShapes Go.WideShapes Go.ChangeAt Go.RowKit Go.Lib
end Go.Proofs.YtomajifklajilaaGreat
/- Versions as plain things and in memory: cells, slices that read as a list, versions that came in; what == says of two. Conditions as each lemma names them. -/
namespace Go.Proofs.YtomajifklajilaaGreat
open Go.ChangeShapes Go.WideShapes Go.ChangeAt Go.RowKit Go.Lib
set_option linter.unusedVariables false

def noS : ByteArray := ⟨#[]⟩
theorem noS_iff (s : ByteArray) : s.size = 0 ↔ s = noS := by
  constructor
  · intro h
    cases s with
    | mk d =>
      have hd : d.size = 0 := h
      have : d = #[] := Array.eq_empty_of_size_eq_zero hd
      rw [this]
      rfl
  · rintro rfl
    rfl
theorem tl_nil (s : ByteArray) : s.toList = [] ↔ s.size = 0 := by
  rw [ByteArray.toList_eq]
  constructor
  · intro h
    have h2 := congrArg List.length h
    simpa [Array.length_toList] using h2
  · intro h
    have h2 : s.data.toList.length = 0 := by rw [Array.length_toList]; exact h
    exact List.eq_nil_of_length_eq_zero h2
theorem tl_inj (a b : ByteArray) : a.toList = b.toList ↔ a = b := by
  rw [ByteArray.toList_eq, ByteArray.toList_eq]
  constructor
  · intro h
    exact bytes_inj h
  · rintro rfl
    rfl
/-- A version. -/
structure Vn where
  num : Int
  val : ByteArray
  drop : Bool
def Vn.zero : Vn := ⟨0, noS, false⟩
/-- A version's cells. -/
def vnC (x : Vn) : List Value := [.int .i64 x.num, .string x.val, .bool x.drop]
def vnsC : List Vn → List Value
  | [] => []
  | x :: r => vnC x ++ vnsC r
theorem vnsC_append (a b : List Vn) : vnsC (a ++ b) = vnsC a ++ vnsC b := by
  induction a with
  | nil => rfl
  | cons v r ih => simp [vnsC, ih]
theorem vnsC_length (a : List Vn) : (vnsC a).length = a.length * 3 := by
  induction a with
  | nil => rfl
  | cons v r ih => simp only [vnsC, vnC, List.length_append, List.length_cons, List.length_nil, ih]; omega
theorem vnsC_get (a : List Vn) (j c : Nat) (hj : j < a.length) (hc : c < 3) : (vnsC a)[j * 3 + c]? = (vnC (a.getD j Vn.zero))[c]? := by
  induction a generalizing j with
  | nil => simp at hj
  | cons v r ih =>
    cases j with
    | zero =>
      simp only [vnsC, Nat.zero_mul, Nat.zero_add]
      rw [List.getElem?_append_left (by simp [vnC]; omega)]
      simp
    | succ j =>
      simp only [vnsC]
      rw [List.getElem?_append_right (by simp [vnC]; omega)]
      have e : (j + 1) * 3 + c - (vnC v).length = j * 3 + c := by simp [vnC]; omega
      rw [e, ih j (by simpa using hj)]
      simp
theorem vnsC_oneCell (a : List Vn) : ∀ u ∈ vnsC a, u.oneCell' = true := by
  induction a with
  | nil => intro u hu; simp [vnsC] at hu
  | cons v r ih =>
    intro u hu
    rcases List.mem_append.1 hu with h | h
    · simp only [vnC, List.mem_cons, List.not_mem_nil, or_false] at h
      rcases h with rfl | rfl | rfl <;> rfl
    · exact ih u h
theorem vgetD_mem (vs : List Vn) (i : Nat) (h : i < vs.length) : vs.getD i Vn.zero ∈ vs := by simp [List.getD, h]
theorem vtake_snoc (vs : List Vn) (i : Nat) (h : i < vs.length) : vs.take (i + 1) = vs.take i ++ [vs.getD i Vn.zero] := by
  rw [List.take_add_one]
  simp [List.getD, h]
/-- A version lies at o in block b. -/
structure VAt (w : World) (b o : Nat) (x : Vn) : Prop where
  c0 : w.cell? ⟨b, o, none⟩ = some (.int .i64 x.num)
  c1 : w.cell? ⟨b, o + 1, none⟩ = some (.string x.val)
  c2 : w.cell? ⟨b, o + 2, none⟩ = some (.bool x.drop)
/-- What every version is. -/
structure VEach (x : Vn) : Prop where
  v : x.val.size ≤ 140737488355328
  lo : -9223372036854775808 ≤ x.num
  hi : x.num ≤ 9223372036854775807
/-- The slice at ao reads as the versions vs. -/
structure VRs (w : World) (ao : Option Addr) (vs : List Vn) : Prop where
  lies : 0 < vs.length → ∃ b off, ao = some ⟨b, off, none⟩ ∧ b < w.heap.size ∧ ∀ i, i < vs.length → VAt w b (off + i * 3) (vs.getD i Vn.zero)
  few : vs.length ≤ 4398046511104
  each : ∀ x ∈ vs, VEach x
theorem VRs.nil (w : World) (ao : Option Addr) : VRs w ao [] := ⟨fun h => by simp at h, by simp, by simp⟩
theorem VRs.keepS {S : List Nat} {w w' : World} {ao : Option Addr} {vs : List Vn} (h : VRs w ao vs) (hf : Fr S w w') (hn : 0 < vs.length → ∀ a, ao = some a → a.block ∉ S) : VRs w' ao vs := by
  refine ⟨fun h0 => ?_, h.few, h.each⟩
  obtain ⟨b, off, e, hb, hc⟩ := h.lies h0
  have hk : ∀ o, w'.cell? ⟨b, o, none⟩ = w.cell? ⟨b, o, none⟩ := fun o => World.cell?_of_block (hf.block b hb (hn h0 _ e))
  exact ⟨b, off, e, Nat.lt_of_lt_of_le hb hf.size, fun i hi => ⟨(hk _).trans (hc i hi).c0, (hk _).trans (hc i hi).c1, (hk _).trans (hc i hi).c2⟩⟩
theorem VRs.keep {w w' : World} {ao : Option Addr} {vs : List Vn} (h : VRs w ao vs) (hf : Fr [] w w') : VRs w' ao vs := h.keepS hf (by simp)
theorem VRs.cells {w : World} {ao : Option Addr} {vs : List Vn} (h : VRs w ao vs) {j : Nat} {u : Value} (hu : (vnsC vs)[j]? = some u) : ∃ b off, ao = some ⟨b, off, none⟩ ∧ w.cell? ⟨b, off + j, none⟩ = some u := by
  have hj := (List.getElem?_eq_some_iff.1 hu).1
  rw [vnsC_length] at hj
  obtain ⟨b, off, e, hb, hc⟩ := h.lies (by omega)
  refine ⟨b, off, e, ?_⟩
  have hi : j / 3 < vs.length := by omega
  have hm : j % 3 < 3 := Nat.mod_lt _ (by omega)
  have hg := vnsC_get vs (j / 3) (j % 3) hi hm
  have e3 : j / 3 * 3 + j % 3 = j := by omega
  rw [e3, hu] at hg
  have hA := hc (j / 3) hi
  rw [show off + j = off + j / 3 * 3 + j % 3 by omega, hg]
  have h3 : j % 3 = 0 ∨ j % 3 = 1 ∨ j % 3 = 2 := by omega
  rcases h3 with h3 | h3 | h3 <;> rw [h3]
  · exact hA.c0
  · exact hA.c1
  · exact hA.c2
theorem VRs.of_cells {w : World} {b off : Nat} {vs : List Vn} (hb : 0 < vs.length → b < w.heap.size) (h : ∀ j u, (vnsC vs)[j]? = some u → w.cell? ⟨b, off + j, none⟩ = some u) (hl : vs.length ≤ 4398046511104) (he : ∀ x ∈ vs, VEach x) : VRs w (some ⟨b, off, none⟩) vs := by
  refine ⟨fun h0 => ⟨b, off, rfl, hb h0, fun i hi => ?_⟩, hl, he⟩
  have key : ∀ c u, c < 3 → (vnC (vs.getD i Vn.zero))[c]? = some u → w.cell? ⟨b, off + i * 3 + c, none⟩ = some u := by
    intro c u hc hu
    rw [← vnsC_get vs i c hi hc] at hu
    rw [show off + i * 3 + c = off + (i * 3 + c) by omega]
    exact h _ _ hu
  exact ⟨key 0 _ (by omega) rfl, key 1 _ (by omega) rfl, key 2 _ (by omega) rfl⟩
theorem VRs.of_own {w : World} {base : Nat} {ro : Option Addr} {N rc : Nat} {vs : List Vn} (h : w.ownsRow base 110 3 (.slice ro N rc) N (vnsC vs)) (hN : N = vs.length) (hl : vs.length ≤ 4398046511104) (he : ∀ x ∈ vs, VEach x) : VRs w ro vs := by
  rcases h.2 with ⟨_, h1⟩ | ⟨g, cap, cur, hv, _, hg, _, _, _, ht⟩
  · have : vs = [] := List.eq_nil_of_length_eq_zero (by omega)
    subst this
    exact VRs.nil _ _
  · cases hv
    refine VRs.of_cells (fun _ => lt_of_block hg) (fun j u hu => ?_) hl he
    have hj := (List.getElem?_eq_some_iff.1 hu).1
    rw [vnsC_length] at hj
    rw [cell_of_row _ _ _ _ _ _ hg, Nat.zero_add, ← Array.getElem?_toList, ← hu, ← ht, List.getElem?_take_of_lt (by omega)]
/-- A part of a row. -/
theorem VRs.part {w : World} {ao : Option Addr} {vs : List Vn} (h : VRs w ao vs) (i j : Nat) (hij : i ≤ j) (hj : j ≤ vs.length) : VRs w (ao.map (·.add (i * 3))) ((vs.drop i).take (j - i)) := by
  refine ⟨fun h0 => ?_, ?_, fun x hx => h.each x (List.mem_of_mem_drop (List.mem_of_mem_take hx))⟩
  · simp only [List.length_take, List.length_drop] at h0
    obtain ⟨b, off, e, hb, hc⟩ := h.lies (by omega)
    refine ⟨b, off + i * 3, by rw [e]; simp [Addr.add_lit], hb, fun k hk => ?_⟩
    simp only [List.length_take, List.length_drop] at hk
    have e2 : ((vs.drop i).take (j - i)).getD k Vn.zero = vs.getD (i + k) Vn.zero := by
      simp only [List.getD, List.getElem?_take_of_lt (show k < j - i by omega), List.getElem?_drop]
    rw [e2, show off + i * 3 + k * 3 = off + (i + k) * 3 by omega]
    exact hc (i + k) (by omega)
  · have := h.few
    simp only [List.length_take, List.length_drop]
    omega
/-- A row from a place on, as slicing leaves it. -/
def fromV (ro : Option Addr) (rc K : Nat) : Option Addr := if rc = K then ro else ro.map (·.add (K * 3))
theorem VRs.from {w : World} {ao : Option Addr} {vs : List Vn} (h : VRs w ao vs) (rc i j : Nat) (hij : i ≤ j) (hj : j ≤ vs.length) (hrc : vs.length ≤ rc) : VRs w (fromV ao rc i) ((vs.drop i).take (j - i)) := by
  unfold fromV
  split
  · have : (vs.drop i).take (j - i) = [] := List.eq_nil_of_length_eq_zero (by simp only [List.length_take, List.length_drop]; omega)
    rw [this]
    exact VRs.nil _ _
  · exact h.part i j hij hj

section
variable {H : Type} {enc : TypeId × Value → H}
theorem vweightsAll_mem {P : Program} {e : TypeId} : ∀ {ds : List (DataW H)} {d : DataW H}, d ∈ ds → ∀ n ∈ d.weights P e, n ∈ DataW.weightsAll P e ds
  | x :: r, d, hd, n, hn => by
    simp only [DataW.weightsAll, List.mem_append]
    rcases List.mem_cons.1 hd with rfl | hd
    · exact Or.inl hn
    · exact Or.inr (vweightsAll_mem hd n hn)
theorem Tryz.undVns' : Tryz.prog.underlying 68 = some (.slice 110) := by kernel_rfl
theorem Tryz.cellsVn : Tryz.prog.cellsOf 110 = 3 := by kernel_rfl
theorem Tryz.vnFields : (match Tryz.prog.underlying 110 with | some (.struct fs) => fs.toList.map (fun f => (f.type, f.offset)) | _ => []) = [(3, 0), (9, 1), (4, 2)] := by kernel_rfl
theorem Tryz.vundI : Tryz.prog.underlying 3 = some (.int .i64) := by kernel_rfl
theorem Tryz.vundBl : Tryz.prog.underlying 4 = some .bool := by kernel_rfl
theorem Tryz.vcBl : Tryz.prog.cellsOf 4 = 1 := by kernel_rfl
theorem Tryz.vcI : Tryz.prog.cellsOf 3 = 1 := by kernel_rfl
theorem Tryz.vcS : Tryz.prog.cellsOf 9 = 1 := by kernel_rfl
set_option maxRecDepth 100000 in
theorem vn_open {w : World} {base : Nat} {spare : Nat → Bool} {held : Bool} {fuel : Nat} {cs : List Value} {x : DataW H × List MemPlace} (h : DataW.trod enc Tryz.prog w base spare held fuel 110 cs = some x) :
    ∃ v : Vn, cs = [.int .i64 v.num, .string v.val, .bool v.drop] ∧ v.val.size ∈ x.1.weights Tryz.prog 110 ∧ -9223372036854775808 ≤ v.num ∧ v.num ≤ 9223372036854775807 := by
  have hF := Tryz.vnFields
  cases hu : Tryz.prog.underlying 110 with
  | none => rw [hu] at hF; simp at hF
  | some u =>
    rw [hu] at hF
    cases u with
    | struct fs =>
      simp only at hF
      obtain ⟨ys, n, _, hx, hlen, hys, hf⟩ := DataW.trod_struct hu h
      rw [Tryz.cellsVn] at hlen
      match cs, hlen with
      | [v0, v1, v2], _ =>
        have hl3 : fs.toList.length = 3 := by have := congrArg List.length hF; simpa using this
        obtain ⟨l, hl⟩ : ∃ l, l = fs.toList := ⟨_, rfl⟩
        rw [← hl] at hF hl3
        match l, hl3 with
        | [f0, f1, f2], _ =>
          simp only [List.map_cons, List.map_nil, List.cons.injEq, Prod.mk.injEq, and_true] at hF
          obtain ⟨⟨t0, o0⟩, ⟨t1, o1⟩, ⟨t2, o2⟩⟩ := hF
          have g : ∀ (i : Nat) (f : Field), [f0, f1, f2][i]? = some f → fs[i]? = some f := by
            intro i f hi
            rw [hl] at hi
            simpa using hi
          have r0 := hf 0 f0 (g 0 f0 rfl)
          have r1 := hf 1 f1 (g 1 f1 rfl)
          have r2 := hf 2 f2 (g 2 f2 rfl)
          rw [t0, o0, Tryz.vcI] at r0
          rw [t1, o1, Tryz.vcS] at r1
          rw [t2, o2, Tryz.vcBl] at r2
          simp only [List.drop_zero, List.drop_succ_cons, List.take_succ_cons, List.take_zero] at r0 r1 r2
          have hy3 : ys.length = 3 := by rw [hys]; have := congrArg List.length hl; simpa using this.symm
          match ys, hy3 with
          | [y0, y1, y2], _ =>
            simp only [List.getElem?_cons_zero, List.getElem?_cons_succ] at r0 r1 r2
            obtain ⟨k0, e0, _, w0⟩ := DataW.trod_int Tryz.vundI r0
            obtain ⟨s1, e1, x1, _⟩ := DataW.trod_string Tryz.undStr r1
            obtain ⟨b2, e2, _⟩ := DataW.trod_bool Tryz.vundBl r2
            simp only [List.cons.injEq, and_true] at e0 e1 e2
            have b0 := bounds_i64 w0
            have hty : fs.toList.map (·.type) = [3, 9, 4] := by rw [← hl]; simp [t0, t1, t2]
            refine ⟨⟨k0, s1, b2⟩, by rw [e0, e1, e2], ?_, b0.1, b0.2⟩
            rw [hx]
            simp only [DataW.weights, hu]
            rw [hty]
            refine DataW.weights_mem_each (j := 1) (t := 9) (d := y1.1) rfl rfl _ ?_
            rw [x1]
            simp only [DataW.weights, List.mem_singleton]
            show s1.data.size = _
            simp
    | _ => simp at hF
set_option maxRecDepth 100000 in
theorem vs_open {w : World} {fuel : Nat} {v : Value} {d : DataW H} {ps : List MemPlace} (h : DataW.trod enc Tryz.prog w 0 (fun _ => true) true fuel 68 [v] = some (d, ps)) (hsz : ∀ n ∈ d.weights Tryz.prog 68, n ≤ reachBytes) :
    ∃ ao L cap vs, v = .slice ao L cap ∧ VRs w ao vs ∧ L = vs.length ∧ L ≤ cap := by
  rcases Go.Deep.open_slice Tryz.undVns' h with ⟨hcs, _⟩ | ⟨a, len, cap, m, n, D, Pl, hcs, hb, hl, hm, hmm, hx, hE⟩
  · simp only [List.cons.injEq, and_true] at hcs
    exact ⟨none, 0, 0, [], hcs, VRs.nil _ _, rfl, Nat.le_refl _⟩
  · simp only [List.cons.injEq, and_true] at hcs
    simp only [if_true] at hmm
    subst hmm
    rw [Tryz.cellsVn] at hE hx
    have hO : ∀ i, i < m → ∃ o : Vn, (w.cells? 0 (a.add (i * 3)) 3 = some [.int .i64 o.num, .string o.val, .bool o.drop]) ∧ o.val.size ∈ (D i).weights Tryz.prog 110 ∧ -9223372036854775808 ≤ o.num ∧ o.num ≤ 9223372036854775807 := by
      intro i hi
      obtain ⟨cs', h1, h2⟩ := hE i hi
      obtain ⟨o, rfl, rest⟩ := vn_open h2
      exact ⟨o, h1, rest⟩
    haveI : Inhabited Vn := ⟨Vn.zero⟩
    obtain ⟨F, hF⟩ := Go.Deep.choose_lt hO
    have hd : d = .slice ((List.range len).map D) ((List.range (m - len)).map fun j => D (len + j)) := by have := congrArg Prod.fst hx; simpa using this
    have hr := reachBytes_lt
    have hlen : len * 32 ≤ 140737488355328 := by
      have hw : len * Tryz.prog.bytesOf 110 ≤ reachBytes := by
        refine Nat.le_trans (Nat.mul_le_mul_right _ hl) (hsz _ ?_)
        rw [hd]
        simp only [DataW.weights, Tryz.undVns', List.length_map, List.length_range]
        rw [show len + (m - len) = m by omega]
        exact List.mem_cons_self
      rw [show Tryz.prog.bytesOf 110 = 32 from by kernel_rfl] at hw
      omega
    refine ⟨some a, len, m, (List.range len).map F, hcs, ⟨fun h0 => ?_, by simp; omega, ?_⟩, by simp, hl⟩
    rotate_left
    · intro o ho
      obtain ⟨i, hi, rfl⟩ := List.mem_map.1 ho
      have hi' : i < len := by simpa using hi
      have key : ∀ q ∈ (D i).weights Tryz.prog 110, q ≤ 140737488355328 := by
        intro q hq
        have : q ≤ reachBytes := by
          apply hsz
          rw [hd]
          simp only [DataW.weights, Tryz.undVns']
          refine List.mem_cons_of_mem _ (List.mem_append_left _ ?_)
          exact vweightsAll_mem (List.mem_map.2 ⟨i, by simpa using hi', rfl⟩) _ hq
        omega
      exact ⟨key _ (hF i (by omega)).2.1, (hF i (by omega)).2.2.1, (hF i (by omega)).2.2.2⟩
    · simp only [List.length_map, List.length_range] at h0 ⊢
      have hc0 := (World.cells?_some (hF 0 (by omega)).1).2.2
      obtain ⟨b, off, spot⟩ := a
      have hspot : spot = none := by
        have := hc0 0 (by omega)
        simp at this
        simpa [Addr.add] using World.cell?_spot this
      subst hspot
      have hcell : ∀ i, i < len → ∀ j, j < 3 → w.cell? ⟨b, off + i * 3 + j, none⟩ = [Value.int .i64 (F i).num, .string (F i).val, .bool (F i).drop][j]? := by
        intro i hi j hj
        have := (World.cells?_some (hF i (by omega)).1).2.2 j hj
        rw [show ((⟨b, off, none⟩ : Addr).add (i * 3)).add j = ⟨b, off + i * 3 + j, none⟩ from by rw [Addr.add_lit, Addr.add_lit]] at this
        exact this
      refine ⟨b, off, rfl, World.block_lt_of_cell? w ⟨b, off + 0 * 3 + 0, none⟩ (by rw [hcell 0 (by omega) 0 (by omega)]; rfl), fun i hi => ?_⟩
      have e : ((List.range len).map F).getD i Vn.zero = F i := by simp [List.getD, hi]
      rw [e]
      exact ⟨hcell i hi 0 (by omega), hcell i hi 1 (by omega), hcell i hi 2 (by omega)⟩
end
/-! ### Equality -/
theorem Tryz.undVn : Tryz.prog.underlying 110 = some (.struct (Tryz.prog.fieldsOf 110)) := by kernel_rfl
theorem Tryz.heldVn : Tryz.prog.stoodInHeld 110 = false := by kernel_rfl
theorem Tryz.guardVn : Tryz.prog.eqGuardType Tryz.prog.depth 110 = false := by kernel_rfl
theorem Tryz.fieldsVn : (Tryz.prog.fieldsOf 110).toList.map (fun f => (f.name == "_", f.type, f.offset)) = [(false, 3, 0), (false, 9, 1), (false, 4, 2)] := by kernel_rfl
theorem vpart_str (w : World) (cs : Array Value) (off : Nat) (v : Value) (h : cs[off]? = some v) : (part 9 cs off).run Tryz.prog w = .ok v w := by
  simp [part, isAgg, run_underlying Tryz.undStr, h, Sem.run_bind]
theorem vpart_bool (w : World) (cs : Array Value) (off : Nat) (v : Value) (h : cs[off]? = some v) : (part 4 cs off).run Tryz.prog w = .ok v w := by
  simp [part, isAgg, run_underlying Tryz.vundBl, h, Sem.run_bind]
theorem vpart_int (w : World) (cs : Array Value) (off : Nat) (v : Value) (h : cs[off]? = some v) : (part 3 cs off).run Tryz.prog w = .ok v w := by
  simp [part, isAgg, run_underlying Tryz.vundI, h, Sem.run_bind]
theorem veq_str (w : World) (a b : ByteArray) : (Op.equalIn 9999 9 (.string a) (.string b)).run Tryz.prog w = .ok (a.toList == b.toList) w := run_equalIn_string w 9998 _ a b Tryz.undStr
theorem veq_bool (w : World) (a b : Bool) : (Op.equalIn 9999 4 (.bool a) (.bool b)).run Tryz.prog w = .ok (a == b) w := run_equalIn_bool w 9998 _ a b Tryz.vundBl
theorem veq_int (w : World) (a b : Int) : (Op.equalIn 9999 3 (.int .i64 a) (.int .i64 b)).run Tryz.prog w = .ok (a == b) w := run_equalIn_int w 9998 _ .i64 .i64 a b Tryz.vundI
theorem vstep_field {P : Program} {w : World} {A B : Sem Value} {E : Value → Value → Sem Bool} {K : Sem Bool} {a b : Value} {r : Bool} (hA : A.run P w = .ok a w) (hB : B.run P w = .ok b w) (hE : (E a b).run P w = .ok r w) :
    (do let a ← A; let b ← B; let r ← E a b; if (!r) = true then pure false else K : Sem Bool).run P w = if r = true then K.run P w else .ok false w := by
  simp only [Sem.run_bind, hA, hB, hE, Result.andThen_ok]
  cases r <;> simp
set_option maxRecDepth 100000 in
theorem vn_fields (w : World) (k1 k2 : Int) (v1 v2 : ByteArray) (p1 p2 : Bool) : (Op.equalIn 10000 110 (.agg #[.int .i64 k1, .string v1, .bool p1]) (.agg #[.int .i64 k2, .string v2, .bool p2])).run Tryz.prog w = .ok (k1 == k2 && (v1.toList == v2.toList && p1 == p2)) w := by
  rw [run_equalIn_struct w 9999 _ _ _ Tryz.undVn Tryz.heldVn]
  have hF := Tryz.fieldsVn
  obtain ⟨l, hl⟩ : ∃ l, l = (Tryz.prog.fieldsOf 110).toList := ⟨_, rfl⟩
  rw [← hl] at hF ⊢
  match l, hF with
  | [f0, f1, f2], hF =>
    simp only [List.map_cons, List.map_nil, List.cons.injEq, Prod.mk.injEq, and_true] at hF
    obtain ⟨⟨n0, t0, o0⟩, ⟨n1, t1, o1⟩, ⟨n2, t2, o2⟩⟩ := hF
    have m0 : f0.name ≠ "_" := by simpa using n0
    have m1 : f1.name ≠ "_" := by simpa using n1
    have m2 : f2.name ≠ "_" := by simpa using n2
    simp only [Op.eqFields, if_pos m0, if_pos m1, if_pos m2, t0, t1, t2, o0, o1, o2]
    rw [vstep_field (vpart_int w _ 0 _ rfl) (vpart_int w _ 0 _ rfl) (veq_int w k1 k2)]
    rw [vstep_field (vpart_str w _ 1 _ rfl) (vpart_str w _ 1 _ rfl) (veq_str w v1 v2)]
    rw [vstep_field (vpart_bool w _ 2 _ rfl) (vpart_bool w _ 2 _ rfl) (veq_bool w p1 p2)]
    cases (k1 == k2) <;> cases (v1.toList == v2.toList) <;> cases (p1 == p2) <;> simp
/-- Are two versions the same? -/
def sameV (x y : Vn) : Bool := x.num == y.num && (x.val.toList == y.val.toList && x.drop == y.drop)
theorem sameV_iff (x y : Vn) : sameV x y = true ↔ x = y := by
  obtain ⟨k1, v1, p1⟩ := x
  obtain ⟨k2, v2, p2⟩ := y
  simp only [sameV, Bool.and_eq_true, beq_iff_eq, tl_inj, Vn.mk.injEq]
theorem vn_in (w : World) (x y : Vn) : (Op.equalIn 10000 110 (.agg #[.int .i64 x.num, .string x.val, .bool x.drop]) (.agg #[.int .i64 y.num, .string y.val, .bool y.drop])).run Tryz.prog w = .ok (sameV x y) w := vn_fields w _ _ _ _ _ _
theorem vn_neq (w : World) (x y : Vn) : (binOp .neq 110 (.agg #[.int .i64 x.num, .string x.val, .bool x.drop]) (.agg #[.int .i64 y.num, .string y.val, .bool y.drop])).run Tryz.prog w = .ok (.bool (!sameV x y)) w := by
  rw [run_neq_struct, vn_fields]
  rfl
theorem vn_eql (w : World) (x y : Vn) : (binOp .eql 110 (.agg #[.int .i64 x.num, .string x.val, .bool x.drop]) (.agg #[.int .i64 y.num, .string y.val, .bool y.drop])).run Tryz.prog w = .ok (.bool (sameV x y)) w := by
  rw [run_eql_struct, vn_fields]
  rfl
end Go.Proofs.YtomajifklajilaaGreat
/- What versions may be, how many have at most a number, what is read at a mark. Plain lemmas. -/
namespace Go.Proofs.YtomajifklajilaaGreat
set_option linter.unusedVariables false
/-- May a version be? -/
def okX (x : Vn) : Prop := 1 ≤ x.num ∧ x.num ≤ 65536 ∧ x.val.size ≤ 1024 ∧ (x.drop = true → x.val = noS)
/-- Numbers rise. -/
def Ris (vs : List Vn) : Prop := vs.Pairwise fun a b => a.num < b.num
def okV (vs : List Vn) : Prop := (∀ x ∈ vs, okX x) ∧ Ris vs
/-- What Check tells. -/
def CkT (vs : List Vn) (c : Nat) : Prop := (c = 0 ∧ okV vs) ∨ (c = 1 ∧ ¬ okV vs)
theorem CkT.ex (vs : List Vn) : ∃ c, CkT vs c := by
  by_cases h : okV vs
  · exact ⟨0, Or.inl ⟨rfl, h⟩⟩
  · exact ⟨1, Or.inr ⟨rfl, h⟩⟩
theorem CkT.ok {vs : List Vn} (h : CkT vs 0) : okV vs := by
  rcases h with ⟨_, h⟩ | ⟨h, _⟩
  · exact h
  · cases h
theorem CkT.of {vs : List Vn} (h : okV vs) : CkT vs 0 := Or.inl ⟨rfl, h⟩
theorem CkT.one {vs : List Vn} {a b : Nat} (h : CkT vs a) (k : CkT vs b) : a = b := by
  rcases h with ⟨rfl, h⟩ | ⟨rfl, h⟩ <;> rcases k with ⟨rfl, k⟩ | ⟨rfl, k⟩
  · rfl
  · exact absurd h k
  · exact absurd k h
  · rfl
theorem ris_get {vs : List Vn} (h : Ris vs) {i j : Nat} (hij : i < j) (hj : j < vs.length) : (vs.getD i Vn.zero).num < (vs.getD j Vn.zero).num := by
  have := List.pairwise_iff_getElem.1 h i j (by omega) hj hij
  simpa [List.getD, hj, show i < vs.length by omega] using this
theorem ris_of {vs : List Vn} (h : ∀ i j, i < j → j < vs.length → (vs.getD i Vn.zero).num < (vs.getD j Vn.zero).num) : Ris vs := by
  refine List.pairwise_iff_getElem.2 fun i j hi hj hij => ?_
  have := h i j hij hj
  simpa [List.getD, hi, hj] using this
theorem okV_ge {vs : List Vn} (h : okV vs) : ∀ i, i < vs.length → (i : Int) + 1 ≤ (vs.getD i Vn.zero).num := by
  intro i
  induction i with
  | zero => intro hi; have := (h.1 _ (vgetD_mem vs 0 hi)).1; omega
  | succ i ih =>
    intro hi
    have h1 := ih (by omega)
    have h2 := ris_get h.2 (show i < i + 1 by omega) hi
    omega
theorem okV_few {vs : List Vn} (h : okV vs) : vs.length ≤ 65536 := by
  by_cases h0 : vs.length = 0
  · omega
  · have h1 := okV_ge h (vs.length - 1) (by omega)
    have h2 := (h.1 _ (vgetD_mem vs (vs.length - 1) (by omega))).2.1
    omega
theorem okV_nil : okV [] := ⟨by simp, List.Pairwise.nil⟩
theorem okV_sub {vs us : List Vn} (h : okV vs) (hs : us.Sublist vs) : okV us := ⟨fun x hx => h.1 x (hs.subset hx), h.2.sublist hs⟩
theorem okV_drop {vs : List Vn} (h : okV vs) (k : Nat) : okV (vs.drop k) := okV_sub h (List.drop_sublist _ _)
theorem getD_drop (vs : List Vn) (k j : Nat) : (vs.drop k).getD j Vn.zero = vs.getD (k + j) Vn.zero := by simp [List.getD, List.getElem?_drop]
theorem okX_each {x : Vn} (h : okX x) : VEach x := ⟨by have := h.2.2.1; omega, by have := h.1; omega, by have := h.2.1; omega⟩
/-- So many have at most this number, and they stand ahead. -/
structure UpTo (vs : List Vn) (k : Int) (c : Nat) : Prop where
  le : c ≤ vs.length
  lo : ∀ j, j < c → (vs.getD j Vn.zero).num ≤ k
  hi : ∀ j, c ≤ j → j < vs.length → k < (vs.getD j Vn.zero).num
theorem UpTo.one {vs : List Vn} {k : Int} {a b : Nat} (h : UpTo vs k a) (g : UpTo vs k b) : a = b := by
  rcases Nat.lt_trichotomy a b with h1 | h1 | h1
  · have := h.hi a (Nat.le_refl _) (by have := g.le; omega)
    have := g.lo a h1
    omega
  · exact h1
  · have := g.hi b (Nat.le_refl _) (by have := h.le; omega)
    have := h.lo b h1
    omega
theorem UpTo.ex {vs : List Vn} (h : Ris vs) (k : Int) : ∃ c, UpTo vs k c := by
  induction vs with
  | nil => exact ⟨0, Nat.le_refl _, fun j hj => by omega, fun j _ hj => by simp at hj⟩
  | cons x r ih =>
    obtain ⟨c, hc⟩ := ih (List.Pairwise.of_cons h)
    by_cases hx : x.num ≤ k
    · refine ⟨c + 1, by have := hc.le; simp; omega, fun j hj => ?_, fun j h1 h2 => ?_⟩
      · cases j with
        | zero => simpa using hx
        | succ j => simpa using hc.lo j (by omega)
      · cases j with
        | zero => omega
        | succ j => simpa using hc.hi j (by omega) (by simpa using h2)
    · refine ⟨0, Nat.zero_le _, fun j hj => by omega, fun j _ h2 => ?_⟩
      cases j with
      | zero => simp; omega
      | succ j =>
        have := ris_get h (show 0 < j + 1 by omega) h2
        simp only [List.getD_cons_zero] at this
        omega
theorem UpTo.mono {vs : List Vn} {k l : Int} {a b : Nat} (h : UpTo vs k a) (g : UpTo vs l b) (hkl : k ≤ l) : a ≤ b := by
  by_cases h1 : a ≤ b
  · exact h1
  · have := g.hi b (Nat.le_refl _) (by have := h.le; omega)
    have := h.lo b (by omega)
    omega
theorem UpTo.drop {vs : List Vn} {k : Int} {c d : Nat} (h : UpTo vs k c) (hd : d ≤ c) : UpTo (vs.drop d) k (c - d) := by
  refine ⟨by have := h.le; simp; omega, fun j hj => ?_, fun j h1 h2 => ?_⟩
  · rw [getD_drop]; exact h.lo _ (by omega)
  · rw [getD_drop]; exact h.hi _ (by omega) (by simp at h2; omega)
/-- By the search's test. -/
theorem UpTo.count {vs : List Vn} (h : Ris vs) (k : Int) : UpTo vs k ((List.range vs.length).countP fun i => !decide (k < (vs.getD i Vn.zero).num)) := by
  obtain ⟨c, hc⟩ := UpTo.ex h k
  have e : (List.range vs.length).countP (fun i => !decide (k < (vs.getD i Vn.zero).num)) = c := by
    have hle := hc.le
    have e1 : List.range vs.length = List.range c ++ (List.range (vs.length - c)).map (c + ·) := by
      rw [← List.range_add]
      congr 1
      omega
    rw [e1, List.countP_append]
    have a1 : (List.range c).countP (fun i => !decide (k < (vs.getD i Vn.zero).num)) = c := by
      rw [List.countP_eq_length.2]
      · simp
      · intro j hj
        have := hc.lo j (by simpa using hj)
        rw [Bool.not_eq_true', decide_eq_false_iff_not]
        omega
    have a2 : ((List.range (vs.length - c)).map (c + ·)).countP (fun i => !decide (k < (vs.getD i Vn.zero).num)) = 0 := by
      rw [List.countP_eq_zero]
      intro j hj
      obtain ⟨i, hi, rfl⟩ := List.mem_map.1 hj
      have := hc.hi (c + i) (by omega) (by simp at hi; omega)
      rw [Bool.not_eq_true', decide_eq_false_iff_not]
      omega
    omega
  rw [e]
  exact hc
/-- What is read at a mark, of which so many are at it. -/
def atV (vs : List Vn) (c : Nat) : Vn := if c = 0 then Vn.zero else vs.getD (c - 1) Vn.zero
theorem atV_drop (vs : List Vn) (c d : Nat) (h : d < c ∨ d = 0) : atV (vs.drop d) (c - d) = atV vs c := by
  unfold atV
  by_cases h0 : c = 0
  · rw [if_pos (by omega), if_pos h0]
  · rw [if_neg (by omega), if_neg h0, getD_drop]
    congr 1
    omega
end Go.Proofs.YtomajifklajilaaGreat
/- Contracts of package chain's inner functions: Check, passed, sort.Search over it, upTo, stands. Conditions as each names them. -/
namespace Go.Proofs.YtomajifklajilaaGreat
open Go.ChangeShapes Go.WideShapes Go.ChangeAt Go.RowKit Go.Lib
set_option linter.unusedVariables false
set_option linter.unusedSimpArgs false

theorem Fr.cell {w w' : World} (h : Fr [] w w') {a : Addr} {v : Value} (hc : w.cell? a = some v) : w'.cell? a = some v := by
  have hb := World.block_lt_of_cell? _ _ hc
  rw [World.cell?_of_block (h.block a.block hb (by simp))]
  exact hc
set_option maxHeartbeats 2000000 in
set_option maxRecDepth 100000 in
theorem passed_any (ao : Option Addr) (L cap : Nat) (k : Int) (i : Nat) (B : Bool) (vs : List Vn) (w : World) (hV : VRs w ao vs) (hL : L = vs.length) (hi : i < vs.length) (hB : decide (k < (vs.getD i Vn.zero).num) = B) :
    Calls Tryz.prog 115 #[.agg #[.slice ao L cap, .int .i64 k], .int .i64 (i : Int)] w fun e w' => e = .returned (.bool B) ∧ Fr [] w w' := by
  obtain ⟨b, off, rfl, hbl, hat⟩ := hV.lies (by omega)
  obtain ⟨c0, _, _⟩ := hat i hi
  obtain ⟨n, hn⟩ : ∃ n, n = (vs.getD i Vn.zero).num := ⟨_, rfl⟩
  rw [← hn] at c0 hB
  have hLL : L ≤ 4398046511104 := by have := hV.few; omega
  have hiL : i < L := by omega
  have HB : Hid (decide (k < n) = B) := hB
  clear hat hV hL hi hn hB
  obtain ⟨W, hW⟩ : ∃ W, W = w.alloc (.cells #[.slice (some ⟨b, off, none⟩) L cap, .int .i64 k] 153) := ⟨_, rfl⟩
  have hF : Fr [] w W := by rw [hW]; exact Fr.alloc _ _ _
  have d0 := hF.cell c0
  have d1 : W.cell? ⟨w.heap.size, 0, none⟩ = some (.slice (some ⟨b, off, none⟩) L cap) := by rw [hW, World.cell?_alloc_at _ _ _ _ (by simp)]; rfl
  have d2 : W.cell? ⟨w.heap.size, 1, none⟩ = some (.int .i64 k) := by rw [hW, World.cell?_alloc_at _ _ _ _ (by simp)]; rfl
  have HW : Hid (W = _) := hW
  have HF : Hid (Fr [] w W) := hF
  clear hW hF
  go_enter Tryz.func115, Tryz.ntmps115
  go_wp2_with fail
  rw [← HW.out]
  go_quiet (fail)
  all_goals (
    go_wp2
    go_ret
    rw [HB.out]
    exact ⟨rfl, HF.out.then (Fr.drewN _ _ _)⟩)
set_option maxHeartbeats 4000000 in
set_option maxRecDepth 1000000 in
theorem search_any (n : Nat) (x : Value) (p : Nat → Bool) (w : World) (hsz : n < 4611686018427387904)
    (hf : ∀ (W : World) (i : Nat), Fr [] w W → i < n → Calls Tryz.prog 115 #[x, .int .i64 (i : Int)] W fun e w' => e = .returned (.bool (p i)) ∧ Fr [] W w')
    (hmono : ∀ a b, a ≤ b → b < n → p a = true → p b = true) :
    Calls Tryz.prog 114 #[.int .i64 (n : Int), .func (.func 115) #[x] #[]] w fun e w' => ∃ c : Nat, e = .returned (.int .i64 (c : Int)) ∧ c ≤ n ∧ (∀ t, t < c → p t = false) ∧ (∀ t, c ≤ t → t < n → p t = true) ∧ Fr [] w w' := by
  have HF : Hid _ := hf
  have M : Hid _ := hmono
  clear hf hmono
  go_enter Tryz.func114, Tryz.ntmps114
  go_wp2
  go_loopg [5, 6] n (fun kx s5 s6 wr => ∃ (lo hi : Nat), s5 = .int .i64 lo ∧ s6 = .int .i64 hi ∧ lo ≤ hi ∧ hi ≤ n ∧ hi - lo ≤ kx ∧ Fr [] w wr ∧
    Hid ((∀ t, t < lo → p t = false) ∧ (∀ t, hi ≤ t → t < n → p t = true)))
  case atStart => exact ⟨0, n, rfl, rfl, Nat.zero_le _, Nat.le_refl _, by omega, Fr.refl _ _, (⟨fun t ht => absurd ht (Nat.not_lt_zero _), fun t h1 h2 => by omega⟩ : (∀ t, t < 0 → p t = false) ∧ (∀ t, n ≤ t → t < n → p t = true))⟩
  case round =>
    obtain ⟨lo, hi, rfl, rfl, hlh, hin, hg, hFr, I⟩ := hrel
    by_cases hlt : lo < hi
    · have hc := HF.out _ ((lo + hi) / 2) hFr (by omega)
      rw [show (((lo + hi) / 2 : Nat) : Int) = ((lo : Int) + (hi : Int)) / 2 by omega] at hc
      cases hp : p ((lo + hi) / 2) <;> rw [hp] at hc
      · have HP : Hid (p ((lo + hi) / 2) = false) := hp
        have HC : Hid _ := hc
        clear hp hc
        go_wp2_with (go_at_call 115; refine Calls.mono HC.out ?_; rintro e w' ⟨rfl, hF1⟩)
        go_roundg (hi - ((lo + hi) / 2 + 1))
        case measure => omega
        case rel =>
          have I2 : Hid ((∀ t, t < (lo + hi) / 2 + 1 → p t = false) ∧ (∀ t, hi ≤ t → t < n → p t = true)) := ⟨fun t ht => (by
            cases h : p t with
            | false => rfl
            | true => have := M.out t ((lo + hi) / 2) (by omega) (by omega) h; rw [HP.out] at this; cases this), I.out.2⟩
          exact ⟨(lo + hi) / 2 + 1, hi, by rw [show ((lo : Int) + (hi : Int)) / 2 + 1 = (((lo + hi) / 2 + 1 : Nat) : Int) by omega], rfl, by omega, hin, Nat.le_refl _, hFr.then hF1, I2⟩
      · have HP : Hid (p ((lo + hi) / 2) = true) := hp
        have HC : Hid _ := hc
        clear hp hc
        go_wp2_with (go_at_call 115; refine Calls.mono HC.out ?_; rintro e w' ⟨rfl, hF1⟩)
        go_roundg ((lo + hi) / 2 - lo)
        case measure => omega
        case rel =>
          have I2 : Hid ((∀ t, t < lo → p t = false) ∧ (∀ t, (lo + hi) / 2 ≤ t → t < n → p t = true)) := ⟨I.out.1, fun t ht htn => M.out ((lo + hi) / 2) t ht htn HP.out⟩
          exact ⟨lo, (lo + hi) / 2, rfl, by rw [show ((lo : Int) + (hi : Int)) / 2 = (((lo + hi) / 2 : Nat) : Int) by omega], by omega, by omega, Nat.le_refl _, hFr.then hF1, I2⟩
    · obtain rfl : hi = lo := by omega
      go_wp2
      go_ret
      exact ⟨hi, rfl, hin, I.out.1, I.out.2, hFr⟩
set_option maxHeartbeats 1000000 in
theorem upTo_any (ao : Option Addr) (L cap : Nat) (k : Int) (vs : List Vn) (w : World) (hV : VRs w ao vs) (hL : L = vs.length) (hR : Ris vs) :
    Calls Tryz.prog 108 #[.slice ao L cap, .int .i64 k] w fun e w' => ∃ c : Nat, e = .returned (.int .i64 (c : Int)) ∧ UpTo vs k c ∧ Fr [] w w' := by
  have HS : Hid (Calls _ _ _ _ _) := search_any L (.agg #[.slice ao L cap, .int .i64 k]) (fun i => decide (k < (vs.getD i Vn.zero).num)) w (by have := hV.few; omega)
    (fun W i hF hi => passed_any ao L cap k i _ vs W (hV.keep hF) hL (by omega) rfl)
    (fun a b hab hb h => by
      simp only [decide_eq_true_eq] at h ⊢
      by_cases e : a = b
      · subst e; exact h
      · have := ris_get hR (show a < b by omega) (by omega)
        omega)
  have HL : Hid (L = vs.length) := hL
  have hLL : L ≤ 4398046511104 := by have := hV.few; omega
  clear hV hL hR
  go_enter Tryz.func108, Tryz.ntmps108
  go_wp2_with fail
  refine Calls.mono HS.out ?_
  rintro e w1 ⟨c, rfl, hcL, h1, h2, hF⟩
  have HU : Hid (UpTo vs k c) := ⟨by have := HL.out; omega, fun j hj => by have := h1 j hj; simp only [decide_eq_false_iff_not] at this; omega, fun j hj hj2 => by have := h2 j hj (by have := HL.out; omega); simpa using this⟩
  clear h1 h2 HS
  go_wp2
  go_ret
  exact ⟨c, rfl, HU.out, hF⟩
set_option maxHeartbeats 1000000 in
set_option maxRecDepth 100000 in
theorem stands_any (ao : Option Addr) (L cap c : Nat) (k : Int) (B : Bool) (vs : List Vn) (w : World) (hV : VRs w ao vs) (hL : L = vs.length) (hc : c ≤ L) (hB : B = true ↔ 0 < c ∧ (vs.getD (c - 1) Vn.zero).num = k) :
    Calls Tryz.prog 112 #[.slice ao L cap, .int .i64 (c : Int), .int .i64 k] w fun e w' => e = .returned (.bool B) ∧ Fr [] w w' := by
  have hLL : L ≤ 4398046511104 := by have := hV.few; omega
  by_cases h0 : c = 0
  · subst h0
    obtain rfl : B = false := by
      cases B with
      | false => rfl
      | true => have := hB.1 rfl; omega
    clear hB hV hL
    go_enter Tryz.func112, Tryz.ntmps112
    go_wp2
    go_ret
    exact ⟨rfl, Fr.refl _ _⟩
  · obtain ⟨d, rfl⟩ : ∃ d, c = d + 1 := ⟨c - 1, by omega⟩
    obtain ⟨b, off, rfl, hbl, hat⟩ := hV.lies (by omega)
    obtain ⟨c0, _, _⟩ := hat d (by omega)
    simp only [Nat.add_sub_cancel] at hB
    obtain ⟨n, hn⟩ : ∃ n, n = (vs.getD d Vn.zero).num := ⟨_, rfl⟩
    rw [← hn] at c0 hB
    have HB : Hid ((n == k) = B) := by
      show _ = _
      cases B with
      | true => simpa using (hB.1 rfl).2
      | false =>
        rw [beq_eq_false_iff_ne]
        intro e
        have := hB.2 ⟨by omega, e⟩
        cases this
    clear hB hV hL hat hn h0
    have hdL : d < L := by omega
    go_enter Tryz.func112, Tryz.ntmps112
    go_wp2
    go_ret
    rw [HB.out]
    exact ⟨rfl, Fr.refl _ _⟩
end Go.Proofs.YtomajifklajilaaGreat
/- May versions be: contract of Check; a part of a row in memory of its own: Clone, part; At and Collect. Conditions as each names them. -/
namespace Go.Proofs.YtomajifklajilaaGreat
open Go.ChangeShapes Go.WideShapes Go.ChangeAt Go.RowKit Go.Lib
set_option linter.unusedVariables false
set_option linter.unusedSimpArgs false
def lastN (vs : List Vn) (i : Nat) : Int := if i = 0 then 0 else (vs.getD (i - 1) Vn.zero).num
theorem okV_snoc {a : List Vn} {x : Vn} : okV (a ++ [x]) ↔ okV a ∧ okX x ∧ ∀ y ∈ a, y.num < x.num := by
  unfold okV Ris
  rw [List.pairwise_append]
  simp only [List.mem_append, List.mem_singleton, List.pairwise_cons, List.not_mem_nil, false_implies, implies_true, List.Pairwise.nil, and_true, true_and, forall_eq]
  constructor
  · rintro ⟨h1, h2, h3⟩
    exact ⟨⟨fun y hy => h1 y (Or.inl hy), h2⟩, h1 x (Or.inr rfl), h3⟩
  · rintro ⟨⟨h1, h2⟩, h3, h4⟩
    exact ⟨fun y hy => by rcases hy with hy | hy; (exact h1 y hy); (rw [hy]; exact h3), h2, h4⟩
theorem okV_step {vs : List Vn} {i : Nat} (h : okV (vs.take i)) (hi : i < vs.length) :
    okV (vs.take (i + 1)) ↔ lastN vs i < (vs.getD i Vn.zero).num ∧ (vs.getD i Vn.zero).num ≤ 65536 ∧ (vs.getD i Vn.zero).val.size ≤ 1024 ∧ ((vs.getD i Vn.zero).drop = true → (vs.getD i Vn.zero).val = noS) := by
  rw [vtake_snoc vs i hi, okV_snoc]
  have hg : ∀ j, j < i → (vs.take i).getD j Vn.zero = vs.getD j Vn.zero := fun j hj => by simp [List.getD, List.getElem?_take_of_lt hj]
  have hl : (vs.take i).length = i := by simp; omega
  constructor
  · rintro ⟨_, h2, h3⟩
    refine ⟨?_, h2.2.1, h2.2.2.1, h2.2.2.2⟩
    unfold lastN
    split
    · have := h2.1; omega
    · have := h3 ((vs.take i).getD (i - 1) Vn.zero) (vgetD_mem _ _ (by omega))
      rwa [hg _ (by omega)] at this
  · rintro ⟨h1, h2, h3, h4⟩
    have key : ∀ j, j < i → (vs.getD j Vn.zero).num ≤ lastN vs i := by
      intro j hj
      unfold lastN
      rw [if_neg (by omega)]
      by_cases e : j = i - 1
      · subst e; exact Int.le_refl _
      · have := ris_get h.2 (show j < i - 1 by omega) (by omega)
        rw [hg _ (by omega), hg _ (by omega)] at this
        omega
    refine ⟨h, ⟨?_, h2, h3, h4⟩, ?_⟩
    · by_cases e : i = 0
      · unfold lastN at h1
        rw [if_pos e] at h1
        omega
      · have a := (h.1 _ (vgetD_mem _ 0 (by omega))).1
        rw [hg 0 (by omega)] at a
        have b := key 0 (by omega)
        omega
    · intro y hy
      obtain ⟨j, hj, e⟩ := List.mem_iff_getElem.1 hy
      have : y = vs.getD j Vn.zero := by
        rw [← hg j (by omega), ← e, List.getD, List.getElem?_eq_getElem hj]
        rfl
      rw [this]
      have := key j (by omega)
      omega
theorem CkT.bad {vs : List Vn} {c i : Nat} (h : CkT vs c) (hb : ¬ okV (vs.take (i + 1))) : c = 1 := by
  rcases h with ⟨_, h⟩ | ⟨h, _⟩
  · exact absurd (okV_sub h (List.take_sublist _ _)) hb
  · exact h
theorem lastN_succ (vs : List Vn) (i : Nat) : lastN vs (i + 1) = (vs.getD i Vn.zero).num := by unfold lastN; rw [if_neg (by omega), Nat.add_sub_cancel]
set_option maxHeartbeats 8000000 in
set_option maxRecDepth 100000 in
theorem vcheck_any (ao : Option Addr) (L cap c : Nat) (vs : List Vn) (w : World) (hV : VRs w ao vs) (hL : L = vs.length) (hc : CkT vs c) :
    Calls Tryz.prog 92 #[.slice ao L cap] w fun e w' => e = .returned (.int .i64 (c : Int)) ∧ Fr [] w w' := by
  have HL : Hid (L = vs.length) := hL
  have HC : Hid (CkT vs c) := hc
  have HV : Hid (VRs w ao vs) := hV
  have hLL : L ≤ 4398046511104 := by have := hV.few; omega
  clear hV hL hc
  go_enter Tryz.func92, Tryz.ntmps92
  go_wp2_with fail
  go_loop [3, 8] (fun ss ii => ∃ (i : Nat) (last : Int), ss = .int .i64 last ∧ ii = .int .i64 i ∧ i ≤ L ∧ Hid (last = lastN vs i ∧ okV (vs.take i))) (fun _ ii => L - (RowKit.intOf ii).toNat)
  case atStart => exact ⟨0, 0, rfl, rfl, Nat.zero_le _, ⟨by simp [lastN], okV_sub okV_nil (by simp)⟩⟩
  case round =>
    obtain ⟨i, last, rfl, rfl, hiL, HI⟩ := hrel
    by_cases hi : i < L
    · have hi' : i < vs.length := by rw [← HL.out]; exact hi
      obtain ⟨b, off, rfl, hbl, hat⟩ := HV.out.lies (by omega)
      obtain ⟨c0, c1, c2⟩ := hat i hi'
      have hE := HV.out.each _ (vgetD_mem vs i hi')
      have hst := okV_step HI.out.2 hi'
      rw [← HI.out.1] at hst
      have hls := lastN_succ vs i
      obtain ⟨⟨n, val, drop⟩, hx⟩ : ∃ x, x = vs.getD i Vn.zero := ⟨_, rfl⟩
      rw [← hx] at c0 c1 c2 hE hst hls
      simp only at c0 c1 c2 hst hls
      have hvz : val.size ≤ 140737488355328 := hE.v
      have HS : Hid _ := hst
      have HLs : Hid (lastN vs (i + 1) = n) := hls
      clear hat hst hls hx hE
      by_cases h1 : n ≤ last
      · obtain rfl : c = 1 := HC.out.bad (i := i) (fun h => by have := (HS.out.1 h).1; omega)
        go_wp2
        go_ret
        exact ⟨rfl, Fr.refl _ _⟩
      · by_cases h2 : 65536 < n
        · obtain rfl : c = 1 := HC.out.bad (i := i) (fun h => by have := (HS.out.1 h).2.1; omega)
          have h1' : last < n := by omega
          clear h1
          go_wp2
          go_ret
          exact ⟨rfl, Fr.refl _ _⟩
        · have h1' : last < n := by omega
          have h2' : n ≤ 65536 := by omega
          clear h1 h2
          by_cases h3 : 1024 < val.size
          · obtain rfl : c = 1 := HC.out.bad (i := i) (fun h => by have := (HS.out.1 h).2.2.1; omega)
            have h3' : (1024 : Int) < val.size := by omega
            go_wp2
            go_ret
            exact ⟨rfl, Fr.refl _ _⟩
          · have h3' : (val.size : Int) ≤ 1024 := by omega
            clear h3
            cases drop with
            | false =>
              have HN : Hid (okV (vs.take (i + 1))) := HS.out.2 ⟨h1', h2', by omega, fun h => by cases h⟩
              go_wp2
              refine ⟨⟨i + 1, n, rfl, by simp, by omega, ⟨HLs.out.symm, HN.out⟩⟩, ?_⟩
              simp [RowKit.intOf]
              omega
            | true =>
              by_cases h4 : val.toList = []
              · have h5 : val.toList.isEmpty = true := by rw [h4]; rfl
                have HN : Hid (okV (vs.take (i + 1))) := HS.out.2 ⟨h1', h2', by omega, fun _ => (noS_iff _).1 ((tl_nil _).1 h4)⟩
                go_wp2
                refine ⟨⟨i + 1, n, rfl, by simp, by omega, ⟨HLs.out.symm, HN.out⟩⟩, ?_⟩
                simp [RowKit.intOf]
                omega
              · obtain rfl : c = 1 := HC.out.bad (i := i) (fun h => h4 ((tl_nil _).2 ((noS_iff _).2 ((HS.out.1 h).2.2.2 rfl))))
                have h5 : val.toList.isEmpty = false := by
                  cases hq : val.toList with
                  | nil => exact absurd hq h4
                  | cons a r => rfl
                go_wp2
                go_ret
                exact ⟨rfl, Fr.refl _ _⟩
    · obtain rfl : c = 0 := by
        have hok := HI.out.2
        rw [List.take_of_length_le (by have := HL.out; omega)] at hok
        exact HC.out.one (CkT.of hok)
      go_wp2
      go_ret
      exact ⟨rfl, Fr.refl _ _⟩
end Go.Proofs.YtomajifklajilaaGreat
