/- Contracts and plain lemmas of this claim. -/
import Derived.Test.YtembflnhhfliaaaGreatDoorGp4
import Derived.Deep.Slices
import Derived.SizedLaws
import Derived.Deep.RegionWith
import Derived.Deep.LoopGhost
import Derived.Laws.StructEq
import Derived.Deep.QuietTactic
import Derived.BigQuiet
set_option linter.unusedSimpArgs false
set_option linter.unusedVariables false
namespace Go.Proofs.YtembflnhhfliaaaGreatDoor
def sh (c : Nat) : Nat := if c % 2 = 1 then (c / 2) ^^^ 2197175160 else c / 2
def shN : Nat -> Nat -> Nat
  | 0, c => c
  | n + 1, c => shN n (sh c)
def zbv (c x : Nat) : Nat := shN 8 (c ^^^ x)
def runB (c : Nat) (xs : List Nat) : Nat := xs.foldl zbv c
def more (s : Nat) (xs : List Nat) : Nat := 4294967295 - runB (4294967295 - s) xs
theorem zxk (c : Nat) (h : c < 4294967296) : sh c < 4294967296 := by
  unfold sh
  split
  · exact Nat.xor_lt_two_pow (n := 32) (by omega) (by decide)
  · omega
theorem zvp (a b : Nat) : (a ^^^ b) / 2 = a / 2 ^^^ b / 2 := by
  apply Nat.eq_of_testBit_eq
  intro i
  simp [Nat.testBit_div_two, Nat.testBit_xor]
theorem zvq (a b : Nat) : (a ^^^ b) % 2 = (a % 2 + b % 2) % 2 := by
  have h : (a ^^^ b).testBit 0 = (a.testBit 0 ^^ b.testBit 0) := Nat.testBit_xor a b 0
  simp only [Nat.testBit_zero] at h
  have h1 := Nat.mod_two_eq_zero_or_one a
  have h2 := Nat.mod_two_eq_zero_or_one b
  have h3 := Nat.mod_two_eq_zero_or_one (a ^^^ b)
  rcases h1 with h1 | h1 <;> rcases h2 with h2 | h2 <;> rcases h3 with h3 | h3 <;> simp_all
theorem zyy (a b : Nat) : sh (a ^^^ b) = sh a ^^^ sh b := by
  unfold sh
  have hm := zvq a b
  have hd := zvp a b
  rcases Nat.mod_two_eq_zero_or_one a with h1 | h1 <;> rcases Nat.mod_two_eq_zero_or_one b with h2 | h2 <;> rw [h1, h2] at hm <;> simp [h1, h2, hm, hd]
  · rw [Nat.xor_assoc]
  · rw [Nat.xor_assoc, Nat.xor_assoc, Nat.xor_comm (b / 2) 2197175160]
  · rw [Nat.xor_assoc, <- Nat.xor_assoc 2197175160 (b / 2) 2197175160, Nat.xor_comm 2197175160 (b / 2), Nat.xor_assoc (b / 2), Nat.xor_self, Nat.xor_zero]
theorem ztg (k : Nat) : sh (2 * k) = k := by
  unfold sh
  rw [if_neg (by omega)]
  omega
theorem zjj (n c : Nat) (h : c < 4294967296) : shN n c < 4294967296 := by
  induction n generalizing c with
  | zero => exact h
  | succ n ih => exact ih _ (zxk c h)
theorem zhy (n a b : Nat) : shN n (a ^^^ b) = shN n a ^^^ shN n b := by
  induction n generalizing a b with
  | zero => rfl
  | succ n ih => rw [shN, zyy, ih]; rfl
theorem zhz (m n c : Nat) : shN (m + n) c = shN n (shN m c) := by
  induction m generalizing c with
  | zero => simp [shN]
  | succ m ih => rw [show m + 1 + n = (m + n) + 1 from by omega, shN, ih]; rfl
theorem zgl (n c : Nat) : shN (n + 1) c = sh (shN n c) := by
  rw [zhz n 1 c]; rfl
theorem zpr (i k : Nat) : shN i (2 ^ i * k) = k := by
  induction i generalizing k with
  | zero => simp [shN]
  | succ i ih =>
    rw [shN, show 2 ^ (i + 1) * k = 2 * (2 ^ i * k) from by rw [Nat.pow_succ]; simp only [Nat.mul_comm, Nat.mul_left_comm], ztg, ih]
theorem zps (i n : Nat) (h : i <= n) : shN n (2 ^ i) = shN (n - i) 1 := by
  have e : n = i + (n - i) := by omega
  have := zhz i (n - i) (2 ^ i * 1)
  rw [zpr, Nat.mul_one, <- e] at this
  exact this
theorem zmu (c x : Nat) (h : c < 4294967296) (hx : x < 256) : zbv c x < 4294967296 :=
  zjj _ _ (Nat.xor_lt_two_pow (n := 32) h (by omega))
theorem zlh (c : Nat) (xs : List Nat) (x : Nat) : runB c (xs ++ [x]) = zbv (runB c xs) x := by simp [runB]
theorem zth (c d x : Nat) : zbv (c ^^^ d) x = zbv c x ^^^ shN 8 d := by
  unfold zbv
  rw [<- zhy, Nat.xor_assoc, Nat.xor_comm d x, <- Nat.xor_assoc]
theorem zvr (c d : Nat) (xs : List Nat) : runB (c ^^^ d) xs = runB c xs ^^^ shN (8 * xs.length) d := by
  induction xs generalizing c d with
  | nil => rfl
  | cons x xs ih =>
    show runB (zbv (c ^^^ d) x) xs = runB (zbv c x) xs ^^^ _
    rw [zth, ih, <- zhz]
    congr 2
    simp [Nat.mul_add, Nat.add_comm]
theorem zti (c : Nat) (xs : List Nat) (j m : Nat) (hj : j < xs.length) :
    runB c (xs.set j (xs.getD j 0 ^^^ m)) = runB c xs ^^^ shN (8 * (xs.length - j)) m := by
  induction xs generalizing c j with
  | nil => simp at hj
  | cons x xs ih =>
    cases j with
    | zero =>
      show runB (zbv c (x ^^^ m)) xs = runB (zbv c x) xs ^^^ _
      have e : zbv c (x ^^^ m) = zbv c x ^^^ shN 8 m := by
        unfold zbv
        rw [<- zhy, Nat.xor_assoc]
      rw [e, zvr, <- zhz]
      congr 2
      simp [Nat.mul_add, Nat.add_comm]
    | succ j =>
      have := ih (zbv c x) j (by simpa using hj)
      show runB (zbv c x) (xs.set j (xs.getD j 0 ^^^ m)) = _
      rw [this]
      simp [runB]
theorem zvs (c : Nat) (xs : List Nat) (a i : Nat) (h : a + i < 8 * xs.length) :
    runB c (xs.set ((a + i) / 8) (xs.getD ((a + i) / 8) 0 ^^^ 2 ^ ((a + i) % 8))) = runB c xs ^^^ shN (8 * xs.length - a) (2 ^ i) := by
  rw [zti c xs _ _ (by omega), zps _ _ (by omega), zps i _ (by omega)]
  congr 2
  omega
structure Turned (xs ys : List Nat) (a i m : Nat) : Prop where
  len : ys.length = xs.length
  low : ∀ y ∈ ys, y < 256
  most : m < 2 ^ i
  sum : ∀ c, runB c ys = runB c xs ^^^ shN (8 * xs.length - a) m
theorem Turned.stay {xs ys : List Nat} {a i m : Nat} (h : Turned xs ys a i m) : Turned xs ys a (i + 1) m :=
  ⟨h.len, h.low, by have := h.most; rw [Nat.pow_succ]; omega, h.sum⟩
theorem zvt (i m : Nat) (h : m < 2 ^ i) : m ^^^ 2 ^ i = m + 2 ^ i := by
  have := Nat.two_pow_add_eq_or_of_lt (b := m) (i := i) h 1
  rw [Nat.mul_one] at this
  rw [Nat.add_comm m, this]
  apply Nat.eq_of_testBit_eq
  intro k
  rw [Nat.testBit_xor, Nat.testBit_or]
  by_cases hk : k < i
  · simp [show i ≠ k by omega]
  · rw [Nat.testBit_lt_two_pow (Nat.lt_of_lt_of_le h (Nat.pow_le_pow_right (by omega) (by omega)))]
    simp
theorem Turned.turn {xs ys : List Nat} {a i m : Nat} (h : Turned xs ys a i m) (hb : a + i < 8 * xs.length) :
    Turned xs (ys.set ((a + i) / 8) (ys.getD ((a + i) / 8) 0 ^^^ 2 ^ ((a + i) % 8))) a (i + 1) (m + 2 ^ i) := by
  have hl := h.len
  refine ⟨by simp [hl], ?_, by have := h.most; rw [Nat.pow_succ]; omega, fun c => ?_⟩
  · intro y hy
    rcases List.mem_or_eq_of_mem_set hy with hy | rfl
    · exact h.low y hy
    · refine Nat.xor_lt_two_pow (n := 8) ?_ ?_
      · have hj : (a + i) / 8 < ys.length := by omega
        have : ys.getD ((a + i) / 8) 0 = ys[(a + i) / 8] := by simp [List.getD, hj]
        rw [this]
        exact h.low _ (List.getElem_mem _)
      · exact Nat.pow_lt_pow_right (by omega) (by omega)
  · rw [zvs c ys a i (by omega), h.sum, hl, Nat.xor_assoc, <- zhy, zvt i m h.most]
theorem zqv (c x : Nat) : zbv c x = (c / 256) ^^^ shN 8 ((c % 256) ^^^ x) := by
  have e : c = (2 ^ 8 * (c / 256)) ^^^ (c % 256) := by
    apply Nat.eq_of_testBit_eq
    intro i
    rw [Nat.testBit_xor, Nat.testBit_two_pow_mul, show (256 : Nat) = 2 ^ 8 from rfl, Nat.testBit_mod_two_pow, Nat.testBit_div_two_pow]
    by_cases hi : 8 <= i
    · simp [hi, show ¬ i < 8 by omega]
    · simp [hi, show i < 8 by omega]
  unfold zbv
  conv => lhs; rw [e]
  rw [Nat.xor_assoc, zhy, zpr]
theorem zdk (s : Nat) (xs : List Nat) : more s xs < 4294967296 := by unfold more; omega
def T1 : Nat -> List Nat
  | 0 => List.replicate 256 0
  | i + 1 => (T1 i).set (128 / 2 ^ i) (shN (i + 1) 1)
def T2 : Nat -> List Nat
  | 0 => T1 8
  | i + 1 => (T2 i).set i ((T2 i).getD (i &&& (i - 1)) 0 ^^^ (T2 i).getD (i - (i &&& (i - 1))) 0)
theorem zdb (i : Nat) : (T1 i).length = 256 := by
  induction i with
  | zero => exact List.length_replicate
  | succ i ih => rw [T1, List.length_set, ih]
theorem zhc (i : Nat) : (T2 i).length = 256 := by
  induction i with
  | zero => exact zdb 8
  | succ i ih => rw [T2, List.length_set, ih]
def tab : List Nat := (List.range 256).map (shN 8)
def t2go : Nat -> Nat -> List Nat -> List Nat
  | 0, _, l => l
  | n + 1, i, l => t2go n (i + 1) (l.set i (l.getD (i &&& (i - 1)) 0 ^^^ l.getD (i - (i &&& (i - 1))) 0))
theorem zxu (n i : Nat) : t2go n i (T2 i) = T2 (i + n) := by
  induction n generalizing i with
  | zero => rfl
  | succ n ih =>
    show t2go n (i + 1) (T2 (i + 1)) = _
    rw [ih, show i + 1 + n = i + (n + 1) from by omega]
theorem zxv : t2go 256 0 (T1 8) = tab := by decide +kernel
theorem zjk : T2 256 = tab := by rw [<- zxv, show T1 8 = T2 0 from rfl, zxu]
theorem zxw (v : Nat) (h : v < 256) : tab.getD v 0 = shN 8 v := by simp [tab, List.getD, h]
open Go.ChangeAt Go.ChangeShapes Go.Lib Go.RowKit Go.WideShapes
def noS : ByteArray := ⟨#[]⟩
theorem zfr (s : ByteArray) : s.size = 0 ↔ s = noS := by
  constructor
  · intro h
    cases s with
    | mk d =>
      have hd : d.size = 0 := h
      have : d = #[] := Array.eq_empty_of_size_eq_zero hd
      rw [this]
      rfl
  · rintro rfl
    rfl
theorem zeo (s : ByteArray) : s.toList = [] ↔ s.size = 0 := by
  rw [ByteArray.toList_eq]
  constructor
  · intro h
    have h2 := congrArg List.length h
    simpa [Array.length_toList] using h2
  · intro h
    have h2 : s.data.toList.length = 0 := by rw [Array.length_toList]; exact h
    exact List.eq_nil_of_length_eq_zero h2
theorem zyz (a b : ByteArray) : a.toList = b.toList ↔ a = b := by
  rw [ByteArray.toList_eq, ByteArray.toList_eq]
  constructor
  · intro h
    exact bytes_inj h
  · rintro rfl
    rfl
structure Vn where
  num : Int
  val : ByteArray
  drop : Bool
def Vn.zero : Vn := ⟨0, noS, false⟩
def vnC (x : Vn) : List Value := [.int .i64 x.num, .string x.val, .bool x.drop]
def vnsC : List Vn -> List Value
  | [] => []
  | x :: r => vnC x ++ vnsC r
theorem zcs (a b : List Vn) : vnsC (a ++ b) = vnsC a ++ vnsC b := by
  induction a with
  | nil => rfl
  | cons v r ih => simp [vnsC, ih]
theorem zce (a : List Vn) : (vnsC a).length = a.length * 3 := by
  induction a with
  | nil => rfl
  | cons v r ih => simp only [vnsC, vnC, List.length_append, List.length_cons, List.length_nil, ih]; omega
theorem zgm (a : List Vn) (j c : Nat) (hj : j < a.length) (hc : c < 3) : (vnsC a)[j * 3 + c]? = (vnC (a.getD j Vn.zero))[c]? := by
  induction a generalizing j with
  | nil => simp at hj
  | cons v r ih =>
    cases j with
    | zero =>
      simp only [vnsC, Nat.zero_mul, Nat.zero_add]
      rw [List.getElem?_append_left (by simp [vnC]; omega)]
      simp
    | succ j =>
      simp only [vnsC]
      rw [List.getElem?_append_right (by simp [vnC]; omega)]
      have e : (j + 1) * 3 + c - (vnC v).length = j * 3 + c := by simp [vnC]; omega
      rw [e, ih j (by simpa using hj)]
      simp
theorem zmv (a : List Vn) : ∀ u ∈ vnsC a, u.oneCell' = true := by
  induction a with
  | nil => intro u hu; simp [vnsC] at hu
  | cons v r ih =>
    intro u hu
    rcases List.mem_append.1 hu with h | h
    · simp only [vnC, List.mem_cons, List.not_mem_nil, or_false] at h
      rcases h with rfl | rfl | rfl <;> rfl
    · exact ih u h
theorem zbu (vs : List Vn) (i : Nat) (h : i < vs.length) : vs.getD i Vn.zero ∈ vs := by simp [List.getD, h]
theorem zcf (vs : List Vn) (i : Nat) (h : i < vs.length) : vs.take (i + 1) = vs.take i ++ [vs.getD i Vn.zero] := by
  rw [List.take_add_one]
  simp [List.getD, h]
structure VAt (w : World) (b o : Nat) (x : Vn) : Prop where
  c0 : w.cell? ⟨b, o, none⟩ = some (.int .i64 x.num)
  c1 : w.cell? ⟨b, o + 1, none⟩ = some (.string x.val)
  c2 : w.cell? ⟨b, o + 2, none⟩ = some (.bool x.drop)
structure VEach (x : Vn) : Prop where
  v : x.val.size <= 140737488355328
  lo : -9223372036854775808 <= x.num
  hi : x.num <= 9223372036854775807
structure VRs (w : World) (ao : Option Addr) (vs : List Vn) : Prop where
  lies : 0 < vs.length -> ∃ b off, ao = some ⟨b, off, none⟩ /\ b < w.heap.size /\ ∀ i, i < vs.length -> VAt w b (off + i * 3) (vs.getD i Vn.zero)
  few : vs.length <= 4398046511104
  each : ∀ x ∈ vs, VEach x
theorem VRs.nil (w : World) (ao : Option Addr) : VRs w ao [] := ⟨fun h => by simp at h, by simp, by simp⟩
theorem VRs.keepS {S : List Nat} {w w' : World} {ao : Option Addr} {vs : List Vn} (h : VRs w ao vs) (hf : Fr S w w') (hn : 0 < vs.length -> ∀ a, ao = some a -> a.block ∉ S) : VRs w' ao vs := by
  refine ⟨fun h0 => ?_, h.few, h.each⟩
  obtain ⟨b, off, e, hb, hc⟩ := h.lies h0
  have hk : ∀ o, w'.cell? ⟨b, o, none⟩ = w.cell? ⟨b, o, none⟩ := fun o => World.cell?_of_block (hf.block b hb (hn h0 _ e))
  exact ⟨b, off, e, Nat.lt_of_lt_of_le hb hf.size, fun i hi => ⟨(hk _).trans (hc i hi).c0, (hk _).trans (hc i hi).c1, (hk _).trans (hc i hi).c2⟩⟩
theorem VRs.keep {w w' : World} {ao : Option Addr} {vs : List Vn} (h : VRs w ao vs) (hf : Fr [] w w') : VRs w' ao vs := h.keepS hf (by simp)
theorem VRs.cells {w : World} {ao : Option Addr} {vs : List Vn} (h : VRs w ao vs) {j : Nat} {u : Value} (hu : (vnsC vs)[j]? = some u) : ∃ b off, ao = some ⟨b, off, none⟩ /\ w.cell? ⟨b, off + j, none⟩ = some u := by
  have hj := (List.getElem?_eq_some_iff.1 hu).1
  rw [zce] at hj
  obtain ⟨b, off, e, hb, hc⟩ := h.lies (by omega)
  refine ⟨b, off, e, ?_⟩
  have hi : j / 3 < vs.length := by omega
  have hm : j % 3 < 3 := Nat.mod_lt _ (by omega)
  have hg := zgm vs (j / 3) (j % 3) hi hm
  have e3 : j / 3 * 3 + j % 3 = j := by omega
  rw [e3, hu] at hg
  have hA := hc (j / 3) hi
  rw [show off + j = off + j / 3 * 3 + j % 3 by omega, hg]
  have h3 : j % 3 = 0 \/ j % 3 = 1 \/ j % 3 = 2 := by omega
  rcases h3 with h3 | h3 | h3 <;> rw [h3]
  · exact hA.c0
  · exact hA.c1
  · exact hA.c2
theorem VRs.of_cells {w : World} {b off : Nat} {vs : List Vn} (hb : 0 < vs.length -> b < w.heap.size) (h : ∀ j u, (vnsC vs)[j]? = some u -> w.cell? ⟨b, off + j, none⟩ = some u) (hl : vs.length <= 4398046511104) (he : ∀ x ∈ vs, VEach x) : VRs w (some ⟨b, off, none⟩) vs := by
  refine ⟨fun h0 => ⟨b, off, rfl, hb h0, fun i hi => ?_⟩, hl, he⟩
  have key : ∀ c u, c < 3 -> (vnC (vs.getD i Vn.zero))[c]? = some u -> w.cell? ⟨b, off + i * 3 + c, none⟩ = some u := by
    intro c u hc hu
    rw [<- zgm vs i c hi hc] at hu
    rw [show off + i * 3 + c = off + (i * 3 + c) by omega]
    exact h _ _ hu
  exact ⟨key 0 _ (by omega) rfl, key 1 _ (by omega) rfl, key 2 _ (by omega) rfl⟩
theorem VRs.of_own {w : World} {base : Nat} {ro : Option Addr} {N rc : Nat} {vs : List Vn} (h : w.ownsRow base 136 3 (.slice ro N rc) N (vnsC vs)) (hN : N = vs.length) (hl : vs.length <= 4398046511104) (he : ∀ x ∈ vs, VEach x) : VRs w ro vs := by
  rcases h.2 with ⟨_, h1⟩ | ⟨g, cap, cur, hv, _, hg, _, _, _, ht⟩
  · have : vs = [] := List.eq_nil_of_length_eq_zero (by omega)
    subst this
    exact VRs.nil _ _
  · cases hv
    refine VRs.of_cells (fun _ => lt_of_block hg) (fun j u hu => ?_) hl he
    have hj := (List.getElem?_eq_some_iff.1 hu).1
    rw [zce] at hj
    rw [cell_of_row _ _ _ _ _ _ hg, Nat.zero_add, <- Array.getElem?_toList, <- hu, <- ht, List.getElem?_take_of_lt (by omega)]
theorem VRs.part {w : World} {ao : Option Addr} {vs : List Vn} (h : VRs w ao vs) (i j : Nat) (hij : i <= j) (hj : j <= vs.length) : VRs w (ao.map (·.add (i * 3))) ((vs.drop i).take (j - i)) := by
  refine ⟨fun h0 => ?_, ?_, fun x hx => h.each x (List.mem_of_mem_drop (List.mem_of_mem_take hx))⟩
  · simp only [List.length_take, List.length_drop] at h0
    obtain ⟨b, off, e, hb, hc⟩ := h.lies (by omega)
    refine ⟨b, off + i * 3, by rw [e]; simp [Addr.add_lit], hb, fun k hk => ?_⟩
    simp only [List.length_take, List.length_drop] at hk
    have e2 : ((vs.drop i).take (j - i)).getD k Vn.zero = vs.getD (i + k) Vn.zero := by
      simp only [List.getD, List.getElem?_take_of_lt (show k < j - i by omega), List.getElem?_drop]
    rw [e2, show off + i * 3 + k * 3 = off + (i + k) * 3 by omega]
    exact hc (i + k) (by omega)
  · have := h.few
    simp only [List.length_take, List.length_drop]
    omega
def zed (ro : Option Addr) (rc K : Nat) : Option Addr := if rc = K then ro else ro.map (·.add (K * 3))
theorem VRs.from {w : World} {ao : Option Addr} {vs : List Vn} (h : VRs w ao vs) (rc i j : Nat) (hij : i <= j) (hj : j <= vs.length) (hrc : vs.length <= rc) : VRs w (zed ao rc i) ((vs.drop i).take (j - i)) := by
  unfold zed
  split
  · have : (vs.drop i).take (j - i) = [] := List.eq_nil_of_length_eq_zero (by simp only [List.length_take, List.length_drop]; omega)
    rw [this]
    exact VRs.nil _ _
  · exact h.part i j hij hj
section
variable {H : Type} {enc : TypeId × Value -> H}
theorem Tryz.undVns' : Tryz.prog.underlying 132 = some (.slice 136) := by kernel_rfl
theorem Tryz.vundI : Tryz.prog.underlying 3 = some (.int .i64) := by kernel_rfl
theorem Tryz.vundBl : Tryz.prog.underlying 4 = some .bool := by kernel_rfl
end
theorem Tryz.undVn : Tryz.prog.underlying 136 = some (.struct (Tryz.prog.fieldsOf 136)) := by kernel_rfl
theorem Tryz.heldVn : Tryz.prog.stoodInHeld 136 = false := by kernel_rfl
theorem Tryz.guardVn : Tryz.prog.eqGuardType Tryz.prog.depth 136 = false := by kernel_rfl
theorem Tryz.fieldsVn : (Tryz.prog.fieldsOf 136).toList.map (fun f => (f.name == "_", f.type, f.offset)) = [(false, 3, 0), (false, 9, 1), (false, 4, 2)] := by kernel_rfl
theorem zli (w : World) (cs : Array Value) (off : Nat) (v : Value) (h : cs[off]? = some v) : (part 9 cs off).run Tryz.prog w = .ok v w := by
  simp [part, isAgg, run_underlying Tryz.undStr, h, Sem.run_bind]
theorem zjl (w : World) (cs : Array Value) (off : Nat) (v : Value) (h : cs[off]? = some v) : (part 4 cs off).run Tryz.prog w = .ok v w := by
  simp [part, isAgg, run_underlying Tryz.vundBl, h, Sem.run_bind]
theorem zlj (w : World) (cs : Array Value) (off : Nat) (v : Value) (h : cs[off]? = some v) : (part 3 cs off).run Tryz.prog w = .ok v w := by
  simp [part, isAgg, run_underlying Tryz.vundI, h, Sem.run_bind]
theorem zxx (w : World) (a b : ByteArray) : (Op.equalIn 9999 9 (.string a) (.string b)).run Tryz.prog w = .ok (a.toList == b.toList) w := run_equalIn_string w 9998 _ a b Tryz.undStr
theorem zvu (w : World) (a b : Bool) : (Op.equalIn 9999 4 (.bool a) (.bool b)).run Tryz.prog w = .ok (a == b) w := run_equalIn_bool w 9998 _ a b Tryz.vundBl
theorem zxy (w : World) (a b : Int) : (Op.equalIn 9999 3 (.int .i64 a) (.int .i64 b)).run Tryz.prog w = .ok (a == b) w := run_equalIn_int w 9998 _ .i64 .i64 a b Tryz.vundI
theorem zfe {P : Program} {w : World} {A B : Sem Value} {E : Value -> Value -> Sem Bool} {K : Sem Bool} {a b : Value} {r : Bool} (hA : A.run P w = .ok a w) (hB : B.run P w = .ok b w) (hE : (E a b).run P w = .ok r w) :
    (do let a <- A; let b <- B; let r <- E a b; if (!r) = true then pure false else K : Sem Bool).run P w = if r = true then K.run P w else .ok false w := by
  simp only [Sem.run_bind, hA, hB, hE, Result.andThen_ok]
  cases r <;> simp
set_option maxRecDepth 100000 in
theorem ztj (w : World) (k1 k2 : Int) (v1 v2 : ByteArray) (p1 p2 : Bool) : (Op.equalIn 10000 136 (.agg #[.int .i64 k1, .string v1, .bool p1]) (.agg #[.int .i64 k2, .string v2, .bool p2])).run Tryz.prog w = .ok (k1 == k2 && (v1.toList == v2.toList && p1 == p2)) w := by
  rw [run_equalIn_struct w 9999 _ _ _ Tryz.undVn Tryz.heldVn]
  have hF := Tryz.fieldsVn
  obtain ⟨l, hl⟩ : ∃ l, l = (Tryz.prog.fieldsOf 136).toList := ⟨_, rfl⟩
  rw [<- hl] at hF ⊢
  match l, hF with
  | [f0, f1, f2], hF =>
    simp only [List.map_cons, List.map_nil, List.cons.injEq, Prod.mk.injEq, and_true] at hF
    obtain ⟨⟨n0, t0, o0⟩, ⟨n1, t1, o1⟩, ⟨n2, t2, o2⟩⟩ := hF
    have m0 : f0.name ≠ "_" := by simpa using n0
    have m1 : f1.name ≠ "_" := by simpa using n1
    have m2 : f2.name ≠ "_" := by simpa using n2
    simp only [Op.eqFields, if_pos m0, if_pos m1, if_pos m2, t0, t1, t2, o0, o1, o2]
    rw [zfe (zlj w _ 0 _ rfl) (zlj w _ 0 _ rfl) (zxy w k1 k2)]
    rw [zfe (zli w _ 1 _ rfl) (zli w _ 1 _ rfl) (zxx w v1 v2)]
    rw [zfe (zjl w _ 2 _ rfl) (zjl w _ 2 _ rfl) (zvu w p1 p2)]
    cases (k1 == k2) <;> cases (v1.toList == v2.toList) <;> cases (p1 == p2) <;> simp
def zia (x y : Vn) : Bool := x.num == y.num && (x.val.toList == y.val.toList && x.drop == y.drop)
theorem zdu (x y : Vn) : zia x y = true ↔ x = y := by
  obtain ⟨k1, v1, p1⟩ := x
  obtain ⟨k2, v2, p2⟩ := y
  simp only [zia, Bool.and_eq_true, beq_iff_eq, zyz, Vn.mk.injEq]
theorem zmk (w : World) (x y : Vn) : (Op.equalIn 10000 136 (.agg #[.int .i64 x.num, .string x.val, .bool x.drop]) (.agg #[.int .i64 y.num, .string y.val, .bool y.drop])).run Tryz.prog w = .ok (zia x y) w := ztj w _ _ _ _ _ _
def okX (x : Vn) : Prop := 1 <= x.num /\ x.num <= 65536 /\ x.val.size <= 1024 /\ (x.drop = true -> x.val = noS)
def Ris (vs : List Vn) : Prop := vs.Pairwise fun a b => a.num < b.num
def okV (vs : List Vn) : Prop := (∀ x ∈ vs, okX x) /\ Ris vs
def CkT (vs : List Vn) (c : Nat) : Prop := (c = 0 /\ okV vs) \/ (c = 1 /\ ¬ okV vs)
theorem CkT.ex (vs : List Vn) : ∃ c, CkT vs c := by
  by_cases h : okV vs
  · exact ⟨0, Or.inl ⟨rfl, h⟩⟩
  · exact ⟨1, Or.inr ⟨rfl, h⟩⟩
theorem CkT.ok {vs : List Vn} (h : CkT vs 0) : okV vs := by
  rcases h with ⟨_, h⟩ | ⟨h, _⟩
  · exact h
  · cases h
theorem CkT.of {vs : List Vn} (h : okV vs) : CkT vs 0 := Or.inl ⟨rfl, h⟩
theorem CkT.one {vs : List Vn} {a b : Nat} (h : CkT vs a) (k : CkT vs b) : a = b := by
  rcases h with ⟨rfl, h⟩ | ⟨rfl, h⟩ <;> rcases k with ⟨rfl, k⟩ | ⟨rfl, k⟩
  · rfl
  · exact absurd h k
  · exact absurd k h
  · rfl
theorem zib {vs : List Vn} (h : Ris vs) {i j : Nat} (hij : i < j) (hj : j < vs.length) : (vs.getD i Vn.zero).num < (vs.getD j Vn.zero).num := by
  have := List.pairwise_iff_getElem.1 h i j (by omega) hj hij
  simpa [List.getD, hj, show i < vs.length by omega] using this
theorem zza {vs : List Vn} (h : okV vs) : ∀ i, i < vs.length -> (i : Int) + 1 <= (vs.getD i Vn.zero).num := by
  intro i
  induction i with
  | zero => intro hi; have := (h.1 _ (zbu vs 0 hi)).1; omega
  | succ i ih =>
    intro hi
    have h1 := ih (by omega)
    have h2 := zib h.2 (show i < i + 1 by omega) hi
    omega
theorem zkt {vs : List Vn} (h : okV vs) : vs.length <= 65536 := by
  by_cases h0 : vs.length = 0
  · omega
  · have h1 := zza h (vs.length - 1) (by omega)
    have h2 := (h.1 _ (zbu vs (vs.length - 1) (by omega))).2.1
    omega
theorem zku : okV [] := ⟨by simp, List.Pairwise.nil⟩
theorem zkv {vs us : List Vn} (h : okV vs) (hs : us.Sublist vs) : okV us := ⟨fun x hx => h.1 x (hs.subset hx), h.2.sublist hs⟩
theorem zlk (vs : List Vn) (k j : Nat) : (vs.drop k).getD j Vn.zero = vs.getD (k + j) Vn.zero := by simp [List.getD, List.getElem?_drop]
theorem zvv {x : Vn} (h : okX x) : VEach x := ⟨by have := h.2.2.1; omega, by have := h.1; omega, by have := h.2.1; omega⟩
structure UpTo (vs : List Vn) (k : Int) (c : Nat) : Prop where
  le : c <= vs.length
  lo : ∀ j, j < c -> (vs.getD j Vn.zero).num <= k
  hi : ∀ j, c <= j -> j < vs.length -> k < (vs.getD j Vn.zero).num
theorem UpTo.one {vs : List Vn} {k : Int} {a b : Nat} (h : UpTo vs k a) (g : UpTo vs k b) : a = b := by
  rcases Nat.lt_trichotomy a b with h1 | h1 | h1
  · have := h.hi a (Nat.le_refl _) (by have := g.le; omega)
    have := g.lo a h1
    omega
  · exact h1
  · have := g.hi b (Nat.le_refl _) (by have := h.le; omega)
    have := h.lo b h1
    omega
theorem UpTo.ex {vs : List Vn} (h : Ris vs) (k : Int) : ∃ c, UpTo vs k c := by
  induction vs with
  | nil => exact ⟨0, Nat.le_refl _, fun j hj => by omega, fun j _ hj => by simp at hj⟩
  | cons x r ih =>
    obtain ⟨c, hc⟩ := ih (List.Pairwise.of_cons h)
    by_cases hx : x.num <= k
    · refine ⟨c + 1, by have := hc.le; simp; omega, fun j hj => ?_, fun j h1 h2 => ?_⟩
      · cases j with
        | zero => simpa using hx
        | succ j => simpa using hc.lo j (by omega)
      · cases j with
        | zero => omega
        | succ j => simpa using hc.hi j (by omega) (by simpa using h2)
    · refine ⟨0, Nat.zero_le _, fun j hj => by omega, fun j _ h2 => ?_⟩
      cases j with
      | zero => simp; omega
      | succ j =>
        have := zib h (show 0 < j + 1 by omega) h2
        simp only [List.getD_cons_zero] at this
        omega
theorem UpTo.mono {vs : List Vn} {k l : Int} {a b : Nat} (h : UpTo vs k a) (g : UpTo vs l b) (hkl : k <= l) : a <= b := by
  by_cases h1 : a <= b
  · exact h1
  · have := g.hi b (Nat.le_refl _) (by have := h.le; omega)
    have := h.lo b (by omega)
    omega
theorem UpTo.drop {vs : List Vn} {k : Int} {c d : Nat} (h : UpTo vs k c) (hd : d <= c) : UpTo (vs.drop d) k (c - d) := by
  refine ⟨by have := h.le; simp; omega, fun j hj => ?_, fun j h1 h2 => ?_⟩
  · rw [zlk]; exact h.lo _ (by omega)
  · rw [zlk]; exact h.hi _ (by omega) (by simp at h2; omega)
theorem UpTo.count {vs : List Vn} (h : Ris vs) (k : Int) : UpTo vs k ((List.range vs.length).countP fun i => !decide (k < (vs.getD i Vn.zero).num)) := by
  obtain ⟨c, hc⟩ := UpTo.ex h k
  have e : (List.range vs.length).countP (fun i => !decide (k < (vs.getD i Vn.zero).num)) = c := by
    have hle := hc.le
    have e1 : List.range vs.length = List.range c ++ (List.range (vs.length - c)).map (c + ·) := by
      rw [<- List.range_add]
      congr 1
      omega
    rw [e1, List.countP_append]
    have a1 : (List.range c).countP (fun i => !decide (k < (vs.getD i Vn.zero).num)) = c := by
      rw [List.countP_eq_length.2]
      · simp
      · intro j hj
        have := hc.lo j (by simpa using hj)
        rw [Bool.not_eq_true', decide_eq_false_iff_not]
        omega
    have a2 : ((List.range (vs.length - c)).map (c + ·)).countP (fun i => !decide (k < (vs.getD i Vn.zero).num)) = 0 := by
      rw [List.countP_eq_zero]
      intro j hj
      obtain ⟨i, hi, rfl⟩ := List.mem_map.1 hj
      have := hc.hi (c + i) (by omega) (by simp at hi; omega)
      rw [Bool.not_eq_true', decide_eq_false_iff_not]
      omega
    omega
  rw [e]
  exact hc
theorem Fr.cell {w w' : World} (h : Fr [] w w') {a : Addr} {v : Value} (hc : w.cell? a = some v) : w'.cell? a = some v := by
  have hb := World.block_lt_of_cell? _ _ hc
  rw [World.cell?_of_block (h.block a.block hb (by simp))]
  exact hc
end Go.Proofs.YtembflnhhfliaaaGreatDoor
