/- Texts of this claim laid together, one behind the other: contracts and plain lemmas; conditions as each names them. -/
import Derived.Test.YtdojhkgnnbdfkaaGreatGp18
import Derived.Test.YtdojhkgnnbdfkaaGreatGp6
import Derived.Test.YtdojhkgnnbdfkaaGreatGp5
import Derived.ShutString
import Derived.ChangeOld
import Derived.Below
import Derived.Lib.AppendZeros
import Derived.Deep.RegionLaw
import Derived.Deep.RegionWith
import Derived.Deep.RegionHeld3
import Derived.Deep.CutRange
/- Slices of bytes that came in, rows of bytes of one's own, appends and copies of them, and the statements' own helpers TwinBytes, LeftBytes, SameBytes. Conditions as each lemma names them. -/
namespace Go.Proofs.YtdojhkgnnbdfkaaGreat
open Go.ChangeShapes Go.WideShapes Go.ChangeAt Go.RowKit Go.Lib

section
variable {P : Program} (w : World)
theorem moved_app0 (t ty e : TypeId) (i : TypeInfo) (z : Value) (size bytes : Nat) (ht : P.underlying t = some (.slice e)) (hi : P.info? e = some i) (hz : i.zero = some z)
    (hsize : i.size = size) (hby : i.bytes = bytes)
    (v : Value) (n : Nat) (xs : List Value) (hown : w.ownsRow 0 e size v n xs)
    (a : Addr) (m c : Nat) (news : List Value) (hl : news.length = m * size) (hnews : ∀ j u, news[j]? = some u → w.cell? (a.add j) = some u) (h1 : ∀ u ∈ news, u.oneCell' = true)
    (h63 : n + m ≤ maxLen) (hbytes : (n + m) * bytes ≤ 140737488355328) (v' : Value) (w' : World)
    (hr : (Builtin.append_ #[t, t] ty #[v, .slice (some a) m c]).run P w = .ok v' w') (hnil : v' = .slice none 0 0 ↔ v = .slice none 0 0 ∧ m = 0) : Moved w.heap.size v v' := by
  by_cases hm : 0 < m
  · exact moved_app (P := P) w t ty e i z size bytes ht hi hz hsize hby v n xs hown a m c news hm hl hnews h1 h63 hbytes v' w' hr
  · obtain rfl : m = 0 := by omega
    subst hsize
    rcases hown.2 with ⟨rfl, rfl⟩ | ⟨g, cap, cur, rfl, hbg, hg, hnc, hcm, hcs, htake⟩
    · rw [hnil.2 ⟨rfl, rfl⟩]
      exact Moved.refl _ _
    · have hfit : n * i.size + news.length ≤ cur.size := by rw [hl, hcs, ← Nat.add_mul]; exact Nat.mul_le_mul_right _ (by omega)
      have hr2 := run_append_room (P := P) w t ty e i ht hi g n cap cur hg a 0 c news hl hnews h1 (by omega) hfit
      rw [hr] at hr2
      cases hr2
      exact Or.inl rfl
theorem run_append_none0 (t ty e : TypeId) (i : TypeInfo) (size c : Nat) (ht : P.underlying t = some (.slice e)) (hi : P.info? e = some i)
    (v : Value) (n : Nat) (xs : List Value) (hown : w.ownsRow 0 e size v n xs) :
    (Builtin.append_ #[t, t] ty #[v, .slice none 0 c]).run P w = .ok v w := by
  rcases hown.2 with ⟨rfl, rfl⟩ | ⟨g, cap, cur, rfl, _, _, hnc, _⟩
  · simp [Builtin.append_, run_underlying ht, sizeOf, typeInfo, hi, Builtin.lenOf, Builtin.firstCells]
  · simp [Builtin.append_, run_underlying ht, sizeOf, typeInfo, hi, Builtin.lenOf, Builtin.firstCells, hnc, storeCells]
theorem own_shape {e : TypeId} {v : Value} {n : Nat} {xs : List Value} (h : w.ownsRow 0 e 1 v n xs) : ∃ ao cap, v = .slice ao n cap := by
  rcases h.2 with ⟨hh, h0⟩ | ⟨g, cap', _, hh, _⟩
  · exact ⟨none, 0, by rw [hh, h0]⟩
  · exact ⟨_, cap', hh⟩
end

/-- All bytes of a slice that came in, behind a row of one's own. -/
theorem wpList_appB (w : World) {ops : Array Oper} {rest : List Oper} {o : Oper} {a : Act} {Q : Exit → Act → World → Prop} (hgd : o.guard = none) (s x : Operand)
    (ho : o.op = .call { callee := .builtin .append, args := #[s, x], argTypes := #[76, 76] })
    (v : Value) (n : Nat) (xs : List Nat) (hs : a.eval s = v) (hown : w.ownsRow 0 5 1 v n (bts xs))
    (ao : Option Addr) (L cap : Nat) (ys : List Nat) (hx : a.eval x = .slice ao L cap) (hB : BArg w ao L cap ys) (hn : n + L < 2^40)
    (h : ∀ bo n' cap' w', n' = n + L → w'.ownsRow 0 5 1 (.slice bo n' cap') n' (bts (xs ++ ys)) → w.grownBy w' v.ownBlock → Moved w.heap.size v (.slice bo n' cap') → wpList Tryz.prog ops Q rest (a.put o.dst (.slice bo n' cap')) w') : wpList Tryz.prog ops Q (o :: rest) a w := by
  refine wpList_plain hgd fun K hK => ?_
  obtain ⟨i0, hi, hz0, hz1, hz2⟩ := info_parts Tryz.infoB
  have hl : (bts ys).length = L * 1 := by rw [bts_length, hB.len]; omega
  cases ao with
  | none =>
    have hL : L = 0 := by
      rcases Nat.eq_zero_or_pos L with h0 | h0
      · exact h0
      · obtain ⟨b, off, e, _⟩ := hB.lies h0
        cases e
    subst hL
    have hys : ys = [] := List.eq_nil_of_length_eq_zero hB.len.symm
    subst hys
    have hr := run_append_none0 (P := Tryz.prog) w 76 o.type 5 i0 1 cap Tryz.undBs hi v n (bts xs) hown
    obtain ⟨bo, cap', rfl⟩ := own_shape w hown
    unfold Oper.wp execOp
    simp only [ho, resolve, invoke, builtin, Sem.run_bind, Sem.run_pure, Result.andThen_ok, List.map_toArray, List.map_cons, List.map_nil, hs, hx, hr]
    exact hK _ _ (h bo n cap' w (by omega) (by rw [List.append_nil]; exact hown) ⟨rfl, rfl, rfl, Nat.le_refl _, fun _ _ _ => rfl⟩ (Moved.refl _ _))
  | some ad =>
    have hnews : ∀ j u, (bts ys)[j]? = some u → w.cell? (ad.add j) = some u := by
      intro j u hj
      have hj' : j < ys.length := by have := (List.getElem?_eq_some_iff.1 hj).1; rwa [bts_length] at this
      obtain ⟨a', e, hc⟩ := hB.src (by rw [hB.len]; omega)
      cases e
      exact hc j u hj
    obtain ⟨v', w', hr, h2, h3, h4⟩ := run_append_own (P := Tryz.prog) w 0 76 o.type 5 i0 (.int .u8 0) 1 1 Tryz.undBs hi hz0 hz1 hz2 rfl (by omega) v n (bts xs) hown ad L cap (bts ys) hl hnews (bts_oneCell ys) (by simp only [maxLen]; omega) (by omega) (Nat.zero_le _)
    have hmv := moved_app0 (P := Tryz.prog) w 76 o.type 5 i0 (.int .u8 0) 1 1 Tryz.undBs hi hz0 hz1 hz2 v n (bts xs) hown ad L cap (bts ys) hl hnews (bts_oneCell ys) (by simp only [maxLen]; omega) (by omega) v' w' hr h4
    obtain ⟨bo, cap', rfl⟩ := own_shape w' h2
    unfold Oper.wp execOp
    simp only [ho, resolve, invoke, builtin, Sem.run_bind, Sem.run_pure, Result.andThen_ok, List.map_toArray, List.map_cons, List.map_nil, hs, hx, hr]
    exact hK _ _ (h bo _ cap' w' rfl (by rw [bts_append]; exact h2) h3 hmv)

/-- A row of one's own, as what came in. -/
theorem own_arg {w : World} {ao : Option Addr} {n cap : Nat} {xs : List Nat} (h : w.ownsRow 0 5 1 (.slice ao n cap) n (bts xs)) (hl : ∀ x ∈ xs, x < 256) (hm : n < 2^40) : BArg w ao n cap xs := by
  have hn : n = xs.length := by have := h.1; rw [bts_length] at this; omega
  rcases h.2 with ⟨hh, h0⟩ | ⟨g, cap', cur, hh, _, hg, hnc, _, hcs, ht⟩
  · cases hh
    exact ⟨hn, hl, Nat.le_refl _, by omega, fun h => by omega⟩
  · cases hh
    refine ⟨hn, hl, hnc, by omega, fun h0 => ⟨g, 0, rfl, lt_of_block hg, fun j hj => ?_⟩⟩
    have := h.cells (g := g) rfl j _ (bts_get xs j (by omega))
    rw [show (⟨g, 0, none⟩ : Addr).add j = ⟨g, 0 + j, none⟩ from by simp [Addr.add]; omega] at this
    exact this
theorem own_none (w : World) : w.ownsRow 0 5 1 (.slice none 0 0) 0 (bts []) := ⟨rfl, .inl ⟨rfl, rfl⟩⟩

end Go.Proofs.YtdojhkgnnbdfkaaGreat
/- Rows of bytes of one's own: an append told sharply; zeros put behind; a copy into one. Conditions as each lemma names them. -/
namespace Go.Proofs.YtdojhkgnnbdfkaaGreat
open Go.ChangeShapes Go.WideShapes Go.ChangeAt Go.RowKit Go.Lib

section
variable {P : Program} (w : World)
end
theorem ne_types {w : World} {a b : Nat} {ca cb : Array Value} {ta tb : TypeId} {fa fb : Nat × Nat} (ha : w.heap[a]? = some (.cells ca ta fa)) (hb : w.heap[b]? = some (.cells cb tb fb)) (h : ta ≠ tb) : a ≠ b := by
  rintro rfl
  rw [ha] at hb
  injection hb with hb
  injection hb with _ hb _
  exact h hb
/-- A value's own block is none of a type. -/
theorem own_not {w : World} {e t : TypeId} {v : Value} {b : Nat} {cb : Array Value} {fb : Nat × Nat} (h : ∀ k, v.ownBlock = some k → ∃ cs, w.heap[k]? = some (.cells cs e (0, 0))) (hb : w.heap[b]? = some (.cells cb t fb)) (hne : e ≠ t) : b ∉ v.ownBlock.toList := by
  intro hm
  obtain ⟨cs, hc⟩ := h b (by simpa using hm)
  exact ne_types hc hb hne rfl


theorem BArg.keepS {S : List Nat} {w w' : World} {ao : Option Addr} {L cap : Nat} {xs : List Nat} (h : BArg w ao L cap xs) (hf : Fr S w w') (hn : 0 < L → ∀ a, ao = some a → a.block ∉ S) : BArg w' ao L cap xs := by
  refine ⟨h.len, h.low, h.fits, h.most, fun h0 => ?_⟩
  obtain ⟨b, off, e, hb, hc⟩ := h.lies h0
  have hb2 := hn h0 _ e
  exact ⟨b, off, e, Nat.lt_of_lt_of_le hb hf.size, fun j hj => (World.cell?_of_block (hf.block b hb hb2)).trans (hc j hj)⟩
theorem own_rs4 {w : World} {ao : Option Addr} {n cap : Nat} {xs : List Nat} (h : w.ownsRow 0 5 1 (.slice ao n cap) n (bts xs)) (hm : n < 2^41) : Rs w ao xs := by
  have hn : n = xs.length := by have := h.1; rw [bts_length] at this; omega
  refine ⟨fun h0 => ?_, by omega⟩
  rcases h.2 with ⟨hh, h0⟩ | ⟨g, cap', cur, hh, _, hg, hnc, _, hcs, ht⟩
  · omega
  · cases hh
    refine ⟨g, 0, rfl, fun j hj => ?_⟩
    have := h.cells (g := g) rfl j _ (bts_get xs j hj)
    rw [show (⟨g, 0, none⟩ : Addr).add j = ⟨g, 0 + j, none⟩ from by simp [Addr.add]; omega] at this
    exact this

/-- Zeros. -/
def zs (m : Nat) : List Nat := List.replicate m 0
theorem zs_length (m : Nat) : (zs m).length = m := by simp [zs]
theorem zeroB (m : Nat) : (Builtin.zeroCells (Value.int .u8 0).cells m).toList = bts (zs m) := by
  apply List.ext_getElem
  · simp [Builtin.zeroCells, bts, zs, Value.cells]
  · intro i h1 h2
    simp [Builtin.zeroCells, bts, zs, Value.cells, Nat.mod_one]

section
variable {P : Program} (w : World)
theorem run_zeros_room (t tn ty e : TypeId) (i : TypeInfo) (k kn : IntKind) (ht : P.underlying t = some (.slice e)) (htn : P.underlying tn = some (.int kn)) (hi : P.info? e = some i) (hz : i.zero = some (.int .u8 0)) (hs : i.size = 1) (hb : i.bytes = 1)
    (g sLen sCap : Nat) (cur : Array Value) (hg : w.heap[g]? = some (.cells cur e (0, 0))) (m : Nat) (h0 : 0 < m) (hm : m < 2^40) (hroom : sLen + m ≤ sCap) (hfit : sLen + m ≤ cur.size) :
    (Builtin.append_ #[t, tn] ty #[.slice (some ⟨g, 0, none⟩) sLen sCap, .int k m]).run P w =
      .ok (.slice (some ⟨g, 0, none⟩) (sLen + m) sCap) (w.setRow g (cur.toList.take sLen ++ bts (zs m) ++ cur.toList.drop (sLen + m)).toArray) := by
  have hw : IntKind.i64.wrap (m : Int) = m := by rw [IntKind.wrap_i64]; omega
  have hneg : ¬ ((m : Int) < 0) := by omega
  have h48i : ¬ (281474976710656 < (m : Int) * ((1 : Nat) : Int)) := by omega
  have hns : ¬ (m = 0) := by omega
  have hst := run_storeCells_at P g sLen e (bts (zs m)) 0 cur w hg (by rw [bts_length, zs_length]; simpa using hfit) (bts_oneCell _)
  have hzc := zeroB m
  simp only [Nat.add_zero, bts_length, zs_length] at hst
  simp [Builtin.append_, run_underlying ht, run_underlying htn, sizeOf, typeInfo, zeroValue, hi, hz, hs, hb, asInt, asIntOf, hw, hneg, hns, hroom, Addr.add_lit, hzc, hst]
  omega
theorem run_zeros_grow (t tn ty e : TypeId) (i : TypeInfo) (k kn : IntKind) (ht : P.underlying t = some (.slice e)) (htn : P.underlying tn = some (.int kn)) (hi : P.info? e = some i) (hz : i.zero = some (.int .u8 0)) (hs : i.size = 1) (hb : i.bytes = 1)
    (b : Addr) (sLen sCap : Nat) (olds : List Value) (hlo : olds.length = sLen) (holds : ∀ j v, olds[j]? = some v → w.cell? (b.add j) = some v)
    (m : Nat) (h0 : 0 < m) (hm : m < 2^40) (hg : sCap < sLen + m) (hsl : sLen < 2^40) :
    (Builtin.append_ #[t, tn] ty #[.slice (some b) sLen sCap, .int k m]).run P w =
      .ok (.slice (some ⟨w.heap.size, 0, none⟩) (sLen + m) (grownCap w (sLen + m) sCap e))
        (w.drew.alloc (.cells (olds.toArray ++ (bts (zs m)).toArray ++ Builtin.zeroCells (Value.int .u8 0).cells (grownCap w (sLen + m) sCap e - (sLen + m))) e)) := by
  have hw : IntKind.i64.wrap (m : Int) = m := by rw [IntKind.wrap_i64]; omega
  have hneg : ¬ ((m : Int) < 0) := by omega
  have hn : ¬ (sLen + m ≤ sCap) := by omega
  have h63' : ¬ (9223372036854775807 < ((sLen : Int) + (m : Int))) := by omega
  have h48' : ¬ (281474976710656 < Builtin.nextslicecap (sLen + m) sCap) := by have := growslice_fits (need := sLen + m) (old := sCap) (bytes := 1) (by omega) (by omega); omega
  have hns : ¬ (m = 0) := by omega
  have hfo := run_firstCells_some (P := P) w.drew 1 sLen b sLen sCap olds (by omega) (by simpa using holds)
  have hzc : Builtin.zeroCells (Value.int .u8 0).cells m = (bts (zs m)).toArray := by rw [← zeroB m]
  have h48i : ¬ (281474976710656 < (m : Int)) := by omega
  simp [Builtin.append_, run_underlying ht, run_underlying htn, sizeOf, typeInfo, zeroValue, hi, hz, hs, hb, asInt, asIntOf, hw, hneg, hns, hn, h63', h48', h48i, Question.forced, hfo, newRow, grownCap, hzc]
  congr 2
  apply Array.ext'
  simp [List.append_assoc]
end

/-- Zeros behind a row of one's own. -/
theorem run_zeros (w : World) (ty : TypeId) (v : Value) (n : Nat) (xs : List Nat) (hown : w.ownsRow 0 5 1 v n (bts xs)) (m : Nat) (h0 : 0 < m) (hm : m < 2^39) (hn : n < 2^39) :
    ∃ g cap w', (Builtin.append_ #[76, 3] ty #[v, .int .i64 m]).run Tryz.prog w = .ok (.slice (some ⟨g, 0, none⟩) (n + m) cap) w' ∧ w'.ownsRow 0 5 1 (.slice (some ⟨g, 0, none⟩) (n + m) cap) (n + m) (bts (xs ++ zs m)) ∧ Went w v g w' := by
  obtain ⟨i0, hi, hz0, hz1, hz2⟩ := info_parts Tryz.infoB
  have htn : Tryz.prog.underlying 3 = some (.int .i64) := by kernel_rfl
  have hl0 := hown.1
  have hlen : (bts (xs ++ zs m)).length = (n + m) * 1 := by rw [bts_append, List.length_append, bts_length (zs m), zs_length]; omega
  have hxl : xs.length = n := by rw [bts_length] at hl0; omega
  rcases hown.2 with ⟨rfl, rfl⟩ | ⟨g, cap, cur, rfl, hbg, hg, hnc, hcm, hcs, htake⟩
  · have hx : xs = [] := List.eq_nil_of_length_eq_zero hxl
    subst hx
    have hr := run_append_nil_zeros (P := Tryz.prog) w 76 3 ty 5 i0 (.int .u8 0) .i64 .i64 Tryz.undBs htn hi hz0 m h0 (by omega) (by omega) (by rw [hz2]; omega)
    have hge := grownCap_ge w m 0 5
    have hcm := grownCap_le_maxLen w m 0 5 (by simp only [maxLen]; omega)
    refine ⟨w.heap.size, grownCap w m 0 5, _, by rw [Nat.zero_add]; exact hr, ⟨hlen, .inr ⟨w.heap.size, _, _, rfl, Nat.zero_le _, heap_alloc_new w.drew _, by rw [Nat.zero_add]; exact hge, hcm, ?_, ?_⟩⟩, Or.inr ⟨Nat.le_refl _, ⟨rfl, rfl, rfl, by simp, fun k hk _ => Below.heap_alloc w.drew _ _ hk⟩⟩⟩
    · rw [Array.size_append, size_zeroCells, size_zeroCells]
      simp [Value.cells]
      omega
    · rw [Array.toList_append, zeroB, List.nil_append]
      rw [List.nil_append] at hlen
      rw [← hlen]
      exact List.take_left
  · by_cases hroom : n + m ≤ cap
    · have hcs' : cur.size = cap := by simpa using hcs
      have hr := run_zeros_room (P := Tryz.prog) w 76 3 ty 5 i0 .i64 .i64 Tryz.undBs htn hi hz0 hz1 hz2 g n cap cur hg m h0 (by omega) hroom (by omega)
      refine ⟨g, cap, _, hr, ⟨hlen, .inr ⟨g, cap, _, rfl, hbg, setRow_heap w g cur _ 5 _ hg, hroom, hcm, ?_, ?_⟩⟩, Or.inl ⟨rfl, ⟨rfl, rfl, rfl, by simp, fun k _ hk => setRow_other w g k _ (fun e => hk (by simp [e]))⟩⟩⟩
      · simp only [List.size_toArray, List.length_append, List.length_take, List.length_drop, Array.length_toList, bts_length, zs_length]
        omega
      · have ht : cur.toList.take n = bts xs := by simpa using htake
        rw [ht, ← bts_append, ← hlen]
        exact List.take_left
    · have holds : ∀ j u, (bts xs)[j]? = some u → w.cell? ((⟨g, 0, none⟩ : Addr).add j) = some u := hown.cells (g := g) rfl
      have hr := run_zeros_grow (P := Tryz.prog) w 76 3 ty 5 i0 .i64 .i64 Tryz.undBs htn hi hz0 hz1 hz2 ⟨g, 0, none⟩ n cap (bts xs) (by rw [bts_length]; exact hxl) holds m h0 (by omega) (by omega) (by omega)
      have hge := grownCap_ge w (n + m) cap 5
      have hcm := grownCap_le_maxLen w (n + m) cap 5 (by simp only [maxLen]; omega)
      refine ⟨w.heap.size, _, _, hr, ⟨hlen, .inr ⟨w.heap.size, _, _, rfl, Nat.zero_le _, heap_alloc_new w.drew _, hge, hcm, ?_, ?_⟩⟩, Or.inr ⟨Nat.le_refl _, ⟨rfl, rfl, rfl, by simp, fun k hk _ => Below.heap_alloc w.drew _ _ hk⟩⟩⟩
      · simp only [Array.size_append, List.size_toArray, size_zeroCells, bts_length, zs_length]
        simp [Value.cells]
        omega
      · simp only [Array.toList_append, List.append_assoc]
        rw [← List.append_assoc, ← bts_append, ← hlen]
        exact List.take_left

/-- Some bytes with others from a place on. -/
def layB (xs : List Nat) (at_ : Nat) (ys : List Nat) : List Nat := xs.take at_ ++ (ys ++ xs.drop (at_ + ys.length))
theorem layB_length (xs : List Nat) (k : Nat) (ys : List Nat) (h : k ≤ xs.length) : (layB xs k ys).length = max xs.length (k + ys.length) := by
  simp only [layB, List.length_append, List.length_take, List.length_drop]; omega
theorem layB_zs (xs : List Nat) (k m : Nat) (ys : List Nat) (h : k ≤ xs.length) (hm : xs.length + m = k + ys.length) : layB (xs ++ zs m) k ys = layB xs k ys := by
  simp only [layB]
  rw [List.take_append_of_le_length h, List.drop_of_length_le (by rw [List.length_append, zs_length]; omega), List.drop_of_length_le (l := xs) (by omega)]
theorem layB_low (xs : List Nat) (k : Nat) (ys : List Nat) (hx : ∀ x ∈ xs, x < 256) (hy : ∀ x ∈ ys, x < 256) : ∀ x ∈ layB xs k ys, x < 256 := by
  intro x h
  simp only [layB, List.mem_append] at h
  rcases h with h | h | h
  · exact hx x (List.mem_of_mem_take h)
  · exact hy x h
  · exact hx x (List.mem_of_mem_drop h)

/-- Bytes that came in are laid into a row of one's own. -/
theorem run_copyB (w : World) (dp sp : Option Addr) (dLen dCap sLen sCap : Nat)
    (v : Value) (n : Nat) (xs : List Nat) (hown : w.ownsRow 0 5 1 v n (bts xs)) (off : Nat) (ys : List Nat) (hB : BArg w sp sLen sCap ys) (hfit : off + sLen ≤ n) (hdl : off + dLen = n)
    (hpos : 0 < sLen → ∃ g, v.ownBlock = some g ∧ dp = some ⟨g, off, none⟩) :
    ∃ w', (Builtin.copy_ #[76, 76] 3 #[.slice dp dLen dCap, .slice sp sLen sCap]).run Tryz.prog w = .ok (goInt (sLen : Int)) w' ∧ w'.ownsRow 0 5 1 v n (bts (layB xs off ys)) ∧ Fr v.ownBlock.toList w w' := by
  have hxl : xs.length = n := by have := hown.1; rw [bts_length] at this; omega
  have hyl : ys.length = sLen := hB.len.symm
  by_cases h0 : sLen = 0
  · subst h0
    have hys : ys = [] := List.eq_nil_of_length_eq_zero hyl
    subst hys
    refine ⟨w, run_copy_none (P := Tryz.prog) w 76 76 3 5 dp sp dLen dCap 0 sCap Tryz.undBs Tryz.sizeB (by simp), ?_, Fr.refl _ _⟩
    have e : layB xs off [] = xs := by simp [layB]
    rw [e]
    exact hown
  · obtain ⟨g, hg, rfl⟩ := hpos (by omega)
    rcases hown.2 with ⟨rfl, _⟩ | ⟨g', cap, cur, rfl, hbg, hgg, hnc, hcm, hcs, htake⟩
    · simp [Value.ownBlock] at hg
    · simp [Value.ownBlock] at hg
      subst hg
      obtain ⟨b, off', rfl, _, hc⟩ := hB.lies (by omega)
      have hcs' : cur.size = cap := by simpa using hcs
      have ht : cur.toList.take n = bts xs := by simpa using htake
      have hbl : (bts ys).length = sLen := by rw [bts_length]; exact hyl
      have hr := run_copy_row (P := Tryz.prog) w 76 76 3 5 g' off dLen dCap ⟨b, off', none⟩ sLen sCap cur 5 (bts ys) Tryz.undBs Tryz.sizeB hgg (by rw [hbl]; show sLen = min sLen dLen; omega) (by
        intro j u hj
        have hj' : j < ys.length := by have := (List.getElem?_eq_some_iff.1 hj).1; rwa [bts_length] at this
        rw [bts_get ys j hj'] at hj
        rw [show (⟨b, off', none⟩ : Addr).add j = ⟨b, off' + j, none⟩ from by simp [Addr.add], hc j (by omega)]
        exact hj) (by omega) (bts_oneCell ys)
      rw [hbl] at hr
      refine ⟨_, hr, ⟨by rw [bts_length, layB_length _ _ _ (by omega), hyl]; omega, .inr ⟨g', cap, _, rfl, hbg, setRow_heap w g' cur _ 5 _ hgg, hnc, hcm, ?_, ?_⟩⟩, ?_⟩
      · simp only [List.size_toArray, List.length_append, List.length_take, List.length_drop, Array.length_toList, hbl]
        omega
      · rw [Nat.mul_one]
        have e1 : cur.toList.take off = (bts xs).take off := by rw [← ht, List.take_take, Nat.min_eq_left (by omega)]
        have e2 : (cur.toList.drop (off + sLen)).take (n - (off + sLen)) = (bts xs).drop (off + sLen) := by rw [← ht, List.drop_take]
        have e3 : bts (layB xs off ys) = (bts xs).take off ++ (bts ys ++ (bts xs).drop (off + sLen)) := by
          simp only [layB, bts_append, hyl]
          simp [bts, List.map_take, List.map_drop]
        show (List.take n (cur.toList.take off ++ bts ys ++ cur.toList.drop (off + sLen))) = _
        rw [List.append_assoc]
        have hA : ((bts xs).take off).length = off := by rw [List.length_take, bts_length]; omega
        rw [e3, e1, List.take_append, hA, List.take_of_length_le (l := (bts xs).take off) (by omega), List.take_append, hbl, List.take_of_length_le (l := bts ys) (by omega), Nat.sub_sub, e2]
      · exact (Fr.setRow w g' _).mono (by intro x hx _; rw [List.mem_singleton] at hx; subst hx; simp [Value.ownBlock])
end Go.Proofs.YtdojhkgnnbdfkaaGreat
