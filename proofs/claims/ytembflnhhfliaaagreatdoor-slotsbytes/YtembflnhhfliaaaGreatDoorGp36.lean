/- Contracts and plain lemmas of this claim. -/
import Derived.Test.YtembflnhhfliaaaGreatDoorGp35
set_option linter.unusedSimpArgs false
set_option linter.unusedVariables false
namespace Go.Proofs.YtembflnhhfliaaaGreatDoor
open Go.ChangeShapes Go.WideShapes Go.ChangeAt Go.RowKit Go.Lib
section
variable {P : Program} (w : World)
end
theorem zwu {w : World} {a b : Nat} {ca cb : Array Value} {ta tb : TypeId} {fa fb : Nat × Nat} (ha : w.heap[a]? = some (.cells ca ta fa)) (hb : w.heap[b]? = some (.cells cb tb fb)) (h : ta ≠ tb) : a ≠ b := by
  rintro rfl
  rw [ha] at hb
  injection hb with hb
  injection hb with _ hb _
  exact h hb
theorem zej {w : World} {e t : TypeId} {v : Value} {b : Nat} {cb : Array Value} {fb : Nat × Nat} (h : ∀ k, v.ownBlock = some k -> ∃ cs, w.heap[k]? = some (.cells cs e (0, 0))) (hb : w.heap[b]? = some (.cells cb t fb)) (hne : e ≠ t) : b ∉ v.ownBlock.toList := by
  intro hm
  obtain ⟨cs, hc⟩ := h b (by simpa using hm)
  exact zwu hc hb hne rfl
theorem BArg.keepS {S : List Nat} {w w' : World} {ao : Option Addr} {L cap : Nat} {xs : List Nat} (h : BArg w ao L cap xs) (hf : Fr S w w') (hn : 0 < L -> ∀ a, ao = some a -> a.block ∉ S) : BArg w' ao L cap xs := by
  refine ⟨h.len, h.low, h.fits, h.most, fun h0 => ?_⟩
  obtain ⟨b, off, e, hb, hc⟩ := h.lies h0
  have hb2 := hn h0 _ e
  exact ⟨b, off, e, Nat.lt_of_lt_of_le hb hf.size, fun j hj => (World.cell?_of_block (hf.block b hb hb2)).trans (hc j hj)⟩
theorem zkx {w : World} {ao : Option Addr} {n cap : Nat} {xs : List Nat} (h : w.ownsRow 0 5 1 (.slice ao n cap) n (bts xs)) (hm : n < 2^41) : Rs w ao xs := by
  have hn : n = xs.length := by have := h.1; rw [zac] at this; omega
  refine ⟨fun h0 => ?_, by omega⟩
  rcases h.2 with ⟨hh, h0⟩ | ⟨g, cap', cur, hh, _, hg, hnc, _, hcs, ht⟩
  · omega
  · cases hh
    refine ⟨g, 0, rfl, fun j hj => ?_⟩
    have := h.cells (g := g) rfl j _ (zch xs j hj)
    rw [show (⟨g, 0, none⟩ : Addr).add j = ⟨g, 0 + j, none⟩ from by simp [Addr.add]; omega] at this
    exact this
def zs (m : Nat) : List Nat := List.replicate m 0
theorem zde (m : Nat) : (zs m).length = m := by simp [zs]
theorem zsh (m : Nat) : (Builtin.zeroCells (Value.int .u8 0).cells m).toList = bts (zs m) := by
  apply List.ext_getElem
  · simp [Builtin.zeroCells, bts, zs, Value.cells]
  · intro i h1 h2
    simp [Builtin.zeroCells, bts, zs, Value.cells, Nat.mod_one]
section
variable {P : Program} (w : World)
theorem zky (t tn ty e : TypeId) (i : TypeInfo) (k kn : IntKind) (ht : P.underlying t = some (.slice e)) (htn : P.underlying tn = some (.int kn)) (hi : P.info? e = some i) (hz : i.zero = some (.int .u8 0)) (hs : i.size = 1) (hb : i.bytes = 1)
    (g sLen sCap : Nat) (cur : Array Value) (hg : w.heap[g]? = some (.cells cur e (0, 0))) (m : Nat) (h0 : 0 < m) (hm : m < 2^40) (hroom : sLen + m <= sCap) (hfit : sLen + m <= cur.size) :
    (Builtin.append_ #[t, tn] ty #[.slice (some ⟨g, 0, none⟩) sLen sCap, .int k m]).run P w =
      .ok (.slice (some ⟨g, 0, none⟩) (sLen + m) sCap) (w.setRow g (cur.toList.take sLen ++ bts (zs m) ++ cur.toList.drop (sLen + m)).toArray) := by
  have hw : IntKind.i64.wrap (m : Int) = m := by rw [IntKind.wrap_i64]; omega
  have hneg : ¬ ((m : Int) < 0) := by omega
  have h48i : ¬ (281474976710656 < (m : Int) * ((1 : Nat) : Int)) := by omega
  have hns : ¬ (m = 0) := by omega
  have hst := run_storeCells_at P g sLen e (bts (zs m)) 0 cur w hg (by rw [zac, zde]; simpa using hfit) (zcd _)
  have hzc := zsh m
  simp only [Nat.add_zero, zac, zde] at hst
  simp [Builtin.append_, run_underlying ht, run_underlying htn, sizeOf, typeInfo, zeroValue, hi, hz, hs, hb, asInt, asIntOf, hw, hneg, hns, hroom, Addr.add_lit, hzc, hst]
  omega
theorem zkz (t tn ty e : TypeId) (i : TypeInfo) (k kn : IntKind) (ht : P.underlying t = some (.slice e)) (htn : P.underlying tn = some (.int kn)) (hi : P.info? e = some i) (hz : i.zero = some (.int .u8 0)) (hs : i.size = 1) (hb : i.bytes = 1)
    (b : Addr) (sLen sCap : Nat) (olds : List Value) (hlo : olds.length = sLen) (holds : ∀ j v, olds[j]? = some v -> w.cell? (b.add j) = some v)
    (m : Nat) (h0 : 0 < m) (hm : m < 2^40) (hg : sCap < sLen + m) (hsl : sLen < 2^40) :
    (Builtin.append_ #[t, tn] ty #[.slice (some b) sLen sCap, .int k m]).run P w =
      .ok (.slice (some ⟨w.heap.size, 0, none⟩) (sLen + m) (grownCap w (sLen + m) sCap e))
        (w.drew.alloc (.cells (olds.toArray ++ (bts (zs m)).toArray ++ Builtin.zeroCells (Value.int .u8 0).cells (grownCap w (sLen + m) sCap e - (sLen + m))) e)) := by
  have hw : IntKind.i64.wrap (m : Int) = m := by rw [IntKind.wrap_i64]; omega
  have hneg : ¬ ((m : Int) < 0) := by omega
  have hn : ¬ (sLen + m <= sCap) := by omega
  have h63' : ¬ (9223372036854775807 < ((sLen : Int) + (m : Int))) := by omega
  have h48' : ¬ (281474976710656 < Builtin.nextslicecap (sLen + m) sCap) := by have := growslice_fits (need := sLen + m) (old := sCap) (bytes := 1) (by omega) (by omega); omega
  have hns : ¬ (m = 0) := by omega
  have hfo := run_firstCells_some (P := P) w.drew 1 sLen b sLen sCap olds (by omega) (by simpa using holds)
  have hzc : Builtin.zeroCells (Value.int .u8 0).cells m = (bts (zs m)).toArray := by rw [<- zsh m]
  have h48i : ¬ (281474976710656 < (m : Int)) := by omega
  simp [Builtin.append_, run_underlying ht, run_underlying htn, sizeOf, typeInfo, zeroValue, hi, hz, hs, hb, asInt, asIntOf, hw, hneg, hns, hn, h63', h48', h48i, Question.forced, hfo, newRow, grownCap, hzc]
  congr 2
  apply Array.ext'
  simp [List.append_assoc]
end
theorem zus (w : World) (ty : TypeId) (v : Value) (n : Nat) (xs : List Nat) (hown : w.ownsRow 0 5 1 v n (bts xs)) (m : Nat) (h0 : 0 < m) (hm : m < 2^39) (hn : n < 2^39) :
    ∃ g cap w', (Builtin.append_ #[58, 3] ty #[v, .int .i64 m]).run Tryz.prog w = .ok (.slice (some ⟨g, 0, none⟩) (n + m) cap) w' /\ w'.ownsRow 0 5 1 (.slice (some ⟨g, 0, none⟩) (n + m) cap) (n + m) (bts (xs ++ zs m)) /\ Went w v g w' := by
  obtain ⟨i0, hi, hz0, hz1, hz2⟩ := info_parts Tryz.infoB
  have htn : Tryz.prog.underlying 3 = some (.int .i64) := by kernel_rfl
  have hl0 := hown.1
  have hlen : (bts (xs ++ zs m)).length = (n + m) * 1 := by rw [zap, List.length_append, zac (zs m), zde]; omega
  have hxl : xs.length = n := by rw [zac] at hl0; omega
  rcases hown.2 with ⟨rfl, rfl⟩ | ⟨g, cap, cur, rfl, hbg, hg, hnc, hcm, hcs, htake⟩
  · have hx : xs = [] := List.eq_nil_of_length_eq_zero hxl
    subst hx
    have hr := run_append_nil_zeros (P := Tryz.prog) w 58 3 ty 5 i0 (.int .u8 0) .i64 .i64 Tryz.undBs htn hi hz0 m h0 (by omega) (by omega) (by rw [hz2]; omega)
    have hge := grownCap_ge w m 0 5
    have hcm := grownCap_le_maxLen w m 0 5 (by simp only [maxLen]; omega)
    refine ⟨w.heap.size, grownCap w m 0 5, _, by rw [Nat.zero_add]; exact hr, ⟨hlen, .inr ⟨w.heap.size, _, _, rfl, Nat.zero_le _, heap_alloc_new w.drew _, by rw [Nat.zero_add]; exact hge, hcm, ?_, ?_⟩⟩, Or.inr ⟨Nat.le_refl _, ⟨rfl, rfl, rfl, by simp, fun k hk _ => Below.heap_alloc w.drew _ _ hk⟩⟩⟩
    · rw [Array.size_append, size_zeroCells, size_zeroCells]
      simp [Value.cells]
      omega
    · rw [Array.toList_append, zsh, List.nil_append]
      rw [List.nil_append] at hlen
      rw [<- hlen]
      exact List.take_left
  · by_cases hroom : n + m <= cap
    · have hcs' : cur.size = cap := by simpa using hcs
      have hr := zky (P := Tryz.prog) w 58 3 ty 5 i0 .i64 .i64 Tryz.undBs htn hi hz0 hz1 hz2 g n cap cur hg m h0 (by omega) hroom (by omega)
      refine ⟨g, cap, _, hr, ⟨hlen, .inr ⟨g, cap, _, rfl, hbg, setRow_heap w g cur _ 5 _ hg, hroom, hcm, ?_, ?_⟩⟩, Or.inl ⟨rfl, ⟨rfl, rfl, rfl, by simp, fun k _ hk => setRow_other w g k _ (fun e => hk (by simp [e]))⟩⟩⟩
      · simp only [List.size_toArray, List.length_append, List.length_take, List.length_drop, Array.length_toList, zac, zde]
        omega
      · have ht : cur.toList.take n = bts xs := by simpa using htake
        rw [ht, <- zap, <- hlen]
        exact List.take_left
    · have holds : ∀ j u, (bts xs)[j]? = some u -> w.cell? ((⟨g, 0, none⟩ : Addr).add j) = some u := hown.cells (g := g) rfl
      have hr := zkz (P := Tryz.prog) w 58 3 ty 5 i0 .i64 .i64 Tryz.undBs htn hi hz0 hz1 hz2 ⟨g, 0, none⟩ n cap (bts xs) (by rw [zac]; exact hxl) holds m h0 (by omega) (by omega) (by omega)
      have hge := grownCap_ge w (n + m) cap 5
      have hcm := grownCap_le_maxLen w (n + m) cap 5 (by simp only [maxLen]; omega)
      refine ⟨w.heap.size, _, _, hr, ⟨hlen, .inr ⟨w.heap.size, _, _, rfl, Nat.zero_le _, heap_alloc_new w.drew _, hge, hcm, ?_, ?_⟩⟩, Or.inr ⟨Nat.le_refl _, ⟨rfl, rfl, rfl, by simp, fun k hk _ => Below.heap_alloc w.drew _ _ hk⟩⟩⟩
      · simp only [Array.size_append, List.size_toArray, size_zeroCells, zac, zde]
        simp [Value.cells]
        omega
      · simp only [Array.toList_append, List.append_assoc]
        rw [<- List.append_assoc, <- zap, <- hlen]
        exact List.take_left
def layB (xs : List Nat) (at_ : Nat) (ys : List Nat) : List Nat := xs.take at_ ++ (ys ++ xs.drop (at_ + ys.length))
theorem zca (xs : List Nat) (k : Nat) (ys : List Nat) (h : k <= xs.length) : (layB xs k ys).length = max xs.length (k + ys.length) := by
  simp only [layB, List.length_append, List.length_take, List.length_drop]; omega
theorem zyr (xs : List Nat) (k m : Nat) (ys : List Nat) (h : k <= xs.length) (hm : xs.length + m = k + ys.length) : layB (xs ++ zs m) k ys = layB xs k ys := by
  simp only [layB]
  rw [List.take_append_of_le_length h, List.drop_of_length_le (by rw [List.length_append, zde]; omega), List.drop_of_length_le (l := xs) (by omega)]
theorem zoa (xs : List Nat) (k : Nat) (ys : List Nat) (hx : ∀ x ∈ xs, x < 256) (hy : ∀ x ∈ ys, x < 256) : ∀ x ∈ layB xs k ys, x < 256 := by
  intro x h
  simp only [layB, List.mem_append] at h
  rcases h with h | h | h
  · exact hx x (List.mem_of_mem_take h)
  · exact hy x h
  · exact hx x (List.mem_of_mem_drop h)
theorem zfc (w : World) (dp sp : Option Addr) (dLen dCap sLen sCap : Nat)
    (v : Value) (n : Nat) (xs : List Nat) (hown : w.ownsRow 0 5 1 v n (bts xs)) (off : Nat) (ys : List Nat) (hB : BArg w sp sLen sCap ys) (hfit : off + sLen <= n) (hdl : off + dLen = n)
    (hpos : 0 < sLen -> ∃ g, v.ownBlock = some g /\ dp = some ⟨g, off, none⟩) :
    ∃ w', (Builtin.copy_ #[58, 58] 3 #[.slice dp dLen dCap, .slice sp sLen sCap]).run Tryz.prog w = .ok (goInt (sLen : Int)) w' /\ w'.ownsRow 0 5 1 v n (bts (layB xs off ys)) /\ Fr v.ownBlock.toList w w' := by
  have hxl : xs.length = n := by have := hown.1; rw [zac] at this; omega
  have hyl : ys.length = sLen := hB.len.symm
  by_cases h0 : sLen = 0
  · subst h0
    have hys : ys = [] := List.eq_nil_of_length_eq_zero hyl
    subst hys
    refine ⟨w, run_copy_none (P := Tryz.prog) w 58 58 3 5 dp sp dLen dCap 0 sCap Tryz.undBs Tryz.sizeB (by simp), ?_, Fr.refl _ _⟩
    have e : layB xs off [] = xs := by simp [layB]
    rw [e]
    exact hown
  · obtain ⟨g, hg, rfl⟩ := hpos (by omega)
    rcases hown.2 with ⟨rfl, _⟩ | ⟨g', cap, cur, rfl, hbg, hgg, hnc, hcm, hcs, htake⟩
    · simp [Value.ownBlock] at hg
    · simp [Value.ownBlock] at hg
      subst hg
      obtain ⟨b, off', rfl, _, hc⟩ := hB.lies (by omega)
      have hcs' : cur.size = cap := by simpa using hcs
      have ht : cur.toList.take n = bts xs := by simpa using htake
      have hbl : (bts ys).length = sLen := by rw [zac]; exact hyl
      have hr := run_copy_row (P := Tryz.prog) w 58 58 3 5 g' off dLen dCap ⟨b, off', none⟩ sLen sCap cur 5 (bts ys) Tryz.undBs Tryz.sizeB hgg (by rw [hbl]; show sLen = min sLen dLen; omega) (by
        intro j u hj
        have hj' : j < ys.length := by have := (List.getElem?_eq_some_iff.1 hj).1; rwa [zac] at this
        rw [zch ys j hj'] at hj
        rw [show (⟨b, off', none⟩ : Addr).add j = ⟨b, off' + j, none⟩ from by simp [Addr.add], hc j (by omega)]
        exact hj) (by omega) (zcd ys)
      rw [hbl] at hr
      refine ⟨_, hr, ⟨by rw [zac, zca _ _ _ (by omega), hyl]; omega, .inr ⟨g', cap, _, rfl, hbg, setRow_heap w g' cur _ 5 _ hgg, hnc, hcm, ?_, ?_⟩⟩, ?_⟩
      · simp only [List.size_toArray, List.length_append, List.length_take, List.length_drop, Array.length_toList, hbl]
        omega
      · rw [Nat.mul_one]
        have e1 : cur.toList.take off = (bts xs).take off := by rw [<- ht, List.take_take, Nat.min_eq_left (by omega)]
        have e2 : (cur.toList.drop (off + sLen)).take (n - (off + sLen)) = (bts xs).drop (off + sLen) := by rw [<- ht, List.drop_take]
        have e3 : bts (layB xs off ys) = (bts xs).take off ++ (bts ys ++ (bts xs).drop (off + sLen)) := by
          simp only [layB, zap, hyl]
          simp [bts, List.map_take, List.map_drop]
        show (List.take n (cur.toList.take off ++ bts ys ++ cur.toList.drop (off + sLen))) = _
        rw [List.append_assoc]
        have hA : ((bts xs).take off).length = off := by rw [List.length_take, zac]; omega
        rw [e3, e1, List.take_append, hA, List.take_of_length_le (l := (bts xs).take off) (by omega), List.take_append, hbl, List.take_of_length_le (l := bts ys) (by omega), Nat.sub_sub, e2]
      · exact (Fr.setRow w g' _).mono (by intro x hx _; rw [List.mem_singleton] at hx; subst hx; simp [Value.ownBlock])
open BigFrame Go.Maps
theorem zaq {fn : Func} {p u v : Tmp} {ty : TypeId} (h : fn.results = #[.cell p ty, .tmp u, .tmp v]) (tmps : Array Value) (P : Program) (w : World) (g : Nat) (x : Value) (hp : tmps.getD p undef = .pointer (some ⟨g, 0, none⟩)) (hld : (loadVar ty ⟨g, 0, none⟩).run P w = .ok x w) :
    (results fn tmps).run P w = .ok (.tuple #[x, tmps.getD u undef, tmps.getD v undef]) w := by
  simp only [results, h]
  simp [Sem.run_bind, Result.andThen, <- Array.getD_eq_getD_getElem?, hp, asAddr, hld]
theorem zek {w : World} {g : Nat} {a b c : Value} (h : w.heap[g]? = some (.cells #[a, b, c] 57 (0, 0))) : (loadVar 57 ⟨g, 0, none⟩).run Tryz.prog w = .ok (.agg #[a, b, c]) w :=
  run_loadVar_row (P := Tryz.prog) _ g _ 57 _ _ (.struct (Tryz.prog.fieldsOf 57)) h (by kernel_rfl) rfl (by kernel_rfl)
def ReP (ys : List Nat) (w : World) (e : Ending) (w' : World) : Prop := ∃ (ok : Bool) (g : Nat) (m : Int) (bo : Option Addr) (Lb cb : Nat) (ho : Option Addr) (Lh ch : Nat) (bs : List Int) (hs : List Hd), e = .returned (.tuple #[.agg #[.int .i64 m, .slice bo Lb cb, .slice ho Lh ch], .int .i64 (g : Int), .bool ok]) /\ Wh ys ok g m bs (hs.map Hd.kv) /\ Lb <= 65536 /\ Lh <= 65536 /\ (∀ p ∈ hs.map Hd.kv, limK p) /\ IOw w.heap.size w' bo Lb cb bs /\ HOut w w' ho Lh ch hs /\ Fr [] w w'
theorem zob (w w' : World) : HOut w w' none 0 0 [] := ⟨rfl, ⟨rfl, .inl ⟨rfl, rfl⟩⟩, by simp, List.Pairwise.nil⟩
theorem ReP.no {ys : List Nat} {w w' : World} (h : Wh ys false 0 0 [] []) (hf : Fr [] w w') : ReP ys w (.returned (.tuple #[.agg #[.int .i64 0, .slice none 0 0, .slice none 0 0], .int .i64 0, .bool false])) w' :=
  ⟨false, 0, 0, none, 0, 0, none, 0, 0, [], [], rfl, h, by omega, by omega, by simp, IOw.nil _ _, zob _ _, hf⟩
theorem zgj {P : Program} {o : Oper} {a : Act} {C : World -> Prop} {K : Act -> Prop} (ty : TypeId) (x : Operand) (ho : o.op = .load ty x) (g : Nat) (hx : a.eval x = .pointer (some ⟨g, 0, none⟩)) (t : TypeId) (cs : Array Value) (fr : Nat × Nat) (d : TypeDesc) (hg : ∀ w, C w -> w.heap[g]? = some (.cells cs t fr))
    (hu : P.underlying ty = some d) (hd : (match d with | .struct _ | .array _ _ => true | _ => false) = true) (hi : (P.info? ty).map (·.size) = some cs.size) (h : K (a.put o.dst (.agg cs))) : o.quiet P a C K := by
  refine ⟨.agg cs, fun w hw => ?_, h⟩
  unfold Oper.quietAt execOp
  simp only [ho, hx, Instr.loadAt, Instr.sureAddr, Sem.run_bind, Sem.run_pure, Result.andThen_ok, run_loadVar_row w g t ty cs fr d (hg w hw) hu hd hi]
  exact ⟨rfl, rfl⟩
theorem zml (w : World) : (w.alloc (.cells #[.int .i64 0, .slice none 0 0, .slice none 0 0] 57)).heap[w.heap.size]? = some (.cells #[.int .i64 0, .slice none 0 0, .slice none 0 0] 57 (0, 0)) := heap_alloc_new w _
theorem SB.fr0 {w : World} {b : Nat} {x y z : Value} (h : SB w b x y z) (v1 v2 v3 : Value) : SB (((w.setCell ⟨b, 0, none⟩ v1).setCell ⟨b, 1, none⟩ v2).setCell ⟨b, 2, none⟩ v3) b v1 v2 v3 /\ Fr [b] w (((w.setCell ⟨b, 0, none⟩ v1).setCell ⟨b, 1, none⟩ v2).setCell ⟨b, 2, none⟩ v3) :=
  ⟨((h.set0 v1).set1 v2).set2 v3, (Fr.set w ⟨b, 0, none⟩ _ (by simp)).then ((Fr.set _ ⟨b, 1, none⟩ _ (by simp)).then (Fr.set _ ⟨b, 2, none⟩ _ (by simp)))⟩
set_option maxHeartbeats 8000000 in
set_option maxRecDepth 100000 in
theorem zut (ao : Option Addr) (L cap : Nat) (ys : List Nat) (w : World) (hA : BArg w ao L cap ys) (hlen : ys.length < 2^41) :
    Calls Tryz.prog 93 #[.slice ao L cap] w fun e w' => ReP ys w e w' := by
  have HL : Hid (L = ys.length) := hA.len
  have hLm := hA.most
  have hfits := hA.fits
  have HLen : Hid (ys.length < 2^41) := hlen
  have HLow : Hid (∀ x ∈ ys, x < 256) := hA.low
  obtain ⟨w1, HW1⟩ : ∃ w1, Hid (w.alloc (.cells #[.int .i64 0, .slice none 0 0, .slice none 0 0] 57) = w1) := ⟨_, rfl⟩
  have hF1 : Fr [] w w1 := by rw [<- HW1.out]; exact Fr.alloc [] w _
  have hs1 : SB w1 w.heap.size (.int .i64 0) (.slice none 0 0) (.slice none 0 0) := ⟨by rw [<- HW1.out]; exact zml w⟩
  obtain ⟨A, hAe⟩ : ∃ A, A = w.heap.size := ⟨_, rfl⟩
  rw [<- hAe] at hs1
  have HF1 : Hid (Fr [] w w1 /\ w.heap.size <= A) := ⟨hF1, by omega⟩
  have HS1 : Hid (∀ W, Fr [] w1 W -> SB W A (.int .i64 0) (.slice none 0 0) (.slice none 0 0)) := fun W hf => hs1.keep hf (by simp)
  have HA : Hid (∀ W, Fr [] w1 W -> BArg W ao L cap ys) := fun W hf => hA.keep (hF1.then hf)
  have HNo : Hid (∀ W, Fr [] w1 W -> Wh ys false 0 0 [] [] -> (loadVar 57 ⟨A, 0, none⟩).run Tryz.prog (((W.setCell ⟨A, 0, none⟩ (.int .i64 0)).setCell ⟨A, 1, none⟩ (.slice none 0 0)).setCell ⟨A, 2, none⟩ (.slice none 0 0)) = .ok (.agg #[.int .i64 0, .slice none 0 0, .slice none 0 0]) (((W.setCell ⟨A, 0, none⟩ (.int .i64 0)).setCell ⟨A, 1, none⟩ (.slice none 0 0)).setCell ⟨A, 2, none⟩ (.slice none 0 0)) /\ ReP ys w (.returned (.tuple #[.agg #[.int .i64 0, .slice none 0 0, .slice none 0 0], .int .i64 0, .bool false])) (((W.setCell ⟨A, 0, none⟩ (.int .i64 0)).setCell ⟨A, 1, none⟩ (.slice none 0 0)).setCell ⟨A, 2, none⟩ (.slice none 0 0))) := fun W hf hW => by
    obtain ⟨q1, q2⟩ := (HS1.out W hf).fr0 (.int .i64 0) (.slice none 0 0) (.slice none 0 0)
    exact ⟨zek q1.box, ReP.no hW ((HF1.out.1.then hf).on q2 (fun j hj => by have := HF1.out.2; simp at hj; omega))⟩
  have a0 := hs1.c0
  have a1 := hs1.c1
  have a2 := hs1.c2
  have b0 := hs1.fz 0
  have b1 := hs1.fz 1
  have b2 := hs1.fz 2
  clear hs1 hF1 hA hlen
  by_cases hL20 : L < 20
  · have hlt : (L : Int) < 20 := by omega
    obtain ⟨n1, n2⟩ := HNo.out w1 (Fr.refl _ _) (Wh.short (by rw [<- HL.out]; exact hL20))
    have N1 : Hid ((loadVar _ _).run _ _ = _) := n1
    have N2 : Hid (ReP ys w _ _) := n2
    clear n1 n2 HNo
    go_enter Tryz.func93, Tryz.ntmps93
    go_upto_region 1 with fail
    rw [HW1.out, <- hAe]
    clear HW1 hAe
    go_wp2
    refine bodyPost_ret (v := .tuple #[.agg #[.int .i64 0, .slice none 0 0, .slice none 0 0], .int .i64 0, .bool false]) (by rw [zaq rfl _ _ _ A _ rfl N1.out]; rfl) rfl ?_
    exact N2.out
  · have hlt : ¬ (L : Int) < 20 := by omega
    obtain ⟨w2, HW2⟩ : ∃ w2, Hid (w1.alloc (.cells #[.int .u8 0, .int .u8 0, .int .u8 0, .int .u8 0, .int .u8 0, .int .u8 0, .int .u8 0, .int .u8 0, .int .u8 0, .int .u8 0, .int .u8 0, .int .u8 0, .int .u8 0, .int .u8 0, .int .u8 0, .int .u8 0, .int .u8 0, .int .u8 0, .int .u8 0, .int .u8 0] 92) = w2) := ⟨_, rfl⟩
    have hF2 : Fr [] w1 w2 := by rw [<- HW2.out]; exact Fr.alloc [] w1 _
    obtain ⟨R, hR⟩ : ∃ R, R = w1.heap.size := ⟨_, rfl⟩
    have hR2 : w2.heap[R]? = some (.cells #[.int .u8 0, .int .u8 0, .int .u8 0, .int .u8 0, .int .u8 0, .int .u8 0, .int .u8 0, .int .u8 0, .int .u8 0, .int .u8 0, .int .u8 0, .int .u8 0, .int .u8 0, .int .u8 0, .int .u8 0, .int .u8 0, .int .u8 0, .int .u8 0, .int .u8 0, .int .u8 0] 92 (0, 0)) := by rw [<- HW2.out, hR]; exact heap_alloc_new w1 _
    obtain ⟨b, off, hao, hb, hc⟩ := (HA.out _ hF2).lies (by omega)
    obtain ⟨ts, hts⟩ : ∃ ts, ts = ys.take 20 := ⟨_, rfl⟩
    have htl : ts.length = 20 := by rw [hts]; simp; have := HL.out; omega
    have htlow : ∀ x ∈ ts, x < 256 := fun x hx => HLow.out x (List.mem_of_mem_take (by rw [<- hts]; exact hx))
    have hcp := run_copy_row (P := Tryz.prog) w2 58 58 3 5 R 0 20 20 ⟨b, off, none⟩ L cap #[.int .u8 0, .int .u8 0, .int .u8 0, .int .u8 0, .int .u8 0, .int .u8 0, .int .u8 0, .int .u8 0, .int .u8 0, .int .u8 0, .int .u8 0, .int .u8 0, .int .u8 0, .int .u8 0, .int .u8 0, .int .u8 0, .int .u8 0, .int .u8 0, .int .u8 0, .int .u8 0] 92 (bts ts) Tryz.undBs Tryz.sizeB hR2 (by rw [zac, htl]; show 20 = min L 20; omega) (by
      intro j u hj
      have hj' : j < ts.length := by have := (List.getElem?_eq_some_iff.1 hj).1; rwa [zac] at this
      rw [zch ts j hj'] at hj
      rw [show (⟨b, off, none⟩ : Addr).add j = ⟨b, off + j, none⟩ from by simp [Addr.add], hc j (by omega)]
      rw [<- hj, hts]
      simp [List.getD, show j < 20 by omega]) (by rw [zac, htl]; decide) (zcd ts)
    have hbl : (bts ts).length = 20 := by rw [zac, htl]
    rw [hbl] at hcp
    subst hao
    obtain ⟨CA, HCA⟩ : ∃ CA : Array Value, Hid (CA = (bts ts).toArray) := ⟨_, rfl⟩
    obtain ⟨w3, HW3⟩ : ∃ w3, Hid (w2.setRow R CA = w3) := ⟨_, rfl⟩
    have hA3 : Ha w3 R ts := ⟨by rw [<- HW3.out, HCA.out]; exact setRow_heap w2 R _ _ 92 _ hR2, htl, htlow⟩
    have hF3 : Fr [] w1 w3 := hF2.on (by rw [<- HW3.out]; exact Fr.setRow w2 R _) (fun j hj => by simp at hj; omega)
    rw [show (Array.toList #[.int .u8 0, .int .u8 0, .int .u8 0, .int .u8 0, .int .u8 0, .int .u8 0, .int .u8 0, .int .u8 0, .int .u8 0, .int .u8 0, .int .u8 0, .int .u8 0, .int .u8 0, .int .u8 0, .int .u8 0, .int .u8 0, .int .u8 0, .int .u8 0, .int .u8 0, .int .u8 0]).take 0 ++ bts ts ++ (Array.toList #[.int .u8 0, .int .u8 0, .int .u8 0, .int .u8 0, .int .u8 0, .int .u8 0, .int .u8 0, .int .u8 0, .int .u8 0, .int .u8 0, .int .u8 0, .int .u8 0, .int .u8 0, .int .u8 0, .int .u8 0, .int .u8 0, .int .u8 0, .int .u8 0, .int .u8 0, .int .u8 0]).drop (0 + 20) = bts ts from by simp] at hcp
    have hcp2 : (Builtin.copy_ #[58, 58] 3 #[.slice (some ⟨R, 0, none⟩) 20 20, .slice (some ⟨b, off, none⟩) L cap]).run Tryz.prog w2 = .ok (.int .i64 20) w3 := by rw [hcp, <- HW3.out, HCA.out]; rfl
    have HTk : Hid (ys.take 20 = ts) := hts.symm
    have HF3 : Hid (Fr [] w1 w3) := hF3
    have HRow : Hid (∀ W, Fr [] w3 W -> W.heap[R]? = some (.cells CA 92 (0, 0))) := fun W hf => by rw [HCA.out]; exact (hA3.keep hf (by simp)).box
    have HTL : Hid (ts.length = 20) := htl
    have HlowT : Hid (∀ x ∈ ts, x < 256) := htlow
    have hi20 : (Tryz.prog.info? 92).map (·.size) = some CA.size := by rw [HCA.out, List.size_toArray, zac, htl]; exact Tryz.infoHead
    clear hcp hA3 hF3 hF2 hR2 hb hc hts htl htlow hbl
    go_enter Tryz.func93, Tryz.ntmps93
    go_upto_region 1 with fail
    rw [HW1.out, <- hAe]
    go_upto_region 4 with fail
    rw [HW2.out, <- hR]
    clear HW1 HW2 hAe hR
    go_wp2_with fail
    as_aux_lemma =>
      have HXw3 : Hid (Fr [] w3 w3) := Fr.refl _ _
      obtain ⟨G, HG⟩ : ∃ G, Hid (G = leN ((ts.drop 4).take 8)) := ⟨_, rfl⟩
      have hGen : ∀ y : Wd13 w3, Calls Tryz.prog 142 #[.agg CA] y.W fun e w' => e = .returned (.int .u64 (G : Int)) /\ Fr [] y.W w' := fun y => by
        have h9 := zyn ts y.W HTL.out HlowT.out
        rw [<- HG.out, <- HCA.out] at h9
        exact h9
      obtain ⟨so, HSo⟩ : ∃ so, Hid (so = zav (some ⟨b, off, none⟩) cap 20) := ⟨_, rfl⟩
      have hsl : ∀ W : World, (Instr.sliceAt 58 (.slice (some ⟨b, off, none⟩) L cap) (some (.int .i64 20)) none none).run Tryz.prog W = .ok (.slice so (L - 20) (cap - 20)) W := fun W => by rw [HSo.out]; exact zxp (some ⟨b, off, none⟩) L cap 20 (by omega) W
      clear a0 a1 a2 b0 b1 b2
      refine zdn (w1 := w3) (by kernel_rfl) (by kernel_rfl) (Fr.refl _ _) ?_
      go_big_quiet_want
      refine zgj 92 _ rfl R rfl 92 CA (0, 0) _ (fun W hW => (by obtain ⟨x, rfl⟩ := hW; exact HRow.out _ (HXw3.out.then x.h))) Tryz.underlying92 rfl hi20 ?_
      simp only [Act.put, List.setIfInBounds_toArray, List.set_cons_succ, List.set_cons_zero]
      go_big_quiet_on
      repeat (go_big_quiet_step (first
        | (go_at_call 142; with_reducible refine (hGen _).mono ?_; exact fun e w3 hh => ⟨hh.1, ⟨_, Fr.then (Wd13.h _) hh.2⟩, rfl⟩)))
      refine wpQuiet_nil ?_
      rintro _ ⟨y, rfl⟩
      clear hGen hsl
      obtain ⟨w4, hF4⟩ := y
      simp only
      have HXw4 : Hid (Fr [] w3 w4) := hF4
      have HF14 : Hid (Fr [] w1 w4) := HF3.out.then hF4
      have HSa : Hid (∀ W, Fr [] w1 W -> BArg W so (L - 20) (cap - 20) (ys.drop 20)) := fun W hf => by rw [HSo.out]; exact (HA.out W hf).tail 20 (by omega)
      have HGe : Hid (leN ((ys.drop 4).take 8) = G) := by
        have e : (ys.drop 4).take 8 = ((ys.take 20).drop 4).take 8 := by rw [List.drop_take, List.take_take]; rfl
        show _ = _
        rw [e, HTk.out, HG.out]
      have hG64 : G < 2^64 := by
        have h9 := zsw ((ys.drop 4).take 8) (fun x hx => HLow.out x (List.mem_of_mem_drop (List.mem_of_mem_take hx)))
        have h8 : ((ys.drop 4).take 8).length <= 8 := by simp; omega
        rw [HGe.out] at h9
        exact Nat.lt_of_lt_of_le h9 (Nat.le_trans (Nat.pow_le_pow_right (by omega) h8) (by decide))
      clear hF4
      as_aux_lemma =>
        by_cases hr : G < 1 \/ 4611686018427387904 < G
        · as_aux_lemma =>
            have HW : Hid (Wh ys false 0 0 [] []) := Wh.range (by rw [HGe.out]; exact hr)
            rcases hr with hr | hr
            · have hr1 : (G : Int) < 1 := by omega
              obtain ⟨n1, n2⟩ := HNo.out w4 HF14.out HW.out
              have N1 : Hid ((loadVar _ _).run _ _ = _) := n1
              have N2 : Hid (ReP ys w _ _) := n2
              have a0 := (HS1.out _ (HF14.out)).c0
              have a1 := (HS1.out _ (HF14.out)).c1
              have a2 := (HS1.out _ (HF14.out)).c2
              have b0 := (HS1.out _ (HF14.out)).fz 0
              have b1 := (HS1.out _ (HF14.out)).fz 1
              have b2 := (HS1.out _ (HF14.out)).fz 2
              clear n1 n2
              go_wp2
              refine bodyPost_ret (v := .tuple #[.agg #[.int .i64 0, .slice none 0 0, .slice none 0 0], .int .i64 0, .bool false]) (by rw [zaq rfl _ _ _ A _ rfl N1.out]; rfl) rfl ?_
              exact N2.out
            · as_aux_lemma =>
                have hr1 : ¬ (G : Int) < 1 := by omega
                have hr2 : (4611686018427387904 : Int) < (G : Int) := by omega
                obtain ⟨n1, n2⟩ := HNo.out w4 HF14.out HW.out
                have N1 : Hid ((loadVar _ _).run _ _ = _) := n1
                have N2 : Hid (ReP ys w _ _) := n2
                have a0 := (HS1.out _ (HF14.out)).c0
                have a1 := (HS1.out _ (HF14.out)).c1
                have a2 := (HS1.out _ (HF14.out)).c2
                have b0 := (HS1.out _ (HF14.out)).fz 0
                have b1 := (HS1.out _ (HF14.out)).fz 1
                have b2 := (HS1.out _ (HF14.out)).fz 2
                clear n1 n2
                go_wp2
                refine bodyPost_ret (v := .tuple #[.agg #[.int .i64 0, .slice none 0 0, .slice none 0 0], .int .i64 0, .bool false]) (by rw [zaq rfl _ _ _ A _ rfl N1.out]; rfl) rfl ?_
                exact N2.out
        · have hr1 : ¬ (G : Int) < 1 := by omega
          have hr2 : ¬ (4611686018427387904 : Int) < (G : Int) := by omega
          obtain ⟨HV, HHV⟩ : ∃ HV : Array Value, Hid (HV = (bts (hdB G (ys.drop 20))).toArray) := ⟨_, rfl⟩
          obtain ⟨B, HB⟩ : ∃ B, Hid (B = decide (ts = hdB G (ys.drop 20))) := ⟨_, rfl⟩
          have hHd : ∀ y : Wd13 w4, Calls Tryz.prog 78 #[.int .u64 (G : Int), .slice so (L - 20) (cap - 20)] y.W fun e w' => e = .returned (.agg HV) /\ Fr [] y.W w' := fun y => by
            have h9 := zkh G so (L - 20) (cap - 20) (ys.drop 20) y.W (HSa.out _ (HF14.out.then y.h)) hG64
            rw [<- HHV.out] at h9
            exact h9
          have heq : ∀ W : World, (Op.equalIn 10000 92 (.agg CA) (.agg HV)).run Tryz.prog W = .ok B W := fun W => by
            have h9 := zwt ts (hdB G (ys.drop 20)) HlowT.out (zkg _ _) HTL.out (zbt _ _) W
            rw [HCA.out, HHV.out, HB.out]
            exact h9
          have hgd := Tryz.guardHead
          go_upto_region 8 with fail
          refine zdn (w1 := w4) (by kernel_rfl) (by kernel_rfl) (Fr.refl _ _) ?_
          go_big_quiet_want
          refine zgj 92 _ rfl R rfl 92 CA (0, 0) _ (fun W hW => (by obtain ⟨x, rfl⟩ := hW; exact HRow.out _ (HXw4.out.then x.h))) Tryz.underlying92 rfl hi20 ?_
          simp only [Act.put, List.setIfInBounds_toArray, List.set_cons_succ, List.set_cons_zero]
          go_big_quiet_on
          repeat (go_big_quiet_step (first
            | (go_at_call 78; with_reducible refine (hHd _).mono ?_; exact fun e w3 hh => ⟨hh.1, ⟨_, Fr.then (Wd13.h _) hh.2⟩, rfl⟩)))
          refine wpQuiet_nil ?_
          rintro _ ⟨y, rfl⟩
          clear hHd heq hgd
          obtain ⟨w5, hF5⟩ := y
          simp only
          have HF15 : Hid (Fr [] w1 w5) := HF14.out.then hF5
          clear hF5
          as_aux_lemma =>
            cases B with
            | false =>
              have HW : Hid (Wh ys false 0 0 [] []) := Wh.head (by
                rw [HGe.out, HTk.out]
                have := HB.out
                simpa using this.symm)
              obtain ⟨n1, n2⟩ := HNo.out w5 HF15.out HW.out
              have N1 : Hid ((loadVar _ _).run _ _ = _) := n1
              have N2 : Hid (ReP ys w _ _) := n2
              have a0 := (HS1.out _ (HF15.out)).c0
              have a1 := (HS1.out _ (HF15.out)).c1
              have a2 := (HS1.out _ (HF15.out)).c2
              have b0 := (HS1.out _ (HF15.out)).fz 0
              have b1 := (HS1.out _ (HF15.out)).fz 1
              have b2 := (HS1.out _ (HF15.out)).fz 2
              clear n1 n2
              go_wp2
              refine bodyPost_ret (v := .tuple #[.agg #[.int .i64 0, .slice none 0 0, .slice none 0 0], .int .i64 0, .bool false]) (by rw [zaq rfl _ _ _ A _ rfl N1.out]; rfl) rfl ?_
              exact N2.out
            | true =>
              have HGd : Hid (Good ys G (ys.drop 20)) := Good.of (by
                rw [HTk.out]
                have := HB.out
                simpa using this.symm) (by omega) (by omega)
              have HD : Hid (Calls _ _ _ _ _) := zoz so (L - 20) (cap - 20) (ys.drop 20) w5 (HSa.out _ HF15.out) (HSa.out _ HF15.out).len (by have := HLen.out; simp; omega)
              go_wp2_with fail
              refine Calls.mono HD.out ?_
              intro e w6 hp
              obtain ⟨c, m, bo, Lb, cb, ho, Lh, ch, bs, hs, rfl, hans, hLb, hLh, hlim, hio, hho, hF6⟩ := hp.one (fun x hx => HLow.out x (List.mem_of_mem_drop hx))
              have HAns : Hid (AnsD (ys.drop 20) c m bs (hs.map Hd.kv)) := hans
              obtain ⟨w7, HW7⟩ : ∃ w7, Hid (w6.alloc (.cells #[.int .i64 m, .slice bo Lb cb, .slice ho Lh ch] 57) = w7) := ⟨_, rfl⟩
              have hF7 : Fr [] w6 w7 := by rw [<- HW7.out]; exact Fr.alloc [] w6 _
              have hs7 : SB w7 w6.heap.size (.int .i64 m) (.slice bo Lb cb) (.slice ho Lh ch) := ⟨by rw [<- HW7.out]; exact heap_alloc_new w6 _⟩
              have HF17 : Hid (Fr [] w1 w7) := HF15.out.then (hF6.then hF7)
              have HOut7 : Hid (Lb <= 65536 /\ Lh <= 65536 /\ (∀ p ∈ hs.map Hd.kv, limK p) /\ IOw w5.heap.size w7 bo Lb cb bs /\ HOut w5 w7 ho Lh ch hs) := ⟨hLb, hLh, hlim, hio.keepS hF7 (by simp), hho.keep hF7⟩
              have j0 := hs7.c0
              have j1 := hs7.c1
              have j2 := hs7.c2
              obtain ⟨Q, hQ⟩ : ∃ Q, Q = w6.heap.size := ⟨_, rfl⟩
              clear HD hp hans hLb hLh hlim hio hho hF6 hF7 hs7
              by_cases hc : c = 0
              · subst hc
                have HR : Hid (ReP ys w (.returned (.tuple #[.agg #[.int .i64 m, .slice bo Lb cb, .slice ho Lh ch], .int .i64 (G : Int), .bool true])) (((w7.setCell ⟨A, 0, none⟩ (.int .i64 m)).setCell ⟨A, 1, none⟩ (.slice bo Lb cb)).setCell ⟨A, 2, none⟩ (.slice ho Lh ch))) := by
                  obtain ⟨p1, p2, p3, p4, p5⟩ := HOut7.out
                  have q0 := HS1.out w7 HF17.out
                  obtain ⟨q1, q2⟩ := q0.fr0 (.int .i64 m) (.slice bo Lb cb) (.slice ho Lh ch)
                  have hz : w.heap.size <= w5.heap.size := (HF1.out.1.then HF15.out).size
                  refine ⟨true, G, m, bo, Lb, cb, ho, Lh, ch, bs, hs, rfl, Wh.ok HGd.out HAns.out, p1, p2, p3, ?_, ?_, (HF1.out.1.then HF17.out).on q2 (fun j hj => by have := HF1.out.2; simp at hj; omega)⟩
                  · have h8 := p4.offS q0 q2
                    exact ⟨h8.len, zby h8.row hz⟩
                  · have h8 := p5.offS q0 q2
                    exact ⟨h8.len, zby h8.row hz, fun x hx => (h8.each x hx).later hz, h8.apart⟩
                have HLd : Hid ((loadVar 57 ⟨A, 0, none⟩).run Tryz.prog (((w7.setCell ⟨A, 0, none⟩ (.int .i64 m)).setCell ⟨A, 1, none⟩ (.slice bo Lb cb)).setCell ⟨A, 2, none⟩ (.slice ho Lh ch)) = .ok (.agg #[.int .i64 m, .slice bo Lb cb, .slice ho Lh ch]) (((w7.setCell ⟨A, 0, none⟩ (.int .i64 m)).setCell ⟨A, 1, none⟩ (.slice bo Lb cb)).setCell ⟨A, 2, none⟩ (.slice ho Lh ch))) := zek ((HS1.out w7 HF17.out).fr0 (.int .i64 m) (.slice bo Lb cb) (.slice ho Lh ch)).1.box
                have a0 := (HS1.out _ HF17.out).c0
                have a1 := (HS1.out _ HF17.out).c1
                have a2 := (HS1.out _ HF17.out).c2
                have b0 := (HS1.out _ HF17.out).fz 0
                have b1 := (HS1.out _ HF17.out).fz 1
                have b2 := (HS1.out _ HF17.out).fz 2
                have hwi : IntKind.i64.wrap (G : Int) = (G : Int) := by rw [IntKind.wrap_i64]; omega
                go_upto_region 11 with fail
                rw [HW7.out]
                rw [<- hQ] at j0 j1 j2 ⊢
                clear HW7 hQ
                go_wp2
                refine bodyPost_ret (v := .tuple #[.agg #[.int .i64 m, .slice bo Lb cb, .slice ho Lh ch], .int .i64 (G : Int), .bool true]) (by rw [zaq rfl _ _ _ A _ rfl HLd.out]; rfl) rfl ?_
                exact HR.out
              · have HW : Hid (Wh ys false 0 0 [] []) := Wh.bad HGd.out HAns.out hc
                have hc1 : ((c : Int) != 0) = true := by simp; omega
                go_upto_region 11 with fail
                rw [HW7.out]
                clear HW7 hQ
                obtain ⟨n1, n2⟩ := HNo.out w7 HF17.out HW.out
                have N1 : Hid ((loadVar _ _).run _ _ = _) := n1
                have N2 : Hid (ReP ys w _ _) := n2
                have a0 := (HS1.out _ (HF17.out)).c0
                have a1 := (HS1.out _ (HF17.out)).c1
                have a2 := (HS1.out _ (HF17.out)).c2
                have b0 := (HS1.out _ (HF17.out)).fz 0
                have b1 := (HS1.out _ (HF17.out)).fz 1
                have b2 := (HS1.out _ (HF17.out)).fz 2
                clear n1 n2
                go_wp2
                refine bodyPost_ret (v := .tuple #[.agg #[.int .i64 0, .slice none 0 0, .slice none 0 0], .int .i64 0, .bool false]) (by rw [zaq rfl _ _ _ A _ rfl N1.out]; rfl) rfl ?_
                exact N2.out
end Go.Proofs.YtembflnhhfliaaaGreatDoor
