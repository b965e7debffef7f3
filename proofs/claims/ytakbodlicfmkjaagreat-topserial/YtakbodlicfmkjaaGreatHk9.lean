/- Keys with what is chosen of their versions: contracts of pick, All, Dump. Conditions as each names them. -/
import Derived.Test.YtakbodlicfmkjaaGreatHa9
namespace Go.Proofs.YtakbodlicfmkjaaGreat.O
open Go.ChangeShapes Go.WideShapes Go.ChangeAt Go.RowKit Go.Lib Go.Maps
set_option linter.unusedVariables false
set_option linter.unusedSimpArgs false

def hdC (h : Hd) : List Value := [.string h.key, .slice h.vo h.L h.cap]
def hdsC (hs : List Hd) : List Value := hs.flatMap hdC
theorem hdsC_length (hs : List Hd) : (hdsC hs).length = hs.length * 2 := by
  induction hs with
  | nil => rfl
  | cons p ps ih => simp [hdsC, hdC] at *; omega
theorem hdsC_snoc (hs : List Hd) (x : Hd) : hdsC (hs ++ [x]) = hdsC hs ++ hdC x := by simp [hdsC]
theorem hdsC_get (hs : List Hd) (i : Nat) (h : i < hs.length) : (hdsC hs)[i * 2]? = some (.string (hs.getD i Hd.zero).key) ∧ (hdsC hs)[i * 2 + 1]? = some (.slice (hs.getD i Hd.zero).vo (hs.getD i Hd.zero).L (hs.getD i Hd.zero).cap) := by
  induction hs generalizing i with
  | nil => simp at h
  | cons p ps ih =>
    cases i with
    | zero => simp [hdsC, hdC]
    | succ i =>
      have := ih i (by simpa using h)
      have e1 : (hdsC (p :: ps))[(i + 1) * 2]? = (hdsC ps)[i * 2]? := by
        rw [show (i + 1) * 2 = i * 2 + 2 by omega]
        simp [hdsC, hdC]
      have e2 : (hdsC (p :: ps))[(i + 1) * 2 + 1]? = (hdsC ps)[i * 2 + 1]? := by
        rw [show (i + 1) * 2 + 1 = i * 2 + 1 + 2 by omega]
        simp [hdsC, hdC]
      rw [e1, e2]
      simpa using this
theorem hdC_one (h : Hd) : ∀ u ∈ hdC h, u.oneCell' = true := by
  intro u hu
  simp only [hdC, List.mem_cons, List.not_mem_nil, or_false] at hu
  rcases hu with rfl | rfl <;> rfl
/-- Two rows share no block. -/
def Apa (a b : Option Addr) : Prop := ∀ p q, a = some p → b = some q → p.block ≠ q.block
/-- Keys with their versions, handed out: a row of its own, each key's versions in a row of their own, made since w. -/
structure HOut (w w' : World) (ro : Option Addr) (N rc : Nat) (hs : List Hd) : Prop where
  len : N = hs.length
  row : w'.ownsRow w.heap.size 126 2 (.slice ro N rc) N (hdsC hs)
  each : ∀ h ∈ hs, VOut w w' h.vo h.L h.cap h.vs
  apart : hs.Pairwise fun a b => Apa a.vo b.vo
theorem HOut.keep {w w1 w2 : World} {ro : Option Addr} {N rc : Nat} {hs : List Hd} (h : HOut w w1 ro N rc hs) (hf : Fr [] w1 w2) : HOut w w2 ro N rc hs := ⟨h.len, owns_keepB h.row hf (by simp), fun x hx => (h.each x hx).keepS hf (by simp), h.apart⟩
theorem VOut.block {w w' : World} {ro : Option Addr} {N rc : Nat} {vs : List Vn} (h : VOut w w' ro N rc vs) (p : Addr) (hp : ro = some p) : w.heap.size ≤ p.block ∧ p.block < w'.heap.size := by
  obtain ⟨rf, _, ho⟩ := h.own
  have e : (Value.slice ro N rf).ownBlock = some p.block := by rw [hp]; rfl
  obtain ⟨h1, cur, h2⟩ := owns_cells ho e
  exact ⟨h1, lt_of_block h2⟩
theorem HOut.newApart {w wr w2 : World} {ro : Option Addr} {N rc : Nat} {hs : List Hd} {vo : Option Addr} {L c : Nat} {vs : List Vn} (h : HOut w wr ro N rc hs) (hV : VOut wr w2 vo L c vs) : ∀ x ∈ hs, Apa x.vo vo := by
  intro x hx p q hp hq e
  have h1 := (h.each x hx).block p hp
  have h2 := hV.block q hq
  omega
/-- What is picked: by rising keys, of each what f says, without those of which it says nothing. -/
structure PkT (M f : ByteArray → List Vn) (hs : List Hd) : Prop where
  inc : hs.Pairwise fun a b => Op.bytesLess a.key.toList b.key.toList = true
  is : ∀ h ∈ hs, h.vs = f h.key ∧ f h.key ≠ [] ∧ M h.key ≠ []
  all : ∀ k, M k ≠ [] → f k ≠ [] → ∃ h ∈ hs, h.key = k
theorem PkT.mOf {M f : ByteArray → List Vn} {hs : List Hd} (h : PkT M f hs) (hl : LoOk hs) (hf : ∀ k, M k = [] → f k = []) : mOf hs = f := by
  funext k
  by_cases hk : f k = []
  · rw [hk]
    exact mOf_off fun x hx e => (h.is x hx).2.1 (by rw [e]; exact hk)
  · have hM : M k ≠ [] := fun e => hk (hf k e)
    obtain ⟨x, hx, e⟩ := h.all k hM hk
    rw [← e, mOf_mem hl hx]
    exact (h.is x hx).1
theorem PkT.ok {M f : ByteArray → List Vn} {hs : List Hd} (h : PkT M f hs) (hk : ∀ k, M k ≠ [] → okK9 k) (hf : ∀ k, okV (f k)) : LoOk hs :=
  ⟨h.inc, fun x hx => ⟨hk x.key (h.is x hx).2.2, by rw [(h.is x hx).1]; exact (h.is x hx).2.1, by rw [(h.is x hx).1]; exact hf _⟩⟩
theorem HOut.rs {w w' : World} {ro : Option Addr} {N rc : Nat} {hs : List Hd} (h : HOut w w' ro N rc hs) (hl : LoOk hs) (hN : N ≤ 3518437208882) : HRs w' ro hs := by
  refine ⟨fun h0 => ?_, by rw [← h.len]; exact hN, fun x hx => ?_⟩
  · rcases h.row.2 with ⟨_, h1⟩ | ⟨g, cap, cur, hv, _, hg, _, _, _, ht⟩
    · have := h.len; omega
    · cases hv
      refine ⟨g, 0, rfl, lt_of_block hg, fun i hi => ?_⟩
      obtain ⟨e1, e2⟩ := hdsC_get hs i hi
      have hN2 := h.len
      constructor
      · rw [cell_of_row _ _ _ _ _ _ hg, Nat.zero_add, ← Array.getElem?_toList, ← e1, ← ht, List.getElem?_take_of_lt (by omega)]
      · rw [cell_of_row _ _ _ _ _ _ hg, Nat.zero_add, ← Array.getElem?_toList, ← e2, ← ht, List.getElem?_take_of_lt (by omega)]
  · have hV := h.each x hx
    have ho := hl.2 x hx
    exact ⟨by have := ho.1.2; omega, hV.len, hV.cap, hV.each ho.2.2⟩
theorem Tryz.undHds : Tryz.prog.underlying 82 = some (.slice 126) := by kernel_rfl
theorem Tryz.infoHd : (Tryz.prog.info? 126).map (fun i => (i.zero, i.size, i.bytes)) = some (some (.agg #[.string ⟨#[]⟩, .slice none 0 0]), 2, 40) := by kernel_rfl
theorem infoHd_parts : ∃ i, Tryz.prog.info? 126 = some i ∧ i.zero = some (.agg #[.string ⟨#[]⟩, .slice none 0 0]) ∧ i.size = 2 ∧ i.bytes = 40 := by
  have h := Tryz.infoHd
  cases hi : Tryz.prog.info? 126 with
  | none => rw [hi] at h; cases h
  | some i =>
    rw [hi] at h
    simp only [Option.map_some, Option.some.injEq, Prod.mk.injEq] at h
    exact ⟨i, rfl, h.1, h.2.1, h.2.2⟩
/-- One key with its versions more. -/
theorem wpList_appH (w0 w : World) {ops : Array Oper} {rest : List Oper} {o : Oper} {a : Act} {Q : Exit → Act → World → Prop} (hgd : o.guard = none) (s x : Operand)
    (ho : o.op = .call { callee := .builtin .append, args := #[s, x], argTypes := #[82, 82] })
    (so : Option Addr) (N c : Nat) (hs : List Hd) (hsv : a.eval s = .slice so N c) (hK : HOut w0 w so N c hs) (hN : N < 3518437208883) (h0 : w0.heap.size ≤ w.heap.size) (p : Hd) (hV : VOut w0 w p.vo p.L p.cap p.vs) (hAp : ∀ x ∈ hs, Apa x.vo p.vo) (hx : a.eval x = .slice (some ⟨w.heap.size, 0, none⟩) 1 1)
    (h : ∀ so' c' w', HOut w0 w' so' (N + 1) c' (hs ++ [p]) → Fr (Value.slice so N c).ownBlock.toList w w' → wpList Tryz.prog ops Q rest (a.put o.dst (.slice so' (N + 1) c')) w') : wpList Tryz.prog ops Q (o :: rest) a (w.alloc (.cells #[.string p.key, .slice p.vo p.L p.cap] 126)) := by
  obtain ⟨i0, hi, hz0, hz1, hz2⟩ := infoHd_parts
  have hmx : 3518437208884 ≤ maxLen := by unfold maxLen; omega
  refine wpList_append_own (w.alloc (.cells #[.string p.key, .slice p.vo p.L p.cap] 126)) hgd s x 82 ho w0.heap.size 126 i0 _ 2 40 Tryz.undHds hi hz0 hz1 hz2 rfl (by decide) (.slice so N c) N (hdsC hs) hsv (owns_keepB hK.row (Fr.alloc [] w _) (by simp)) ⟨w.heap.size, 0, none⟩ 1 1 (hdC p) hx rfl ?_ (hdC_one p) (by omega) (by omega) (by simp; omega) ?_
  · intro j u hu
    have hr := heap_alloc_new w (.cells #[.string p.key, .slice p.vo p.L p.cap] 126)
    rw [Addr.add_lit, cell_of_row _ _ _ _ _ _ hr, Nat.zero_add]
    simpa [hdC] using hu
  · intro v' w' hown' hg' _
    obtain ⟨bo, cap', rfl⟩ : ∃ bo cap', v' = .slice bo (N + 1) cap' := by
      rcases hown'.2 with ⟨_, h1⟩ | ⟨g, cap, _, rfl, _⟩
      · omega
      · exact ⟨_, cap, rfl⟩
    rw [← hdsC_snoc] at hown'
    have hF : Fr (Value.slice so N c).ownBlock.toList w w' := ((Fr.alloc [] w _).mono (by simp)).then (Fr.grown (S := (Value.slice so N c).ownBlock.toList) hg' (fun y hy _ => Option.mem_toList.2 hy))
    refine h bo cap' w' ⟨by rw [hK.len]; simp, hown', fun y hy => ?_, by rw [List.pairwise_append]; exact ⟨hK.apart, List.pairwise_singleton _ _, fun a ha b hb => by simp at hb; subst hb; exact hAp a ha⟩⟩ hF
    have hVy : VOut w0 w y.vo y.L y.cap y.vs := by
      rcases List.mem_append.1 hy with h1 | h1
      · exact hK.each y h1
      · simp at h1; subst h1; exact hV
    refine hVy.keepS hF fun j hj hm => ?_
    obtain ⟨_, c1, e1⟩ := hVy.blk j hj
    obtain ⟨_, c2, e2⟩ := owns_cells hK.row (Option.mem_toList.1 hm)
    rw [e1] at e2
    simp only [Option.some.injEq, Obj.cells.injEq] at e2
    exact absurd e2.2.1 (by decide)
/-- What is picked of the first so many keys. -/
structure PkI (M f : ByteArray → List Vn) (ss : List ByteArray) (hs : List Hd) : Prop where
  keys : hs.map (·.key) = ss.filter fun k => !(f k).isEmpty
  is : ∀ h ∈ hs, h.vs = f h.key
theorem PkI.done {M f : ByteArray → List Vn} {ss : List ByteArray} {hs : List Hd} (h : PkI M f ss hs) (hk : KsT M ⟨#[]⟩ ⟨#[]⟩ ss) : PkT M f hs := by
  have hmem : ∀ x ∈ hs, x.key ∈ ss ∧ f x.key ≠ [] := fun x hx => by
    have h1 : x.key ∈ hs.map (·.key) := List.mem_map.2 ⟨x, hx, rfl⟩
    rw [h.keys, List.mem_filter] at h1
    exact ⟨h1.1, fun e => by rw [e] at h1; simp at h1⟩
  refine ⟨?_, fun x hx => ⟨h.is x hx, (hmem x hx).2, ((hk.mem _).1 (hmem x hx).1).1⟩, fun k h1 h2 => ?_⟩
  · have h1 : (hs.map (·.key)).Pairwise fun a b => Op.bytesLess a.toList b.toList = true := by
      rw [h.keys]
      exact List.Pairwise.filter _ hk.inc
    exact List.pairwise_map.1 h1
  · have h3 : k ∈ hs.map (·.key) := by
      rw [h.keys, List.mem_filter]
      refine ⟨(hk.mem k).2 ⟨h1, inS_all2 k⟩, ?_⟩
      cases hf : f k with
      | nil => exact absurd hf h2
      | cons a r => rfl
    obtain ⟨x, hx, e⟩ := List.mem_map.1 h3
    exact ⟨x, hx, e⟩
theorem PkI.out {M f : ByteArray → List Vn} {ss : List ByteArray} {hs : List Hd} {s : ByteArray} (h : PkI M f ss hs) (hf : f s = []) : PkI M f (ss ++ [s]) hs := by
  refine ⟨?_, h.is⟩
  rw [List.filter_append, h.keys]
  simp [hf]
theorem PkI.inn {M f : ByteArray → List Vn} {ss : List ByteArray} {hs : List Hd} {s : ByteArray} (h : PkI M f ss hs) {x : Hd} (hf : f s ≠ []) (hx : x.key = s) (hv : x.vs = f s) : PkI M f (ss ++ [s]) (hs ++ [x]) := by
  refine ⟨?_, fun y hy => ?_⟩
  · rw [List.filter_append, List.map_append, h.keys]
    congr 1
    have : (f s).isEmpty = false := by cases hq : f s with
      | nil => exact absurd hq hf
      | cons a r => rfl
    simp [this, hx]
  · rcases List.mem_append.1 hy with h1 | h1
    · exact h.is y h1
    · simp at h1; subst h1; rw [hx]; exact hv
theorem kt_snoc (ss : List ByteArray) (i : Nat) (h : i < ss.length) : ss.take (i + 1) = ss.take i ++ [ss.getD i ⟨#[]⟩] := by
  rw [List.take_add_one]
  simp [List.getD, h]
set_option maxHeartbeats 8000000 in
set_option maxRecDepth 100000 in
theorem pickA_any {w0 : World} {sb b n : Nat} {M : ByteArray → List Vn} (f : ByteArray → List Vn) (w : World) (h : Sh w0 w sb b n M) (hn : n < 3518437208883)
    (hCh : ∀ W, Fr [] w W → ∀ key vo L cap, VRs W vo (M key) → okV (M key) → L = (M key).length → L ≤ cap → Calls Tryz.prog 113 #[.slice vo L cap] W fun e w' => ∃ ro N rc, e = .returned (.slice ro N rc) ∧ VOut W w' ro N rc (f key) ∧ Fr [] W w') (hfl : ∀ k, (f k).length ≤ 131072) :
    Calls Tryz.prog 112 #[.pointer (some ⟨sb, 0, none⟩), .func (Fn.func 113) #[] #[]] w fun e w' => ∃ ro N rc hs, e = .returned (.slice ro N rc) ∧ HOut w w' ro N rc hs ∧ N ≤ n ∧ PkT M f hs ∧ Fr [] w w' := by
  have HS : Hid (∀ W, Fr [] w W → Sh w0 W sb b n M) := fun W hf => h.keep hf
  have HT : Hid (Calls _ _ _ _ _) := hstretch_any ⟨#[]⟩ ⟨#[]⟩ w h hn
  have HCh : Hid (∀ W, Fr [] w W → ∀ key vo L cap, VRs W vo (M key) → okV (M key) → L = (M key).length → L ≤ cap → Calls Tryz.prog 113 #[.slice vo L cap] W fun e w' => ∃ ro N rc, e = .returned (.slice ro N rc) ∧ VOut W w' ro N rc (f key) ∧ Fr [] W w') := hCh
  have HFl : Hid (∀ k, (f k).length ≤ 131072) := hfl
  clear h hCh hfl
  go_enter Tryz.func112, Tryz.ntmps112
  go_wp2_with fail
  refine Calls.mono HT.out ?_
  rintro e w1 ⟨so, Nk, c, ss, rfl, hK1, hNk, hKs, hF1⟩
  have HK1 : Hid (KOut w w1 so Nk c ss) := hK1
  have HKs : Hid (KsT M ⟨#[]⟩ ⟨#[]⟩ ss ∧ Nk = ss.length) := ⟨hKs, hK1.len⟩
  have HE0 : Hid (HOut w w1 none 0 0 [] ∧ PkI M f (ss.take 0) []) := ⟨⟨rfl, ⟨rfl, .inl ⟨rfl, rfl⟩⟩, by simp, List.Pairwise.nil⟩, ⟨rfl, by simp⟩⟩
  have HF1 : Hid (Fr [] w w1) := hF1
  clear HT hK1 hKs hF1
  go_wp2_with fail
  go_loopw [5, 12] (fun ll ii wr => ∃ (ro : Option Addr) (N rc i : Nat) (hs : List Hd), ll = .slice ro N rc ∧ ii = .int .i64 i ∧ i ≤ Nk ∧ N ≤ i ∧ Hid (HOut w wr ro N rc hs ∧ PkI M f (ss.take i) hs) ∧ Hid (KOut w wr so Nk c ss) ∧ Hid (Fr [] w wr)) (fun _ ii _ => Nk - (RowKit.intOf ii).toNat)
  case atStart => exact ⟨none, 0, 0, 0, [], rfl, rfl, Nat.zero_le _, Nat.le_refl _, HE0, HK1, HF1⟩
  case round =>
    obtain ⟨ro, N, rc, i, hs, rfl, rfl, hiN, hNi, HE, HK, HF⟩ := hrel
    by_cases hi : i < Nk
    · have hi' : i < ss.length := by rw [← HKs.out.2]; exact hi
      obtain ⟨g, rfl, cg⟩ := HK.out.at i hi'
      have HSn : Hid (ss.take (i + 1) = ss.take i ++ [ss.getD i ⟨#[]⟩]) := kt_snoc ss i hi'
      obtain ⟨s, hs'⟩ : ∃ s, s = ss.getD i ⟨#[]⟩ := ⟨_, rfl⟩
      have hsm : s ∈ ss := by rw [hs']; simp [List.getD, hi']
      rw [← hs'] at cg HSn
      have hSr := HS.out _ HF.out
      have hok := hSr.keyok ((HKs.out.1.mem s).1 hsm).1
      have cs := hSr.cell
      obtain ⟨vo, Lv, cv, hlk, hV, _⟩ := hSr.look s (by have := hok.2; unfold maxLen; omega)
      have HG : Hid (Calls _ _ _ _ _) := HCh.out wr HF.out s vo Lv cv (hV.each (hSr.ok s)) (hSr.ok s) hV.len hV.cap
      clear hs' hsm hok hSr hV
      go_wp2_with fail
      refine Calls.mono HG.out ?_
      rintro e w2 ⟨vo2, L2, c2, rfl, hV2, hF2⟩
      have HE2 : Hid (HOut w w2 ro N rc hs) := HE.out.1.keep hF2
      have HPI : Hid (PkI M f (ss.take i) hs) := HE.out.2
      have HK2 : Hid (KOut w w2 (some ⟨g, 0, none⟩) Nk c ss) := HK.out.keep hF2
      have HF2 : Hid (Fr [] w w2) := HF.out.then hF2
      have HV2 : Hid (VOut w w2 vo2 L2 c2 (f s)) := hV2.later HF.out.size
      have hL2 : L2 ≤ 131072 := by rw [hV2.len]; exact HFl.out s
      have HApx : Hid (∀ x ∈ hs, Apa x.vo vo2) := HE.out.1.newApart hV2
      clear HE HK HF hF2 HG hV2
      by_cases hz : L2 = 0
      · have HP2 : Hid (HOut w w2 ro N rc hs ∧ PkI M f (ss.take (i + 1)) hs) := ⟨HE2.out, by
          rw [HSn.out]
          exact HPI.out.out (List.eq_nil_of_length_eq_zero (by have := HV2.out.len; omega))⟩
        subst hz
        clear HSn HPI
        go_wp2_with fail
        go_roundw
        case rel => exact ⟨ro, N, rc, i + 1, hs, rfl, by simp, by omega, by omega, HP2, HK2, HF2⟩
        case measure => simp [RowKit.intOf]; omega
      · have hz1 : decide ((0 : Int) < (L2 : Int)) = true := by simp; omega
        have hz2 : decide (0 < L2) = true := by simp; omega
        have hz3 : 0 < L2 := by omega
        have HP2 : Hid (PkI M f (ss.take (i + 1)) (hs ++ [⟨s, vo2, L2, c2, f s⟩])) := by
          show PkI _ _ _ _
          rw [HSn.out]
          refine HPI.out.inn (fun e => hz ?_) rfl rfl
          have := HV2.out.len
          rw [e] at this
          exact this
        have hsz2 : w.heap.size ≤ w2.heap.size := HF2.out.size
        have HY : Hid (∀ so' c' w3, HOut w w3 so' (N + 1) c' (hs ++ [⟨s, vo2, L2, c2, f s⟩]) → Fr (Value.slice ro N rc).ownBlock.toList w2 w3 → Hid (HOut w w3 so' (N + 1) c' (hs ++ [⟨s, vo2, L2, c2, f s⟩]) ∧ PkI M f (ss.take (i + 1)) (hs ++ [⟨s, vo2, L2, c2, f s⟩])) ∧ Hid (KOut w w3 (some ⟨g, 0, none⟩) Nk c ss) ∧ Hid (Fr [] w w3)) := by
          intro so' c' w3 e1 e2
          refine ⟨⟨e1, HP2.out⟩, ⟨HK2.out.len, owns_keepB HK2.out.row e2 (own_apart HK2.out.row HE2.out.row (by decide))⟩, HF2.out.on e2 (fun x hx => (owns_cells HE2.out.row (Option.mem_toList.1 hx)).1)⟩
        clear HSn HPI HP2 hz
        go_wp2_with (first
          | (at_builtin; refine wpList_appH w w2 rfl _ _ rfl ro N rc hs rfl HE2.out (by omega) hsz2 ⟨s, vo2, L2, c2, f s⟩ HV2.out HApx.out rfl ?_
             intro so' c' w3 e1 e2
             have HR2 : Hid (_ ∧ _ ∧ _) := HY.out so' c' w3 e1 e2
             clear e1 e2
             go_frame)
          | fail)
        go_roundw
        case rel => exact ⟨so', N + 1, c', i + 1, _, rfl, by simp, by omega, by omega, HR2.out.1, HR2.out.2.1, HR2.out.2.2⟩
        case measure => simp [RowKit.intOf]; omega
    · have hiN2 : i = ss.length := by have := HKs.out.2; omega
      have HR : Hid (HOut w wr ro N rc hs ∧ PkT M f hs ∧ Fr [] w wr) := by
        have h1 := HE.out
        rw [hiN2, List.take_length] at h1
        exact ⟨h1.1, h1.2.done HKs.out.1, HF.out⟩
      have hNn : N ≤ n := by omega
      clear hiN2 HE HK HF
      go_wp2
      go_ret
      exact ⟨ro, N, rc, hs, rfl, HR.out.1, hNn, HR.out.2⟩
theorem hall_any {w0 : World} {sb b n : Nat} {M : ByteArray → List Vn} (w : World) (h : Sh w0 w sb b n M) (hn : n < 3518437208883) :
    Calls Tryz.prog 82 #[.pointer (some ⟨sb, 0, none⟩)] w fun e w' => ∃ ro N rc hs, e = .returned (.slice ro N rc) ∧ HOut w w' ro N rc hs ∧ N ≤ n ∧ PkT M M hs ∧ Fr [] w w' := by
  have HT : Hid (Calls _ _ _ _ _) := hthere_any w h
  have HS : Hid (∀ W, Fr [] w W → Sh w0 W sb b n M) := fun W hf => h.keep hf
  have HFl : Hid (∀ k, (M k).length ≤ 131072) := fun k => by have := okV_few (h.ok k); omega
  clear h
  go_enter Tryz.func82, Tryz.ntmps82
  go_wp2_with fail
  refine Calls.mono HT.out ?_
  rintro e w1 ⟨rfl, hF1⟩
  have HC : Hid (Calls _ _ _ _ _) := pickA_any M w1 (HS.out _ hF1) hn (fun W hW key vo L cap hV ho hL hc => by
    refine (clone_any vo L cap (M key) W hV hL).mono ?_
    rintro e w' ⟨ro, rc, rfl, h1, h2⟩
    exact ⟨ro, L, rc, rfl, h1, h2⟩) HFl.out
  have HF1 : Hid (Fr [] w w1) := hF1
  clear HT hF1
  go_wp2_with fail
  refine Calls.mono HC.out ?_
  rintro e w2 ⟨ro, N, rc, hs, rfl, hE, hN, hI, hF2⟩
  have HR : Hid (HOut w w2 ro N rc hs ∧ N ≤ n ∧ PkT M M hs ∧ Fr [] w w2) := ⟨⟨hE.len, own_base hE.row HF1.out.size, fun x hx => (hE.each x hx).later HF1.out.size, hE.apart⟩, hN, hI, HF1.out.then hF2⟩
  clear HC hE hN hI hF2
  go_wp2
  go_ret
  exact ⟨ro, N, rc, hs, rfl, HR.out⟩
end Go.Proofs.YtakbodlicfmkjaaGreat.O
