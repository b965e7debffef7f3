/- Texts of this claim laid together, one behind the other: contracts and plain lemmas; conditions as each names them. -/
import Derived.Test.YtomajifklajilaaGreatGp9
import Derived.Test.YtomajifklajilaaGreatGp7
/- Keys with what is chosen of their versions: contracts of pick, All, Dump. Conditions as each names them. -/
namespace Go.Proofs.YtomajifklajilaaGreat
open Go.ChangeShapes Go.WideShapes Go.ChangeAt Go.RowKit Go.Lib Go.Maps
set_option linter.unusedVariables false
set_option linter.unusedSimpArgs false

def hdC (h : Hd) : List Value := [.string h.key, .slice h.vo h.L h.cap]
def hdsC (hs : List Hd) : List Value := hs.flatMap hdC
theorem hdsC_length (hs : List Hd) : (hdsC hs).length = hs.length * 2 := by
  induction hs with
  | nil => rfl
  | cons p ps ih => simp [hdsC, hdC] at *; omega
theorem hdsC_snoc (hs : List Hd) (x : Hd) : hdsC (hs ++ [x]) = hdsC hs ++ hdC x := by simp [hdsC]
theorem hdsC_get (hs : List Hd) (i : Nat) (h : i < hs.length) : (hdsC hs)[i * 2]? = some (.string (hs.getD i Hd.zero).key) ∧ (hdsC hs)[i * 2 + 1]? = some (.slice (hs.getD i Hd.zero).vo (hs.getD i Hd.zero).L (hs.getD i Hd.zero).cap) := by
  induction hs generalizing i with
  | nil => simp at h
  | cons p ps ih =>
    cases i with
    | zero => simp [hdsC, hdC]
    | succ i =>
      have := ih i (by simpa using h)
      have e1 : (hdsC (p :: ps))[(i + 1) * 2]? = (hdsC ps)[i * 2]? := by
        rw [show (i + 1) * 2 = i * 2 + 2 by omega]
        simp [hdsC, hdC]
      have e2 : (hdsC (p :: ps))[(i + 1) * 2 + 1]? = (hdsC ps)[i * 2 + 1]? := by
        rw [show (i + 1) * 2 + 1 = i * 2 + 1 + 2 by omega]
        simp [hdsC, hdC]
      rw [e1, e2]
      simpa using this
theorem hdC_one (h : Hd) : ∀ u ∈ hdC h, u.oneCell' = true := by
  intro u hu
  simp only [hdC, List.mem_cons, List.not_mem_nil, or_false] at hu
  rcases hu with rfl | rfl <;> rfl
/-- Two rows share no block. -/
def Apa (a b : Option Addr) : Prop := ∀ p q, a = some p → b = some q → p.block ≠ q.block
/-- Keys with their versions, handed out: a row of its own, each key's versions in a row of their own, made since w. -/
structure HOut (w w' : World) (ro : Option Addr) (N rc : Nat) (hs : List Hd) : Prop where
  len : N = hs.length
  row : w'.ownsRow w.heap.size 70 2 (.slice ro N rc) N (hdsC hs)
  each : ∀ h ∈ hs, VOut w w' h.vo h.L h.cap h.vs
  apart : hs.Pairwise fun a b => Apa a.vo b.vo
theorem HOut.keep {w w1 w2 : World} {ro : Option Addr} {N rc : Nat} {hs : List Hd} (h : HOut w w1 ro N rc hs) (hf : Fr [] w1 w2) : HOut w w2 ro N rc hs := ⟨h.len, owns_keepB h.row hf (by simp), fun x hx => (h.each x hx).keepS hf (by simp), h.apart⟩
theorem VOut.block {w w' : World} {ro : Option Addr} {N rc : Nat} {vs : List Vn} (h : VOut w w' ro N rc vs) (p : Addr) (hp : ro = some p) : w.heap.size ≤ p.block ∧ p.block < w'.heap.size := by
  obtain ⟨rf, _, ho⟩ := h.own
  have e : (Value.slice ro N rf).ownBlock = some p.block := by rw [hp]; rfl
  obtain ⟨h1, cur, h2⟩ := owns_cells ho e
  exact ⟨h1, lt_of_block h2⟩
theorem HOut.newApart {w wr w2 : World} {ro : Option Addr} {N rc : Nat} {hs : List Hd} {vo : Option Addr} {L c : Nat} {vs : List Vn} (h : HOut w wr ro N rc hs) (hV : VOut wr w2 vo L c vs) : ∀ x ∈ hs, Apa x.vo vo := by
  intro x hx p q hp hq e
  have h1 := (h.each x hx).block p hp
  have h2 := hV.block q hq
  omega
/-- What is picked: by rising keys, of each what f says, without those of which it says nothing. -/
structure PkT (M f : ByteArray → List Vn) (hs : List Hd) : Prop where
  inc : hs.Pairwise fun a b => Op.bytesLess a.key.toList b.key.toList = true
  is : ∀ h ∈ hs, h.vs = f h.key ∧ f h.key ≠ [] ∧ M h.key ≠ []
  all : ∀ k, M k ≠ [] → f k ≠ [] → ∃ h ∈ hs, h.key = k
theorem PkT.mOf {M f : ByteArray → List Vn} {hs : List Hd} (h : PkT M f hs) (hl : LoOk hs) (hf : ∀ k, M k = [] → f k = []) : mOf hs = f := by
  funext k
  by_cases hk : f k = []
  · rw [hk]
    exact mOf_off fun x hx e => (h.is x hx).2.1 (by rw [e]; exact hk)
  · have hM : M k ≠ [] := fun e => hk (hf k e)
    obtain ⟨x, hx, e⟩ := h.all k hM hk
    rw [← e, mOf_mem hl hx]
    exact (h.is x hx).1
theorem PkT.ok {M f : ByteArray → List Vn} {hs : List Hd} (h : PkT M f hs) (hk : ∀ k, M k ≠ [] → okK9 k) (hf : ∀ k, okV (f k)) : LoOk hs :=
  ⟨h.inc, fun x hx => ⟨hk x.key (h.is x hx).2.2, by rw [(h.is x hx).1]; exact (h.is x hx).2.1, by rw [(h.is x hx).1]; exact hf _⟩⟩
theorem HOut.rs {w w' : World} {ro : Option Addr} {N rc : Nat} {hs : List Hd} (h : HOut w w' ro N rc hs) (hl : LoOk hs) (hN : N ≤ 3518437208882) : HRs w' ro hs := by
  refine ⟨fun h0 => ?_, by rw [← h.len]; exact hN, fun x hx => ?_⟩
  · rcases h.row.2 with ⟨_, h1⟩ | ⟨g, cap, cur, hv, _, hg, _, _, _, ht⟩
    · have := h.len; omega
    · cases hv
      refine ⟨g, 0, rfl, lt_of_block hg, fun i hi => ?_⟩
      obtain ⟨e1, e2⟩ := hdsC_get hs i hi
      have hN2 := h.len
      constructor
      · rw [cell_of_row _ _ _ _ _ _ hg, Nat.zero_add, ← Array.getElem?_toList, ← e1, ← ht, List.getElem?_take_of_lt (by omega)]
      · rw [cell_of_row _ _ _ _ _ _ hg, Nat.zero_add, ← Array.getElem?_toList, ← e2, ← ht, List.getElem?_take_of_lt (by omega)]
  · have hV := h.each x hx
    have ho := hl.2 x hx
    exact ⟨by have := ho.1.2; omega, hV.len, hV.cap, hV.each ho.2.2⟩
theorem Tryz.undHds : Tryz.prog.underlying 22 = some (.slice 70) := by kernel_rfl
theorem Tryz.infoHd : (Tryz.prog.info? 70).map (fun i => (i.zero, i.size, i.bytes)) = some (some (.agg #[.string ⟨#[]⟩, .slice none 0 0]), 2, 40) := by kernel_rfl
theorem infoHd_parts : ∃ i, Tryz.prog.info? 70 = some i ∧ i.zero = some (.agg #[.string ⟨#[]⟩, .slice none 0 0]) ∧ i.size = 2 ∧ i.bytes = 40 := by
  have h := Tryz.infoHd
  cases hi : Tryz.prog.info? 70 with
  | none => rw [hi] at h; cases h
  | some i =>
    rw [hi] at h
    simp only [Option.map_some, Option.some.injEq, Prod.mk.injEq] at h
    exact ⟨i, rfl, h.1, h.2.1, h.2.2⟩
/-- One key with its versions more. -/
theorem wpList_appH (w0 w : World) {ops : Array Oper} {rest : List Oper} {o : Oper} {a : Act} {Q : Exit → Act → World → Prop} (hgd : o.guard = none) (s x : Operand)
    (ho : o.op = .call { callee := .builtin .append, args := #[s, x], argTypes := #[22, 22] })
    (so : Option Addr) (N c : Nat) (hs : List Hd) (hsv : a.eval s = .slice so N c) (hK : HOut w0 w so N c hs) (hN : N < 3518437208883) (h0 : w0.heap.size ≤ w.heap.size) (p : Hd) (hV : VOut w0 w p.vo p.L p.cap p.vs) (hAp : ∀ x ∈ hs, Apa x.vo p.vo) (hx : a.eval x = .slice (some ⟨w.heap.size, 0, none⟩) 1 1)
    (h : ∀ so' c' w', HOut w0 w' so' (N + 1) c' (hs ++ [p]) → Fr (Value.slice so N c).ownBlock.toList w w' → wpList Tryz.prog ops Q rest (a.put o.dst (.slice so' (N + 1) c')) w') : wpList Tryz.prog ops Q (o :: rest) a (w.alloc (.cells #[.string p.key, .slice p.vo p.L p.cap] 70)) := by
  obtain ⟨i0, hi, hz0, hz1, hz2⟩ := infoHd_parts
  have hmx : 3518437208884 ≤ maxLen := by unfold maxLen; omega
  refine wpList_append_own (w.alloc (.cells #[.string p.key, .slice p.vo p.L p.cap] 70)) hgd s x 22 ho w0.heap.size 70 i0 _ 2 40 Tryz.undHds hi hz0 hz1 hz2 rfl (by decide) (.slice so N c) N (hdsC hs) hsv (owns_keepB hK.row (Fr.alloc [] w _) (by simp)) ⟨w.heap.size, 0, none⟩ 1 1 (hdC p) hx rfl ?_ (hdC_one p) (by omega) (by omega) (by simp; omega) ?_
  · intro j u hu
    have hr := heap_alloc_new w (.cells #[.string p.key, .slice p.vo p.L p.cap] 70)
    rw [Addr.add_lit, cell_of_row _ _ _ _ _ _ hr, Nat.zero_add]
    simpa [hdC] using hu
  · intro v' w' hown' hg' _
    obtain ⟨bo, cap', rfl⟩ : ∃ bo cap', v' = .slice bo (N + 1) cap' := by
      rcases hown'.2 with ⟨_, h1⟩ | ⟨g, cap, _, rfl, _⟩
      · omega
      · exact ⟨_, cap, rfl⟩
    rw [← hdsC_snoc] at hown'
    have hF : Fr (Value.slice so N c).ownBlock.toList w w' := ((Fr.alloc [] w _).mono (by simp)).then (Fr.grown (S := (Value.slice so N c).ownBlock.toList) hg' (fun y hy _ => Option.mem_toList.2 hy))
    refine h bo cap' w' ⟨by rw [hK.len]; simp, hown', fun y hy => ?_, by rw [List.pairwise_append]; exact ⟨hK.apart, List.pairwise_singleton _ _, fun a ha b hb => by simp at hb; subst hb; exact hAp a ha⟩⟩ hF
    have hVy : VOut w0 w y.vo y.L y.cap y.vs := by
      rcases List.mem_append.1 hy with h1 | h1
      · exact hK.each y h1
      · simp at h1; subst h1; exact hV
    refine hVy.keepS hF fun j hj hm => ?_
    obtain ⟨_, c1, e1⟩ := hVy.blk j hj
    obtain ⟨_, c2, e2⟩ := owns_cells hK.row (Option.mem_toList.1 hm)
    rw [e1] at e2
    simp only [Option.some.injEq, Obj.cells.injEq] at e2
    exact absurd e2.2.1 (by decide)
/-- What is picked of the first so many keys. -/
structure PkI (M f : ByteArray → List Vn) (ss : List ByteArray) (hs : List Hd) : Prop where
  keys : hs.map (·.key) = ss.filter fun k => !(f k).isEmpty
  is : ∀ h ∈ hs, h.vs = f h.key
theorem PkI.done {M f : ByteArray → List Vn} {ss : List ByteArray} {hs : List Hd} (h : PkI M f ss hs) (hk : KsT M ⟨#[]⟩ ⟨#[]⟩ ss) : PkT M f hs := by
  have hmem : ∀ x ∈ hs, x.key ∈ ss ∧ f x.key ≠ [] := fun x hx => by
    have h1 : x.key ∈ hs.map (·.key) := List.mem_map.2 ⟨x, hx, rfl⟩
    rw [h.keys, List.mem_filter] at h1
    exact ⟨h1.1, fun e => by rw [e] at h1; simp at h1⟩
  refine ⟨?_, fun x hx => ⟨h.is x hx, (hmem x hx).2, ((hk.mem _).1 (hmem x hx).1).1⟩, fun k h1 h2 => ?_⟩
  · have h1 : (hs.map (·.key)).Pairwise fun a b => Op.bytesLess a.toList b.toList = true := by
      rw [h.keys]
      exact List.Pairwise.filter _ hk.inc
    exact List.pairwise_map.1 h1
  · have h3 : k ∈ hs.map (·.key) := by
      rw [h.keys, List.mem_filter]
      refine ⟨(hk.mem k).2 ⟨h1, inS_all2 k⟩, ?_⟩
      cases hf : f k with
      | nil => exact absurd hf h2
      | cons a r => rfl
    obtain ⟨x, hx, e⟩ := List.mem_map.1 h3
    exact ⟨x, hx, e⟩
theorem PkI.out {M f : ByteArray → List Vn} {ss : List ByteArray} {hs : List Hd} {s : ByteArray} (h : PkI M f ss hs) (hf : f s = []) : PkI M f (ss ++ [s]) hs := by
  refine ⟨?_, h.is⟩
  rw [List.filter_append, h.keys]
  simp [hf]
theorem PkI.inn {M f : ByteArray → List Vn} {ss : List ByteArray} {hs : List Hd} {s : ByteArray} (h : PkI M f ss hs) {x : Hd} (hf : f s ≠ []) (hx : x.key = s) (hv : x.vs = f s) : PkI M f (ss ++ [s]) (hs ++ [x]) := by
  refine ⟨?_, fun y hy => ?_⟩
  · rw [List.filter_append, List.map_append, h.keys]
    congr 1
    have : (f s).isEmpty = false := by cases hq : f s with
      | nil => exact absurd hq hf
      | cons a r => rfl
    simp [this, hx]
  · rcases List.mem_append.1 hy with h1 | h1
    · exact h.is y h1
    · simp at h1; subst h1; rw [hx]; exact hv
theorem kt_snoc (ss : List ByteArray) (i : Nat) (h : i < ss.length) : ss.take (i + 1) = ss.take i ++ [ss.getD i ⟨#[]⟩] := by
  rw [List.take_add_one]
  simp [List.getD, h]
set_option maxHeartbeats 8000000 in
set_option maxRecDepth 100000 in
theorem pickA_any {w0 : World} {sb b n : Nat} {M : ByteArray → List Vn} (f : ByteArray → List Vn) (w : World) (h : Sh w0 w sb b n M) (hn : n < 3518437208883)
    (hCh : ∀ W, Fr [] w W → ∀ key vo L cap, VRs W vo (M key) → okV (M key) → L = (M key).length → L ≤ cap → Calls Tryz.prog 89 #[.slice vo L cap] W fun e w' => ∃ ro N rc, e = .returned (.slice ro N rc) ∧ VOut W w' ro N rc (f key) ∧ Fr [] W w') (hfl : ∀ k, (f k).length ≤ 131072) :
    Calls Tryz.prog 88 #[.pointer (some ⟨sb, 0, none⟩), .func (Fn.func 89) #[] #[]] w fun e w' => ∃ ro N rc hs, e = .returned (.slice ro N rc) ∧ HOut w w' ro N rc hs ∧ N ≤ n ∧ PkT M f hs ∧ Fr [] w w' := by
  have HS : Hid (∀ W, Fr [] w W → Sh w0 W sb b n M) := fun W hf => h.keep hf
  have HT : Hid (Calls _ _ _ _ _) := hstretch_any ⟨#[]⟩ ⟨#[]⟩ w h hn
  have HCh : Hid (∀ W, Fr [] w W → ∀ key vo L cap, VRs W vo (M key) → okV (M key) → L = (M key).length → L ≤ cap → Calls Tryz.prog 89 #[.slice vo L cap] W fun e w' => ∃ ro N rc, e = .returned (.slice ro N rc) ∧ VOut W w' ro N rc (f key) ∧ Fr [] W w') := hCh
  have HFl : Hid (∀ k, (f k).length ≤ 131072) := hfl
  clear h hCh hfl
  go_enter Tryz.func88, Tryz.ntmps88
  go_wp2_with fail
  refine Calls.mono HT.out ?_
  rintro e w1 ⟨so, Nk, c, ss, rfl, hK1, hNk, hKs, hF1⟩
  have HK1 : Hid (KOut w w1 so Nk c ss) := hK1
  have HKs : Hid (KsT M ⟨#[]⟩ ⟨#[]⟩ ss ∧ Nk = ss.length) := ⟨hKs, hK1.len⟩
  have HE0 : Hid (HOut w w1 none 0 0 [] ∧ PkI M f (ss.take 0) []) := ⟨⟨rfl, ⟨rfl, .inl ⟨rfl, rfl⟩⟩, by simp, List.Pairwise.nil⟩, ⟨rfl, by simp⟩⟩
  have HF1 : Hid (Fr [] w w1) := hF1
  clear HT hK1 hKs hF1
  go_wp2_with fail
  go_loopw [5, 12] (fun ll ii wr => ∃ (ro : Option Addr) (N rc i : Nat) (hs : List Hd), ll = .slice ro N rc ∧ ii = .int .i64 i ∧ i ≤ Nk ∧ N ≤ i ∧ Hid (HOut w wr ro N rc hs ∧ PkI M f (ss.take i) hs) ∧ Hid (KOut w wr so Nk c ss) ∧ Hid (Fr [] w wr)) (fun _ ii _ => Nk - (RowKit.intOf ii).toNat)
  case atStart => exact ⟨none, 0, 0, 0, [], rfl, rfl, Nat.zero_le _, Nat.le_refl _, HE0, HK1, HF1⟩
  case round =>
    obtain ⟨ro, N, rc, i, hs, rfl, rfl, hiN, hNi, HE, HK, HF⟩ := hrel
    by_cases hi : i < Nk
    · have hi' : i < ss.length := by rw [← HKs.out.2]; exact hi
      obtain ⟨g, rfl, cg⟩ := HK.out.at i hi'
      have HSn : Hid (ss.take (i + 1) = ss.take i ++ [ss.getD i ⟨#[]⟩]) := kt_snoc ss i hi'
      obtain ⟨s, hs'⟩ : ∃ s, s = ss.getD i ⟨#[]⟩ := ⟨_, rfl⟩
      have hsm : s ∈ ss := by rw [hs']; simp [List.getD, hi']
      rw [← hs'] at cg HSn
      have hSr := HS.out _ HF.out
      have hok := hSr.keyok ((HKs.out.1.mem s).1 hsm).1
      have cs := hSr.cell
      obtain ⟨vo, Lv, cv, hlk, hV, _⟩ := hSr.look s (by have := hok.2; unfold maxLen; omega)
      have HG : Hid (Calls _ _ _ _ _) := HCh.out wr HF.out s vo Lv cv (hV.each (hSr.ok s)) (hSr.ok s) hV.len hV.cap
      clear hs' hsm hok hSr hV
      go_wp2_with fail
      refine Calls.mono HG.out ?_
      rintro e w2 ⟨vo2, L2, c2, rfl, hV2, hF2⟩
      have HE2 : Hid (HOut w w2 ro N rc hs) := HE.out.1.keep hF2
      have HPI : Hid (PkI M f (ss.take i) hs) := HE.out.2
      have HK2 : Hid (KOut w w2 (some ⟨g, 0, none⟩) Nk c ss) := HK.out.keep hF2
      have HF2 : Hid (Fr [] w w2) := HF.out.then hF2
      have HV2 : Hid (VOut w w2 vo2 L2 c2 (f s)) := hV2.later HF.out.size
      have hL2 : L2 ≤ 131072 := by rw [hV2.len]; exact HFl.out s
      have HApx : Hid (∀ x ∈ hs, Apa x.vo vo2) := HE.out.1.newApart hV2
      clear HE HK HF hF2 HG hV2
      by_cases hz : L2 = 0
      · have HP2 : Hid (HOut w w2 ro N rc hs ∧ PkI M f (ss.take (i + 1)) hs) := ⟨HE2.out, by
          rw [HSn.out]
          exact HPI.out.out (List.eq_nil_of_length_eq_zero (by have := HV2.out.len; omega))⟩
        subst hz
        clear HSn HPI
        go_wp2_with fail
        go_roundw
        case rel => exact ⟨ro, N, rc, i + 1, hs, rfl, by simp, by omega, by omega, HP2, HK2, HF2⟩
        case measure => simp [RowKit.intOf]; omega
      · have hz1 : decide ((0 : Int) < (L2 : Int)) = true := by simp; omega
        have hz2 : decide (0 < L2) = true := by simp; omega
        have hz3 : 0 < L2 := by omega
        have HP2 : Hid (PkI M f (ss.take (i + 1)) (hs ++ [⟨s, vo2, L2, c2, f s⟩])) := by
          show PkI _ _ _ _
          rw [HSn.out]
          refine HPI.out.inn (fun e => hz ?_) rfl rfl
          have := HV2.out.len
          rw [e] at this
          exact this
        have hsz2 : w.heap.size ≤ w2.heap.size := HF2.out.size
        have HY : Hid (∀ so' c' w3, HOut w w3 so' (N + 1) c' (hs ++ [⟨s, vo2, L2, c2, f s⟩]) → Fr (Value.slice ro N rc).ownBlock.toList w2 w3 → Hid (HOut w w3 so' (N + 1) c' (hs ++ [⟨s, vo2, L2, c2, f s⟩]) ∧ PkI M f (ss.take (i + 1)) (hs ++ [⟨s, vo2, L2, c2, f s⟩])) ∧ Hid (KOut w w3 (some ⟨g, 0, none⟩) Nk c ss) ∧ Hid (Fr [] w w3)) := by
          intro so' c' w3 e1 e2
          refine ⟨⟨e1, HP2.out⟩, ⟨HK2.out.len, owns_keepB HK2.out.row e2 (own_apart HK2.out.row HE2.out.row (by decide))⟩, HF2.out.on e2 (fun x hx => (owns_cells HE2.out.row (Option.mem_toList.1 hx)).1)⟩
        clear HSn HPI HP2 hz
        go_wp2_with (first
          | (at_builtin; refine wpList_appH w w2 rfl _ _ rfl ro N rc hs rfl HE2.out (by omega) hsz2 ⟨s, vo2, L2, c2, f s⟩ HV2.out HApx.out rfl ?_
             intro so' c' w3 e1 e2
             have HR2 : Hid (_ ∧ _ ∧ _) := HY.out so' c' w3 e1 e2
             clear e1 e2
             go_frame)
          | fail)
        go_roundw
        case rel => exact ⟨so', N + 1, c', i + 1, _, rfl, by simp, by omega, by omega, HR2.out.1, HR2.out.2.1, HR2.out.2.2⟩
        case measure => simp [RowKit.intOf]; omega
    · have hiN2 : i = ss.length := by have := HKs.out.2; omega
      have HR : Hid (HOut w wr ro N rc hs ∧ PkT M f hs ∧ Fr [] w wr) := by
        have h1 := HE.out
        rw [hiN2, List.take_length] at h1
        exact ⟨h1.1, h1.2.done HKs.out.1, HF.out⟩
      have hNn : N ≤ n := by omega
      clear hiN2 HE HK HF
      go_wp2
      go_ret
      exact ⟨ro, N, rc, hs, rfl, HR.out.1, hNn, HR.out.2⟩
theorem hall_any {w0 : World} {sb b n : Nat} {M : ByteArray → List Vn} (w : World) (h : Sh w0 w sb b n M) (hn : n < 3518437208883) :
    Calls Tryz.prog 49 #[.pointer (some ⟨sb, 0, none⟩)] w fun e w' => ∃ ro N rc hs, e = .returned (.slice ro N rc) ∧ HOut w w' ro N rc hs ∧ N ≤ n ∧ PkT M M hs ∧ Fr [] w w' := by
  have HT : Hid (Calls _ _ _ _ _) := hthere_any w h
  have HS : Hid (∀ W, Fr [] w W → Sh w0 W sb b n M) := fun W hf => h.keep hf
  have HFl : Hid (∀ k, (M k).length ≤ 131072) := fun k => by have := okV_few (h.ok k); omega
  clear h
  go_enter Tryz.func49, Tryz.ntmps49
  go_wp2_with fail
  refine Calls.mono HT.out ?_
  rintro e w1 ⟨rfl, hF1⟩
  have HC : Hid (Calls _ _ _ _ _) := pickA_any M w1 (HS.out _ hF1) hn (fun W hW key vo L cap hV ho hL hc => by
    refine (clone_any vo L cap (M key) W hV hL).mono ?_
    rintro e w' ⟨ro, rc, rfl, h1, h2⟩
    exact ⟨ro, L, rc, rfl, h1, h2⟩) HFl.out
  have HF1 : Hid (Fr [] w w1) := hF1
  clear HT hF1
  go_wp2_with fail
  refine Calls.mono HC.out ?_
  rintro e w2 ⟨ro, N, rc, hs, rfl, hE, hN, hI, hF2⟩
  have HR : Hid (HOut w w2 ro N rc hs ∧ N ≤ n ∧ PkT M M hs ∧ Fr [] w w2) := ⟨⟨hE.len, own_base hE.row HF1.out.size, fun x hx => (hE.each x hx).later HF1.out.size, hE.apart⟩, hN, hI, HF1.out.then hF2⟩
  clear HC hE hN hI hF2
  go_wp2
  go_ret
  exact ⟨ro, N, rc, hs, rfl, HR.out⟩
end Go.Proofs.YtomajifklajilaaGreat
/- Are keys with their versions the same: contracts of SameHeld and SameHelds. Conditions as each names them. -/
namespace Go.Proofs.YtomajifklajilaaGreat
open Go.ChangeShapes Go.WideShapes Go.ChangeAt Go.RowKit Go.Lib Go.Maps
set_option linter.unusedVariables false
set_option linter.unusedSimpArgs false

set_option maxHeartbeats 4000000 in
set_option maxRecDepth 100000 in
theorem sameHeld_any (key : ByteArray) (vo vo' : Option Addr) (L c c' : Nat) (vs : List Vn) (w : World) (h1 : VRs w vo vs) (h2 : VRs w vo' vs) (hL : L = vs.length) :
    Calls Tryz.prog 48 #[.agg #[.string key, .slice vo L c], .agg #[.string key, .slice vo' L c']] w fun e w' => e = .returned (.bool true) ∧ Fr [] w w' := by
  have HV : Hid (∀ W, Fr [] w W → Calls Tryz.prog 86 #[.slice vo L c, .slice vo' L c'] W fun e w' => e = .returned (.bool true) ∧ Fr [] W w') := fun W hf => sameVs_any vo vo' L L c c' true vs vs W (h1.keep hf) (h2.keep hf) hL hL ⟨fun _ => rfl, fun _ => rfl⟩
  have HFr : Hid (Fr [] w ((w.alloc (.cells #[.string key, .slice vo L c] 70)).alloc (.cells #[.string key, .slice vo' L c'] 70))) := (Fr.alloc [] _ _).then (Fr.alloc [] _ _)
  have HC : Hid (Calls _ _ _ _ _) := HV.out _ HFr.out
  clear h1 h2 hL HV
  go_enter Tryz.func48, Tryz.ntmps48
  go_wp2_with fail
  refine Calls.mono HC.out ?_
  rintro e w1 ⟨rfl, hF1⟩
  go_wp2
  go_ret
  exact ⟨rfl, HFr.out.then hF1⟩
def hkv (h : Hd) : ByteArray × List Vn := (h.key, h.vs)
set_option maxHeartbeats 4000000 in
set_option maxRecDepth 100000 in
theorem sameHelds_any (ro ro' : Option Addr) (N rc rc' : Nat) (hs hs' : List Hd) (w : World) (h1 : HRs w ro hs) (h2 : HRs w ro' hs') (hN : N = hs.length) (he : hs.map hkv = hs'.map hkv) :
    Calls Tryz.prog 24 #[.slice ro N rc, .slice ro' N rc'] w fun e w' => e = .returned (.bool true) ∧ Fr [] w w' := by
  have hl : hs.length = hs'.length := by have := congrArg List.length he; simpa using this
  have HN : Hid (N = hs.length ∧ N = hs'.length) := ⟨hN, by omega⟩
  have hNf : N ≤ 3518437208882 := by rw [hN]; exact h1.few
  have HE : Hid (∀ W, Fr [] w W → HRs W ro hs ∧ HRs W ro' hs') := fun W hf => ⟨h1.keep hf, h2.keep hf⟩
  have HEq : Hid (∀ i, i < N → hkv (hs.getD i Hd.zero) = hkv (hs'.getD i Hd.zero)) := fun i hi => by
    have e1 : (hs.map hkv)[i]? = (hs'.map hkv)[i]? := by rw [he]
    simp only [List.getElem?_map, List.getElem?_eq_getElem (show i < hs.length by omega), List.getElem?_eq_getElem (show i < hs'.length by omega), Option.map_some, Option.some.injEq] at e1
    simpa [List.getD, show i < hs.length by omega, show i < hs'.length by omega] using e1
  clear hN h1 h2 he hl
  go_enter Tryz.func24, Tryz.ntmps24
  go_wp2_with fail
  go_loopw [5] (fun ii wr => ∃ (i : Nat), ii = .int .i64 i ∧ i ≤ N ∧ Hid (Fr [] w wr)) (fun ii _ => N - (RowKit.intOf ii).toNat)
  case atStart => exact ⟨0, rfl, Nat.zero_le _, Fr.refl _ _⟩
  case round =>
    obtain ⟨i, rfl, hiN, HF⟩ := hrel
    by_cases hi : i < N
    · have hi1 : i < hs.length := by rw [← HN.out.1]; exact hi
      have hi2 : i < hs'.length := by rw [← HN.out.2]; exact hi
      obtain ⟨r1, r2⟩ := HE.out _ HF.out
      obtain ⟨g, off, rfl, _, hat⟩ := r1.lies (by omega)
      obtain ⟨g', off', rfl, _, hat'⟩ := r2.lies (by omega)
      obtain ⟨d0, d1⟩ := hat i hi1
      obtain ⟨d2, d3⟩ := hat' i hi2
      have HEa : Hid (∀ W, Fr [] w W → HEach W (hs.getD i Hd.zero) ∧ HEach W (hs'.getD i Hd.zero)) := fun W hf => ⟨(HE.out W hf).1.each _ (hgetD_mem hs i hi1), (HE.out W hf).2.each _ (hgetD_mem hs' i hi2)⟩
      have heq := HEq.out i hi
      obtain ⟨x, hx⟩ : ∃ x, x = hs.getD i Hd.zero := ⟨_, rfl⟩
      obtain ⟨y, hy⟩ : ∃ y, y = hs'.getD i Hd.zero := ⟨_, rfl⟩
      rw [← hx] at d0 d1 HEa heq
      rw [← hy] at d2 d3 HEa heq
      clear hx hy hat hat' r1 r2
      obtain ⟨k1, vo1, L1, c1, vs1⟩ := x
      obtain ⟨k2, vo2, L2, c2, vs2⟩ := y
      simp only [hkv, Prod.mk.injEq] at heq
      obtain ⟨rfl, rfl⟩ := heq
      have hLL : L1 = L2 := by
        have := (HEa.out wr HF.out).1.len
        have := (HEa.out wr HF.out).2.len
        simp only at *
        omega
      subst hLL
      simp only at d0 d1 d2 d3
      have HS : Hid (∀ W, Fr [] wr W → Calls Tryz.prog 48 #[.agg #[.string k1, .slice vo1 L1 c1], .agg #[.string k1, .slice vo2 L1 c2]] W fun e w' => e = .returned (.bool true) ∧ (w'.cell? ⟨g, off + i * 2, none⟩ = some (.string k1) ∧ w'.cell? ⟨g, off + i * 2 + 1, none⟩ = some (.slice vo1 L1 c1) ∧ w'.cell? ⟨g', off' + i * 2, none⟩ = some (.string k1) ∧ w'.cell? ⟨g', off' + i * 2 + 1, none⟩ = some (.slice vo2 L1 c2)) ∧ Fr [] w w') := by
        intro W hW
        have hFW := HF.out.then hW
        refine (sameHeld_any k1 vo1 vo2 L1 c1 c2 vs1 W (HEa.out W hFW).1.rs (HEa.out W hFW).2.rs (HEa.out W hFW).1.len).mono ?_
        rintro e w' ⟨rfl, hf⟩
        have hG := hW.then hf
        have hb : ∀ {q o : Nat} {v : Value}, wr.cell? ⟨q, o, none⟩ = some v → w'.cell? ⟨q, o, none⟩ = some v := fun {q o v} hc => far_cell hG hc (World.block_lt_of_cell? wr ⟨q, o, none⟩ (by rw [hc])) (by simp)
        exact ⟨rfl, ⟨hb d0, hb d1, hb d2, hb d3⟩, hFW.then hf⟩
      go_wp2_with fail
      go_region_held3 (fun W => W.cell? ⟨g, off + i * 2, none⟩ = some (.string k1) ∧ W.cell? ⟨g, off + i * 2 + 1, none⟩ = some (.slice vo1 L1 c1) ∧ W.cell? ⟨g', off' + i * 2, none⟩ = some (.string k1) ∧ W.cell? ⟨g', off' + i * 2 + 1, none⟩ = some (.slice vo2 L1 c2)) (go_keep)
        (first | (go_at_call 48; with_reducible refine (HS.out _ (Fr.drew _ _)).mono ?_; rintro e w2 ⟨rfl, ⟨j0, j1, j2, j3⟩, hF2⟩))
      have HF2 : Hid (Fr [] w w2) := hF2
      clear hF2
      go_wp2_with fail
      go_roundw
      case rel => exact ⟨i + 1, by simp, by omega, HF2⟩
      case measure => simp [RowKit.intOf]; omega
    · go_wp2
      go_ret
      exact ⟨rfl, HF.out⟩
/-- What is picked is one. -/
theorem PkT.one {M f : ByteArray → List Vn} {hs hs' : List Hd} (h : PkT M f hs) (h' : PkT M f hs') : hs.map hkv = hs'.map hkv := by
  have key : ∀ {as' bs : List Hd}, PkT M f as' → PkT M f bs → ∀ k, k ∈ as'.map (·.key) → k ∈ bs.map (·.key) := by
    intro as' bs ha hb k hk
    obtain ⟨x, hx, e⟩ := List.mem_map.1 hk
    obtain ⟨y, hy, e2⟩ := hb.all x.key (ha.is x hx).2.2 (ha.is x hx).2.1
    exact List.mem_map.2 ⟨y, hy, e2.trans e⟩
  have inc : ∀ {as' : List Hd}, PkT M f as' → Inc ((as'.map (·.key)).map fun k => (k, k)) := by
    intro as' ha
    unfold Inc
    rw [List.pairwise_map, List.pairwise_map]
    exact ha.inc
  have hk : hs.map (·.key) = hs'.map (·.key) := by
    have h1 := inc_unique (inc h) (inc h') (fun p => by
      constructor
      · intro hp
        obtain ⟨k, hk, rfl⟩ := List.mem_map.1 hp
        exact List.mem_map.2 ⟨k, key h h' k hk, rfl⟩
      · intro hp
        obtain ⟨k, hk, rfl⟩ := List.mem_map.1 hp
        exact List.mem_map.2 ⟨k, key h' h k hk, rfl⟩)
    have h2 := congrArg (List.map Prod.fst) h1
    simpa [List.map_map, Function.comp_def] using h2
  have e : ∀ {as' : List Hd}, PkT M f as' → as'.map hkv = (as'.map (·.key)).map fun k => (k, f k) := by
    intro as' ha
    rw [List.map_map]
    exact List.map_congr_left fun x hx => by simp only [hkv, Function.comp_apply]; rw [(ha.is x hx).1]
  rw [e h, e h', hk]
end Go.Proofs.YtomajifklajilaaGreat
/- The statements' helper SameResp. Conditions as each names them. -/
namespace Go.Proofs.YtomajifklajilaaGreat
open Go.ChangeShapes Go.WideShapes Go.ChangeAt Go.RowKit Go.Lib
set_option linter.unusedVariables false
set_option linter.unusedSimpArgs false
set_option maxHeartbeats 4000000 in
set_option maxRecDepth 100000 in
theorem sameResp_any (t : Int) (ok : Bool) (eo eo' ho ho' : Option Addr) (el ec ec' hl hc hc' : Nat) (c : Int) (ps : List Pr) (hs hs' : List Hd) (w : World) (h1 : ERs w eo ps) (h2 : ERs w eo' ps) (h3 : el = ps.length) (h4 : HRs w ho hs) (h5 : HRs w ho' hs') (h6 : hl = hs.length) (h7 : hs.map hkv = hs'.map hkv) :
    Calls Tryz.prog 15 #[.agg #[.int .i64 t, .bool ok, .slice eo el ec, .slice ho hl hc, .int .i64 c], .agg #[.int .i64 t, .bool ok, .slice eo' el ec', .slice ho' hl hc', .int .i64 c]] w fun e w' => e = .returned (.bool true) ∧ Fr [] w w' := by
  have hF0 : Fr [] w ((w.alloc (.cells #[.int .i64 t, .bool ok, .slice eo el ec, .slice ho hl hc, .int .i64 c] 56)).alloc (.cells #[.int .i64 t, .bool ok, .slice eo' el ec', .slice ho' hl hc', .int .i64 c] 56)) := (Fr.alloc [] w _).then (Fr.alloc [] _ _)
  have HE : Hid (∀ W, Fr [] w W → Calls _ _ _ _ _) := fun W hf => sameEntries_any eo eo' el ec ec' ps W (h1.keep hf) (h2.keep hf) h3
  have HH : Hid (∀ W, Fr [] w W → Calls _ _ _ _ _) := fun W hf => sameHelds_any ho ho' hl hc hc' hs hs' W (h4.keep hf) (h5.keep hf) h6 h7
  have hr1 := (Fr.alloc [] (w.alloc (.cells #[.int .i64 t, .bool ok, .slice eo el ec, .slice ho hl hc, .int .i64 c] 56)) (.cells #[.int .i64 t, .bool ok, .slice eo' el ec', .slice ho' hl hc', .int .i64 c] 56)).keep (heap_alloc_new w (.cells #[.int .i64 t, .bool ok, .slice eo el ec, .slice ho hl hc, .int .i64 c] 56)) (by simp)
  have hr2 := heap_alloc_new (w.alloc (.cells #[.int .i64 t, .bool ok, .slice eo el ec, .slice ho hl hc, .int .i64 c] 56)) (.cells #[.int .i64 t, .bool ok, .slice eo' el ec', .slice ho' hl hc', .int .i64 c] 56)
  obtain ⟨wz, HWz⟩ : ∃ wz, Hid ((w.alloc (.cells #[.int .i64 t, .bool ok, .slice eo el ec, .slice ho hl hc, .int .i64 c] 56)).alloc (.cells #[.int .i64 t, .bool ok, .slice eo' el ec', .slice ho' hl hc', .int .i64 c] 56) = wz) := ⟨_, rfl⟩
  obtain ⟨Z1, HZ1⟩ : ∃ Z, Hid (w.heap.size = Z) := ⟨_, rfl⟩
  obtain ⟨Z2, HZ2⟩ : ∃ Z, Hid (w.heap.size + 1 = Z) := ⟨_, rfl⟩
  rw [show (w.alloc (.cells #[.int .i64 t, .bool ok, .slice eo el ec, .slice ho hl hc, .int .i64 c] 56)).heap.size = w.heap.size + 1 by simp, HWz.out, HZ2.out] at hr2
  rw [HWz.out, HZ1.out] at hr1
  rw [HWz.out] at hF0
  have HF0 : Hid (Fr [] w wz) := hF0
  have HC : Hid (∀ W, Fr [] wz W → (W.cell? ⟨Z1, 3, none⟩ = some (.slice ho hl hc) ∧ W.cell? ⟨Z1, 4, none⟩ = some (.int .i64 c)) ∧ (W.cell? ⟨Z2, 3, none⟩ = some (.slice ho' hl hc') ∧ W.cell? ⟨Z2, 4, none⟩ = some (.int .i64 c))) := fun W hf => by
    have k1 := hf.keep hr1 (by simp)
    have k2 := hf.keep hr2 (by simp)
    exact ⟨⟨by rw [cell_of_row _ _ _ _ _ _ k1]; rfl, by rw [cell_of_row _ _ _ _ _ _ k1]; rfl⟩, by rw [cell_of_row _ _ _ _ _ _ k2]; rfl, by rw [cell_of_row _ _ _ _ _ _ k2]; rfl⟩
  have bo : (ok == ok) = true := by simp
  clear h1 h2 h3 h4 h5 h6 h7 hF0 hr1 hr2
  go_enter Tryz.func15, Tryz.ntmps15
  go_wp2_with fail
  rw [HWz.out]
  refine Calls.mono (HE.out _ HF0.out) ?_
  rintro e w1 ⟨rfl, hF1⟩
  obtain ⟨⟨c1, c2⟩, c3, c4⟩ := HC.out _ hF1
  clear HWz
  rw [HZ2.out, HZ1.out]
  go_wp2_with fail
  refine Calls.mono (HH.out _ (HF0.out.then hF1)) ?_
  rintro e w2 ⟨rfl, hF2⟩
  obtain ⟨⟨d1, d2⟩, d3, d4⟩ := HC.out _ (hF1.then hF2)
  clear c1 c2 c3 c4
  go_wp2
  go_ret
  exact ⟨rfl, HF0.out.then (hF1.then hF2)⟩
end Go.Proofs.YtomajifklajilaaGreat
/- rise, mayBe, slices.Clone of numbers: contracts. Conditions as each names them. -/
namespace Go.Proofs.YtomajifklajilaaGreat
open Go.ChangeShapes Go.WideShapes Go.ChangeAt Go.RowKit Go.Lib
set_option linter.unusedVariables false
set_option linter.unusedSimpArgs false
theorem drop_getD (ns : List Int) (i : Nat) (h : i < ns.length) : ns.drop i = ns.getD i 0 :: ns.drop (i + 1) := by
  rw [List.drop_eq_getElem_cons h]
  simp [List.getD, h]
set_option maxHeartbeats 2000000 in
set_option maxRecDepth 100000 in
theorem orise_any (a : Int) (ao : Option Addr) (L cap : Nat) (ns : List Int) (B : Bool) (w : World) (hI : IRs w ao ns) (hL : L = ns.length) (hB : B = true ↔ Ab a ns) :
    Calls Tryz.prog 80 #[.int .i64 a, .slice ao L cap] w fun e w' => e = .returned (.bool B) ∧ w = w' := by
  have HI : Hid (IRs w ao ns) := hI
  have HL : Hid (L = ns.length) := hL
  have HB : Hid (B = true ↔ Ab a ns) := hB
  have hLm : L ≤ 17592186044416 := by have := hI.few; omega
  clear hI hL hB
  go_enter Tryz.func80, Tryz.ntmps80
  go_wp2_with fail
  go_loopw [0, 9] (fun cc ii wr => ∃ (c : Int) (i : Nat), cc = .int .i64 c ∧ ii = .int .i64 i ∧ i ≤ L ∧ Hid (Ab a ns ↔ Ab c (ns.drop i)) ∧ Hid (w = wr)) (fun _ ii _ => L - (RowKit.intOf ii).toNat)
  case atStart => exact ⟨a, 0, rfl, rfl, Nat.zero_le _, Iff.rfl, rfl⟩
  case round =>
    obtain ⟨c, i, rfl, rfl, hiL, HA, HW⟩ := hrel
    by_cases hi : i < L
    · have hi' : i < ns.length := by rw [← HL.out]; exact hi
      obtain ⟨b, off, rfl, hb, hc⟩ := HI.out.lies (by omega)
      have c0 := hc i hi'
      rw [HW.out] at c0
      have HD : Hid (ns.drop i = ns.getD i 0 :: ns.drop (i + 1)) := drop_getD ns i hi'
      obtain ⟨n, hn⟩ : ∃ n, n = ns.getD i 0 := ⟨_, rfl⟩
      rw [← hn] at c0 HD
      clear hc hb hn
      by_cases h1 : n ≤ c
      · have hN : B = false := by
          cases B with
          | false => rfl
          | true => have := HA.out.1 (HB.out.1 rfl); rw [HD.out] at this; have := this.1; omega
        clear HA HB HD
        subst hN
        go_wp2
        go_ret
        exact ⟨rfl, HW.out⟩
      · by_cases h2 : 65536 < n
        · have hN : B = false := by
            cases B with
            | false => rfl
            | true => have := HA.out.1 (HB.out.1 rfl); rw [HD.out] at this; have := this.2.1; omega
          clear HA HB HD
          subst hN
          go_wp2
          go_ret
          exact ⟨rfl, HW.out⟩
        · have HA2 : Hid (Ab a ns ↔ Ab n (ns.drop (i + 1))) := HA.out.trans (by rw [HD.out]; exact ⟨fun h => h.2.2, fun h => ⟨by omega, by omega, h⟩⟩)
          clear HA HD
          go_wp2_with fail
          go_roundw
          case rel => exact ⟨n, i + 1, rfl, by simp, by omega, HA2, HW⟩
          case measure => simp [RowKit.intOf]; omega
    · have hN : B = true := by
        refine HB.out.2 (HA.out.2 ?_)
        rw [List.drop_of_length_le (by have := HL.out; omega)]
        trivial
      clear HA HB
      subst hN
      go_wp2
      go_ret
      exact ⟨rfl, HW.out⟩
theorem Tryz.undIs15 : Tryz.prog.underlying 34 = some (.slice 3) := by kernel_rfl
theorem Tryz.infoI15 : (Tryz.prog.info? 3).map (fun i => (i.zero, i.size, i.bytes)) = some (some (.int .i64 0), 1, 8) := by kernel_rfl
theorem infoI15_parts : ∃ i, Tryz.prog.info? 3 = some i ∧ i.zero = some (.int .i64 0) ∧ i.size = 1 ∧ i.bytes = 8 := by
  have h := Tryz.infoI15
  cases hi : Tryz.prog.info? 3 with
  | none => rw [hi] at h; cases h
  | some i =>
    rw [hi] at h
    simp only [Option.map_some, Option.some.injEq, Prod.mk.injEq] at h
    exact ⟨i, rfl, h.1, h.2.1, h.2.2⟩
def intsC (ns : List Int) : List Value := ns.map fun n => .int .i64 n
theorem intsC_length (ns : List Int) : (intsC ns).length = ns.length := by simp [intsC]
theorem intsC_get (ns : List Int) (j : Nat) (h : j < ns.length) : (intsC ns)[j]? = some (.int .i64 (ns.getD j 0)) := by simp [intsC, List.getD, h]
set_option maxHeartbeats 2000000 in
set_option maxRecDepth 100000 in
theorem cloneI_any (ao : Option Addr) (L cap : Nat) (ns : List Int) (w : World) (hI : IRs w ao ns) (hL : L = ns.length) (hc : L ≤ 131072) :
    Calls Tryz.prog 42 #[.slice ao L cap] w fun e w' => ∃ ro rc, e = .returned (.slice ro L rc) ∧ IRs w' ro ns ∧ (∀ a, ro = some a → w.heap.size ≤ a.block ∧ ∃ cur, w'.heap[a.block]? = some (.cells cur 3 (0, 0))) ∧ Fr [] w w' := by
  have q22 : ∀ (w : World) (a : Option Addr) (n c n' c' : Nat), (binOp .eql 34 (.slice a n c) (.slice none n' c')).run Tryz.prog w = .ok (.bool a.isNone) w := fun w a n c n' c' => Lib.run_eql_slice_nil w _ _ a n c n' c' Tryz.undIs15
  cases ao with
  | none =>
    obtain rfl : L = 0 := by
      rcases Nat.eq_zero_or_pos ns.length with h | h
      · omega
      · obtain ⟨b, off, e, _⟩ := hI.lies h
        cases e
    obtain rfl : ns = [] := List.eq_nil_of_length_eq_zero hL.symm
    clear hI hL
    go_enter Tryz.func42, Tryz.ntmps42
    go_wp2
    go_ret
    exact ⟨none, 0, rfl, ⟨fun h => by simp at h, by simp⟩, fun a e => (by cases e), Fr.refl _ _⟩
  | some a =>
    obtain ⟨i0, hi, hz0, hz1, hz2⟩ := infoI15_parts
    have hc2 : Hid (∀ j u, (intsC ns)[j]? = some u → w.cell? (a.add j) = some u) := by
      intro j u hu
      have hj : j < ns.length := by have := (List.getElem?_eq_some_iff.1 hu).1; rwa [intsC_length] at this
      obtain ⟨b, off, e, _, hcc⟩ := hI.lies (by omega)
      cases e
      rw [Addr.add_lit, hcc j hj]
      rw [intsC_get ns j hj] at hu
      exact hu
    have HL : Hid (L = ns.length) := hL
    have HF : Hid (ns.length ≤ 131072) := by show _ ≤ _; omega
    clear hI hL
    go_enter Tryz.func42, Tryz.ntmps42
    go_wp2_with (at_builtin; refine wpList_append_own _ rfl _ _ 34 rfl w.heap.size 3 i0 (.int .i64 0) 1 8 Tryz.undIs15 hi hz0 hz1 hz2 rfl (by decide) _ _ _ rfl (World.ownsRow_made w #[] 0 (Nat.le_refl _) (Nat.zero_le _) (by simp)) a L cap (intsC ns) rfl ?qc1 ?qc2 ?qc3 ?qc4 ?qc5 ?qc6 ?_)
    case qc1 => rw [intsC_length, HL.out, Nat.mul_one]
    case qc2 =>
      intro j u hj
      exact Lib.cell?_alloc_some _ (hc2.out j u hj)
    case qc3 =>
      intro u hu
      obtain ⟨_, _, rfl⟩ := List.mem_map.1 hu
      rfl
    case qc4 => rw [Nat.zero_add]; have := HL.out; have := HF.out; simp only [maxLen]; omega
    case qc5 => rw [Nat.zero_add]; have := HL.out; have := HF.out; omega
    case qc6 => simp
    intro v' w1 hown hgrow hnil
    obtain ⟨ro, rc, rfl⟩ : ∃ ro rc, v' = .slice ro L rc := by
      rcases hown.2 with ⟨hh, h0⟩ | ⟨g, cap', _, hh, _⟩
      · exact ⟨none, 0, by rw [hh]; have : L = 0 := by omega
                           rw [this]⟩
      · exact ⟨_, cap', by rw [hh]⟩
    have HO : Hid (IRs w1 ro ns ∧ (∀ a, ro = some a → w.heap.size ≤ a.block ∧ ∃ cur, w1.heap[a.block]? = some (.cells cur 3 (0, 0))) ∧ Fr [] w w1) := by
      have hown2 : w1.ownsRow w.heap.size 3 1 (.slice ro L rc) L (intsC ns) := by simpa using hown
      refine ⟨?_, ?_, (Fr.alloc [] w _).on (Fr.grown (S := [w.heap.size]) hgrow (by intro k hk _; simp [Value.ownBlock] at hk; simp [hk])) (by simp)⟩
      · rcases hown2.2 with ⟨hv, h0⟩ | ⟨g, cap', cur, hv, hbase, hg, h1, h2, h3, ht⟩
        · have : ns = [] := List.eq_nil_of_length_eq_zero (by have := HL.out; omega)
          subst this
          exact ⟨fun h => by simp at h, by simp⟩
        · cases hv
          refine ⟨fun h0 => ⟨g, 0, rfl, lt_of_block hg, fun i hi => ?_⟩, by have := HF.out; omega⟩
          rw [cell_of_row _ _ _ _ _ _ hg, Nat.zero_add, ← Array.getElem?_toList, ← intsC_get ns i hi, ← ht, List.getElem?_take_of_lt (by have := HL.out; omega)]
      · intro a' e
        rcases hown2.2 with ⟨hv, h0⟩ | ⟨g, cap', cur, hv, hbase, hg, h1, h2, h3, ht⟩
        · cases hv; cases e
        · cases hv; cases e
          exact ⟨hbase, cur, hg⟩
    clear hown hgrow hnil
    go_wp2
    go_ret
    exact ⟨ro, rc, rfl, HO.out⟩
end Go.Proofs.YtomajifklajilaaGreat
/- mayBe: contract. Conditions as each names them. -/
namespace Go.Proofs.YtomajifklajilaaGreat
open Go.ChangeShapes Go.WideShapes Go.ChangeAt Go.RowKit Go.Lib
set_option linter.unusedVariables false
set_option linter.unusedSimpArgs false
section
variable {k f n : Int} {wk wv : ByteArray} {wd : Bool} {key en : ByteArray} {bo : Option Addr} {bl bc : Nat} {ns : List Int}
set_option maxHeartbeats 2000000 in
set_option maxRecDepth 100000 in
theorem omay_0 (w : World) (h : f = 0 ∨ n < 0 ∨ 65536 < n) : Calls Tryz.prog 41 #[.agg #[.int .u8 k, .int .i64 f, .int .i64 n, .string wk, .string wv, .bool wd, .string key, .string en, .slice bo bl bc]] w fun e w' => e = .returned (.bool false) ∧ Fr [] w w' := by
  have HF : Hid (Fr [] w (w.alloc (.cells #[.int .u8 k, .int .i64 f, .int .i64 n, .string wk, .string wv, .bool wd, .string key, .string en, .slice bo bl bc] 36))) := Fr.alloc _ _ _
  have e0 := eNil
  by_cases h1 : f = 0
  · subst h1
    clear h
    go_enter Tryz.func41, Tryz.ntmps41
    go_wp2
    go_ret
    exact ⟨rfl, HF.out⟩
  · by_cases h2 : n < 0
    · clear h
      go_enter Tryz.func41, Tryz.ntmps41
      go_wp2
      go_ret
      exact ⟨rfl, HF.out⟩
    · have h3 : 65536 < n := by omega
      clear h
      go_enter Tryz.func41, Tryz.ntmps41
      go_wp2
      go_ret
      exact ⟨rfl, HF.out⟩
set_option maxHeartbeats 4000000 in
set_option maxRecDepth 100000 in
theorem omay_1 (w : World) (h1 : ¬ f = 0) (h2 : ¬ n < 0) (h3 : ¬ 65536 < n) (KE EE NB NW : Bool) (hKE : (key.toList == ([] : List UInt8)) = KE) (hEE : (en.toList == ([] : List UInt8)) = EE) (hNB : decide (bl = 0) = NB) (hNW : (wk.toList == ([] : List UInt8) && (wv.toList == ([] : List UInt8) && wd == false)) = NW) :
    Calls Tryz.prog 41 #[.agg #[.int .u8 1, .int .i64 f, .int .i64 n, .string wk, .string wv, .bool wd, .string key, .string en, .slice bo bl bc]] w fun e w' => e = .returned (.bool (KE && EE && NB && decide (0 < f) && decide (0 < n) && decide (okWr wk wv wd))) ∧ Fr [] w w' := by
  have HF : Hid (Fr [] w (w.alloc (.cells #[.int .u8 1, .int .i64 f, .int .i64 n, .string wk, .string wv, .bool wd, .string key, .string en, .slice bo bl bc] 36))) := Fr.alloc _ _ _
  have e0 := eNil
  have hq : ∀ W, (binOp .eql 33 (.agg #[.string wk, .string wv, .bool wd]) (.agg #[.string ⟨#[]⟩, .string ⟨#[]⟩, .bool false])).run Tryz.prog W = .ok (.bool NW) W := fun W => by rw [wt_eql15, eNil, hNW]
  have hNB2 : decide ((bl : Int) = 0) = NB := by rw [← hNB, Bool.eq_iff_iff, decide_eq_true_eq, decide_eq_true_eq]; omega
  have hNB3 : ((bl : Int) == 0) = NB := by rw [← hNB2]; rfl
  clear hNW hNB
  cases KE <;> cases EE <;> cases NB
  all_goals (
    go_enter Tryz.func41, Tryz.ntmps41
    go_wp2_with fail
    go_quiet (fail)
    go_wp2_with (first | (refine (oiswrite_any wk wv wd _).mono ?_; rintro e w1 ⟨rfl, hF1⟩)))
  all_goals (first
    | (go_ret; exact ⟨by first | (simp [*]; done) | (simp [*]; intros; omega), HF.out.then (Fr.drewN _ _ _)⟩)
    | (go_ret; exact ⟨by simp [*], (HF.out.then (Fr.drewN _ _ _)).then hF1⟩))
set_option maxHeartbeats 4000000 in
set_option maxRecDepth 100000 in
theorem omay_2 (w : World) (h1 : ¬ f = 0) (h2 : ¬ n < 0) (h3 : ¬ 65536 < n) (KE EE NB NW : Bool) (hKE : (key.toList == ([] : List UInt8)) = KE) (hEE : (en.toList == ([] : List UInt8)) = EE) (hNB : decide (bl = 0) = NB) (hNW : (wk.toList == ([] : List UInt8) && (wv.toList == ([] : List UInt8) && wd == false)) = NW) :
    Calls Tryz.prog 41 #[.agg #[.int .u8 2, .int .i64 f, .int .i64 n, .string wk, .string wv, .bool wd, .string key, .string en, .slice bo bl bc]] w fun e w' => e = .returned (.bool (NW && NB && decide (okK9 key) && EE)) ∧ Fr [] w w' := by
  have HF : Hid (Fr [] w (w.alloc (.cells #[.int .u8 2, .int .i64 f, .int .i64 n, .string wk, .string wv, .bool wd, .string key, .string en, .slice bo bl bc] 36))) := Fr.alloc _ _ _
  have e0 := eNil
  have hq : ∀ W, (binOp .eql 33 (.agg #[.string wk, .string wv, .bool wd]) (.agg #[.string ⟨#[]⟩, .string ⟨#[]⟩, .bool false])).run Tryz.prog W = .ok (.bool NW) W := fun W => by rw [wt_eql15, eNil, hNW]
  have hNB2 : decide ((bl : Int) = 0) = NB := by rw [← hNB, Bool.eq_iff_iff, decide_eq_true_eq, decide_eq_true_eq]; omega
  have hNB3 : ((bl : Int) == 0) = NB := by rw [← hNB2]; rfl
  clear hNW hNB
  cases KE <;> cases NW <;> cases NB
  all_goals (
    go_enter Tryz.func41, Tryz.ntmps41
    go_wp2_with fail
    go_quiet (fail)
    go_wp2_with (first | (refine (oiskey_any key _).mono ?_; rintro e w1 ⟨rfl, rfl⟩)))
  all_goals (first
    | (go_ret; exact ⟨by first | (simp [*]; done) | (simp [*]; intros; omega), HF.out.then (Fr.drewN _ _ _)⟩)
    | (go_ret; exact ⟨by simp [*], (HF.out.then (Fr.drewN _ _ _)).then hF1⟩))
set_option maxHeartbeats 4000000 in
set_option maxRecDepth 100000 in
theorem omay_3 (w : World) (h1 : ¬ f = 0) (h2 : ¬ n < 0) (h3 : ¬ 65536 < n) (KE EE NB NW : Bool) (hKE : (key.toList == ([] : List UInt8)) = KE) (hEE : (en.toList == ([] : List UInt8)) = EE) (hNB : decide (bl = 0) = NB) (hNW : (wk.toList == ([] : List UInt8) && (wv.toList == ([] : List UInt8) && wd == false)) = NW) :
    Calls Tryz.prog 41 #[.agg #[.int .u8 3, .int .i64 f, .int .i64 n, .string wk, .string wv, .bool wd, .string key, .string en, .slice bo bl bc]] w fun e w' => e = .returned (.bool (NW && NB && decide (key.size ≤ 64) && decide (en.size ≤ 64))) ∧ Fr [] w w' := by
  have HF : Hid (Fr [] w (w.alloc (.cells #[.int .u8 3, .int .i64 f, .int .i64 n, .string wk, .string wv, .bool wd, .string key, .string en, .slice bo bl bc] 36))) := Fr.alloc _ _ _
  have e0 := eNil
  have hq : ∀ W, (binOp .eql 33 (.agg #[.string wk, .string wv, .bool wd]) (.agg #[.string ⟨#[]⟩, .string ⟨#[]⟩, .bool false])).run Tryz.prog W = .ok (.bool NW) W := fun W => by rw [wt_eql15, eNil, hNW]
  have hNB2 : decide ((bl : Int) = 0) = NB := by rw [← hNB, Bool.eq_iff_iff, decide_eq_true_eq, decide_eq_true_eq]; omega
  have hNB3 : ((bl : Int) == 0) = NB := by rw [← hNB2]; rfl
  clear hNW hNB
  cases KE <;> cases NW <;> cases NB
  all_goals (
    go_enter Tryz.func41, Tryz.ntmps41
    go_wp2_with fail
    go_quiet (fail)
    go_wp2_with (first | (with_reducible refine (oisbound_any key _).mono ?_; rintro e w1 ⟨rfl, rfl⟩) | (with_reducible refine (oisbound_any en _).mono ?_; rintro e w1 ⟨rfl, rfl⟩)))
  all_goals (first
    | (go_ret; exact ⟨by first | (simp [*]; done) | (simp [*]; intros; omega), HF.out.then (Fr.drewN _ _ _)⟩)
    | (go_ret; exact ⟨by simp [*], (HF.out.then (Fr.drewN _ _ _)).then hF1⟩))
set_option maxHeartbeats 4000000 in
set_option maxRecDepth 100000 in
theorem omay_4 (w : World) (h1 : ¬ f = 0) (h2 : ¬ n < 0) (h3 : ¬ 65536 < n) (KE EE NB NW : Bool) (hKE : (key.toList == ([] : List UInt8)) = KE) (hEE : (en.toList == ([] : List UInt8)) = EE) (hNB : decide (bl = 0) = NB) (hNW : (wk.toList == ([] : List UInt8) && (wv.toList == ([] : List UInt8) && wd == false)) = NW) :
    Calls Tryz.prog 41 #[.agg #[.int .u8 4, .int .i64 f, .int .i64 n, .string wk, .string wv, .bool wd, .string key, .string en, .slice bo bl bc]] w fun e w' => e = .returned (.bool (NW && (KE && EE) && NB)) ∧ Fr [] w w' := by
  have HF : Hid (Fr [] w (w.alloc (.cells #[.int .u8 4, .int .i64 f, .int .i64 n, .string wk, .string wv, .bool wd, .string key, .string en, .slice bo bl bc] 36))) := Fr.alloc _ _ _
  have e0 := eNil
  have hq : ∀ W, (binOp .eql 33 (.agg #[.string wk, .string wv, .bool wd]) (.agg #[.string ⟨#[]⟩, .string ⟨#[]⟩, .bool false])).run Tryz.prog W = .ok (.bool NW) W := fun W => by rw [wt_eql15, eNil, hNW]
  have hNB2 : decide ((bl : Int) = 0) = NB := by rw [← hNB, Bool.eq_iff_iff, decide_eq_true_eq, decide_eq_true_eq]; omega
  have hNB3 : ((bl : Int) == 0) = NB := by rw [← hNB2]; rfl
  clear hNW hNB
  cases KE <;> cases EE <;> cases NW <;> cases NB
  all_goals (
    go_enter Tryz.func41, Tryz.ntmps41
    go_wp2_with fail
    go_quiet (fail)
    go_wp2_with (fail))
  all_goals (first
    | (go_ret; exact ⟨by first | (simp [*]; done) | (simp [*]; intros; omega), HF.out.then (Fr.drewN _ _ _)⟩)
    | (go_ret; exact ⟨by simp [*], (HF.out.then (Fr.drewN _ _ _)).then hF1⟩))
set_option maxHeartbeats 4000000 in
set_option maxRecDepth 100000 in
theorem omay_5 (w : World) (h1 : ¬ f = 0) (h2 : ¬ n < 0) (h3 : ¬ 65536 < n) (KE EE NB NW : Bool) (hKE : (key.toList == ([] : List UInt8)) = KE) (hEE : (en.toList == ([] : List UInt8)) = EE) (hNB : decide (bl = 0) = NB) (hNW : (wk.toList == ([] : List UInt8) && (wv.toList == ([] : List UInt8) && wd == false)) = NW) (RS : Bool) (hI : IRs w bo ns) (hL : bl = ns.length) (hRS : RS = true ↔ Ab n ns) :
    Calls Tryz.prog 41 #[.agg #[.int .u8 5, .int .i64 f, .int .i64 n, .string wk, .string wv, .bool wd, .string key, .string en, .slice bo bl bc]] w fun e w' => e = .returned (.bool (NW && (KE && EE) && RS)) ∧ Fr [] w w' := by
  have HF : Hid (Fr [] w (w.alloc (.cells #[.int .u8 5, .int .i64 f, .int .i64 n, .string wk, .string wv, .bool wd, .string key, .string en, .slice bo bl bc] 36))) := Fr.alloc _ _ _
  have e0 := eNil
  have hq : ∀ W, (binOp .eql 33 (.agg #[.string wk, .string wv, .bool wd]) (.agg #[.string ⟨#[]⟩, .string ⟨#[]⟩, .bool false])).run Tryz.prog W = .ok (.bool NW) W := fun W => by rw [wt_eql15, eNil, hNW]
  have hNB2 : decide ((bl : Int) = 0) = NB := by rw [← hNB, Bool.eq_iff_iff, decide_eq_true_eq, decide_eq_true_eq]; omega
  have hNB3 : ((bl : Int) == 0) = NB := by rw [← hNB2]; rfl
  have HRi : Hid (∀ W, Fr [] (w.alloc (.cells #[.int .u8 5, .int .i64 f, .int .i64 n, .string wk, .string wv, .bool wd, .string key, .string en, .slice bo bl bc] 36)) W → Calls Tryz.prog 80 #[.int .i64 n, .slice bo bl bc] W fun e w1 => e = .returned (.bool RS) ∧ W = w1) := fun W hf => orise_any n bo bl bc ns RS W (hI.keep (HF.out.then hf)) hL hRS
  clear hI hL hRS
  clear hNW hNB
  cases KE <;> cases EE <;> cases NW
  all_goals (
    go_enter Tryz.func41, Tryz.ntmps41
    go_wp2_with fail
    go_quiet (fail)
    go_wp2_with (first | (with_reducible refine (HRi.out _ (Fr.drewN _ _ _)).mono ?_; rintro e w1 ⟨rfl, rfl⟩)))
  all_goals (first
    | (go_ret; exact ⟨by first | (simp [*]; done) | (simp [*]; intros; omega), HF.out.then (Fr.drewN _ _ _)⟩)
    | (go_ret; exact ⟨by simp [*], (HF.out.then (Fr.drewN _ _ _)).then hF1⟩))
set_option maxHeartbeats 4000000 in
set_option maxRecDepth 100000 in
theorem omay_6 (w : World) (h1 : ¬ f = 0) (h2 : ¬ n < 0) (h3 : ¬ 65536 < n) (KE EE NB NW : Bool) (hKE : (key.toList == ([] : List UInt8)) = KE) (hEE : (en.toList == ([] : List UInt8)) = EE) (hNB : decide (bl = 0) = NB) (hNW : (wk.toList == ([] : List UInt8) && (wv.toList == ([] : List UInt8) && wd == false)) = NW) (g1 : ¬ k = 1) (g2 : ¬ k = 2) (g3 : ¬ k = 3) (g4 : ¬ k = 4) (g5 : ¬ k = 5) :
    Calls Tryz.prog 41 #[.agg #[.int .u8 k, .int .i64 f, .int .i64 n, .string wk, .string wv, .bool wd, .string key, .string en, .slice bo bl bc]] w fun e w' => e = .returned (.bool (false)) ∧ Fr [] w w' := by
  have HF : Hid (Fr [] w (w.alloc (.cells #[.int .u8 k, .int .i64 f, .int .i64 n, .string wk, .string wv, .bool wd, .string key, .string en, .slice bo bl bc] 36))) := Fr.alloc _ _ _
  have e0 := eNil
  have hq : ∀ W, (binOp .eql 33 (.agg #[.string wk, .string wv, .bool wd]) (.agg #[.string ⟨#[]⟩, .string ⟨#[]⟩, .bool false])).run Tryz.prog W = .ok (.bool NW) W := fun W => by rw [wt_eql15, eNil, hNW]
  have hNB2 : decide ((bl : Int) = 0) = NB := by rw [← hNB, Bool.eq_iff_iff, decide_eq_true_eq, decide_eq_true_eq]; omega
  have hNB3 : ((bl : Int) == 0) = NB := by rw [← hNB2]; rfl
  clear hNW hNB
  cases KE
  all_goals (
    go_enter Tryz.func41, Tryz.ntmps41
    go_wp2_with fail
    go_quiet (fail)
    go_wp2_with (fail))
  all_goals (first
    | (go_ret; exact ⟨by first | (simp [*]; done) | (simp [*]; intros; omega), HF.out.then (Fr.drewN _ _ _)⟩)
    | (go_ret; exact ⟨by simp [*], (HF.out.then (Fr.drewN _ _ _)).then hF1⟩))
/-- Which requests may be. -/
theorem omay_any (x : Rv) (ns : List Int) (B : Bool) (w : World) (h : RqB w x ns) (hB : B = true ↔ okR (x.q ns)) : Calls Tryz.prog 41 #[x.v] w fun e w' => e = .returned (.bool B) ∧ Fr [] w w' := by
  obtain ⟨k, f, n, wk, wv, wd, key, en, bo, bl, bc⟩ := x
  have hlen : bl = ns.length := h.len
  have hI : IRs w bo ns := h.is
  by_cases h0 : f = 0 ∨ n < 0 ∨ 65536 < n
  · have hBf : B = false := by
      cases B with
      | false => rfl
      | true => obtain ⟨a1, a2, a3, _⟩ := hB.1 rfl; simp only [Rv.q] at a1 a2 a3; omega
    subst hBf
    exact omay_0 w h0
  · have h1 : ¬ f = 0 := by omega
    have h2 : ¬ n < 0 := by omega
    have h3 : ¬ 65536 < n := by omega
    have h2' : 0 ≤ n := by omega
    have h3' : n ≤ 65536 := by omega
    have hnb : decide (bl = 0) = decide (ns = []) := by
      rw [Bool.eq_iff_iff, decide_eq_true_eq, decide_eq_true_eq, hlen]
      exact List.length_eq_zero_iff
    have hnw : (wk.toList == ([] : List UInt8) && (wv.toList == ([] : List UInt8) && wd == false)) = decide (noWr wk wv wd) := by
      rw [tl_beq, tl_beq]
      cases wd <;> simp [noWr]
    obtain ⟨RS, hRS⟩ : ∃ RS : Bool, RS = true ↔ Ab n ns := by
      by_cases hh : Ab n ns
      · exact ⟨true, fun _ => hh, fun _ => rfl⟩
      · exact ⟨false, fun e => (by cases e), fun e => absurd e hh⟩
    have fin : ∀ R : Bool, (R = true ↔ okR ⟨k, f, n, wk, wv, wd, key, en, ns⟩) → R = B := fun R hR => by
      rw [Bool.eq_iff_iff, hR]
      exact hB.symm
    by_cases g1 : k = 1
    · subst g1
      rw [← fin _ ?_]
      · exact omay_1 w h1 h2 h3 _ _ _ _ (tl_beq key) (tl_beq en) hnb hnw
      · simp [okR, h1, h2', h3', and_assoc]
    by_cases g2 : k = 2
    · subst g2
      rw [← fin _ ?_]
      · exact omay_2 w h1 h2 h3 _ _ _ _ (tl_beq key) (tl_beq en) hnb hnw
      · simp [okR, h1, h2', h3', and_assoc]
    by_cases g3 : k = 3
    · subst g3
      rw [← fin _ ?_]
      · exact omay_3 w h1 h2 h3 _ _ _ _ (tl_beq key) (tl_beq en) hnb hnw
      · simp [okR, h1, h2', h3', and_assoc]
    by_cases g4 : k = 4
    · subst g4
      rw [← fin _ ?_]
      · exact omay_4 w h1 h2 h3 _ _ _ _ (tl_beq key) (tl_beq en) hnb hnw
      · simp [okR, h1, h2', h3', and_assoc]
    by_cases g5 : k = 5
    · subst g5
      rw [← fin _ ?_]
      · exact omay_5 w h1 h2 h3 _ _ _ _ (tl_beq key) (tl_beq en) hnb hnw RS hI hlen hRS
      · simp [okR, hRS, h1, h2', h3', and_assoc]
    rw [← fin _ ?_]
    · exact omay_6 w h1 h2 h3 _ _ _ _ (tl_beq key) (tl_beq en) hnb hnw g1 g2 g3 g4 g5
    · simp [okR, g1, g2, g3, g4, g5]
end
end Go.Proofs.YtomajifklajilaaGreat
