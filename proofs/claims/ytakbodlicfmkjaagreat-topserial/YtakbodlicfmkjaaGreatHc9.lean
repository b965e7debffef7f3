/- Entries of a stretch at a mark: contracts of scan and Scan. Conditions as each names them. -/
import Derived.Test.YtakbodlicfmkjaaGreatHr9
namespace Go.Proofs.YtakbodlicfmkjaaGreat.O
open Go.ChangeShapes Go.WideShapes Go.ChangeAt Go.RowKit Go.Lib Go.Maps
set_option linter.unusedVariables false
set_option linter.unusedSimpArgs false

/-- What is read of the keys of a stretch at a mark. -/
def atMark (M : ByteArray → List Vn) (key en : ByteArray) (k : Int) : ByteArray → Option ByteArray := fun s => if inS key en s = true then valAt (M s) k else none
def entsOf (M : ByteArray → List Vn) (k : Int) (ss : List ByteArray) : List Pr := ss.filterMap fun s => (valAt (M s) k).map fun v => (s, v)
theorem entsOf_snoc (M : ByteArray → List Vn) (k : Int) (ss : List ByteArray) (s : ByteArray) : entsOf M k (ss ++ [s]) = entsOf M k ss ++ (match valAt (M s) k with | none => [] | some v => [(s, v)]) := by
  unfold entsOf
  rw [List.filterMap_append]
  cases h : valAt (M s) k <;> simp [h]
theorem ents_is {M : ByteArray → List Vn} {key en : ByteArray} {k : Int} {ss : List ByteArray} (h : KsT M key en ss) : Is (atMark M key en k) (entsOf M k ss) := by
  refine ⟨?_, fun p => ?_⟩
  · unfold Inc entsOf
    rw [List.pairwise_filterMap]
    refine h.inc.imp fun {a b} hab x hx y hy => ?_
    cases h1 : valAt (M a) k with
    | none => rw [h1] at hx; cases hx
    | some v1 =>
      cases h2 : valAt (M b) k with
      | none => rw [h2] at hy; cases hy
      | some v2 =>
        rw [h1] at hx
        rw [h2] at hy
        cases hx
        cases hy
        exact hab
  · unfold entsOf atMark
    rw [List.mem_filterMap]
    constructor
    · rintro ⟨s, hs, e⟩
      cases h1 : valAt (M s) k with
      | none => rw [h1] at e; cases e
      | some v =>
        rw [h1] at e
        cases e
        rw [if_pos ((h.mem s).1 hs).2]
        exact h1
    · intro e
      by_cases hin : inS key en p.1 = true
      · rw [if_pos hin] at e
        refine ⟨p.1, (h.mem p.1).2 ⟨fun e2 => ?_, hin⟩, by rw [e]; rfl⟩
        rw [e2, valAt_nil] at e
        cases e
      · rw [if_neg hin] at e
        cases e
theorem meth_stretch (sb : Nat) (w : World) : (method 242 184 (.pointer (some ⟨sb, 0, none⟩)) "towpath/shard.stretch").run Tryz.prog w = .ok (153, .pointer (some ⟨sb, 0, none⟩)) w := by kernel_rfl
theorem meth_get (sb : Nat) (w : World) : (method 242 184 (.pointer (some ⟨sb, 0, none⟩)) "Get").run Tryz.prog w = .ok (313, .pointer (some ⟨sb, 0, none⟩)) w := by kernel_rfl
theorem Sh.keyok {w0 w : World} {sb b n : Nat} {M : ByteArray → List Vn} (h : Sh w0 w sb b n M) {s : ByteArray} (hs : M s ≠ []) : okK9 s := by
  obtain ⟨G, _, h0, hr, _⟩ := h.map
  cases hG : G s with
  | none => exact absurd (h0 s hG) hs
  | some x =>
    obtain ⟨g, L, c⟩ := x
    exact (hr s g L c hG).2.2
theorem own_apart {w : World} {b1 b2 : Nat} {e1 e2 : TypeId} {s1 s2 : Nat} {v1 v2 : Value} {n1 n2 : Nat} {x1 x2 : List Value} (h1 : w.ownsRow b1 e1 s1 v1 n1 x1) (h2 : w.ownsRow b2 e2 s2 v2 n2 x2) (hne : e1 ≠ e2) : ∀ k, v1.ownBlock = some k → k ∉ v2.ownBlock.toList := by
  intro k hk hm
  obtain ⟨_, c1, e⟩ := owns_cells h1 hk
  obtain ⟨_, c2, e'⟩ := owns_cells h2 (Option.mem_toList.1 hm)
  rw [e] at e'
  simp only [Option.some.injEq, Obj.cells.injEq] at e'
  exact hne e'.2.1
set_option maxHeartbeats 8000000 in
set_option maxRecDepth 100000 in
theorem hscan_any {w0 : World} {sb b n : Nat} {M : ByteArray → List Vn} (key en : ByteArray) (k : Int) (w : World) (h : Sh w0 w sb b n M) (hn : n < 3518437208883) :
    Calls Tryz.prog 322 #[.iface 184 (.pointer (some ⟨sb, 0, none⟩)), .string key, .string en, .int .i64 k] w fun e w' => ∃ ro N rc ps, e = .returned (.slice ro N rc) ∧ EOut w w' ro N rc ps ∧ N ≤ n ∧ Is (atMark M key en k) ps ∧ Fr [] w w' := by
  have HS : Hid (∀ W, Fr [] w W → Sh w0 W sb b n M) := fun W hf => h.keep hf
  have HT : Hid (Calls _ _ _ _ _) := hstretch_any key en w h hn
  have m1 := meth_stretch sb
  have m2 := meth_get sb
  clear h
  go_enter Tryz.func322, Tryz.ntmps322
  go_wp2_with fail
  refine Calls.mono HT.out ?_
  rintro e w1 ⟨so, Nk, c, ss, rfl, hK1, hNk, hKs, hF1⟩
  have HK1 : Hid (KOut w w1 so Nk c ss) := hK1
  have HKs : Hid (KsT M key en ss ∧ Nk = ss.length) := ⟨hKs, hK1.len⟩
  have HE0 : Hid (EOut w w1 none 0 0 (entsOf M k (ss.take 0))) := ⟨rfl, ⟨rfl, .inl ⟨rfl, rfl⟩⟩⟩
  have HF1 : Hid (Fr [] w w1) := hF1
  clear HT hK1 hKs hF1 m1
  go_wp2_with fail
  go_loopw [9, 19] (fun ll ii wr => ∃ (ro : Option Addr) (N rc i : Nat), ll = .slice ro N rc ∧ ii = .int .i64 i ∧ i ≤ Nk ∧ N ≤ i ∧ Hid (EOut w wr ro N rc (entsOf M k (ss.take i))) ∧ Hid (KOut w wr so Nk c ss) ∧ Hid (Fr [] w wr)) (fun _ ii _ => Nk - (RowKit.intOf ii).toNat)
  case atStart => exact ⟨none, 0, 0, 0, rfl, rfl, Nat.zero_le _, Nat.le_refl _, HE0, HK1, HF1⟩
  case round =>
    obtain ⟨ro, N, rc, i, rfl, rfl, hiN, hNi, HE, HK, HF⟩ := hrel
    by_cases hi : i < Nk
    · have hi' : i < ss.length := by rw [← HKs.out.2]; exact hi
      obtain ⟨g, rfl, cg⟩ := HK.out.at i hi'
      obtain ⟨s, hs⟩ : ∃ s, s = ss.getD i ⟨#[]⟩ := ⟨_, rfl⟩
      have hsm : s ∈ ss := by rw [hs]; simp [List.getD, hi']
      have HSn : Hid (entsOf M k (ss.take (i + 1)) = entsOf M k (ss.take i) ++ (match valAt (M s) k with | none => [] | some v => [(s, v)])) := by
        show _ = _
        rw [List.take_add_one, ← entsOf_snoc]
        congr 1
        rw [hs]
        simp [List.getD, hi']
      rw [← hs] at cg
      have hok := (HS.out _ HF.out).keyok ((HKs.out.1.mem s).1 hsm).1
      have HG : Hid (Calls _ _ _ _ _) := hget_any s k wr (HS.out _ HF.out) (by have := hok.2; omega)
      clear hs hsm hok
      go_wp2_with fail
      refine Calls.mono HG.out ?_
      rintro e w2 ⟨rfl, hF2⟩
      have HE2 : Hid (EOut w w2 ro N rc (entsOf M k (ss.take i))) := ⟨HE.out.len, owns_keepB HE.out.row hF2 (by simp)⟩
      have HK2 : Hid (KOut w w2 (some ⟨g, 0, none⟩) Nk c ss) := HK.out.keep hF2
      have HF2 : Hid (Fr [] w w2) := HF.out.then hF2
      clear HE HK HF hF2 HG
      cases hv : valAt (M s) k with
      | none =>
        have HSn2 : Hid (entsOf M k (ss.take (i + 1)) = entsOf M k (ss.take i)) := by
          show _ = _
          have := HSn.out
          rw [hv] at this
          simpa using this
        clear HSn
        simp only [Option.getD_none, Option.isSome_none]
        go_wp2_with fail
        go_roundw
        case rel => exact ⟨ro, N, rc, i + 1, rfl, by simp, by omega, by omega, (by rw [HSn2.out]; exact HE2), HK2, HF2⟩
        case measure => simp [RowKit.intOf]; omega
      | some v =>
        have HSn2 : Hid (entsOf M k (ss.take (i + 1)) = entsOf M k (ss.take i) ++ [(s, v)]) := by
          have := HSn.out
          rw [hv] at this
          exact this
        have HNq : Hid (N = (entsOf M k (ss.take i)).length) := HE2.out.len
        have HEa : Hid ((w2.alloc (.cells #[.string s, .string v] 61)).ownsRow w.heap.size 61 2 (.slice ro N rc) (entsOf M k (ss.take i)).length (celsE (entsOf M k (ss.take i)))) := by
          show World.ownsRow _ _ _ _ _ _ _
          rw [← HNq.out]
          exact owns_keepB HE2.out.row (Fr.alloc [] _ _) (by simp)
        have HY : Hid (∀ bo n' cap' w', n' = (entsOf M k (ss.take i) ++ [(s, v)]).length → w'.ownsRow w.heap.size 61 2 (.slice bo n' cap') n' (celsE (entsOf M k (ss.take i) ++ [(s, v)])) → Fr (Value.slice ro N rc).ownBlock.toList (w2.alloc (.cells #[.string s, .string v] 61)) w' → n' = N + 1 ∧ Hid (EOut w w' bo n' cap' (entsOf M k (ss.take (i + 1)))) ∧ Hid (KOut w w' (some ⟨g, 0, none⟩) Nk c ss) ∧ Hid (Fr [] w w')) := by
          intro bo n' cap' w' e1 e2 e3
          refine ⟨by rw [e1, List.length_append, ← HNq.out]; rfl, ⟨by rw [HSn2.out]; exact e1, by rw [HSn2.out]; exact e2⟩, ⟨HK2.out.len, owns_keepB (owns_keepB HK2.out.row (Fr.alloc [] w2 _) (by simp)) e3 ?_⟩, ?_⟩
          · exact own_apart (owns_keepB HK2.out.row (Fr.alloc [] w2 (.cells #[.string s, .string v] 61)) (by simp)) HEa.out (by decide)
          · exact (HF2.out.then (Fr.alloc [] w2 _)).on e3 (fun x hx => (owns_cells HEa.out (Option.mem_toList.1 hx)).1)
        have hNb : (entsOf M k (ss.take i)).length + 1 < 3518437208884 := by have := HNq.out; omega
        clear HSn
        simp only [Option.getD_some, Option.isSome_some]
        have HSz : Hid (w.heap.size ≤ (w2.alloc (.cells #[.string s, .string v] 61)).heap.size) := (HF2.out.then (Fr.alloc [] w2 _)).size
        go_wp2_with (first
          | (at_builtin; refine wpList_appE _ rfl _ _ rfl w.heap.size (.slice ro N rc) (entsOf M k (ss.take i)) rfl HEa.out (some ⟨w2.heap.size, 0, none⟩) 1 1 [(s, v)] rfl (esl_new w2 (s, v)) hNb HSz.out ?_
             intro bo n' cap' w3 e1 e2 e3
             obtain ⟨hn', HR⟩ := HY.out bo n' cap' w3 e1 e2 e3
             subst hn'
             have HR2 : Hid (_ ∧ _ ∧ _) := HR
             clear e1 e2 e3 HR
             go_frame)
          | fail)
        go_roundw
        case rel => exact ⟨bo, N + 1, cap', i + 1, rfl, by simp, by omega, by omega, HR2.out.1, HR2.out.2.1, HR2.out.2.2⟩
        case measure => simp [RowKit.intOf]; omega
    · have hiN2 : i = ss.length := by have := HKs.out.2; omega
      have HR : Hid (EOut w wr ro N rc (entsOf M k ss) ∧ Is (atMark M key en k) (entsOf M k ss) ∧ Fr [] w wr) := by
        have h1 := HE.out
        rw [hiN2, List.take_length] at h1
        exact ⟨h1, ents_is HKs.out.1, HF.out⟩
      have hNn : N ≤ n := by omega
      clear hiN2 HE HK HF
      go_wp2
      go_ret
      exact ⟨ro, N, rc, _, rfl, HR.out.1, hNn, HR.out.2⟩
theorem hScan_any {w0 : World} {sb b n : Nat} {M : ByteArray → List Vn} (key en : ByteArray) (k : Int) (w : World) (h : Sh w0 w sb b n M) (hn : n < 3518437208883) :
    Calls Tryz.prog 315 #[.pointer (some ⟨sb, 0, none⟩), .string key, .string en, .int .i64 k] w fun e w' => ∃ ro N rc ps, e = .returned (.slice ro N rc) ∧ EOut w w' ro N rc ps ∧ N ≤ n ∧ Is (atMark M key en k) ps ∧ Fr [] w w' := by
  have HT : Hid (Calls _ _ _ _ _) := hthere_any w h
  have HS : Hid (∀ W, Fr [] w W → Sh w0 W sb b n M) := fun W hf => h.keep hf
  clear h
  go_enter Tryz.func315, Tryz.ntmps315
  go_wp2_with fail
  refine Calls.mono HT.out ?_
  rintro e w1 ⟨rfl, hF1⟩
  have HC : Hid (Calls _ _ _ _ _) := hscan_any key en k w1 (HS.out _ hF1) hn
  have HF1 : Hid (Fr [] w w1) := hF1
  clear HT hF1
  go_wp2_with fail
  refine Calls.mono HC.out ?_
  rintro e w2 ⟨ro, N, rc, ps, rfl, hE, hN, hI, hF2⟩
  have HR : Hid (EOut w w2 ro N rc ps ∧ N ≤ n ∧ Is (atMark M key en k) ps ∧ Fr [] w w2) := ⟨⟨hE.len, own_base hE.row HF1.out.size⟩, hN, hI, HF1.out.then hF2⟩
  clear HC hE hN hI hF2
  go_wp2
  go_ret
  exact ⟨ro, N, rc, ps, rfl, HR.out⟩
end Go.Proofs.YtakbodlicfmkjaaGreat.O
