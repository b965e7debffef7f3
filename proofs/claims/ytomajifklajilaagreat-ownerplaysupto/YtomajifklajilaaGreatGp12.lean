/- Texts of this claim laid together, one behind the other: contracts and plain lemmas; conditions as each names them. -/
import Derived.Test.YtomajifklajilaaGreatGp11
import Derived.Test.YtomajifklajilaaGreatGp6
import Derived.Deep.MidRow
import Derived.Laws.CopyOwn
import Derived.Laws.MakeOwn
import Derived.Deep.RegionLaw
import Derived.Deep.RegionHeld3
import Derived.WalkSpells
import Derived.OwnWalk
/- Keys with their versions in memory; a shard of them: contract of Load. Conditions as each names them. -/
namespace Go.Proofs.YtomajifklajilaaGreat
open Go.ChangeShapes Go.WideShapes Go.ChangeAt Go.RowKit Go.Lib Go.Maps
set_option linter.unusedVariables false
set_option linter.unusedSimpArgs false

/-- A key with its versions, and where they lie. -/
structure Hd where
  key : ByteArray
  vo : Option Addr
  L : Nat
  cap : Nat
  vs : List Vn
def Hd.zero : Hd := ⟨noS, none, 0, 0, []⟩
/-- They can be read. -/
structure HEach (w : World) (h : Hd) : Prop where
  k : h.key.size ≤ 140737488355328
  len : h.L = h.vs.length
  cp : h.L ≤ h.cap
  rs : VRs w h.vo h.vs
structure HRs (w : World) (ao : Option Addr) (hs : List Hd) : Prop where
  lies : 0 < hs.length → ∃ b off, ao = some ⟨b, off, none⟩ ∧ b < w.heap.size ∧ ∀ i, i < hs.length → w.cell? ⟨b, off + i * 2, none⟩ = some (.string (hs.getD i Hd.zero).key) ∧ w.cell? ⟨b, off + i * 2 + 1, none⟩ = some (.slice (hs.getD i Hd.zero).vo (hs.getD i Hd.zero).L (hs.getD i Hd.zero).cap)
  few : hs.length ≤ 3518437208882
  each : ∀ h ∈ hs, HEach w h
theorem HEach.keep {w w' : World} {h : Hd} (he : HEach w h) (hf : Fr [] w w') : HEach w' h := ⟨he.k, he.len, he.cp, he.rs.keep hf⟩
theorem HRs.keep {w w' : World} {ao : Option Addr} {hs : List Hd} (h : HRs w ao hs) (hf : Fr [] w w') : HRs w' ao hs := by
  refine ⟨fun h0 => ?_, h.few, fun x hx => (h.each x hx).keep hf⟩
  obtain ⟨b, off, e, hb, hc⟩ := h.lies h0
  have hk : ∀ o, w'.cell? ⟨b, o, none⟩ = w.cell? ⟨b, o, none⟩ := fun o => World.cell?_of_block (hf.block b hb (by simp))
  exact ⟨b, off, e, Nat.lt_of_lt_of_le hb hf.size, fun i hi => ⟨(hk _).trans (hc i hi).1, (hk _).trans (hc i hi).2⟩⟩
theorem hgetD_mem (hs : List Hd) (i : Nat) (h : i < hs.length) : hs.getD i Hd.zero ∈ hs := by simp [List.getD, h]
theorem htake_snoc (hs : List Hd) (i : Nat) (h : i < hs.length) : hs.take (i + 1) = hs.take i ++ [hs.getD i Hd.zero] := by
  rw [List.take_add_one]
  simp [List.getD, h]
/-- May it be loaded? -/
def okH (h : Hd) : Prop := okK9 h.key ∧ h.vs ≠ [] ∧ okV h.vs
def LoOk (hs : List Hd) : Prop := hs.Pairwise (fun a b => Op.bytesLess a.key.toList b.key.toList = true) ∧ ∀ h ∈ hs, okH h
def lastK (hs : List Hd) (i : Nat) : ByteArray := if i = 0 then noS else (hs.getD (i - 1) Hd.zero).key
theorem lastK_succ (hs : List Hd) (i : Nat) : lastK hs (i + 1) = (hs.getD i Hd.zero).key := by unfold lastK; rw [if_neg (by omega), Nat.add_sub_cancel]
theorem noS_less (s : ByteArray) : Op.bytesLess noS.toList s.toList = true ↔ s ≠ noS := by
  have h0 : noS.toList = [] := (tl_nil _).2 rfl
  rw [h0]
  constructor
  · rintro h rfl
    rw [h0] at h
    cases h
  · intro h
    cases hs : s.toList with
    | nil => exact absurd ((noS_iff s).1 ((tl_nil s).1 hs)) h
    | cons a r => rfl
theorem LoOk.step {hs : List Hd} {i : Nat} (h : LoOk (hs.take i)) (hi : i < hs.length) : LoOk (hs.take (i + 1)) ↔ Op.bytesLess (lastK hs i).toList (hs.getD i Hd.zero).key.toList = true ∧ okH (hs.getD i Hd.zero) := by
  rw [htake_snoc hs i hi]
  unfold LoOk
  rw [List.pairwise_append]
  constructor
  · rintro ⟨⟨_, _, h3⟩, h4⟩
    have ho := h4 (hs.getD i Hd.zero) (by simp)
    refine ⟨?_, ho⟩
    unfold lastK
    by_cases h0 : i = 0
    · rw [if_pos h0, noS_less]
      rintro e
      have := ho.1.1
      rw [e] at this
      exact absurd this (by decide)
    · rw [if_neg h0]
      refine h3 _ ?_ _ (by simp)
      have : i - 1 < (hs.take i).length := by simp; omega
      refine List.mem_iff_getElem.2 ⟨i - 1, this, ?_⟩
      simp [List.getD, show i - 1 < hs.length by omega]
  · rintro ⟨h1, h2⟩
    refine ⟨⟨h.1, List.pairwise_singleton _ _, fun a ha b hb => ?_⟩, fun x hx => ?_⟩
    · simp at hb
      subst hb
      obtain ⟨j, hj, e⟩ := List.mem_iff_getElem.1 ha
      have hj' : j < i := by simp at hj; omega
      have hi0 : i ≠ 0 := by omega
      unfold lastK at h1
      rw [if_neg hi0] at h1
      have ea : a = hs.getD j Hd.zero := by rw [← e]; simp [List.getD, show j < hs.length by omega]
      by_cases hjl : j = i - 1
      · rw [ea, hjl]
        exact h1
      · have hp := List.pairwise_iff_getElem.1 h.1 j (i - 1) (by simp; omega) (by simp; omega) (by omega)
        simp only [List.getElem_take] at hp
        refine bl_trans ?_ h1
        rw [ea]
        simpa [List.getD, show j < hs.length by omega, show i - 1 < hs.length by omega] using hp
    · rcases List.mem_append.1 hx with h3 | h3
      · exact h.2 x h3
      · simp at h3; subst h3; exact h2
theorem LoOk.take {hs : List Hd} (h : LoOk hs) (i : Nat) : LoOk (hs.take i) := ⟨h.1.sublist (List.take_sublist _ _), fun x hx => h.2 x (List.mem_of_mem_take hx)⟩
/-- What a shard of them has. -/
def mOf (hs : List Hd) : ByteArray → List Vn := fun k => match hs.find? (fun h => decide (h.key = k)) with
  | some h => h.vs
  | none => []
theorem mOf_nil : mOf [] = fun _ => [] := rfl
theorem mOf_snoc {hs : List Hd} {x : Hd} (hn : ∀ h ∈ hs, h.key ≠ x.key) : mOf (hs ++ [x]) = updM (mOf hs) x.key x.vs := by
  funext k
  unfold mOf updM
  rw [List.find?_append]
  by_cases hk : k = x.key
  · rw [if_pos hk]
    have h1 : hs.find? (fun h => decide (h.key = k)) = none := List.find?_eq_none.2 fun h hh => by simpa [hk] using hn h hh
    rw [h1]
    simp [List.find?_cons, hk]
  · rw [if_neg hk]
    have h1 : [x].find? (fun h => decide (h.key = k)) = none := List.find?_eq_none.2 fun h hh => by simp at hh; subst hh; simpa using fun e => hk e.symm
    rw [h1, Option.or_none]
theorem mOf_mem {hs : List Hd} (h : LoOk hs) {x : Hd} (hx : x ∈ hs) : mOf hs x.key = x.vs := by
  unfold mOf
  cases hf : hs.find? (fun h => decide (h.key = x.key)) with
  | none => exact absurd (List.find?_eq_none.1 hf x hx) (by simp)
  | some y =>
    have h1 := List.find?_some hf
    have h2 := List.mem_of_find?_eq_some hf
    simp at h1
    have : y = x := by
      by_cases e : y = x
      · exact e
      · obtain ⟨i, hi, e1⟩ := List.mem_iff_getElem.1 h2
        obtain ⟨j, hj, e2⟩ := List.mem_iff_getElem.1 hx
        rcases Nat.lt_trichotomy i j with h3 | h3 | h3
        · have := List.pairwise_iff_getElem.1 h.1 i j hi hj h3
          rw [e1, e2, h1, bl_irrefl] at this
          cases this
        · subst h3; exact absurd (e1.symm.trans e2) e
        · have := List.pairwise_iff_getElem.1 h.1 j i hj hi h3
          rw [e1, e2, h1, bl_irrefl] at this
          cases this
    rw [this]
theorem mOf_off {hs : List Hd} {k : ByteArray} (h : ∀ x ∈ hs, x.key ≠ k) : mOf hs k = [] := by
  unfold mOf
  rw [List.find?_eq_none.2 fun x hx => by simpa using h x hx]
/-- Between two rounds. -/
structure LI (w wr : World) (sb b i : Nat) (hs : List Hd) : Prop where
  fr : Fr [] w wr
  sh : Sh w wr sb b i (mOf (hs.take i))
  ok : LoOk (hs.take i)
theorem LI.next {w wr w1 w2 : World} {sb b i : Nat} {hs : List Hd} (h : LI w wr sb b i hs) (hi : i < hs.length) (hn : hs.length ≤ 3518437208882) (hok : LoOk (hs.take (i + 1))) (hF1 : Fr [] wr w1) {ro : Option Addr} {rc : Nat} (hV : VOut w1 w2 ro (hs.getD i Hd.zero).L rc (hs.getD i Hd.zero).vs) (hL : (hs.getD i Hd.zero).L = (hs.getD i Hd.zero).vs.length) (hF2 : Fr [] w1 w2) :
    ∃ w3, (Instr.mapUpdate 125 (.map (some b)) (.string (hs.getD i Hd.zero).key) (.slice ro (hs.getD i Hd.zero).L rc)).run Tryz.prog w2 = .ok () w3 ∧ LI w w3 sb b (i + 1) hs ∧ Fr [b] w2 w3 := by
  have hst := (LoOk.step h.ok hi).1 hok
  obtain ⟨ro0, N0, rc0, hlk, hV0, _⟩ := h.sh.look (hs.getD i Hd.zero).key (by have := hst.2.1.2; unfold maxLen; omega)
  have hpos : 0 < (hs.getD i Hd.zero).L := by
    rw [hL]
    exact List.length_pos_iff.2 hst.2.2.1
  obtain ⟨w3, e1, e2, e3, e4, _⟩ := h.sh.lay (hs.getD i Hd.zero).key hst.2.1 (by omega) hlk ((hF1.then hF2).mono (by simp)) (hV.later (h.fr.then hF1).size) (fun g hg => Or.inr (Nat.le_trans hF1.size (hV.blk g (by rw [hg]; simp)).1)) hst.2.2.2 hpos
  refine ⟨w3, e1, ⟨e3.below h.sh.bn h.fr h.sh.bl, ?_, hok⟩, e4⟩
  rw [htake_snoc hs i hi, mOf_snoc]
  · exact e2
  · intro x hx e
    rw [htake_snoc hs i hi] at hok
    have := (List.pairwise_append.1 hok.1).2.2 x hx (hs.getD i Hd.zero) (by simp)
    rw [e, bl_irrefl] at this
    cases this
set_option maxHeartbeats 8000000 in
set_option maxRecDepth 100000 in
theorem hload_any (ao : Option Addr) (L cap : Nat) (hs : List Hd) (w : World) (hH : HRs w ao hs) (hL : L = hs.length) :
    Calls Tryz.prog 52 #[.slice ao L cap] w fun e w' => (LoOk hs ∧ ∃ sb b, e = .returned (.tuple #[.pointer (some ⟨sb, 0, none⟩), .int .i64 0]) ∧ Sh w w' sb b L (mOf hs) ∧ Fr [] w w') ∨ (¬ LoOk hs ∧ e = .returned (.tuple #[.pointer none, .int .i64 1]) ∧ Fr [] w w') := by
  have HH : Hid (∀ W, Fr [] w W → HRs W ao hs) := fun W hf => hH.keep hf
  have HL : Hid (L = hs.length) := hL
  have hLL : L ≤ 3518437208882 := by have := hH.few; omega
  clear hH hL
  go_enter Tryz.func52, Tryz.ntmps52
  go_wp2_with fail
  refine (hnew_any w).mono ?_
  rintro e w1 ⟨sb, b, rfl, hS1, hF1⟩
  have HI0 : Hid (LI w w1 sb b 0 hs) := ⟨hF1, hS1, ⟨List.Pairwise.nil, by simp⟩⟩
  clear hS1 hF1
  go_wp2_with fail
  go_loopw [5, 11] (fun ss ii wr => ∃ (i : Nat) (la : ByteArray), ss = .string la ∧ ii = .int .i64 i ∧ i ≤ L ∧ Hid (la = lastK hs i) ∧ Hid (LI w wr sb b i hs)) (fun _ ii _ => L - (RowKit.intOf ii).toNat)
  case atStart => exact ⟨0, ⟨#[]⟩, rfl, rfl, Nat.zero_le _, rfl, HI0⟩
  case round =>
    obtain ⟨i, la, rfl, rfl, hiL, HLa, HI⟩ := hrel
    by_cases hi : i < L
    · have hi' : i < hs.length := by rw [← HL.out]; exact hi
      have hHr := HH.out _ HI.out.fr
      obtain ⟨pb, off, rfl, hpb, hat⟩ := hHr.lies (by omega)
      obtain ⟨c0, c1⟩ := hat i hi'
      have hEc := hHr.each _ (hgetD_mem hs i hi')
      have HSt : Hid (LoOk (hs.take (i + 1)) ↔ Op.bytesLess la.toList (hs.getD i Hd.zero).key.toList = true ∧ okH (hs.getD i Hd.zero)) := by rw [HLa.out]; exact LoOk.step HI.out.ok hi'
      have HNe : Hid (¬ LoOk (hs.take (i + 1)) → ¬ LoOk hs) := fun h1 h2 => h1 (h2.take _)
      have HNx : Hid (∀ w1 w2 ro rc, LoOk (hs.take (i + 1)) → Fr [] wr w1 → VOut w1 w2 ro (hs.getD i Hd.zero).L rc (hs.getD i Hd.zero).vs → Fr [] w1 w2 → ∃ w3, (Instr.mapUpdate 125 (.map (some b)) (.string (hs.getD i Hd.zero).key) (.slice ro (hs.getD i Hd.zero).L rc)).run Tryz.prog w2 = .ok () w3 ∧ LI w w3 sb b (i + 1) hs ∧ Fr [b] w2 w3) := fun w1 w2 ro rc h1 h2 h3 h4 => HI.out.next hi' (by rw [← HL.out]; exact hLL) h1 h2 h3 hEc.len h4
      have HLs : Hid (lastK hs (i + 1) = (hs.getD i Hd.zero).key) := lastK_succ hs i
      have HEc : Hid (HEach wr (hs.getD i Hd.zero)) := hEc
      obtain ⟨x, hx⟩ : ∃ x, x = hs.getD i Hd.zero := ⟨_, rfl⟩
      rw [← hx] at c0 c1 HSt HNx HLs HEc
      clear hx hat hpb hHr hEc
      obtain ⟨key, vo, Lv, cv, vs⟩ := x
      simp only at c0 c1 HNx HLs
      -- the box of the round's key
      obtain ⟨w2, HW2⟩ : ∃ w2, Hid (wr.alloc (.cells #[.string key, .slice vo Lv cv] 70) = w2) := ⟨_, rfl⟩
      have hF2 : Fr [] wr w2 := by rw [← HW2.out]; exact Fr.alloc [] _ _
      have hb2 : w2.heap[wr.heap.size]? = some (.cells #[.string key, .slice vo Lv cv] 70 (0, 0)) := by rw [← HW2.out]; exact heap_alloc_new _ _
      have HB : Hid (∀ W, Fr [] w2 W → W.cell? ⟨wr.heap.size, 0, none⟩ = some (.string key) ∧ W.cell? ⟨wr.heap.size, 1, none⟩ = some (.slice vo Lv cv)) := fun W hf => by
        have hr := hf.keep hb2 (by simp)
        exact ⟨by rw [cell_of_row _ _ _ _ _ _ hr]; rfl, by rw [cell_of_row _ _ _ _ _ _ hr]; rfl⟩
      have hs2 : wr.heap.size < w2.heap.size := lt_of_block hb2
      have HF2 : Hid (Fr [] wr w2) := hF2
      obtain ⟨d0, d1⟩ := HB.out _ (Fr.refl _ _)
      have HFw : Hid (Fr [] w wr) := HI.out.fr
      have hcv : Lv ≤ cv := HEc.out.cp
      have hLv : Lv ≤ 4398046511104 := by have h1 := HEc.out.len; have h2 := HEc.out.rs.few; simp only at h1 h2; omega
      clear hb2 hF2
      go_upto_region 6 with fail
      rw [HW2.out]
      obtain ⟨T, hT⟩ : ∃ T, Op.bytesLess la.toList key.toList = T := ⟨_, rfl⟩
      cases T with
      | false =>
        have HNo : Hid (¬ LoOk hs) := HNe.out (fun h1 => by have := (HSt.out.1 h1).1; simp only at this; rw [hT] at this; cases this)
        clear HSt HNx HNe
        cases hA : Op.bytesLess key.toList la.toList with
        | true =>
          go_wp2
          go_ret2
          exact Or.inr ⟨HNo.out, rfl, HFw.out.then HF2.out⟩
        | false =>
          have hB : (key.toList == la.toList) = true := by
            rw [beq_iff_eq]
            exact bl_eq hA hT
          go_wp2
          go_ret2
          exact Or.inr ⟨HNo.out, rfl, HFw.out.then HF2.out⟩
      | true =>
        have hA : Op.bytesLess key.toList la.toList = false := bl_asymm hT
        have hB : (key.toList == la.toList) = false := by
          rw [beq_eq_false_iff_ne]
          intro e
          rw [e, bl_irrefl] at hT
          cases hT
        by_cases hk : okK9 key
        · have HM : Hid (Calls _ _ _ _ _) := hmay_any key true w2 ⟨fun _ => hk, fun _ => rfl⟩
          have HK : Hid (okK9 key) := hk
          clear hk
          go_wp2_with fail
          refine Calls.mono HM.out ?_
          rintro e w3 ⟨rfl, hF3⟩
          obtain ⟨d0, d1⟩ := HB.out _ hF3
          have HF3 : Hid (Fr [] w2 w3) := hF3
          clear HM hF3
          by_cases hz : Lv = 0
          · have HNo : Hid (¬ LoOk hs) := HNe.out (fun h1 => by
              have h2 := (HSt.out.1 h1).2.2.1
              have h3 := HEc.out.len
              simp only at h2 h3
              exact h2 (List.eq_nil_of_length_eq_zero (by omega)))
            subst hz
            clear HSt HNx HNe
            go_wp2
            go_ret2
            exact Or.inr ⟨HNo.out, rfl, HFw.out.then (HF2.out.then HF3.out)⟩
          · have hz1 : ((Lv : Int) == 0) = false := by simp; omega
            obtain ⟨cc, hck⟩ := CkT.ex vs
            have HV : Hid (Calls _ _ _ _ _) := vcheck_any vo Lv cv cc vs w3 ((HEc.out.rs.keep HF2.out).keep HF3.out) HEc.out.len hck
            go_wp2_with fail
            refine Calls.mono HV.out ?_
            rintro e w4 ⟨rfl, hF4⟩
            have HF4 : Hid (Fr [] w2 w4) := HF3.out.then hF4
            obtain ⟨d0, d1⟩ := HB.out _ HF4.out
            clear HV hF4 HF3
            rcases hck with ⟨rfl, hok⟩ | ⟨rfl, hok⟩
            · have HOk : Hid (LoOk (hs.take (i + 1))) := HSt.out.2 ⟨hT, HK.out, fun e => by
                have h3 := HEc.out.len
                simp only at e h3
                rw [e] at h3
                exact hz h3, hok⟩
              have cs := (HI.out.sh.keep (HF2.out.then HF4.out)).cell
              have hbn : sb ≠ b ∧ wr.heap.size ≠ b := by
                obtain ⟨es, cc, e⟩ := HI.out.sh.mb
                exact ⟨fun e2 => (by rw [← e2, HI.out.sh.box] at e; cases e), fun e2 => (by have := lt_of_block e; omega)⟩
              have hsbl : sb < wr.heap.size := lt_of_block HI.out.sh.box
              have HCl : Hid (∀ W, Fr [] w4 W → Calls Tryz.prog 89 #[.slice vo Lv cv] W fun e w' => ∃ ro rc, e = .returned (.slice ro Lv rc) ∧ (w'.cell? ⟨sb, 0, none⟩ = some (.map (some b)) ∧ w'.cell? ⟨wr.heap.size, 0, none⟩ = some (.string key) ∧ w'.cell? ⟨wr.heap.size, 1, none⟩ = some (.slice vo Lv cv)) ∧ ∃ w5, (Instr.mapUpdate 125 (.map (some b)) (.string key) (.slice ro Lv rc)).run Tryz.prog w' = .ok () w5 ∧ LI w w5 sb b (i + 1) hs ∧ (w5.cell? ⟨sb, 0, none⟩ = some (.map (some b)) ∧ w5.cell? ⟨wr.heap.size, 0, none⟩ = some (.string key) ∧ w5.cell? ⟨wr.heap.size, 1, none⟩ = some (.slice vo Lv cv))) := by
                intro W hW
                have hFW := HF2.out.then (HF4.out.then hW)
                refine (clone_any vo Lv cv vs W (HEc.out.rs.keep hFW) HEc.out.len).mono ?_
                rintro e w' ⟨ro, rc, rfl, hO, hF'⟩
                obtain ⟨g0, g1⟩ := HB.out _ ((HF4.out.then hW).then hF')
                have gs := (HI.out.sh.keep (hFW.then hF')).cell
                obtain ⟨w5, k1, k2, k3⟩ := HNx.out W w' ro rc HOk.out hFW hO hF'
                have l1 : wr.heap.size < w'.heap.size := Nat.lt_of_lt_of_le hs2 ((HF4.out.then hW).then hF').size
                exact ⟨ro, rc, rfl, ⟨gs, g0, g1⟩, w5, k1, k2, far_cell k3 gs (by omega) (by simpa using hbn.1), far_cell k3 g0 l1 (by simpa using hbn.2), far_cell k3 g1 l1 (by simpa using hbn.2)⟩
              clear HSt HNx HNe hok HI HB hbn
              go_wp2_with fail
              go_region_held3 (fun W => W.cell? ⟨sb, 0, none⟩ = some (.map (some b)) ∧ W.cell? ⟨wr.heap.size, 0, none⟩ = some (.string key) ∧ W.cell? ⟨wr.heap.size, 1, none⟩ = some (.slice vo Lv cv)) (go_keep)
                (first | (go_at_call 89; with_reducible refine (HCl.out _ (Fr.drew _ _)).mono ?_; rintro e w5 ⟨ro, rc, rfl, ⟨g0, g1, g2⟩, w6, hr6, hI6, j0, j1, j2⟩))
              have HI6 : Hid (LI w w6 sb b (i + 1) hs) := hI6
              clear hI6
              go_wp2_with fail
              go_roundw
              case rel => exact ⟨i + 1, key, rfl, by simp, by omega, HLs.out.symm, HI6⟩
              case measure => simp [RowKit.intOf]; omega
            · have HNo : Hid (¬ LoOk hs) := HNe.out (fun h1 => hok (HSt.out.1 h1).2.2.2)
              clear HSt HNx HNe hok
              go_wp2
              go_ret2
              exact Or.inr ⟨HNo.out, rfl, HFw.out.then (HF2.out.then HF4.out)⟩
        · have HM : Hid (Calls _ _ _ _ _) := hmay_any key false w2 ⟨fun e => (by cases e), fun e => absurd e hk⟩
          have HNo : Hid (¬ LoOk hs) := HNe.out (fun h1 => hk (HSt.out.1 h1).2.1)
          clear hk HSt HNx HNe
          go_wp2_with fail
          refine Calls.mono HM.out ?_
          rintro e w3 ⟨rfl, hF3⟩
          clear HM
          go_wp2
          go_ret2
          exact Or.inr ⟨HNo.out, rfl, HFw.out.then (HF2.out.then hF3)⟩
    · have hiL2 : i = hs.length := by have := HL.out; omega
      have HR : Hid (LoOk hs ∧ Sh w wr sb b L (mOf hs) ∧ Fr [] w wr) := by
        have h1 := HI.out
        have e : hs.take i = hs := List.take_of_length_le (by omega)
        exact ⟨by rw [← e]; exact h1.ok, by have := h1.sh; rw [e] at this; exact this.mono hiL, h1.fr⟩
      clear HI hiL2
      go_wp2
      go_ret2
      exact Or.inl ⟨HR.out.1, sb, b, rfl, HR.out.2⟩
end Go.Proofs.YtomajifklajilaaGreat
/- A ring as a plain thing, and in memory: where its things stand, what a put, a take and more places make of that. Conditions as each names them. -/
namespace Go.Proofs.YtomajifklajilaaGreat
open Go.ChangeShapes Go.WideShapes Go.ChangeAt Go.RowKit Go.Lib
set_option linter.unusedVariables false
set_option linter.unusedSimpArgs false

/-- A request as it lies in memory. -/
structure Rv where
  k : Int
  f : Int
  n : Int
  wk : ByteArray
  wv : ByteArray
  wd : Bool
  key : ByteArray
  en : ByteArray
  bo : Option Addr
  bl : Nat
  bc : Nat
def Rv.cs (r : Rv) : List Value := [.int .u8 r.k, .int .i64 r.f, .int .i64 r.n, .string r.wk, .string r.wv, .bool r.wd, .string r.key, .string r.en, .slice r.bo r.bl r.bc]
def Rv.v (r : Rv) : Value := .agg #[.int .u8 r.k, .int .i64 r.f, .int .i64 r.n, .string r.wk, .string r.wv, .bool r.wd, .string r.key, .string r.en, .slice r.bo r.bl r.bc]
def Rv.zero : Rv := ⟨0, 0, 0, ⟨#[]⟩, ⟨#[]⟩, false, ⟨#[]⟩, ⟨#[]⟩, none, 0, 0⟩
theorem Rv.cs_length (r : Rv) : r.cs.length = 9 := rfl
/-- Things as cells. -/
def vals (xs : List Rv) : List Value := xs.flatMap Rv.cs
theorem vals_cons (x : Rv) (xs : List Rv) : vals (x :: xs) = x.cs ++ vals xs := rfl
theorem vals_length (xs : List Rv) : (vals xs).length = 9 * xs.length := by
  induction xs with
  | nil => rfl
  | cons x xs ih => rw [vals_cons, List.length_append, ih, Rv.cs_length, List.length_cons]; omega
theorem vals_append (xs ys : List Rv) : vals (xs ++ ys) = vals xs ++ vals ys := by simp [vals]
theorem vals_take (xs : List Rv) (n : Nat) : (vals xs).take (9 * n) = vals (xs.take n) := by
  induction n generalizing xs with
  | zero => simp [vals]
  | succ n ih =>
    cases xs with
    | nil => simp [vals]
    | cons x xs =>
      rw [vals_cons, List.take_succ_cons, vals_cons, List.take_append, List.take_of_length_le (by rw [Rv.cs_length]; omega), Rv.cs_length, show 9 * (n + 1) - 9 = 9 * n by omega, ih]
theorem vals_drop (xs : List Rv) (n : Nat) : (vals xs).drop (9 * n) = vals (xs.drop n) := by
  induction n generalizing xs with
  | zero => simp
  | succ n ih =>
    cases xs with
    | nil => simp [vals]
    | cons x xs =>
      rw [vals_cons, List.drop_succ_cons, List.drop_append, List.drop_of_length_le (by rw [Rv.cs_length]; omega), List.nil_append, Rv.cs_length, show 9 * (n + 1) - 9 = 9 * n by omega, ih]
theorem vals_get (xs : List Rv) (j i : Nat) (h : j < xs.length) (hi : i < 9) : (vals xs)[9 * j + i]? = (xs.getD j Rv.zero).cs[i]? := by
  induction j generalizing xs with
  | zero =>
    cases xs with
    | nil => simp at h
    | cons x xs =>
      rw [vals_cons, Nat.mul_zero, Nat.zero_add, List.getElem?_append_left (by rw [Rv.cs_length]; exact hi)]
      rfl
  | succ j ih =>
    cases xs with
    | nil => simp at h
    | cons x xs =>
      rw [vals_cons, List.getElem?_append_right (by rw [Rv.cs_length]; omega), Rv.cs_length, show 9 * (j + 1) + i - 9 = 9 * j + i by omega, ih xs (by simpa using h)]
      rfl
theorem vals_set (xs : List Rv) (j : Nat) (x : Rv) (h : j < xs.length) : splice (vals xs) (9 * j) x.cs = vals (xs.set j x) := by
  unfold splice
  rw [vals_take, Rv.cs_length, show 9 * j + 9 = 9 * (j + 1) by omega, vals_drop, List.set_eq_take_append_cons_drop, if_pos h, vals_append, vals_cons]
theorem vals_one (xs : List Rv) : ∀ u ∈ vals xs, u.oneCell' = true := by
  intro u hu
  obtain ⟨x, _, hx⟩ := List.mem_flatMap.1 hu
  simp only [Rv.cs, List.mem_cons, List.not_mem_nil, or_false] at hx
  rcases hx with rfl | rfl | rfl | rfl | rfl | rfl | rfl | rfl | rfl <;> rfl
theorem vals_zero (n : Nat) : (madeCells Rv.zero.v.cells (n * 9)).toList = vals (List.replicate n Rv.zero) := by
  apply List.ext_getElem?
  intro q
  have hl : (vals (List.replicate n Rv.zero)).length = 9 * n := by rw [vals_length, List.length_replicate]
  by_cases hq : q < 9 * n
  · have h1 : 9 * (q / 9) + q % 9 = q := Nat.div_add_mod q 9
    have h2 : q % 9 < 9 := Nat.mod_lt _ (by omega)
    have h3 : q / 9 < n := by omega
    have e := vals_get (List.replicate n Rv.zero) (q / 9) (q % 9) (by simpa using h3) h2
    rw [h1] at e
    rw [e]
    have e2 : (List.replicate n Rv.zero).getD (q / 9) Rv.zero = Rv.zero := by simp [List.getD, h3]
    rw [e2]
    have h4 : q < n * 9 := by omega
    have e3 : (madeCells Rv.zero.v.cells (n * 9)).toList[q]? = some (Rv.zero.v.cells[q % 9]!) := by
      simp [madeCells, h4, Value.cells, Rv.v]
    rw [e3]
    have h5 : q % 9 = 0 ∨ q % 9 = 1 ∨ q % 9 = 2 ∨ q % 9 = 3 ∨ q % 9 = 4 ∨ q % 9 = 5 ∨ q % 9 = 6 ∨ q % 9 = 7 ∨ q % 9 = 8 := by omega
    rcases h5 with h | h | h | h | h | h | h | h | h <;> rw [h] <;> rfl
  · rw [List.getElem?_eq_none (by simp [size_madeCells]; omega), List.getElem?_eq_none (by omega)]
/-- The place of the thing that has i ahead of it. -/
def atN (F i N : Nat) : Nat := if F + i < N then F + i else F + i - N
theorem atN_mod {F i N : Nat} (hF : F < N) (hi : i ≤ N) : (F + i) % N = atN F i N := by
  unfold atN
  split
  · exact Nat.mod_eq_of_lt (by assumption)
  · rw [Nat.mod_eq_sub_mod (by omega), Nat.mod_eq_of_lt (by omega)]
theorem atN_lt {F i N : Nat} (hF : F < N) (hi : i ≤ N) : atN F i N < N := by
  unfold atN
  split <;> omega
/-- The places ps, of which the first thing stands at F, hold the things xs. -/
structure Pl (N F K : Nat) (ps xs : List Rv) : Prop where
  len : ps.length = N
  cnt : xs.length = K
  fit : K ≤ N
  f0 : N = 0 → F = 0
  f1 : 0 < N → F < N
  at_ : ∀ i, i < K → ps.getD (atN F i N) Rv.zero = xs.getD i Rv.zero
theorem getD_set (ps : List Rv) (i j : Nat) (x : Rv) (hi : i < ps.length) : (ps.set i x).getD j Rv.zero = if i = j then x else ps.getD j Rv.zero := by
  simp only [List.getD, List.getElem?_set]
  split
  · subst_vars
    simp [hi]
  · rfl
theorem getD_snoc (xs : List Rv) (x : Rv) (j : Nat) : (xs ++ [x]).getD j Rv.zero = if j < xs.length then xs.getD j Rv.zero else if j = xs.length then x else Rv.zero := by
  simp only [List.getD]
  split
  · rw [List.getElem?_append_left (by assumption)]
  · rw [List.getElem?_append_right (by omega)]
    split
    · subst_vars; simp
    · rw [List.getElem?_eq_none (by simp; omega)]; rfl
theorem Pl.put {N F K : Nat} {ps xs : List Rv} (h : Pl N F K ps xs) (hK : K < N) (x : Rv) : Pl N F (K + 1) (ps.set (atN F K N) x) (xs ++ [x]) := by
  have hF := h.f1 (by omega)
  refine ⟨by rw [List.length_set]; exact h.len, by rw [List.length_append, h.cnt]; rfl, by omega, h.f0, h.f1, fun i hi => ?_⟩
  rw [getD_set _ _ _ _ (by rw [h.len]; exact atN_lt hF (by omega)), getD_snoc, h.cnt]
  by_cases hiK : i < K
  · rw [if_neg (by unfold atN; split <;> split <;> omega), if_pos hiK]
    exact h.at_ i hiK
  · obtain rfl : i = K := by omega
    rw [if_pos rfl, if_neg (by omega), if_pos rfl]
theorem Pl.take {N F K : Nat} {ps xs : List Rv} {x : Rv} (h : Pl N F (K + 1) ps (x :: xs)) : ps.getD F Rv.zero = x ∧ Pl N (atN F 1 N) K (ps.set F Rv.zero) xs := by
  have hN : 0 < N := by have := h.fit; omega
  have hF := h.f1 hN
  have h0 := h.at_ 0 (by omega)
  have e0 : atN F 0 N = F := by unfold atN; rw [if_pos (by omega)]; rfl
  rw [e0] at h0
  refine ⟨by simpa using h0, by rw [List.length_set]; exact h.len, by have := h.cnt; simp at this; exact this, by have := h.fit; omega, fun e => by omega, fun _ => atN_lt hF (by omega), fun i hi => ?_⟩
  have hi1 := h.at_ (i + 1) (by omega)
  have hfit := h.fit
  have e1 : atN (atN F 1 N) i N = atN F (i + 1) N := by unfold atN; split <;> split <;> (try split) <;> omega
  rw [e1, getD_set _ _ _ _ (by rw [h.len]; exact hF), if_neg (by unfold atN; split <;> omega), hi1]
  rfl
/-- The places unrolled to n of them. -/
def unr (F n : Nat) (ps : List Rv) : List Rv := (ps.drop F ++ ps.take F).take n ++ List.replicate (n - ps.length) Rv.zero
theorem unr_length (F n : Nat) (ps : List Rv) : (unr F n ps).length = n := by
  simp [unr]
  omega
theorem unr_get {F n N i : Nat} {ps : List Rv} (hN : ps.length = N) (hF : F < N) (hi : i < n) (hiN : i < N) : (unr F n ps).getD i Rv.zero = ps.getD (atN F i N) Rv.zero := by
  simp only [unr, List.getD]
  congr 1
  rw [List.getElem?_append_left (by simp; omega), List.getElem?_take_of_lt hi]
  unfold atN
  split
  · rw [List.getElem?_append_left (by simp; omega), List.getElem?_drop]
  · rw [List.getElem?_append_right (by simp; omega), List.getElem?_take_of_lt (by simp; omega)]
    congr 1
    simp
    omega
theorem Pl.wide {N F K n : Nat} {ps xs : List Rv} (h : Pl N F K ps xs) (hn : N ≤ n) (hn0 : 0 < n) : Pl n 0 K (unr F n ps) xs := by
  refine ⟨unr_length _ _ _, h.cnt, by have := h.fit; omega, fun _ => rfl, fun h => h, fun i hi => ?_⟩
  have hfit := h.fit
  have e0 : atN 0 i n = i := by unfold atN; rw [if_pos (by omega)]; omega
  rw [e0, unr_get h.len (h.f1 (by omega)) (by omega) (by omega)]
  exact h.at_ i hi
theorem Pl.all {N F K : Nat} {ps xs : List Rv} (h : Pl N F K ps xs) : unr F K ps = xs := by
  apply List.ext_getElem
  · rw [unr_length, h.cnt]
  · intro i h1 h2
    rw [unr_length] at h1
    have hfit := h.fit
    have e := unr_get (n := K) h.len (h.f1 (by omega)) h1 (by omega)
    rw [h.at_ i h1] at e
    simp [List.getD, unr_length, h1, h.cnt] at e
    exact e
theorem Pl.nil : Pl 0 0 0 [] [] := ⟨rfl, rfl, Nat.le_refl _, fun _ => rfl, fun h => absurd h (by omega), fun i h => absurd h (by omega)⟩

/-- A ring in memory: its struct lies in block g, its places in block pb (none: there are none). -/
structure RgM (w : World) (g : Nat) (pb : Option Nat) (C N F K : Nat) (ps xs : List Rv) (cl : Bool) : Prop where
  box : w.heap[g]? = some (.cells #[.int .i64 (C : Int), .slice (pb.map fun b => ⟨b, 0, none⟩) N N, .int .i64 (F : Int), .int .i64 (K : Int), .bool cl] 106 (0, 0))
  pl : Pl N F K ps xs
  row : ∀ b, pb = some b → w.heap[b]? = some (.cells (vals ps).toArray 36 (0, 0))
  none_ : pb = none ↔ N = 0
  cap : 1 ≤ C ∧ C ≤ 65536 ∧ N ≤ C
/-- A ring with these things. -/
def Rg (w : World) (g : Nat) (pb : Option Nat) (C : Nat) (xs : List Rv) (cl : Bool) : Prop := ∃ N F K ps, RgM w g pb C N F K ps xs cl
section
variable {w w' : World} {g C N F K : Nat} {pb : Option Nat} {ps xs : List Rv} {cl : Bool}
theorem RgM.lt (h : RgM w g pb C N F K ps xs cl) : g < w.heap.size := lt_of_block h.box
theorem RgM.ne (h : RgM w g pb C N F K ps xs cl) : pb ≠ some g := by
  intro e
  have h1 := h.row g e
  rw [h.box] at h1
  simp at h1
theorem RgM.plt (h : RgM w g pb C N F K ps xs cl) {b : Nat} (hb : pb = some b) : b < w.heap.size := lt_of_block (h.row b hb)
theorem RgM.keep {S : List Nat} (h : RgM w g pb C N F K ps xs cl) (hf : Fr S w w') (hg : g ∉ S) (hb : ∀ b, pb = some b → b ∉ S) : RgM w' g pb C N F K ps xs cl :=
  ⟨hf.keep h.box hg, h.pl, fun b e => hf.keep (h.row b e) (hb b e), h.none_, h.cap⟩
theorem RgM.c0 (h : RgM w g pb C N F K ps xs cl) : w.cell? ⟨g, 0, none⟩ = some (.int .i64 (C : Int)) := by rw [cell_of_row _ _ _ _ _ _ h.box]; rfl
theorem RgM.c1 (h : RgM w g pb C N F K ps xs cl) : w.cell? ⟨g, 1, none⟩ = some (.slice (pb.map fun b => ⟨b, 0, none⟩) N N) := by rw [cell_of_row _ _ _ _ _ _ h.box]; rfl
theorem RgM.c2 (h : RgM w g pb C N F K ps xs cl) : w.cell? ⟨g, 2, none⟩ = some (.int .i64 (F : Int)) := by rw [cell_of_row _ _ _ _ _ _ h.box]; rfl
theorem RgM.c3 (h : RgM w g pb C N F K ps xs cl) : w.cell? ⟨g, 3, none⟩ = some (.int .i64 (K : Int)) := by rw [cell_of_row _ _ _ _ _ _ h.box]; rfl
theorem RgM.c4 (h : RgM w g pb C N F K ps xs cl) : w.cell? ⟨g, 4, none⟩ = some (.bool cl) := by rw [cell_of_row _ _ _ _ _ _ h.box]; rfl
theorem RgM.fz (h : RgM w g pb C N F K ps xs cl) (i : Nat) : w.frozen? ⟨g, i, none⟩ = false := by simp [World.frozen?, h.box]
theorem RgM.pc (h : RgM w g pb C N F K ps xs cl) {b i : Nat} (hb : pb = some b) (hi : i < N) : ∀ j v, (ps.getD i Rv.zero).cs[j]? = some v → w.cell? ⟨b, 9 * i + j, none⟩ = some v := by
  intro j v hj
  have hj9 : j < 9 := by
    rcases Nat.lt_or_ge j 9 with h1 | h1
    · exact h1
    · rw [List.getElem?_eq_none (by rw [Rv.cs_length]; exact h1)] at hj; cases hj
  rw [cell_of_row _ _ _ _ _ _ (h.row b hb), List.getElem?_toArray, vals_get ps i j (by rw [h.pl.len]; exact hi) hj9]
  exact hj
theorem RgM.pz (h : RgM w g pb C N F K ps xs cl) {b : Nat} (hb : pb = some b) (i : Nat) : w.frozen? ⟨b, i, none⟩ = false := by simp [World.frozen?, h.row b hb]
theorem Rg.keep {S : List Nat} (h : Rg w g pb C xs cl) (hf : Fr S w w') (hg : g ∉ S) (hb : ∀ b, pb = some b → b ∉ S) : Rg w' g pb C xs cl := by
  obtain ⟨N, F, K, ps, h⟩ := h
  exact ⟨N, F, K, ps, h.keep hf hg hb⟩
theorem Rg.same (h : Rg w g pb C xs cl) (hf : Fr [] w w') : Rg w' g pb C xs cl := h.keep hf (by simp) (by simp)
theorem Rg.lt (h : Rg w g pb C xs cl) : g < w.heap.size := by obtain ⟨N, F, K, ps, h⟩ := h; exact h.lt
theorem Rg.plt (h : Rg w g pb C xs cl) {b : Nat} (hb : pb = some b) : b < w.heap.size := by obtain ⟨N, F, K, ps, h⟩ := h; exact h.plt hb
theorem Rg.ne (h : Rg w g pb C xs cl) : pb ≠ some g := by obtain ⟨N, F, K, ps, h⟩ := h; exact h.ne
theorem Rg.few (h : Rg w g pb C xs cl) : xs.length ≤ C ∧ 1 ≤ C ∧ C ≤ 65536 := by
  obtain ⟨N, F, K, ps, h⟩ := h
  have := h.pl.cnt
  have := h.pl.fit
  have := h.cap
  omega
end
/-- What belongs to a ring. -/
def Rg.own (g : Nat) (pb : Option Nat) : List Nat := g :: pb.toList
/-- The places stayed where they were, or are new. -/
def Mv (n : Nat) (pb pb' : Option Nat) : Prop := pb' = pb ∨ ∃ k, pb' = some k ∧ n ≤ k
theorem Mv.refl (n : Nat) (pb : Option Nat) : Mv n pb pb := Or.inl rfl
theorem Mv.trans {n m : Nat} {a b c : Option Nat} (h : Mv n a b) (k : Mv m b c) (hnm : n ≤ m) : Mv n a c := by
  rcases k with rfl | ⟨x, rfl, hx⟩
  · exact h
  · exact Or.inr ⟨x, rfl, by omega⟩
end Go.Proofs.YtomajifklajilaaGreat
