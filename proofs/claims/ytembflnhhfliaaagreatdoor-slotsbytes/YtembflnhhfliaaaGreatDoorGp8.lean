/- Contracts and plain lemmas of this claim. -/
import Derived.Test.YtembflnhhfliaaaGreatDoorGp7
import Derived.WideLaws
import Derived.WalkSpells
import Derived.Laws.Cover1
import Derived.Maps.AppendAt
import Derived.Deep.RegionHeld3
set_option linter.unusedSimpArgs false
set_option linter.unusedVariables false
set_option maxHeartbeats 8000000
set_option maxRecDepth 100000
namespace Go.Proofs.YtembflnhhfliaaaGreatDoor
open Go.ChangeShapes Go.WideShapes Go.ChangeAt Go.RowKit Go.Lib Go.Maps
theorem zvz (w : World) : Calls Tryz.prog 179 #[] w fun e w' => ∃ sb b, e = .returned (.pointer (some ⟨sb, 0, none⟩)) /\ Sh w w' sb b 0 (fun _ => []) /\ Fr [] w w' := by
  have hmm := @run_makeMap Tryz.prog
  have HS : Hid (Sh w ((w.alloc (.map #[] 0)).alloc (.cells #[.map (some w.heap.size)] 241)) (w.heap.size + 1) w.heap.size 0 (fun _ => [])) := Sh.made w w (Nat.le_refl _)
  have HF : Hid (Fr [] w ((w.alloc (.map #[] 0)).alloc (.cells #[.map (some w.heap.size)] 241))) := (Fr.alloc [] _ _).then (Fr.alloc [] _ _)
  go_enter Tryz.func179, Tryz.ntmps179
  go_wp2
  go_ret
  exact ⟨w.heap.size + 1, w.heap.size, rfl, HS.out, HF.out⟩
theorem Sh.cell {w0 w : World} {sb b n : Nat} {M : ByteArray -> List Vn} (h : Sh w0 w sb b n M) : w.cell? ⟨sb, 0, none⟩ = some (.map (some b)) := by
  rw [cell_of_row _ _ _ _ _ _ h.box]; rfl
theorem zmz (key : ByteArray) (B : Bool) (w : World) (hB : B = true ↔ okK9 key) : Calls Tryz.prog 180 #[.string key] w fun e w' => e = .returned (.bool B) /\ Fr [] w w' := by
  have hE0 : (⟨#[]⟩ : ByteArray).toList = [] := (zeo _).2 rfl
  by_cases h1 : key.toList = []
  · obtain ⟨E, hE⟩ : ∃ E, (key.toList == ([] : List UInt8)) = E := ⟨_, rfl⟩
    have hE1 : E = true := by rw [<- hE, h1]; rfl
    have hE2 : (key.toList != ([] : List UInt8)) = false := by rw [bne, hE, hE1]; rfl
    have hBf : B = false := by
      cases B with
      | false => rfl
      | true => have := (hB.1 rfl).1; have := (zeo key).1 h1; omega
    subst hBf
    clear hB h1
    go_enter Tryz.func180, Tryz.ntmps180
    go_wp2
    all_goals (go_ret; exact ⟨rfl, Fr.refl _ _⟩)
  · obtain ⟨E, hE⟩ : ∃ E, (key.toList == ([] : List UInt8)) = E := ⟨_, rfl⟩
    have hE1 : E = false := by rw [<- hE]; simpa using h1
    have hE2 : (key.toList != ([] : List UInt8)) = true := by rw [bne, hE, hE1]; rfl
    have hpos : 1 <= key.size := by
      rcases Nat.eq_zero_or_pos key.size with h | h
      · exact absurd ((zeo key).2 h) h1
      · exact h
    have hBf : B = decide ((key.size : Int) <= 64) := by
      by_cases h2 : key.size <= 64
      · rw [hB.2 ⟨hpos, h2⟩]
        symm
        simp
        omega
      · have : B = false := by
          cases B with
          | false => rfl
          | true => exact absurd (hB.1 rfl).2 h2
        rw [this]
        symm
        simp
        omega
    rw [hBf]
    clear hB h1 hBf hpos
    go_enter Tryz.func180, Tryz.ntmps180
    go_wp2
    all_goals (go_ret; exact ⟨rfl, Fr.refl _ _⟩)
theorem VOut.each {w0 w : World} {ro : Option Addr} {N rc : Nat} {vs : List Vn} (h : VOut w0 w ro N rc vs) (ho : okV vs) : VRs w ro vs := h.rs (by have := zkt ho; omega) (fun x hx => zvv (ho.1 x hx))
structure Hd where
  key : ByteArray
  vo : Option Addr
  L : Nat
  cap : Nat
  vs : List Vn
def Hd.zero : Hd := ⟨noS, none, 0, 0, []⟩
structure HEach (w : World) (h : Hd) : Prop where
  k : h.key.size <= 140737488355328
  len : h.L = h.vs.length
  cp : h.L <= h.cap
  rs : VRs w h.vo h.vs
structure HRs (w : World) (ao : Option Addr) (hs : List Hd) : Prop where
  lies : 0 < hs.length -> ∃ b off, ao = some ⟨b, off, none⟩ /\ b < w.heap.size /\ ∀ i, i < hs.length -> w.cell? ⟨b, off + i * 2, none⟩ = some (.string (hs.getD i Hd.zero).key) /\ w.cell? ⟨b, off + i * 2 + 1, none⟩ = some (.slice (hs.getD i Hd.zero).vo (hs.getD i Hd.zero).L (hs.getD i Hd.zero).cap)
  few : hs.length <= 3518437208882
  each : ∀ h ∈ hs, HEach w h
theorem HEach.keep {w w' : World} {h : Hd} (he : HEach w h) (hf : Fr [] w w') : HEach w' h := ⟨he.k, he.len, he.cp, he.rs.keep hf⟩
theorem HRs.keep {w w' : World} {ao : Option Addr} {hs : List Hd} (h : HRs w ao hs) (hf : Fr [] w w') : HRs w' ao hs := by
  refine ⟨fun h0 => ?_, h.few, fun x hx => (h.each x hx).keep hf⟩
  obtain ⟨b, off, e, hb, hc⟩ := h.lies h0
  have hk : ∀ o, w'.cell? ⟨b, o, none⟩ = w.cell? ⟨b, o, none⟩ := fun o => World.cell?_of_block (hf.block b hb (by simp))
  exact ⟨b, off, e, Nat.lt_of_lt_of_le hb hf.size, fun i hi => ⟨(hk _).trans (hc i hi).1, (hk _).trans (hc i hi).2⟩⟩
theorem zbc (hs : List Hd) (i : Nat) (h : i < hs.length) : hs.getD i Hd.zero ∈ hs := by simp [List.getD, h]
theorem zcg (hs : List Hd) (i : Nat) (h : i < hs.length) : hs.take (i + 1) = hs.take i ++ [hs.getD i Hd.zero] := by
  rw [List.take_add_one]
  simp [List.getD, h]
def okH (h : Hd) : Prop := okK9 h.key /\ h.vs ≠ [] /\ okV h.vs
def LoOk (hs : List Hd) : Prop := hs.Pairwise (fun a b => Op.bytesLess a.key.toList b.key.toList = true) /\ ∀ h ∈ hs, okH h
def zee (hs : List Hd) (i : Nat) : ByteArray := if i = 0 then noS else (hs.getD (i - 1) Hd.zero).key
theorem zrb (hs : List Hd) (i : Nat) : zee hs (i + 1) = (hs.getD i Hd.zero).key := by unfold zee; rw [if_neg (by omega), Nat.add_sub_cancel]
theorem zna (s : ByteArray) : Op.bytesLess noS.toList s.toList = true ↔ s ≠ noS := by
  have h0 : noS.toList = [] := (zeo _).2 rfl
  rw [h0]
  constructor
  · rintro h rfl
    rw [h0] at h
    cases h
  · intro h
    cases hs : s.toList with
    | nil => exact absurd ((zfr s).1 ((zeo s).1 hs)) h
    | cons a r => rfl
theorem LoOk.step {hs : List Hd} {i : Nat} (h : LoOk (hs.take i)) (hi : i < hs.length) : LoOk (hs.take (i + 1)) ↔ Op.bytesLess (zee hs i).toList (hs.getD i Hd.zero).key.toList = true /\ okH (hs.getD i Hd.zero) := by
  rw [zcg hs i hi]
  unfold LoOk
  rw [List.pairwise_append]
  constructor
  · rintro ⟨⟨_, _, h3⟩, h4⟩
    have ho := h4 (hs.getD i Hd.zero) (by simp)
    refine ⟨?_, ho⟩
    unfold zee
    by_cases h0 : i = 0
    · rw [if_pos h0, zna]
      rintro e
      have := ho.1.1
      rw [e] at this
      exact absurd this (by decide)
    · rw [if_neg h0]
      refine h3 _ ?_ _ (by simp)
      have : i - 1 < (hs.take i).length := by simp; omega
      refine List.mem_iff_getElem.2 ⟨i - 1, this, ?_⟩
      simp [List.getD, show i - 1 < hs.length by omega]
  · rintro ⟨h1, h2⟩
    refine ⟨⟨h.1, List.pairwise_singleton _ _, fun a ha b hb => ?_⟩, fun x hx => ?_⟩
    · simp at hb
      subst hb
      obtain ⟨j, hj, e⟩ := List.mem_iff_getElem.1 ha
      have hj' : j < i := by simp at hj; omega
      have hi0 : i ≠ 0 := by omega
      unfold zee at h1
      rw [if_neg hi0] at h1
      have ea : a = hs.getD j Hd.zero := by rw [<- e]; simp [List.getD, show j < hs.length by omega]
      by_cases hjl : j = i - 1
      · rw [ea, hjl]
        exact h1
      · have hp := List.pairwise_iff_getElem.1 h.1 j (i - 1) (by simp; omega) (by simp; omega) (by omega)
        simp only [List.getElem_take] at hp
        refine zmx ?_ h1
        rw [ea]
        simpa [List.getD, show j < hs.length by omega, show i - 1 < hs.length by omega] using hp
    · rcases List.mem_append.1 hx with h3 | h3
      · exact h.2 x h3
      · simp at h3; subst h3; exact h2
theorem LoOk.take {hs : List Hd} (h : LoOk hs) (i : Nat) : LoOk (hs.take i) := ⟨h.1.sublist (List.take_sublist _ _), fun x hx => h.2 x (List.mem_of_mem_take hx)⟩
def mOf (hs : List Hd) : ByteArray -> List Vn := fun k => match hs.find? (fun h => decide (h.key = k)) with
  | some h => h.vs
  | none => []
theorem zwa {hs : List Hd} {x : Hd} (hn : ∀ h ∈ hs, h.key ≠ x.key) : mOf (hs ++ [x]) = updM (mOf hs) x.key x.vs := by
  funext k
  unfold mOf updM
  rw [List.find?_append]
  by_cases hk : k = x.key
  · rw [if_pos hk]
    have h1 : hs.find? (fun h => decide (h.key = k)) = none := List.find?_eq_none.2 fun h hh => by simpa [hk] using hn h hh
    rw [h1]
    simp [List.find?_cons, hk]
  · rw [if_neg hk]
    have h1 : [x].find? (fun h => decide (h.key = k)) = none := List.find?_eq_none.2 fun h hh => by simp at hh; subst hh; simpa using fun e => hk e.symm
    rw [h1, Option.or_none]
structure LI (w wr : World) (sb b i : Nat) (hs : List Hd) : Prop where
  fr : Fr [] w wr
  sh : Sh w wr sb b i (mOf (hs.take i))
  ok : LoOk (hs.take i)
theorem LI.next {w wr w1 w2 : World} {sb b i : Nat} {hs : List Hd} (h : LI w wr sb b i hs) (hi : i < hs.length) (hn : hs.length <= 3518437208882) (hok : LoOk (hs.take (i + 1))) (hF1 : Fr [] wr w1) {ro : Option Addr} {rc : Nat} (hV : VOut w1 w2 ro (hs.getD i Hd.zero).L rc (hs.getD i Hd.zero).vs) (hL : (hs.getD i Hd.zero).L = (hs.getD i Hd.zero).vs.length) (hF2 : Fr [] w1 w2) :
    ∃ w3, (Instr.mapUpdate 237 (.map (some b)) (.string (hs.getD i Hd.zero).key) (.slice ro (hs.getD i Hd.zero).L rc)).run Tryz.prog w2 = .ok () w3 /\ LI w w3 sb b (i + 1) hs /\ Fr [b] w2 w3 := by
  have hst := (LoOk.step h.ok hi).1 hok
  obtain ⟨ro0, N0, rc0, hlk, hV0, _⟩ := h.sh.look (hs.getD i Hd.zero).key (by have := hst.2.1.2; unfold maxLen; omega)
  have hpos : 0 < (hs.getD i Hd.zero).L := by
    rw [hL]
    exact List.length_pos_iff.2 hst.2.2.1
  obtain ⟨w3, e1, e2, e3, e4, _⟩ := h.sh.lay (hs.getD i Hd.zero).key hst.2.1 (by omega) hlk ((hF1.then hF2).mono (by simp)) (hV.later (h.fr.then hF1).size) (fun g hg => Or.inr (Nat.le_trans hF1.size (hV.blk g (by rw [hg]; simp)).1)) hst.2.2.2 hpos
  refine ⟨w3, e1, ⟨e3.below h.sh.bn h.fr h.sh.bl, ?_, hok⟩, e4⟩
  rw [zcg hs i hi, zwa]
  · exact e2
  · intro x hx e
    rw [zcg hs i hi] at hok
    have := (List.pairwise_append.1 hok.1).2.2 x hx (hs.getD i Hd.zero) (by simp)
    rw [e, zeu] at this
    cases this
theorem ztl (ao : Option Addr) (L cap : Nat) (hs : List Hd) (w : World) (hH : HRs w ao hs) (hL : L = hs.length) :
    Calls Tryz.prog 151 #[.slice ao L cap] w fun e w' => (LoOk hs /\ ∃ sb b, e = .returned (.tuple #[.pointer (some ⟨sb, 0, none⟩), .int .i64 0]) /\ Sh w w' sb b L (mOf hs) /\ Fr [] w w') \/ (¬ LoOk hs /\ e = .returned (.tuple #[.pointer none, .int .i64 1]) /\ Fr [] w w') := by
  have HH : Hid (∀ W, Fr [] w W -> HRs W ao hs) := fun W hf => hH.keep hf
  have HL : Hid (L = hs.length) := hL
  have hLL : L <= 3518437208882 := by have := hH.few; omega
  clear hH hL
  go_enter Tryz.func151, Tryz.ntmps151
  go_wp2_with fail
  refine (zvz w).mono ?_
  rintro e w1 ⟨sb, b, rfl, hS1, hF1⟩
  have HI0 : Hid (LI w w1 sb b 0 hs) := ⟨hF1, hS1, ⟨List.Pairwise.nil, by simp⟩⟩
  clear hS1 hF1
  go_wp2_with fail
  go_loopw [5, 11] (fun ss ii wr => ∃ (i : Nat) (la : ByteArray), ss = .string la /\ ii = .int .i64 i /\ i <= L /\ Hid (la = zee hs i) /\ Hid (LI w wr sb b i hs)) (fun _ ii _ => L - (RowKit.intOf ii).toNat)
  case atStart => exact ⟨0, ⟨#[]⟩, rfl, rfl, Nat.zero_le _, rfl, HI0⟩
  case round =>
    obtain ⟨i, la, rfl, rfl, hiL, HLa, HI⟩ := hrel
    by_cases hi : i < L
    · have hi' : i < hs.length := by rw [<- HL.out]; exact hi
      have hHr := HH.out _ HI.out.fr
      obtain ⟨pb, off, rfl, hpb, hat⟩ := hHr.lies (by omega)
      obtain ⟨c0, c1⟩ := hat i hi'
      have hEc := hHr.each _ (zbc hs i hi')
      have HSt : Hid (LoOk (hs.take (i + 1)) ↔ Op.bytesLess la.toList (hs.getD i Hd.zero).key.toList = true /\ okH (hs.getD i Hd.zero)) := by rw [HLa.out]; exact LoOk.step HI.out.ok hi'
      have HNe : Hid (¬ LoOk (hs.take (i + 1)) -> ¬ LoOk hs) := fun h1 h2 => h1 (h2.take _)
      have HNx : Hid (∀ w1 w2 ro rc, LoOk (hs.take (i + 1)) -> Fr [] wr w1 -> VOut w1 w2 ro (hs.getD i Hd.zero).L rc (hs.getD i Hd.zero).vs -> Fr [] w1 w2 -> ∃ w3, (Instr.mapUpdate 237 (.map (some b)) (.string (hs.getD i Hd.zero).key) (.slice ro (hs.getD i Hd.zero).L rc)).run Tryz.prog w2 = .ok () w3 /\ LI w w3 sb b (i + 1) hs /\ Fr [b] w2 w3) := fun w1 w2 ro rc h1 h2 h3 h4 => HI.out.next hi' (by rw [<- HL.out]; exact hLL) h1 h2 h3 hEc.len h4
      have HLs : Hid (zee hs (i + 1) = (hs.getD i Hd.zero).key) := zrb hs i
      have HEc : Hid (HEach wr (hs.getD i Hd.zero)) := hEc
      obtain ⟨x, hx⟩ : ∃ x, x = hs.getD i Hd.zero := ⟨_, rfl⟩
      rw [<- hx] at c0 c1 HSt HNx HLs HEc
      clear hx hat hpb hHr hEc
      obtain ⟨key, vo, Lv, cv, vs⟩ := x
      simp only at c0 c1 HNx HLs
      -- the box of the round's key
      obtain ⟨w2, HW2⟩ : ∃ w2, Hid (wr.alloc (.cells #[.string key, .slice vo Lv cv] 147) = w2) := ⟨_, rfl⟩
      have hF2 : Fr [] wr w2 := by rw [<- HW2.out]; exact Fr.alloc [] _ _
      have hb2 : w2.heap[wr.heap.size]? = some (.cells #[.string key, .slice vo Lv cv] 147 (0, 0)) := by rw [<- HW2.out]; exact heap_alloc_new _ _
      have HB : Hid (∀ W, Fr [] w2 W -> W.cell? ⟨wr.heap.size, 0, none⟩ = some (.string key) /\ W.cell? ⟨wr.heap.size, 1, none⟩ = some (.slice vo Lv cv)) := fun W hf => by
        have hr := hf.keep hb2 (by simp)
        exact ⟨by rw [cell_of_row _ _ _ _ _ _ hr]; rfl, by rw [cell_of_row _ _ _ _ _ _ hr]; rfl⟩
      have hs2 : wr.heap.size < w2.heap.size := lt_of_block hb2
      have HF2 : Hid (Fr [] wr w2) := hF2
      obtain ⟨d0, d1⟩ := HB.out _ (Fr.refl _ _)
      have HFw : Hid (Fr [] w wr) := HI.out.fr
      have hcv : Lv <= cv := HEc.out.cp
      have hLv : Lv <= 4398046511104 := by have h1 := HEc.out.len; have h2 := HEc.out.rs.few; simp only at h1 h2; omega
      clear hb2 hF2
      go_upto_region 6 with fail
      rw [HW2.out]
      obtain ⟨T, hT⟩ : ∃ T, Op.bytesLess la.toList key.toList = T := ⟨_, rfl⟩
      cases T with
      | false =>
        have HNo : Hid (¬ LoOk hs) := HNe.out (fun h1 => by have := (HSt.out.1 h1).1; simp only at this; rw [hT] at this; cases this)
        clear HSt HNx HNe
        cases hA : Op.bytesLess key.toList la.toList with
        | true =>
          go_wp2
          go_ret2
          exact Or.inr ⟨HNo.out, rfl, HFw.out.then HF2.out⟩
        | false =>
          have hB : (key.toList == la.toList) = true := by
            rw [beq_iff_eq]
            exact zaad hA hT
          go_wp2
          go_ret2
          exact Or.inr ⟨HNo.out, rfl, HFw.out.then HF2.out⟩
      | true =>
        have hA : Op.bytesLess key.toList la.toList = false := zvx hT
        have hB : (key.toList == la.toList) = false := by
          rw [beq_eq_false_iff_ne]
          intro e
          rw [e, zeu] at hT
          cases hT
        by_cases hk : okK9 key
        · have HM : Hid (Calls _ _ _ _ _) := zmz key true w2 ⟨fun _ => hk, fun _ => rfl⟩
          have HK : Hid (okK9 key) := hk
          clear hk
          go_wp2_with fail
          refine Calls.mono HM.out ?_
          rintro e w3 ⟨rfl, hF3⟩
          obtain ⟨d0, d1⟩ := HB.out _ hF3
          have HF3 : Hid (Fr [] w2 w3) := hF3
          clear HM hF3
          by_cases hz : Lv = 0
          · have HNo : Hid (¬ LoOk hs) := HNe.out (fun h1 => by
              have h2 := (HSt.out.1 h1).2.2.1
              have h3 := HEc.out.len
              simp only at h2 h3
              exact h2 (List.eq_nil_of_length_eq_zero (by omega)))
            subst hz
            clear HSt HNx HNe
            go_wp2
            go_ret2
            exact Or.inr ⟨HNo.out, rfl, HFw.out.then (HF2.out.then HF3.out)⟩
          · have hz1 : ((Lv : Int) == 0) = false := by simp; omega
            obtain ⟨cc, hck⟩ := CkT.ex vs
            have HV : Hid (Calls _ _ _ _ _) := zqx vo Lv cv cc vs w3 ((HEc.out.rs.keep HF2.out).keep HF3.out) HEc.out.len hck
            go_wp2_with fail
            refine Calls.mono HV.out ?_
            rintro e w4 ⟨rfl, hF4⟩
            have HF4 : Hid (Fr [] w2 w4) := HF3.out.then hF4
            obtain ⟨d0, d1⟩ := HB.out _ HF4.out
            clear HV hF4 HF3
            rcases hck with ⟨rfl, hok⟩ | ⟨rfl, hok⟩
            · have HOk : Hid (LoOk (hs.take (i + 1))) := HSt.out.2 ⟨hT, HK.out, fun e => by
                have h3 := HEc.out.len
                simp only at e h3
                rw [e] at h3
                exact hz h3, hok⟩
              have cs := (HI.out.sh.keep (HF2.out.then HF4.out)).cell
              have hbn : sb ≠ b /\ wr.heap.size ≠ b := by
                obtain ⟨es, cc, e⟩ := HI.out.sh.mb
                exact ⟨fun e2 => (by rw [<- e2, HI.out.sh.box] at e; cases e), fun e2 => (by have := lt_of_block e; omega)⟩
              have hsbl : sb < wr.heap.size := lt_of_block HI.out.sh.box
              have HCl : Hid (∀ W, Fr [] w4 W -> Calls Tryz.prog 182 #[.slice vo Lv cv] W fun e w' => ∃ ro rc, e = .returned (.slice ro Lv rc) /\ (w'.cell? ⟨sb, 0, none⟩ = some (.map (some b)) /\ w'.cell? ⟨wr.heap.size, 0, none⟩ = some (.string key) /\ w'.cell? ⟨wr.heap.size, 1, none⟩ = some (.slice vo Lv cv)) /\ ∃ w5, (Instr.mapUpdate 237 (.map (some b)) (.string key) (.slice ro Lv rc)).run Tryz.prog w' = .ok () w5 /\ LI w w5 sb b (i + 1) hs /\ (w5.cell? ⟨sb, 0, none⟩ = some (.map (some b)) /\ w5.cell? ⟨wr.heap.size, 0, none⟩ = some (.string key) /\ w5.cell? ⟨wr.heap.size, 1, none⟩ = some (.slice vo Lv cv))) := by
                intro W hW
                have hFW := HF2.out.then (HF4.out.then hW)
                refine (ztk vo Lv cv vs W (HEc.out.rs.keep hFW) HEc.out.len).mono ?_
                rintro e w' ⟨ro, rc, rfl, hO, hF'⟩
                obtain ⟨g0, g1⟩ := HB.out _ ((HF4.out.then hW).then hF')
                have gs := (HI.out.sh.keep (hFW.then hF')).cell
                obtain ⟨w5, k1, k2, k3⟩ := HNx.out W w' ro rc HOk.out hFW hO hF'
                have l1 : wr.heap.size < w'.heap.size := Nat.lt_of_lt_of_le hs2 ((HF4.out.then hW).then hF').size
                exact ⟨ro, rc, rfl, ⟨gs, g0, g1⟩, w5, k1, k2, zbq k3 gs (by omega) (by simpa using hbn.1), zbq k3 g0 l1 (by simpa using hbn.2), zbq k3 g1 l1 (by simpa using hbn.2)⟩
              clear HSt HNx HNe hok HI HB hbn
              go_wp2_with fail
              go_region_held3 (fun W => W.cell? ⟨sb, 0, none⟩ = some (.map (some b)) /\ W.cell? ⟨wr.heap.size, 0, none⟩ = some (.string key) /\ W.cell? ⟨wr.heap.size, 1, none⟩ = some (.slice vo Lv cv)) (go_keep)
                (first | (go_at_call 182; with_reducible refine (HCl.out _ (Fr.drew _ _)).mono ?_; rintro e w5 ⟨ro, rc, rfl, ⟨g0, g1, g2⟩, w6, hr6, hI6, j0, j1, j2⟩))
              have HI6 : Hid (LI w w6 sb b (i + 1) hs) := hI6
              clear hI6
              go_wp2_with fail
              go_roundw
              case rel => exact ⟨i + 1, key, rfl, by simp, by omega, HLs.out.symm, HI6⟩
              case measure => simp [RowKit.intOf]; omega
            · have HNo : Hid (¬ LoOk hs) := HNe.out (fun h1 => hok (HSt.out.1 h1).2.2.2)
              clear HSt HNx HNe hok
              go_wp2
              go_ret2
              exact Or.inr ⟨HNo.out, rfl, HFw.out.then (HF2.out.then HF4.out)⟩
        · have HM : Hid (Calls _ _ _ _ _) := zmz key false w2 ⟨fun e => (by cases e), fun e => absurd e hk⟩
          have HNo : Hid (¬ LoOk hs) := HNe.out (fun h1 => hk (HSt.out.1 h1).2.1)
          clear hk HSt HNx HNe
          go_wp2_with fail
          refine Calls.mono HM.out ?_
          rintro e w3 ⟨rfl, hF3⟩
          clear HM
          go_wp2
          go_ret2
          exact Or.inr ⟨HNo.out, rfl, HFw.out.then (HF2.out.then hF3)⟩
    · have hiL2 : i = hs.length := by have := HL.out; omega
      have HR : Hid (LoOk hs /\ Sh w wr sb b L (mOf hs) /\ Fr [] w wr) := by
        have h1 := HI.out
        have e : hs.take i = hs := List.take_of_length_le (by omega)
        exact ⟨by rw [<- e]; exact h1.ok, by have := h1.sh; rw [e] at this; exact this.mono hiL, h1.fr⟩
      clear HI hiL2
      go_wp2
      go_ret2
      exact Or.inl ⟨HR.out.1, sb, b, rfl, HR.out.2⟩
abbrev Kv : Type := ByteArray × List Vn
def Hd.kv (h : Hd) : Kv := (h.key, h.vs)
def encS (s : ByteArray) : List Nat := enc s.size ++ zbf s
def encV (v : Vn) : List Nat := if v.drop then [1] else 0 :: encS v.val
def encX (v : Vn) : List Nat := enc v.num.toNat ++ encV v
def zbo (vs : List Vn) : List Nat := vs.flatMap encX
def encK (p : Kv) : List Nat := encS p.1 ++ (enc p.2.length ++ zbo p.2)
def zbp (ps : List Kv) : List Nat := ps.flatMap encK
def encI (n : Int) : List Nat := enc n.toNat
def zar (ns : List Int) : List Nat := ns.flatMap encI
def encD (m : Int) (bs : List Int) (ps : List Kv) : List Nat := encI m ++ (enc bs.length ++ (zar bs ++ (enc ps.length ++ zbp ps)))
structure BeyOk (m : Int) (bs : List Int) : Prop where
  rise : bs.Pairwise (· < ·)
  low : ∀ b ∈ bs, m + 2 <= b
  high : ∀ b ∈ bs, b <= 65536
def SvV (m : Int) (bs : List Int) (vs : List Vn) : Prop :=
  ((vs.getD 0 Vn.zero).num <= m -> (vs.getD 0 Vn.zero).drop = false /\ ∀ v ∈ vs.drop 1, v.num ∈ bs) /\ (m < (vs.getD 0 Vn.zero).num -> ∀ v ∈ vs, v.num ∈ bs)
def LoK (ps : List Kv) : Prop := ps.Pairwise (fun a b => Op.bytesLess a.1.toList b.1.toList = true) /\ ∀ p ∈ ps, okK9 p.1 /\ p.2 ≠ [] /\ okV p.2
structure OkS (m : Int) (bs : List Int) (ps : List Kv) : Prop where
  m0 : 0 <= m
  m1 : m <= 65536
  bey : BeyOk m bs
  lo : LoK ps
  sv : ∀ p ∈ ps, SvV m bs p.2
theorem zgn (hs : List Hd) : LoOk hs ↔ LoK (hs.map Hd.kv) := by
  unfold LoOk LoK
  rw [List.pairwise_map]
  constructor
  · rintro ⟨h1, h2⟩
    refine ⟨h1, fun p hp => ?_⟩
    obtain ⟨h, hh, rfl⟩ := List.mem_map.1 hp
    exact h2 h hh
  · rintro ⟨h1, h2⟩
    exact ⟨h1, fun h hh => h2 _ (List.mem_map.2 ⟨h, hh, rfl⟩)⟩
theorem zpv (s : ByteArray) : ∀ x ∈ encS s, x < 256 := by
  intro x hx
  rcases List.mem_append.1 hx with h | h
  · exact zem _ x h
  · exact zvi s x h
theorem zdp (s : ByteArray) : 1 <= (encS s).length /\ (encS s).length <= 10 + s.size := by
  have := zal s.size
  simp only [encS, List.length_append, zcj]
  omega
theorem zot (v : Vn) : 2 <= (encX v).length /\ (encX v).length <= 21 + v.val.size := by
  have a := zal v.num.toNat
  have b := zdp v.val
  simp only [encX, encV, List.length_append]
  split
  · simp only [List.length_cons, List.length_nil]; omega
  · simp only [List.length_cons]; omega
def szX (v : Vn) : Nat := 1 + v.val.size
def szXs (vs : List Vn) : Nat := (vs.map szX).sum
def szK (p : Kv) : Nat := 1 + p.1.size + szXs p.2
def szKs (ps : List Kv) : Nat := (ps.map szK).sum
theorem znb (vs : List Vn) : (zbo vs).length <= 21 * szXs vs /\ vs.length <= (zbo vs).length := by
  induction vs with
  | nil => simp [zbo, szXs]
  | cons v r ih =>
    have := zot v
    have hz : szX v = 1 + v.val.size := rfl
    simp only [zbo, szXs, List.flatMap_cons, List.length_append, List.map_cons, List.sum_cons, List.length_cons] at *
    omega
theorem zii (p : Kv) : 2 <= (encK p).length /\ (encK p).length <= 21 * szK p := by
  have a := zdp p.1
  have b := zal p.2.length
  have c := znb p.2
  simp only [encK, List.length_append, szK]
  omega
theorem znc (ps : List Kv) : (zbp ps).length <= 21 * szKs ps := by
  induction ps with
  | nil => simp [zbp, szKs]
  | cons v r ih =>
    have := zii v
    simp only [zbp, szKs, List.flatMap_cons, List.length_append, List.map_cons, List.sum_cons] at *
    omega
theorem znd (ns : List Int) : (zar ns).length <= 10 * ns.length := by
  induction ns with
  | nil => simp [zar]
  | cons v r ih =>
    have := zal v.toNat
    simp only [zar, List.flatMap_cons, List.length_append, List.length_cons, encI] at *
    omega
theorem zff (m : Int) (bs : List Int) (ps : List Kv) : 3 <= (encD m bs ps).length /\ (encD m bs ps).length <= 30 + 10 * bs.length + 21 * szKs ps := by
  have a := zal m.toNat
  have b := zal bs.length
  have c := zal ps.length
  have d := znd bs
  have e := znc ps
  simp only [encD, encI, List.length_append]
  omega
def tk {α : Type} (f : List Nat -> α × Nat × Nat) (ref : α -> Nat) (xs : List Nat) : Except Nat (α × List Nat) :=
  if (f xs).2.2 ≠ 0 then .error (f xs).2.2 else if ref (f xs).1 ≠ 0 then .error (ref (f xs).1) else .ok ((f xs).1, xs.drop (f xs).2.1)
def refL (n : Nat) : Nat := if 65536 < n then 3 else 0
def refD (n : Nat) : Nat := if n = 0 \/ n = 1 then 0 else 4
def refV (_ : ByteArray) : Nat := 0
def dN (xs : List Nat) : Except Nat (Nat × List Nat) := tk (zaa 0 0) refL xs
def dT (m : Nat) (xs : List Nat) : Except Nat (ByteArray × List Nat) := tk (zao (m : Int)) refV xs
def dF (xs : List Nat) : Except Nat (Nat × List Nat) := tk (fixF 1) refD xs
def dXv (n : Nat) (xs : List Nat) : Except Nat (Vn × List Nat) :=
  match dT 1024 xs with
  | .error e => .error e
  | .ok (v, r) => .ok (⟨(n : Int), v, false⟩, r)
def dXd (n : Nat) (xs : List Nat) : Except Nat (Vn × List Nat) :=
  match dF xs with
  | .error e => .error e
  | .ok (d, r) => if d = 1 then .ok (⟨(n : Int), noS, true⟩, r) else dXv n r
def dX (xs : List Nat) : Except Nat (Vn × List Nat) :=
  match dN xs with
  | .error e => .error e
  | .ok (n, r) => dXd n r
def dI (xs : List Nat) : Except Nat (Int × List Nat) :=
  match dN xs with
  | .error e => .error e
  | .ok (n, r) => .ok ((n : Int), r)
def dR {α : Type} (f : List Nat -> Except Nat (α × List Nat)) : Nat -> List Nat -> Except Nat (List α × List Nat)
  | 0, xs => .ok ([], xs)
  | k + 1, xs => match f xs with
    | .error e => .error e
    | .ok (x, r) => match dR f k r with
      | .error e => .error e
      | .ok (l, s) => .ok (x :: l, s)
def dL {α : Type} (f : List Nat -> Except Nat (α × List Nat)) (xs : List Nat) : Except Nat (List α × List Nat) :=
  match dN xs with
  | .error e => .error e
  | .ok (n, r) => dR f n r
def dK (xs : List Nat) : Except Nat (Kv × List Nat) :=
  match dT 64 xs with
  | .error e => .error e
  | .ok (k, r) => match dL dX r with
    | .error e => .error e
    | .ok (vs, s) => .ok ((k, vs), s)
structure Sd where
  m : Int
  bs : List Int
  ps : List Kv
def dS (xs : List Nat) : Except Nat (Sd × List Nat) :=
  match dI xs with
  | .error e => .error e
  | .ok (m, r) => match dL dI r with
    | .error e => .error e
    | .ok (bs, s) => match dL dK s with
      | .error e => .error e
      | .ok (ps, t) => .ok (⟨m, bs, ps⟩, t)
theorem zrc {α : Type} {f : List Nat -> α × Nat × Nat} {ref : α -> Nat} {xs : List Nat} {v : α} {k : Nat} (h : f xs = (v, k, 0)) (hr : ref v = 0) : tk f ref xs = .ok (v, xs.drop k) := by
  simp [tk, h, hr]
theorem zjo {α : Type} {f : List Nat -> α × Nat × Nat} {ref : α -> Nat} {xs : List Nat} {v : α} {k e : Nat} (h : f xs = (v, k, e)) (he : e ≠ 0) : tk f ref xs = .error e := by
  simp [tk, h, he]
theorem zjp {α : Type} {f : List Nat -> α × Nat × Nat} {ref : α -> Nat} {xs r : List Nat} {v : α} (h : tk f ref xs = .ok (v, r)) : (f xs).2.2 = 0 /\ (f xs).1 = v /\ ref v = 0 /\ xs.drop (f xs).2.1 = r := by
  unfold tk at h
  split at h
  · cases h
  · rename_i h1
    split at h
    · cases h
    · rename_i h2
      cases h
      exact ⟨by simpa using h1, rfl, by simpa using h2, rfl⟩
theorem zpw (d : Nat) (r : List Nat) : fixF 1 (d :: r) = (d, 1, 0) := by
  unfold fixF
  rw [if_neg (by decide), if_neg (by simp only [List.length_cons]; omega)]
  simp [leN]
theorem zne : fixF 1 [] = (0, 0, 5) := by
  unfold fixF
  rw [if_neg (by decide), if_pos (by decide)]
theorem zjq {m : Nat} {xs r : List Nat} {s : ByteArray} (hb : ∀ x ∈ xs, x < 256) (h : dT m xs = .ok (s, r)) : xs = encS s ++ r /\ s.size <= m := by
  obtain ⟨h1, h2, h3, h4⟩ := zjp h
  have hf := ztf m xs hb h1
  rw [h2] at hf
  refine ⟨?_, ?_⟩
  · rw [<- h4]
    show xs = (enc s.size ++ zbf s) ++ _
    rw [hf, List.take_append_drop]
  · subst h2
    unfold zao at h1 ⊢
    rw [if_neg (by omega)] at h1 ⊢
    split at h1
    · rename_i hh; exact absurd h1 hh
    · rename_i hh
      rw [if_neg hh]
      split at h1
      · simp at h1
      · rename_i hh2
        rw [if_neg hh2]
        split at h1
        · simp at h1
        · rename_i hh3
          rw [if_neg hh3]
          simp only [zle, List.length_take]
          omega
theorem zhe {xs r : List Nat} {n : Nat} (hb : ∀ x ∈ xs, x < 256) (h : dN xs = .ok (n, r)) : xs = enc n ++ r /\ n <= 65536 := by
  obtain ⟨h1, h2, h3, h4⟩ := zjp h
  have hf := zlf xs hb h1
  rw [h2] at hf
  refine ⟨?_, ?_⟩
  · rw [<- h4, hf, List.take_append_drop]
  · unfold refL at h3
    split at h3
    · cases h3
    · omega
theorem ztm {xs r : List Nat} {d : Nat} (h : dF xs = .ok (d, r)) : xs = d :: r /\ (d = 0 \/ d = 1) := by
  cases xs with
  | nil => unfold dF at h; rw [zjo zne (by decide)] at h; cases h
  | cons y s =>
    obtain ⟨h1, h2, h3, h4⟩ := zjp h
    rw [zpw] at h2 h4
    simp at h2 h4
    subst h2
    subst h4
    refine ⟨rfl, ?_⟩
    unfold refD at h3
    split at h3
    · assumption
    · cases h3
theorem znf {xs r : List Nat} {n : Int} (hb : ∀ x ∈ xs, x < 256) (h : dI xs = .ok (n, r)) : xs = encI n ++ r /\ 0 <= n /\ n <= 65536 := by
  unfold dI at h
  split at h
  · cases h
  · rename_i k s hk
    cases h
    obtain ⟨e, h1⟩ := zhe hb hk
    refine ⟨?_, by omega, by omega⟩
    simpa [encI] using e
theorem ztn {xs r : List Nat} {v : Vn} (hb : ∀ y ∈ xs, y < 256) (h : dX xs = .ok (v, r)) : xs = encX v ++ r := by
  unfold dX at h
  split at h
  · cases h
  · rename_i n s hn
    obtain ⟨e1, _⟩ := zhe hb hn
    have hb1 : ∀ y ∈ s, y < 256 := fun y hy => hb y (by rw [e1]; simp [hy])
    unfold dXd at h
    split at h
    · cases h
    · rename_i d s2 hd
      obtain ⟨e2, h3⟩ := ztm hd
      have hb2 : ∀ y ∈ s2, y < 256 := fun y hy => hb1 y (by rw [e2]; simp [hy])
      split at h
      · rename_i hd1
        cases h
        rw [e1, e2, hd1]
        simp [encX, encV]
      · rename_i hd1
        have hd0 : d = 0 := by omega
        unfold dXv at h
        split at h
        · cases h
        · rename_i u s3 hv
          cases h
          obtain ⟨e3, _⟩ := zjq (m := 1024) hb2 hv
          rw [e1, e2, hd0, e3]
          simp [encX, encV]
theorem zzb {α : Type} {f : List Nat -> Except Nat (α × List Nat)} {e : α -> List Nat} {G : α -> Prop} (hf : ∀ {xs r : List Nat} {v : α}, (∀ y ∈ xs, y < 256) -> f xs = .ok (v, r) -> xs = e v ++ r /\ G v) :
    ∀ (k : Nat) {xs r : List Nat} {l : List α}, (∀ y ∈ xs, y < 256) -> dR f k xs = .ok (l, r) -> xs = l.flatMap e ++ r /\ l.length = k /\ ∀ x ∈ l, G x := by
  intro k
  induction k with
  | zero =>
    intro xs r l hb h
    simp only [dR] at h
    cases h
    exact ⟨rfl, rfl, by simp⟩
  | succ k ih =>
    intro xs r l hb h
    rw [dR] at h
    split at h
    · cases h
    · rename_i x s hx
      obtain ⟨e1, h1⟩ := hf hb hx
      have hb1 : ∀ y ∈ s, y < 256 := fun y hy => hb y (by rw [e1]; simp [hy])
      split at h
      · cases h
      · rename_i vs s2 hs
        cases h
        obtain ⟨e2, h2, h3⟩ := ih hb1 hs
        refine ⟨by rw [e1, e2]; simp, by simp [h2], ?_⟩
        intro y hy
        rcases List.mem_cons.1 hy with rfl | hy
        · exact h1
        · exact h3 y hy
theorem zhf {α : Type} {f : List Nat -> Except Nat (α × List Nat)} {e : α -> List Nat} {G : α -> Prop} (hf : ∀ {xs r : List Nat} {v : α}, (∀ y ∈ xs, y < 256) -> f xs = .ok (v, r) -> xs = e v ++ r /\ G v) {xs r : List Nat} {l : List α} (hb : ∀ y ∈ xs, y < 256) (h : dL f xs = .ok (l, r)) :
    xs = enc l.length ++ (l.flatMap e ++ r) /\ l.length <= 65536 /\ ∀ x ∈ l, G x := by
  unfold dL at h
  split at h
  · cases h
  · rename_i n s hn
    obtain ⟨e1, h1⟩ := zhe hb hn
    have hb1 : ∀ y ∈ s, y < 256 := fun y hy => hb y (by rw [e1]; simp [hy])
    obtain ⟨e2, h2, h3⟩ := zzb hf n hb1 h
    exact ⟨by rw [e1, e2, h2], by omega, h3⟩
theorem zzc {xs r : List Nat} {p : Kv} (hb : ∀ y ∈ xs, y < 256) (h : dK xs = .ok (p, r)) : xs = encK p ++ r := by
  unfold dK at h
  split at h
  · cases h
  · rename_i k s hk
    obtain ⟨e1, h1⟩ := zjq (m := 64) hb hk
    have hb1 : ∀ y ∈ s, y < 256 := fun y hy => hb y (by rw [e1]; simp [hy])
    split at h
    · cases h
    · rename_i vs s2 hs
      cases h
      obtain ⟨e2, _⟩ := zhf (e := encX) (G := fun _ => True) (fun hb h => ⟨ztn hb h, trivial⟩) hb1 hs
      rw [e1, e2]
      simp [encK, zbo]
end Go.Proofs.YtembflnhhfliaaaGreatDoor
