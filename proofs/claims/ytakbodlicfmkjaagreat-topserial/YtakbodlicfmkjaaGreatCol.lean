/- maps.Values of a map of entries, told one by one; slices.AppendSeq, slices.Collect of them. Conditions as each names them. -/
import Derived.Test.YtakbodlicfmkjaaGreatRgf
namespace Go.Proofs.YtakbodlicfmkjaaGreat.Fo
open Go.ChangeShapes Go.WideShapes Go.ChangeAt Go.RowKit Go.Lib Go.Maps Go.Sort
set_option linter.unusedVariables false
attribute [local go_sem] Oper.semAt_some

abbrev Pr := ByteArray × ByteArray
def encE (x : Pr) : Value := .agg #[.string x.1, .string x.2]
def celE (x : Pr) : List Value := [.string x.1, .string x.2]
def celsE (ps : List Pr) : List Value := ps.flatMap celE
theorem celsE_length (ps : List Pr) : (celsE ps).length = 2 * ps.length := by
  induction ps with
  | nil => rfl
  | cons p ps ih => simp [celsE, celE] at *; omega
theorem celsE_snoc (ps : List Pr) (x : Pr) : celsE (ps ++ [x]) = celsE ps ++ celE x := by simp [celsE]
/-- These are the pairs of E, each key once. -/
structure AllP (E : ByteArray → Option ByteArray) (ps : List Pr) : Prop where
  nd : (ps.map (·.1)).Nodup
  mem : ∀ p, p ∈ ps ↔ E p.1 = some p.2
theorem encStr_bytes (x : List UInt8) : ∃ s : ByteArray, encStr x = .string s ∧ s.data.toList = x ∧ kl7 s = .string x := ⟨⟨x.toArray⟩, rfl, by simp, by simp [kl7]⟩
theorem values_any (mb : Option Nat) (w : World) : Calls Tryz.prog 40 #[.map mb] w fun e w' => e = .returned (.func (Fn.func 74) #[] #[.pointer (some ⟨w.heap.size, 0, none⟩)]) ∧ w' = w.alloc (.cells #[.map mb] 108) := by
  go_enter Tryz.func40, Tryz.ntmps40
  go_wp2
  go_ret
  exact ⟨rfl, rfl⟩

set_option maxRecDepth 100000 in
set_option maxHeartbeats 4000000 in
theorem values1_in (n : Nat) (l Bm b nn : Nat) (D0 : DataW Unit) (E : ByteArray → Option ByteArray) (hH : ∀ s, has D0 (kl7 s) = (E s).isSome) (hA : ∀ s v, E s = some v → ∀ z, D0.atKey (kl7 s) z = entD s v) (J : List Pr → World → Prop)
    (hY : ∀ pre x W, J pre W → pre.length < Maps.size D0 → YieldAt Fence.wide n Tryz.prog l #[encE x] W fun e W' => e = .returned (.bool true) ∧ J (pre ++ [x]) W' ∧ KeepsWalks W W')
    (W : World) (hJ : AbidesFrom W.heap.size J) (hm : W.cell? ⟨Bm, 0, none⟩ = some (.map (some b))) (hown : W.ownsMap Tryz.prog 9 entElem b nn D0) (h0 : J [] W) :
    CallsIn Fence.wide (n + 1) Tryz.prog 74 #[.func (.yield l) #[] #[], .pointer (some ⟨Bm, 0, none⟩)] W fun e W' => (∃ v, e = .returned v) ∧ ∃ ps, (AllP E ps ∧ ps.length ≤ Maps.size D0) ∧ J ps W' := by
  have HH : Hid (∀ s, has D0 (kl7 s) = (E s).isSome) := hH
  have HA : Hid (∀ s v, E s = some v → ∀ z, D0.atKey (kl7 s) z = entD s v) := hA
  clear hH hA
  refine callsIn_of_wp Tryz.func74 rfl trivial ?_ rfl
  simp only [Tryz.ntmps74, List.size_toArray, List.length_cons, List.length_nil, Nat.reduceAdd, Nat.reduceSub, Array.replicate_succ, Array.replicate_zero, List.push_toArray, List.append_toArray, List.nil_append, List.cons_append]
  gi_wp2_with (first
    | (gi_at_range; refine wpListIn_range_own _ rfl _ 108 rfl 9 61 Tryz.keyedStr Tryz.undMap _ b nn _ rfl hown ?_; intro w0 hrg0 hg0 hs0)
    | gi_in)
  go_frame
  gi_loopw [4] (fun _ wr => ∃ (left : Lit → Bool) (cnt : Nat) (ps : List Pr), wr.ranges Tryz.prog 9 entElem b W.heap.size nn D0 left cnt ∧ ps.length + cnt ≤ Maps.size D0 ∧ Hid (Collected D0 left (ps.map (·.1.data.toList))) ∧ Hid (∀ p ∈ ps, E p.1 = some p.2) ∧ J ps wr)
    (fun _ wr => wr.rangeLeft b W.heap.size)
  case atStart =>
    exact ⟨_, _, [], hrg0, by simp, Collected.start D0, (by intro p hp; simp at hp), hJ [] W w0 none h0 hg0 (fun r e => by cases e)⟩
  case round =>
    obtain ⟨left, cnt, ps, hrg, hcs, HC, HV, hJs⟩ := hrel
    gi_wp2_with (first
      | (gi_at_next; refine wpListIn_next_ranges _ rfl _ rfl 9 Tryz.keyedStr entElem encStr encE (fun key kl hk => by obtain ⟨x, hx, _⟩ := Maps.keyOf_str Tryz.undS7 hk; exact ⟨x, hx⟩) (fun v y hv => by obtain ⟨k, s, rfl, _⟩ := entElem_inv hv; exact ⟨(k, s), rfl⟩) b W.heap.size nn _ _ _ rfl hrg ?_ ?_)
      | gi_in)
    · intro hc0 hl0
      gi_wp2
      go_end0
      refine ⟨⟨_, rfl⟩, ps, ⟨⟨?_, fun p => ⟨HV.out p, fun hp => ?_⟩⟩, by omega⟩, hJs⟩
      · have h1 := HC.out.1
        have h2 : ps.map (·.1.data.toList) = (ps.map (·.1)).map (·.data.toList) := by simp
        rw [h2] at h1
        exact List.Pairwise.imp (fun hne he => hne (by rw [he])) (List.pairwise_map.1 h1)
      · have hh : has D0 (kl7 p.1) = true := by rw [HH.out, hp]; rfl
        obtain ⟨q, hq, he⟩ := List.mem_map.1 ((HC.out.2 p.1.data.toList).2 ⟨hh, hl0 _⟩)
        have e1 : q.1 = p.1 := bytes_eq he
        have e2 := HV.out q hq
        rw [e1, hp] at e2
        have e3 : q = p := Prod.ext e1 (by simpa using e2.symm)
        rw [← e3]; exact hq
    · intro x c1 c2 kl yd yp w2 cnt2 hkey hlk hv hat hrg2 hlt hg2 hs2 hen
      obtain ⟨x', ex, hkl, _⟩ := Maps.keyOf_str Tryz.undS7 hkey
      obtain rfl : x = x' := encStr_inj ex
      subst hkl
      obtain ⟨s, hs, hsx, hks⟩ := encStr_bytes x
      obtain ⟨k', s', ec, ey⟩ := entElem_inv hv
      have hC2 := HC.out.step hlk hat
      have hhas : has D0 (.string x) = true := ((hC2.2 x).1 (by simp)).1
      have hE : E s = some c2 ∧ c1 = s := by
        have h1 := HH.out s
        rw [hks, hhas] at h1
        obtain ⟨v, hv1⟩ := Option.isSome_iff_exists.1 h1.symm
        have h2 := HA.out s v hv1 (.lit (.bool true))
        rw [hks, hat, (Prod.mk.inj ey).1] at h2
        obtain ⟨rfl, rfl⟩ := entD_inj h2
        unfold encE at ec
        simp at ec
        rw [ec.1, ec.2]
        exact ⟨hv1, rfl⟩
      have HC2 : Hid (Collected D0 (fun z => left z && !z.sameKey (.string x)) ((ps ++ [(c1, c2)]).map (·.1.data.toList))) := by
        show Collected _ _ _
        have e : (ps ++ [(c1, c2)]).map (·.1.data.toList) = ps.map (·.1.data.toList) ++ [x] := by simp [hE.2, hsx]
        rw [e]; exact hC2
      have HV2 : Hid (∀ p ∈ ps ++ [(c1, c2)], E p.1 = some p.2) := fun p hp => (List.mem_append.1 hp).elim (HV.out p) (fun e => by simp at e; subst e; show E c1 = some c2; rw [hE.2]; exact hE.1)
      have hJ2 : J ps w2 := hJ ps wr w2 (some W.heap.size) hJs hg2 (fun r e => by cases e; exact ⟨Nat.le_refl _, hrg.iter_walk⟩)
      have hg3 : w2.grownBy (w2.alloc (.cells #[.string c1, .string c2] 61)) none := World.grownBy_alloc w2 _ none
      have hJ3 : J ps (w2.alloc (.cells #[.string c1, .string c2] 61)) := hJ ps w2 _ none hJ2 hg3 (fun r e => by cases e)
      have hk3 : KeepsWalks w2 (w2.alloc (.cells #[.string c1, .string c2] 61)) := KeepsWalks.alloc _ _
      obtain ⟨fn, tmps, assign, body, hy, hR⟩ := hY ps (c1, c2) _ hJ3 (by omega)
      dsimp only [encE] at hy hen
      clear hs2 hkey hv hat hE hC2 ey ec hlk hJ2 hrg0
      gi_wp2
      refine hR.mono ?_
      rintro e W3 ⟨rfl, hJ4, hk4⟩
      gi_wp2
      have hrg3 := hrg2.of_walks (hk3.trans hk4)
      go_roundw
      case rel => exact ⟨_, cnt2, ps ++ [(c1, c2)], hrg3, by simp; omega, HC2, HV2, hJ4⟩
      case measure => rw [hrg3.left_eq, hrg.left_eq]; exact hlt

/-- maps.Values of a map hands back an iterator over its entries. -/
theorem values_gives (n Bm b nn : Nat) (E : ByteArray → Option ByteArray) (w : World) (hBm : Bm < w.heap.size) (hm : w.cell? ⟨Bm, 0, none⟩ = some (.map (some b))) (hM : MapE w b nn E) :
    SeqGives Fence.wide (n + 1) Tryz.prog 74 #[.pointer (some ⟨Bm, 0, none⟩)] encE (fun ps => AllP E ps ∧ ps.length ≤ nn) nn w := fun l J W hW hJ hY h0 => by
  obtain ⟨D, hown, hH, hA⟩ := hM
  have hbl := hown.lt
  have hsz := hown.size_le
  have hown' : W.ownsMap Tryz.prog 9 entElem b nn D := by
    obtain ⟨es, clock, hb, hr⟩ := hown
    exact ⟨es, clock, (hW.block b hbl).trans hb, hr⟩
  exact (values1_in n l Bm b nn D E hH hA J (fun pre x W hJ hl => hY pre x W hJ (by omega)) W hJ ((hW.cell (p := ⟨Bm, 0, none⟩) hBm).trans hm) hown' h0).mono (fun e W' ⟨he, ps, ⟨h1, h2⟩, h3⟩ => ⟨he, ps, ⟨h1, by omega⟩, h3⟩)

end Go.Proofs.YtakbodlicfmkjaaGreat.Fo
