/- Texts of this claim laid together, one behind the other: contracts and plain lemmas; conditions as each names them. -/
import Derived.Test.YtaefninikmaiiaaGreatDoorGp4
import Derived.Test.YtaefninikmaiiaaGreatDoorGp1
import Derived.Lib.Bytealg
import Derived.Sort.Walk0
import Derived.Shelf.SlSortCmp.WholeK
import Derived.Shelf.Small.Strs
import Derived.Shelf.Lay
import Derived.Ground.SlsfProg
import Derived.Ground.NamesProg
import Derived.Laws.Cover1
import Derived.Shelf.SlSortCmp.NoneTotal
import Derived.BigQuiet
/- maps.Values of a map of entries, told one by one; slices.AppendSeq, slices.Collect of them. Conditions as each names them. -/
namespace Go.Proofs.YtaefninikmaiiaaGreatDoor
open Go.ChangeShapes Go.WideShapes Go.ChangeAt Go.RowKit Go.Lib Go.Maps Go.Sort
set_option linter.unusedVariables false
attribute [local go_sem] Oper.semAt_some

abbrev Pr := ByteArray × ByteArray
def encE (x : Pr) : Value := .agg #[.string x.1, .string x.2]
def celE (x : Pr) : List Value := [.string x.1, .string x.2]
def celsE (ps : List Pr) : List Value := ps.flatMap celE
theorem celsE_length (ps : List Pr) : (celsE ps).length = 2 * ps.length := by
  induction ps with
  | nil => rfl
  | cons p ps ih => simp [celsE, celE] at *; omega
theorem celsE_snoc (ps : List Pr) (x : Pr) : celsE (ps ++ [x]) = celsE ps ++ celE x := by simp [celsE]
/-- These are the pairs of E, each key once. -/
structure AllP (E : ByteArray → Option ByteArray) (ps : List Pr) : Prop where
  nd : (ps.map (·.1)).Nodup
  mem : ∀ p, p ∈ ps ↔ E p.1 = some p.2
theorem encStr_bytes (x : List UInt8) : ∃ s : ByteArray, encStr x = .string s ∧ s.data.toList = x ∧ kl7 s = .string x := ⟨⟨x.toArray⟩, rfl, by simp, by simp [kl7]⟩
theorem values_any (mb : Option Nat) (w : World) : Calls Tryz.prog 150 #[.map mb] w fun e w' => e = .returned (.func (Fn.func 174) #[] #[.pointer (some ⟨w.heap.size, 0, none⟩)]) ∧ w' = w.alloc (.cells #[.map mb] 195) := by
  go_enter Tryz.func150, Tryz.ntmps150
  go_wp2
  go_ret
  exact ⟨rfl, rfl⟩

set_option maxRecDepth 100000 in
set_option maxHeartbeats 4000000 in
theorem values1_in (n : Nat) (l Bm b nn : Nat) (D0 : DataW Unit) (E : ByteArray → Option ByteArray) (hH : ∀ s, has D0 (kl7 s) = (E s).isSome) (hA : ∀ s v, E s = some v → ∀ z, D0.atKey (kl7 s) z = entD s v) (J : List Pr → World → Prop)
    (hY : ∀ pre x W, J pre W → pre.length < Maps.size D0 → YieldAt Fence.wide n Tryz.prog l #[encE x] W fun e W' => e = .returned (.bool true) ∧ J (pre ++ [x]) W' ∧ KeepsWalks W W')
    (W : World) (hJ : AbidesFrom W.heap.size J) (hm : W.cell? ⟨Bm, 0, none⟩ = some (.map (some b))) (hown : W.ownsMap Tryz.prog 9 entElem b nn D0) (h0 : J [] W) :
    CallsIn Fence.wide (n + 1) Tryz.prog 174 #[.func (.yield l) #[] #[], .pointer (some ⟨Bm, 0, none⟩)] W fun e W' => (∃ v, e = .returned v) ∧ ∃ ps, (AllP E ps ∧ ps.length ≤ Maps.size D0) ∧ J ps W' := by
  have HH : Hid (∀ s, has D0 (kl7 s) = (E s).isSome) := hH
  have HA : Hid (∀ s v, E s = some v → ∀ z, D0.atKey (kl7 s) z = entD s v) := hA
  clear hH hA
  refine callsIn_of_wp Tryz.func174 rfl trivial ?_ rfl
  simp only [Tryz.ntmps174, List.size_toArray, List.length_cons, List.length_nil, Nat.reduceAdd, Nat.reduceSub, Array.replicate_succ, Array.replicate_zero, List.push_toArray, List.append_toArray, List.nil_append, List.cons_append]
  gi_wp2_with (first
    | (gi_at_range; refine wpListIn_range_own _ rfl _ 195 rfl 9 115 Tryz.keyedStr Tryz.undMap _ b nn _ rfl hown ?_; intro w0 hrg0 hg0 hs0)
    | gi_in)
  go_frame
  gi_loopw [4] (fun _ wr => ∃ (left : Lit → Bool) (cnt : Nat) (ps : List Pr), wr.ranges Tryz.prog 9 entElem b W.heap.size nn D0 left cnt ∧ ps.length + cnt ≤ Maps.size D0 ∧ Hid (Collected D0 left (ps.map (·.1.data.toList))) ∧ Hid (∀ p ∈ ps, E p.1 = some p.2) ∧ J ps wr)
    (fun _ wr => wr.rangeLeft b W.heap.size)
  case atStart =>
    exact ⟨_, _, [], hrg0, by simp, Collected.start D0, (by intro p hp; simp at hp), hJ [] W w0 none h0 hg0 (fun r e => by cases e)⟩
  case round =>
    obtain ⟨left, cnt, ps, hrg, hcs, HC, HV, hJs⟩ := hrel
    gi_wp2_with (first
      | (gi_at_next; refine wpListIn_next_ranges _ rfl _ rfl 9 Tryz.keyedStr entElem encStr encE (fun key kl hk => by obtain ⟨x, hx, _⟩ := Maps.keyOf_str Tryz.undS7 hk; exact ⟨x, hx⟩) (fun v y hv => by obtain ⟨k, s, rfl, _⟩ := entElem_inv hv; exact ⟨(k, s), rfl⟩) b W.heap.size nn _ _ _ rfl hrg ?_ ?_)
      | gi_in)
    · intro hc0 hl0
      gi_wp2
      go_end0
      refine ⟨⟨_, rfl⟩, ps, ⟨⟨?_, fun p => ⟨HV.out p, fun hp => ?_⟩⟩, by omega⟩, hJs⟩
      · have h1 := HC.out.1
        have h2 : ps.map (·.1.data.toList) = (ps.map (·.1)).map (·.data.toList) := by simp
        rw [h2] at h1
        exact List.Pairwise.imp (fun hne he => hne (by rw [he])) (List.pairwise_map.1 h1)
      · have hh : has D0 (kl7 p.1) = true := by rw [HH.out, hp]; rfl
        obtain ⟨q, hq, he⟩ := List.mem_map.1 ((HC.out.2 p.1.data.toList).2 ⟨hh, hl0 _⟩)
        have e1 : q.1 = p.1 := bytes_eq he
        have e2 := HV.out q hq
        rw [e1, hp] at e2
        have e3 : q = p := Prod.ext e1 (by simpa using e2.symm)
        rw [← e3]; exact hq
    · intro x c1 c2 kl yd yp w2 cnt2 hkey hlk hv hat hrg2 hlt hg2 hs2 hen
      obtain ⟨x', ex, hkl, _⟩ := Maps.keyOf_str Tryz.undS7 hkey
      obtain rfl : x = x' := encStr_inj ex
      subst hkl
      obtain ⟨s, hs, hsx, hks⟩ := encStr_bytes x
      obtain ⟨k', s', ec, ey⟩ := entElem_inv hv
      have hC2 := HC.out.step hlk hat
      have hhas : has D0 (.string x) = true := ((hC2.2 x).1 (by simp)).1
      have hE : E s = some c2 ∧ c1 = s := by
        have h1 := HH.out s
        rw [hks, hhas] at h1
        obtain ⟨v, hv1⟩ := Option.isSome_iff_exists.1 h1.symm
        have h2 := HA.out s v hv1 (.lit (.bool true))
        rw [hks, hat, (Prod.mk.inj ey).1] at h2
        obtain ⟨rfl, rfl⟩ := entD_inj h2
        unfold encE at ec
        simp at ec
        rw [ec.1, ec.2]
        exact ⟨hv1, rfl⟩
      have HC2 : Hid (Collected D0 (fun z => left z && !z.sameKey (.string x)) ((ps ++ [(c1, c2)]).map (·.1.data.toList))) := by
        show Collected _ _ _
        have e : (ps ++ [(c1, c2)]).map (·.1.data.toList) = ps.map (·.1.data.toList) ++ [x] := by simp [hE.2, hsx]
        rw [e]; exact hC2
      have HV2 : Hid (∀ p ∈ ps ++ [(c1, c2)], E p.1 = some p.2) := fun p hp => (List.mem_append.1 hp).elim (HV.out p) (fun e => by simp at e; subst e; show E c1 = some c2; rw [hE.2]; exact hE.1)
      have hJ2 : J ps w2 := hJ ps wr w2 (some W.heap.size) hJs hg2 (fun r e => by cases e; exact ⟨Nat.le_refl _, hrg.iter_walk⟩)
      have hg3 : w2.grownBy (w2.alloc (.cells #[.string c1, .string c2] 115)) none := World.grownBy_alloc w2 _ none
      have hJ3 : J ps (w2.alloc (.cells #[.string c1, .string c2] 115)) := hJ ps w2 _ none hJ2 hg3 (fun r e => by cases e)
      have hk3 : KeepsWalks w2 (w2.alloc (.cells #[.string c1, .string c2] 115)) := KeepsWalks.alloc _ _
      obtain ⟨fn, tmps, assign, body, hy, hR⟩ := hY ps (c1, c2) _ hJ3 (by omega)
      dsimp only [encE] at hy hen
      clear hs2 hkey hv hat hE hC2 ey ec hlk hJ2 hrg0
      gi_wp2
      refine hR.mono ?_
      rintro e W3 ⟨rfl, hJ4, hk4⟩
      gi_wp2
      have hrg3 := hrg2.of_walks (hk3.trans hk4)
      go_roundw
      case rel => exact ⟨_, cnt2, ps ++ [(c1, c2)], hrg3, by simp; omega, HC2, HV2, hJ4⟩
      case measure => rw [hrg3.left_eq, hrg.left_eq]; exact hlt

/-- maps.Values of a map hands back an iterator over its entries. -/
theorem values_gives (n Bm b nn : Nat) (E : ByteArray → Option ByteArray) (w : World) (hBm : Bm < w.heap.size) (hm : w.cell? ⟨Bm, 0, none⟩ = some (.map (some b))) (hM : MapE w b nn E) :
    SeqGives Fence.wide (n + 1) Tryz.prog 174 #[.pointer (some ⟨Bm, 0, none⟩)] encE (fun ps => AllP E ps ∧ ps.length ≤ nn) nn w := fun l J W hW hJ hY h0 => by
  obtain ⟨D, hown, hH, hA⟩ := hM
  have hbl := hown.lt
  have hsz := hown.size_le
  have hown' : W.ownsMap Tryz.prog 9 entElem b nn D := by
    obtain ⟨es, clock, hb, hr⟩ := hown
    exact ⟨es, clock, (hW.block b hbl).trans hb, hr⟩
  exact (values1_in n l Bm b nn D E hH hA J (fun pre x W hJ hl => hY pre x W hJ (by omega)) W hJ ((hW.cell (p := ⟨Bm, 0, none⟩) hBm).trans hm) hown' h0).mono (fun e W' ⟨he, ps, ⟨h1, h2⟩, h3⟩ => ⟨he, ps, ⟨h1, by omega⟩, h3⟩)

end Go.Proofs.YtaefninikmaiiaaGreatDoor
/- slices.AppendSeq and slices.Collect of entries, against whatever iterator. Conditions as each names them. -/
namespace Go.Proofs.YtaefninikmaiiaaGreatDoor
open Go.ChangeShapes Go.WideShapes Go.ChangeAt Go.RowKit Go.Lib Go.Maps Go.Sort
set_option linter.unusedVariables false
attribute [local go_sem] Oper.semAt_some

theorem Tryz.undEns : Tryz.prog.underlying 75 = some (.slice 115) := by kernel_rfl
theorem Tryz.infoEn : (Tryz.prog.info? 115).map (fun i => (i.zero, i.size, i.bytes)) = some (some (.agg #[.string ⟨#[]⟩, .string ⟨#[]⟩]), 2, 32) := by kernel_rfl
theorem Tryz.infoEn' : ∃ i, Tryz.prog.info? 115 = some i ∧ i.zero = some (.agg #[.string ⟨#[]⟩, .string ⟨#[]⟩]) ∧ i.size = 2 ∧ i.bytes = 32 := by
  have h := Tryz.infoEn
  cases hi : Tryz.prog.info? 115 with
  | none => rw [hi] at h; cases h
  | some i =>
    rw [hi] at h
    simp only [Option.map_some, Option.some.injEq, Prod.mk.injEq] at h
    exact ⟨i, rfl, h.1, h.2.1, h.2.2⟩
theorem owns_keepB {S : List Nat} {w w' : World} {base : Nat} {e : TypeId} {size : Nat} {v : Value} {n : Nat} {xs : List Value} (h : w.ownsRow base e size v n xs) (hf : Fr S w w') (hn : ∀ k, v.ownBlock = some k → k ∉ S) : w'.ownsRow base e size v n xs := by
  refine ⟨h.1, ?_⟩
  rcases h.2 with h0 | ⟨g, cap, cur, hv, hb, hg, hr⟩
  · exact Or.inl h0
  · exact Or.inr ⟨g, cap, cur, hv, hb, hf.keep hg (hn g (by rw [hv]; rfl)), hr⟩
theorem owns_cells {w : World} {base : Nat} {e : TypeId} {size : Nat} {v : Value} {n : Nat} {xs : List Value} (h : w.ownsRow base e size v n xs) {k : Nat} (hk : v.ownBlock = some k) : base ≤ k ∧ ∃ cur, w.heap[k]? = some (.cells cur e (0, 0)) := by
  rcases h.2 with ⟨rfl, _⟩ | ⟨g, cap, cur, rfl, hb, hg, hr⟩
  · simp [Value.ownBlock] at hk
  · simp [Value.ownBlock] at hk
    subst hk
    exact ⟨hb, cur, hg⟩
theorem new2_cells (w : World) (x : Pr) : ∀ (j : Nat) (u : Value), [Value.string x.1, Value.string x.2][j]? = some u → (w.alloc (.cells #[.string x.1, .string x.2] 115)).cell? ((⟨w.heap.size, 0, none⟩ : Addr).add j) = some u := by
  intro j u hu
  have hr := heap_alloc_new w (.cells #[.string x.1, .string x.2] 115)
  match j, hu with
  | 0, hu => show World.cell? _ ⟨w.heap.size, 0, none⟩ = _; rw [cell_of_row _ _ _ _ _ _ hr]; exact hu
  | 1, hu => show World.cell? _ ⟨w.heap.size, 1, none⟩ = _; rw [cell_of_row _ _ _ _ _ _ hr]; exact hu
  | (j + 2), hu => simp at hu
theorem new2_one (x : Pr) : ∀ u ∈ [Value.string x.1, Value.string x.2], u.oneCell' = true := by
  intro u hu
  simp only [List.mem_cons, List.not_mem_nil, or_false] at hu
  rcases hu with rfl | rfl <;> rfl
theorem box_set {w : World} {b : Nat} {t : TypeId} {v : Value} (h : w.heap[b]? = some (.cells #[v] t (0, 0))) (u : Value) : (w.setCell ⟨b, 0, none⟩ u).heap[b]? = some (.cells #[u] t (0, 0)) := by
  obtain ⟨hlt, hk⟩ := Array.getElem?_eq_some_iff.1 h
  show (w.heap.modify b _)[b]? = _
  rw [Array.getElem?_eq_getElem (by rw [Array.size_modify]; exact hlt), Array.getElem_modify_self, hk]
  rfl
/-- Between two rounds: the box holds a slice that owns what has come. -/
structure ApE (w0 : World) (Bs l D : Nat) (rec : Loop) (ps : List Pr) (W : World) (v : Value) : Prop where
  box : W.heap[Bs]? = some (.cells #[v] 75 (0, 0))
  row : W.ownsRow w0.heap.size 115 2 v ps.length (celsE ps)
  lp : W.heap[l]? = some (.loop rec)
  df : W.heap[D]? = some (.deferred (some []))
  fr : Fr [] w0 W
section
variable {w0 W W' : World} {Bs l D : Nat} {rec : Loop} {ps : List Pr} {v : Value}
theorem ApE.ne (h : ApE w0 Bs l D rec ps W v) {k : Nat} (hk : v.ownBlock = some k) : k ≠ Bs ∧ k ≠ l ∧ k ≠ D := by
  obtain ⟨_, cur, hc⟩ := owns_cells h.row hk
  refine ⟨?_, ?_, ?_⟩
  · rintro rfl; have := hc.symm.trans h.box; simp at this
  · rintro rfl; have := hc.symm.trans h.lp; simp at this
  · rintro rfl; have := hc.symm.trans h.df; simp at this
theorem ApE.keepS {S : List Nat} (h : ApE w0 Bs l D rec ps W v) (hf : Fr S W W') (hS : ∀ x ∈ S, w0.heap.size ≤ x ∧ x ≠ Bs ∧ x ≠ l ∧ x ≠ D ∧ v.ownBlock ≠ some x) : ApE w0 Bs l D rec ps W' v :=
  ⟨hf.keep h.box (fun hh => (hS _ hh).2.1 rfl), owns_keepB h.row hf (fun k hk hh => (hS _ hh).2.2.2.2 hk), hf.keep h.lp (fun hh => (hS _ hh).2.2.1 rfl), hf.keep h.df (fun hh => (hS _ hh).2.2.2.1 rfl), h.fr.on hf (fun x hx => (hS x hx).1)⟩
theorem ApE.rec_ (h : ApE w0 Bs l D rec ps W v) (rec' : Loop) (h0 : w0.heap.size ≤ l) (h1 : Bs ≠ l) (h2 : D ≠ l) : ApE w0 Bs l D rec' ps (W.putObj l (.loop rec')) v := by
  have hf := Fr.putObj W l (.loop rec')
  exact ⟨hf.keep h.box (by simpa using h1), owns_keepB h.row hf (fun k hk hh => by simp at hh; exact (h.ne hk).2.1 hh), World.putObj_heap_same (Array.getElem?_eq_some_iff.1 h.lp).1, hf.keep h.df (by simpa using h2), h.fr.on hf (fun x hx => by simp at hx; omega)⟩
theorem ApE.abides (B : Nat) (hB : w0.heap.size ≤ B) : AbidesFrom B (fun ps W => ∃ v, ApE w0 Bs l D rec ps W v) := fun ps W W' row ⟨v, h⟩ hg hrow => by
  have hf : Fr row.toList W W' := Fr.grown hg (by intro k hk _; simp [hk])
  refine ⟨v, h.keepS hf (fun x hx => ?_)⟩
  simp only [Option.mem_toList] at hx
  obtain ⟨hBx, o, ho, hw⟩ := hrow x hx
  refine ⟨by omega, ?_, ?_, ?_, ?_⟩
  · rintro rfl; rw [h.box] at ho; cases ho; cases hw
  · rintro rfl; rw [h.lp] at ho; cases ho; cases hw
  · rintro rfl; rw [h.df] at ho; cases ho; cases hw
  · intro hv; obtain ⟨_, cur, hc⟩ := owns_cells h.row hv; rw [hc] at ho; cases ho; cases hw
end
theorem walks_fr {S : List Nat} {W W' : World} (hf : Fr S W W') (hS : ∀ x ∈ S, ∀ o, W.heap[x]? = some o → o.isWalk = false) : KeepsWalks W W' := by
  refine ⟨hf.size, fun k o hk ho => hf.keep hk (fun hh => ?_)⟩
  rw [hS k hh o hk] at ho
  cases ho

set_option maxRecDepth 100000 in
set_option maxHeartbeats 4000000 in
theorem appendSeq_in (g : Nat) (lb : Array Value) (eg : ∀ args w, (callFunc g args).run Tryz.prog w = .ok (.enter g args) w) (S : List Pr → Prop) (N : Nat) (hN : N < 1099511627776) (w : World) (hseq : SeqGives Fence.wide 2 Tryz.prog g lb encE S N w) :
    CallsIn Fence.wide 3 Tryz.prog 192 #[.slice none 0 0, .func (.func g) #[] lb] w fun e w' => ∃ (v : Value) (ps : List Pr), e = .returned v ∧ S ps ∧ w'.ownsRow w.heap.size 115 2 v ps.length (celsE ps) ∧ Fr [] w w' := by
  obtain ⟨i0, hi, hz0, hz1, hz2⟩ := Tryz.infoEn'
  have hmx : (1099511627776 : Nat) ≤ maxLen := by unfold maxLen; omega
  refine callsIn_of_wp_marks Tryz.func192 rfl trivial ?_ rfl
  simp only [Tryz.ntmps192, List.size_toArray, List.length_cons, List.length_nil, Nat.reduceAdd, Nat.reduceSub, Array.replicate_succ, Array.replicate_zero, List.push_toArray, List.append_toArray, List.nil_append, List.cons_append]
  gi_wp2_with fail
  have hB1 : (w.alloc (.cells #[.slice none 0 0] 75)).heap[w.heap.size]? = some (.cells #[.slice none 0 0] 75 (0, 0)) := heap_alloc_new w _
  have hF1 : Fr [] w (w.alloc (.cells #[.slice none 0 0] 75)) := Fr.alloc _ _ _
  have hs1 : (w.alloc (.cells #[.slice none 0 0] 75)).heap.size = w.heap.size + 1 := by simp
  obtain ⟨w1, HW1⟩ : ∃ w1, Hid (w.alloc (.cells #[.slice none 0 0] 75) = w1) := ⟨_, rfl⟩
  rw [HW1.out] at hB1 hF1 hs1 ⊢
  obtain ⟨Bs, hBs⟩ : ∃ Bs, Bs = w.heap.size := ⟨_, rfl⟩
  rw [← hBs] at hB1 ⊢
  refine range_of rfl (fun _ => True.intro) rfl (gf := g) (lb := lb) rfl eg ?_
  intro fn RC HRC
  obtain ⟨D, hD⟩ : ∃ D, D = w1.heap.size := ⟨_, rfl⟩
  obtain ⟨lr, hlr⟩ : ∃ lr, lr = w1.heap.size + 1 := ⟨_, rfl⟩
  have hF2 : Fr [] w1 ((w1.alloc (.deferred (some []))).alloc (.loop (RC .ready none))) := (Fr.alloc [] _ _).then (Fr.alloc [] _ _)
  have hL2 : ((w1.alloc (.deferred (some []))).alloc (.loop (RC .ready none))).heap[w1.heap.size + 1]? = some (.loop (RC .ready none)) := by
    have := World.alloc_heap_new (w1.alloc (.deferred (some []))) (.loop (RC .ready none)); rwa [World.size_alloc] at this
  have hK2 : ((w1.alloc (.deferred (some []))).alloc (.loop (RC .ready none))).heap[w1.heap.size]? = some (.deferred (some [])) :=
    (Below.heap_alloc _ _ _ (by simp)).trans (World.alloc_heap_new w1 _)
  have hs2 : ((w1.alloc (.deferred (some []))).alloc (.loop (RC .ready none))).heap.size = w1.heap.size + 2 := by simp
  obtain ⟨w2, HW2⟩ : ∃ w2, Hid ((w1.alloc (.deferred (some []))).alloc (.loop (RC .ready none)) = w2) := ⟨_, rfl⟩
  rw [HW2.out] at hF2 hL2 hK2 hs2 ⊢
  rw [← hlr] at hL2 ⊢
  rw [← hD] at HRC hK2 ⊢
  have hord : w.heap.size ≤ Bs ∧ Bs < D ∧ D < lr ∧ lr < w2.heap.size := by omega
  clear hD hlr hs2 HW2 hBs hs1
  have hA0 : ApE w Bs lr D (RC .ready none) [] w2 (.slice none 0 0) := ⟨hF2.keep hB1 (by simp), ⟨rfl, .inl ⟨rfl, rfl⟩⟩, hL2, hK2, hF1.then hF2⟩
  have hG2 := hF1.then hF2
  refine (hseq lr (fun ps W => ∃ v, ApE w Bs lr D (RC .ready none) ps W v) w2 (hG2.below (Nat.le_refl _) (by simp)) (ApE.abides _ hG2.size) ?_ ⟨_, hA0⟩).mono ?_
  · rintro ps x W ⟨v, hL⟩ hlen
    refine round_of HRC rfl hL.lp ?_
    have hFa : Fr [] W (W.alloc (.cells #[.string x.1, .string x.2] 115)) := Fr.alloc _ _ _
    have hrow : (W.alloc (.cells #[.string x.1, .string x.2] 115)).heap[W.heap.size]? = some (.cells #[.string x.1, .string x.2] 115 (0, 0)) := heap_alloc_new W _
    have hLa := hL.keepS hFa (by simp)
    have hbr := begin_of (P := Tryz.prog) HRC hLa.lp
    have hLb := hLa.rec_ (RC .busy none) (by omega) (by omega) (by omega)
    have hlrW : lr < W.heap.size := lt_of_block hL.lp
    have hFb := Fr.putObj (W.alloc (.cells #[.string x.1, .string x.2] 115)) lr (.loop (RC .busy none))
    have hrowb := hFb.keep hrow (by simp; omega)
    have hkb : KeepsWalks W ((W.alloc (.cells #[.string x.1, .string x.2] 115)).putObj lr (.loop (RC .busy none))) := (KeepsWalks.alloc _ _).trans (KeepsWalks.putObj _ hLa.lp rfl)
    obtain ⟨Wb, HWb⟩ : ∃ Wb, Hid ((W.alloc (.cells #[.string x.1, .string x.2] 115)).putObj lr (.loop (RC .busy none)) = Wb) := ⟨_, rfl⟩
    rw [HWb.out] at hbr hLb hrowb hFb hkb
    have f0 : Wb.cell? ⟨W.heap.size, 0, none⟩ = some (.string x.1) := by rw [cell_of_row _ _ _ _ _ _ hrowb]; rfl
    have f1 : Wb.cell? ⟨W.heap.size, 1, none⟩ = some (.string x.2) := by rw [cell_of_row _ _ _ _ _ _ hrowb]; rfl
    have x0 : Wb.cell? ⟨Bs, 0, none⟩ = some v := by rw [cell_of_row _ _ _ _ _ _ hLb.box]; rfl
    have x1 : Wb.frozen? ⟨Bs, 0, none⟩ = false := by simp [World.frozen?, hLb.box]
    have hLbR := hLb.row
    have HLb : Hid (ApE w Bs lr D (RC .busy none) ps Wb v) := hLb
    have hbs : w.heap.size ≤ Wb.heap.size := hLb.fr.size
    clear hLa hrow hrowb hFa hL hLb hFb
    have hfo : Array.foldl (fun (t : Array Value) (x : Tmp × Value) => match x with | (p, v) => t.setIfInBounds p v) #[Value.slice none 0 0, Value.func (Fn.func g) #[] lb, Value.pointer (some { block := Bs, off := 0 }), undef, Value.slice none 0 0, undef, Value.func (Fn.func g) #[] lb, undef, undef, undef, undef, undef, undef] (#[7].zip #[encE x]) =
      #[Value.slice none 0 0, Value.func (Fn.func g) #[] lb, Value.pointer (some { block := Bs, off := 0 }), undef, Value.slice none 0 0, undef, Value.func (Fn.func g) #[] lb, .agg #[.string x.1, .string x.2], undef, undef, undef, undef, undef] := by simp [encE]
    rw [hfo]
    clear hfo
    gi_wp2_with (first
      | (gi_at_builtin; refine wpListIn_append_own _ rfl _ _ 75 rfl w.heap.size 115 i0 _ 2 32 Tryz.undEns hi hz0 hz1 hz2 rfl (by decide) _ _ _ rfl (hLbR.alloc _) ⟨Wb.heap.size, 0, none⟩ 1 1 [.string x.1, .string x.2] rfl rfl (new2_cells Wb x) (new2_one x) (by omega) (by omega) (by simp; omega) ?_
         intro v' w3 hown' hg3 hnil3
         have hf3 : Fr v.ownBlock.toList Wb w3 := (Fr.alloc _ Wb _).then (Fr.grown hg3 (fun y hy _ => Option.mem_toList.2 hy))
         have hbx3 : w3.heap[Bs]? = some (.cells #[v] 75 (0, 0)) := hf3.keep HLb.out.box (fun hh => by simp only [Option.mem_toList] at hh; exact (HLb.out.ne hh).1 rfl)
         have c3 : w3.cell? ⟨Bs, 0, none⟩ = some v := by rw [cell_of_row _ _ _ _ _ _ hbx3]; rfl
         have d3 : w3.frozen? ⟨Bs, 0, none⟩ = false := by simp [World.frozen?, hbx3]
         obtain ⟨g', cap', rfl, hgb⟩ : ∃ g' cap', v' = .slice (some ⟨g', 0, none⟩) (ps.length + 1) cap' ∧ w.heap.size ≤ g' := by
           rcases hown'.2 with ⟨_, h0⟩ | ⟨g', cap', cur', h1, h2, _⟩
           · exact absurd h0 (by omega)
           · exact ⟨g', cap', h1, h2⟩
         go_frame)
      | (rw [Oper.semAt_eq _ _ _ (fun c h => by cases h)]; go_simp; try go_bits))
    have hk3 : KeepsWalks Wb w3 := walks_fr hf3 (fun y hy o ho => by
      simp only [Option.mem_toList] at hy
      obtain ⟨_, cur, hc⟩ := owns_cells HLb.out.row hy
      rw [hc] at ho; cases ho; rfl)
    obtain ⟨u, hu⟩ : ∃ u, u = Value.slice (some { block := g', off := 0 }) (ps.length + 1) cap' := ⟨_, rfl⟩
    rw [← hu] at hown' ⊢
    have huo : u.ownBlock = some g' := by rw [hu]; rfl
    have hgB : g' ≠ Bs := by
      rintro rfl
      obtain ⟨_, cur, hc⟩ := owns_cells hown' huo
      have := hc.symm.trans hbx3
      simp at this
    have hfs : Fr [Bs] w3 (w3.setCell ⟨Bs, 0, none⟩ u) := Fr.set _ _ _ (by simp)
    have n3 : ∀ {y : Nat}, y ∈ v.ownBlock.toList → y ≠ Bs ∧ y ≠ lr ∧ y ≠ D := fun hy => by simp only [Option.mem_toList] at hy; exact HLb.out.ne hy
    have hA4 : ApE w Bs lr D (RC .busy none) (ps ++ [x]) (w3.setCell ⟨Bs, 0, none⟩ u) u := by
      refine ⟨?_, ?_, hfs.keep (hf3.keep HLb.out.lp (fun hh => (n3 hh).2.1 rfl)) (by simp; omega), hfs.keep (hf3.keep HLb.out.df (fun hh => (n3 hh).2.2 rfl)) (by simp; omega), (HLb.out.fr.on hf3 (fun y hy => ?_)).on hfs (by intro y hy; simp at hy; omega)⟩
      · exact box_set hbx3 u
      · have := owns_keepB hown' hfs (fun k hk hh => by rw [huo] at hk; cases hk; simp at hh; exact hgB hh)
        rw [List.length_append, List.length_singleton, celsE_snoc]
        exact this
      · simp only [Option.mem_toList] at hy
        exact (owns_cells HLb.out.row hy).1
    have hend := end_of (P := Tryz.prog) HRC hA4.lp none
    have hA5 := hA4.rec_ (RC .ready none) (by omega) (by omega) (by omega)
    exact ⟨_, _, hend, rfl, ⟨u, hA5⟩, hkb.trans (hk3.trans ((KeepsWalks.setCell _ _ _).trans (KeepsWalks.putObj _ hA4.lp rfl)))⟩
  · rintro e W3 ⟨⟨v0, rfl⟩, ps, hS, v, hL⟩
    have hle := loop_end_of (P := Tryz.prog) HRC hL.lp (by simp)
    have hL4 := hL.rec_ (RC .exhausted none) (by omega) (by omega) (by omega)
    obtain ⟨W4, HW4⟩ : ∃ W4, Hid (W3.putObj lr (.loop (RC .exhausted none)) = W4) := ⟨_, rfl⟩
    rw [HW4.out] at hle hL4
    have x0 : W4.cell? ⟨Bs, 0, none⟩ = some v := by rw [cell_of_row _ _ _ _ _ _ hL4.box]; rfl
    have x1 : W4.frozen? ⟨Bs, 0, none⟩ = false := by simp [World.frozen?, hL4.box]
    have HL4 : Hid (ApE w Bs lr D (RC .exhausted none) ps W4 v) := hL4
    have HS : Hid (S ps) := hS
    clear hL hL4 hS HRC hseq hA0
    refine ⟨none, W4, hle, ?_⟩
    clear hle
    gi_wp2_with fail
    have hF5 : Fr [D] W4 (W4.putObj D (.deferred none)) := Fr.putObj _ D _
    refine ⟨by simp, .inl ⟨_, _, rfl, run_takeDeferred HL4.out.df, ?_⟩⟩
    refine ⟨_, results_tmp rfl _ _ _, v, ps, rfl, HS.out, owns_keepB HL4.out.row hF5 (fun k hk hh => by simp at hh; exact (HL4.out.ne hk).2.2 hh), HL4.out.fr.on hF5 (by intro y hy; simp at hy; omega)⟩


set_option maxHeartbeats 1000000 in
theorem collect_in (g : Nat) (lb : Array Value) (eg : ∀ args w, (callFunc g args).run Tryz.prog w = .ok (.enter g args) w) (S : List Pr → Prop) (N : Nat) (hN : N < 1099511627776) (w : World) (hseq : SeqGives Fence.wide 2 Tryz.prog g lb encE S N w) :
    Calls Tryz.prog 172 #[.func (.func g) #[] lb] w fun e w' => ∃ (v : Value) (ps : List Pr), e = .returned v ∧ S ps ∧ w'.ownsRow w.heap.size 115 2 v ps.length (celsE ps) ∧ Fr [] w w' := by
  have h0 := callsIn_wide.1 (appendSeq_in g lb eg S N hN w hseq)
  go_enter Tryz.func172, Tryz.ntmps172
  go_wp2_with fail
  refine h0.mono ?_
  rintro e w1 ⟨v, ps, rfl, hS, hrow, hF⟩
  go_wp2
  go_ret
  exact ⟨v, ps, rfl, hS, hrow, hF⟩

/-- slices.Collect(maps.Values(m)): the pairs of the map, in some order, in a row of its own. -/
theorem collect_values (b Bm nn : Nat) (E : ByteArray → Option ByteArray) (w : World) (hM : MapE w b nn E) (hn : nn < 1099511627776) (hBm : Bm < w.heap.size) (hm : w.cell? ⟨Bm, 0, none⟩ = some (.map (some b))) :
    Calls Tryz.prog 172 #[.func (.func 174) #[] #[.pointer (some ⟨Bm, 0, none⟩)]] w fun e w' => ∃ (v : Value) (ps : List Pr), e = .returned v ∧ (AllP E ps ∧ ps.length ≤ nn) ∧ w'.ownsRow w.heap.size 115 2 v ps.length (celsE ps) ∧ Fr [] w w' :=
  collect_in 174 _ (enters_of Tryz.func174 (by kernel_rfl) rfl) (fun ps => AllP E ps ∧ ps.length ≤ nn) nn hn w (values_gives 1 Bm b nn E w hBm hm hM)
end Go.Proofs.YtaefninikmaiiaaGreatDoor
/- The order of keys, byte by byte: strict and total; what comparing tells. No conditions. -/
namespace Go.Proofs.YtaefninikmaiiaaGreatDoor
set_option linter.unusedVariables false

theorem bl_irrefl : ∀ a : List UInt8, Op.bytesLess a a = false
  | [] => rfl
  | x :: xs => by simp [Op.bytesLess, bl_irrefl xs]
theorem bl_cmp : ∀ a b : List UInt8, (Lib.compareBytes a b < 0 ↔ Op.bytesLess a b = true)
  | [], [] => by simp [Lib.compareBytes, Op.bytesLess]
  | [], _ :: _ => by simp [Lib.compareBytes, Op.bytesLess]
  | _ :: _, [] => by simp [Lib.compareBytes, Op.bytesLess]
  | x :: xs, y :: ys => by
    have ih := bl_cmp xs ys
    unfold Lib.compareBytes Op.bytesLess
    by_cases h1 : x < y
    · simp [h1]
    · by_cases h2 : y < x
      · simp [h1, h2]
        intro e
        subst e
        exact absurd h2 h1
      · simp [h1, h2]
        have e : x = y := UInt8.le_antisymm (UInt8.not_lt.1 h2) (UInt8.not_lt.1 h1)
        simp [e, ih]
theorem bl_lt (a b : List UInt8) : Op.bytesLess a b = true ↔ a < b := by rw [bytesLess_eq]; simp
theorem bl_trans {a b c : List UInt8} (h1 : Op.bytesLess a b = true) (h2 : Op.bytesLess b c = true) : Op.bytesLess a c = true := by
  rw [bl_lt] at *
  exact List.lt_trans h1 h2
theorem bl_ntrans {a b c : List UInt8} (h1 : Op.bytesLess a b = false) (h2 : Op.bytesLess b c = false) : Op.bytesLess a c = false := by
  rw [bytesLess_eq] at *
  simp only [decide_eq_false_iff_not, List.not_lt] at *
  exact List.le_trans h2 h1
theorem bl_eq {a b : List UInt8} (h1 : Op.bytesLess a b = false) (h2 : Op.bytesLess b a = false) : a = b := by
  rw [bytesLess_eq] at *
  simp only [decide_eq_false_iff_not, List.not_lt] at *
  exact List.le_antisymm h2 h1
theorem bl_asymm {a b : List UInt8} (h1 : Op.bytesLess a b = true) : Op.bytesLess b a = false := by
  cases h : Op.bytesLess b a with
  | false => rfl
  | true => have := bl_trans h1 h; rw [bl_irrefl] at this; cases this
end Go.Proofs.YtaefninikmaiiaaGreatDoor
/- Entries by rising keys: strings.Compare, byKey, slices.SortFunc of a row of entries. Conditions as each names them. -/
namespace Go.Proofs.YtaefninikmaiiaaGreatDoor
open Go.ChangeShapes Go.WideShapes Go.ChangeAt Go.RowKit Go.Lib Go.Maps Go.Sort Go.Shelf
set_option linter.unusedVariables false

shelf_lay_g SlLaysF0.n6 Slsf 6 at Tryz 173 as Tryz.sortEn
shelf_lay Lays.n106 Nm 106 at Tryz as Tryz.strCmp

def cfE (x y : Pr) : Int := compareBytes x.1.data.toList y.1.data.toList
set_option maxHeartbeats 1000000 in
theorem byKey_any (x y : Pr) (W : World) : Calls Tryz.prog 151 #[.agg #[.string x.1, .string x.2], .agg #[.string y.1, .string y.2]] W fun e w' => e = .returned (.int .i64 (cfE x y)) ∧ ∃ q os', w' = grow (W.drewN q) os' := by
  have hcon := fun W' => Any.strings_Compare Tryz.strCmp x.1 y.1 W'
  change ∀ W', Calls Tryz.prog 175 _ _ _ at hcon
  unfold cfE
  generalize compareBytes x.1.data.toList y.1.data.toList = r at hcon ⊢
  go_enter Tryz.func151, Tryz.ntmps151
  go_wp2_with (go_at_call 175; refine (hcon _).mono ?_; rintro e w' ⟨rfl, rfl⟩)
  go_ret
  exact ⟨rfl, 0, _, by rw [alloc_eq_grow, alloc_eq_grow, grow_grow]; rfl⟩
theorem ltOf_cfE (x y : Pr) : ltOf cfE x y = Op.bytesLess x.1.toList y.1.toList := by
  unfold ltOf cfE
  rw [ByteArray.toList_eq, ByteArray.toList_eq]
  have h := bl_cmp x.1.data.toList y.1.data.toList
  cases hb : Op.bytesLess x.1.data.toList y.1.data.toList with
  | true => simpa using h.2 hb
  | false =>
    rw [hb] at h
    simpa using h
theorem swoE : SWO (ltOf cfE) where
  irrefl x := by rw [ltOf_cfE]; exact bl_irrefl _
  trans x y z h1 h2 := by rw [ltOf_cfE] at *; exact bl_trans h1 h2
  ntrans x y z h1 h2 := by rw [ltOf_cfE] at *; exact bl_ntrans h1 h2
theorem celsE_at : ∀ (ps : List Pr) (t : Nat), t < ps.length * 2 → (celsE ps)[t]? = some ((celE ps[t / 2]!)[t % 2]!)
  | [], t, h => by simp at h
  | p :: ps, 0, h => by simp [celsE, celE]
  | p :: ps, 1, h => by simp [celsE, celE]
  | p :: ps, (t + 2), h => by
    have ih := celsE_at ps t (by simp at h; omega)
    have e1 : (t + 2) / 2 = t / 2 + 1 := by omega
    have e2 : (t + 2) % 2 = t % 2 := by omega
    rw [e1, e2]
    have e3 : (celsE (p :: ps))[t + 2]? = (celsE ps)[t]? := by simp [celsE, celE]
    rw [e3, ih]
    simp
theorem flatE (ps : List Pr) : flatK celE 2 ps.toArray = (celsE ps).toArray := by
  apply Array.ext_getElem?
  intro t
  by_cases h : t < ps.length * 2
  · have h1 : t < (flatK celE 2 ps.toArray).size := by rw [size_flatK]; simpa using h
    have h2 := get_flatK celE 2 ps.toArray t (by simpa using h)
    rw [getElem!_pos _ t h1] at h2
    rw [Array.getElem?_eq_getElem h1, h2, List.getElem?_toArray, celsE_at ps t h]
    simp
  · rw [Array.getElem?_eq_none (by rw [size_flatK]; simp; omega), Array.getElem?_eq_none (by simp [celsE_length]; omega)]
theorem holdsE {w : World} {g : Nat} {cur : Array Value} {e : TypeId} {ps : List Pr} (hb : w.heap[g]? = some (.cells cur e (0, 0))) (ht : cur.toList.take (ps.length * 2) = celsE ps) : HoldsK celE 2 w g 0 ps.toArray := by
  unfold HoldsK
  rw [flatE]
  intro j hj
  have hj' : j < ps.length * 2 := by simp [celsE_length] at hj; omega
  refine ⟨?_, by simp [World.frozen?, hb]⟩
  have h1 : (cur.toList.take (ps.length * 2))[j]? = (celsE ps)[j]? := by rw [ht]
  rw [List.getElem?_take_of_lt hj'] at h1
  rw [cell_of_row _ _ _ _ _ _ hb, Nat.zero_add, ← Array.getElem?_toList, h1]
  have hl : j < (celsE ps).length := by rw [celsE_length]; omega
  simp [hl]
theorem heapE {w : World} {g n : Nat} {os : Array Obj} {cur : Array Value} {e : TypeId} {fr : Nat × Nat} (d : Array Pr) (hb : w.heap[g]? = some (.cells cur e fr)) :
    (sortWorldK celE 2 w g 0 n d os).heap[g]? = some (.cells (putCells id 0 (flatK celE 2 d) cur) e fr) := by
  have hg : g < w.heap.size := (Array.getElem?_eq_some_iff.1 hb).1
  unfold sortWorldK putRowK
  rw [heap_grow_old _ _ (by simpa using hg)]
  simp [putRow, mapBlock, Sort.ahead, Array.getElem?_modify, hb, onCells]
theorem grownE {w : World} {g n : Nat} {os : Array Obj} (d : Array Pr) : w.grownBy (sortWorldK celE 2 w g 0 n d os) (some g) := by
  unfold sortWorldK putRowK
  refine ⟨rfl, rfl, rfl, by simp, fun k hk hne => ?_⟩
  rw [heap_grow_old _ _ (by simpa using hk)]
  have : g ≠ k := fun e => hne (by rw [e])
  simp [putRow, mapBlock, Sort.ahead, Array.getElem?_modify, this]
theorem take_putE (cur : Array Value) (vs : List Value) (h : vs.length ≤ cur.size) : (putCells id 0 vs.toArray cur).toList.take vs.length = vs := by
  apply List.ext_getElem?
  intro j
  by_cases hj : j < vs.length
  · rw [List.getElem?_take_of_lt hj, Array.getElem?_toList]
    simp [putCells, hj, show j < cur.size by omega]
  · rw [List.getElem?_take_eq_none (by omega), List.getElem?_eq_none (by omega)]
/-- No later key is less. -/
def Sd (ps : List Pr) : Prop := ps.Pairwise fun a b => Op.bytesLess b.1.toList a.1.toList = false
theorem sd_of {ds : List Pr} (h : SortedIn (ltOf cfE) 0 ds.length ds.toArray) : Sd ds := by
  unfold Sd
  rw [List.pairwise_iff_getElem]
  intro i j hi hj hij
  have := h i j (Nat.zero_le _) hij hj
  rw [ltOf_cfE] at this
  simpa [hi, hj] using this
theorem Tryz.isAggEn (w : World) : (isAgg 115).run Tryz.prog w = .ok true w := by kernel_rfl
theorem Tryz.sizeOfEn (w : World) : (Go.sizeOf 115).run Tryz.prog w = .ok 2 w := by kernel_rfl
theorem celE_one (x : Pr) : ∀ v ∈ celE x, v.oneCell' = true := new2_one x
set_option maxHeartbeats 1000000 in
theorem sortE_some (base g cap : Nat) (ps : List Pr) (w : World) (hrow : w.ownsRow base 115 2 (.slice (some ⟨g, 0, none⟩) ps.length cap) ps.length (celsE ps)) (hlen : ps.length < 1099511627776) :
    Calls Tryz.prog 173 #[.slice (some ⟨g, 0, none⟩) ps.length cap, .func (.func 151) #[] #[]] w fun e w' => e = .returned (.tuple #[]) ∧ ∃ ds, ds.Perm ps ∧ Sd ds ∧ w'.ownsRow base 115 2 (.slice (some ⟨g, 0, none⟩) ps.length cap) ps.length (celsE ds) ∧ Fr [g] w w' := by
  obtain ⟨hl, hr⟩ := hrow
  rcases hr with ⟨hh, _⟩ | ⟨g', cap', cur, hh, hbase, hb, h1, h2, h3, h4⟩
  · cases hh
  cases hh
  have eg : ∀ args w, (callFunc 151 args).run Tryz.prog w = .ok (.enter 151 args) w := enters_of Tryz.func151 (by kernel_rfl) rfl
  have hcmp : CmpLays Tryz.prog 151 #[] celE 2 cfE g 0 ps.toArray.size w := fun _ _ _ _ x y => byKey_any x y _
  have hcon := AnyQ.slices_SortFunc Tryz.sortEn 2 Tryz.isAggEn Tryz.sizeOfEn celE (fun _ => rfl) celE_one cfE swoE 151 #[] g 0 cap ps.toArray w eg hcmp (holdsE hb h4) (lt_of_block hb) (by simp; omega)
  change Calls Tryz.prog 173 _ _ _ at hcon
  have hsz : ps.toArray.size = ps.length := by simp
  rw [hsz] at hcon
  refine hcon.mono ?_
  rintro e w' ⟨rfl, d', n, os, hp, hs, rfl⟩
  obtain ⟨hs1, _, hp1⟩ := hp
  have hd : d'.toList.length = ps.length := by simpa using hs1
  refine ⟨rfl, d'.toList, ?_, ?_, ⟨?_, .inr ⟨g, cap, _, rfl, hbase, heapE d' hb, h1, h2, by simp [putCells, h3], ?_⟩⟩, Fr.grown (grownE d') (by intro k hk _; cases hk; simp)⟩
  · have e1 : d'.extract 0 ps.length = d' := by rw [← hd]; simp
    have e2 : ps.toArray.extract 0 ps.length = ps.toArray := by simp
    rw [e1, e2] at hp1
    simpa using hp1
  · refine sd_of ?_
    rw [hd]
    simpa using hs
  · rw [celsE_length, hd]; omega
  · have e1 : flatK celE 2 d' = (celsE d'.toList).toArray := by rw [← flatE]
    have e2 : ps.length * 2 = (celsE d'.toList).length := by rw [celsE_length, hd]; omega
    rw [e1, e2]
    exact take_putE cur _ (by rw [celsE_length, hd, h3]; omega)
end Go.Proofs.YtaefninikmaiiaaGreatDoor
/- Entries by rising keys that are what a map says: there is one such list; what a write, a stretch make of it. Mathematics alone. -/
namespace Go.Proofs.YtaefninikmaiiaaGreatDoor
set_option linter.unusedVariables false

/-- Keys rise. -/
def Inc (ps : List Pr) : Prop := ps.Pairwise fun a b => Op.bytesLess a.1.toList b.1.toList = true
/-- These are the entries of E, by rising keys. -/
structure Is (E : ByteArray → Option ByteArray) (ps : List Pr) : Prop where
  inc : Inc ps
  mem : ∀ p, p ∈ ps ↔ E p.1 = some p.2
theorem inc_irr {p : Pr} : ¬ Op.bytesLess p.1.toList p.1.toList = true := by rw [bl_irrefl]; simp
theorem inc_unique : ∀ {ps qs : List Pr}, Inc ps → Inc qs → (∀ p, p ∈ ps ↔ p ∈ qs) → ps = qs
  | [], [], _, _, _ => rfl
  | [], q :: qs, _, _, h => absurd ((h q).2 (by simp)) (by simp)
  | p :: ps, [], _, _, h => absurd ((h p).1 (by simp)) (by simp)
  | p :: ps, q :: qs, h1, h2, h => by
    unfold Inc at h1 h2
    rw [List.pairwise_cons] at h1 h2
    have hpq : p = q := by
      have m1 := (h p).1 (by simp)
      have m2 := (h q).2 (by simp)
      rcases List.mem_cons.1 m1 with e | e
      · exact e
      rcases List.mem_cons.1 m2 with e' | e'
      · exact e'.symm
      have a := h2.1 p e
      have b := h1.1 q e'
      exact absurd (bl_trans a b) inc_irr
    subst hpq
    congr 1
    refine inc_unique h1.2 h2.2 fun x => ⟨fun hx => ?_, fun hx => ?_⟩
    · rcases List.mem_cons.1 ((h x).1 (List.mem_cons_of_mem _ hx)) with e | e
      · subst e; exact absurd (h1.1 x hx) inc_irr
      · exact e
    · rcases List.mem_cons.1 ((h x).2 (List.mem_cons_of_mem _ hx)) with e | e
      · subst e; exact absurd (h2.1 x hx) inc_irr
      · exact e
theorem Is.unique {E : ByteArray → Option ByteArray} {ps qs : List Pr} (h1 : Is E ps) (h2 : Is E qs) : ps = qs :=
  inc_unique h1.inc h2.inc fun p => (h1.mem p).trans (h2.mem p).symm
theorem Is.nil : Is (fun _ => none) [] := ⟨List.Pairwise.nil, fun p => by simp⟩
theorem Is.key {E : ByteArray → Option ByteArray} {ps : List Pr} (h : Is E ps) {p q : Pr} (hp : p ∈ ps) (hq : q ∈ ps) (e : p.1 = q.1) : p = q := by
  have a := (h.mem p).1 hp
  have b := (h.mem q).1 hq
  rw [e, b] at a
  exact Prod.ext e (by simpa using a.symm)
theorem Is.cong {E E' : ByteArray → Option ByteArray} {ps : List Pr} (h : Is E ps) (e : ∀ s, E s = E' s) : Is E' ps := ⟨h.inc, fun p => by rw [← e]; exact h.mem p⟩
/-- What is sorted by keys that differ rises. -/
theorem is_sorted {E : ByteArray → Option ByteArray} {ps ds : List Pr} (h : AllP E ps) (hp : ds.Perm ps) (hs : ds.Pairwise fun a b => Op.bytesLess b.1.toList a.1.toList = false) : Is E ds := by
  refine ⟨?_, fun p => by rw [← h.mem p]; exact hp.mem_iff⟩
  have hn : (ds.map (·.1)).Nodup := (hp.map (·.1)).nodup_iff.2 h.nd
  have hn2 := List.pairwise_map.1 hn
  unfold Inc
  have := hs.and hn2
  refine this.imp ?_
  rintro a b ⟨h1, h2⟩
  cases hab : Op.bytesLess a.1.toList b.1.toList with
  | true => rfl
  | false =>
    exfalso
    have e := bl_eq hab h1
    rw [ByteArray.toList_eq, ByteArray.toList_eq] at e
    exact h2 (bytes_eq e)
/-- A stretch of it. -/
theorem Is.filter {E : ByteArray → Option ByteArray} {ps : List Pr} (h : Is E ps) (K : ByteArray → Bool) : Is (fun s => if K s = true then E s else none) (ps.filter fun p => K p.1) := by
  refine ⟨List.Pairwise.filter _ h.inc, fun p => ?_⟩
  rw [List.mem_filter, h.mem p]
  by_cases hk : K p.1 = true
  · simp [hk]
  · simp [hk]
/-- How many are ahead of a key. -/
def rank (ps : List Pr) (key : ByteArray) : Nat := ps.countP fun p => Op.bytesLess p.1.toList key.toList
def hasK (ps : List Pr) (key : ByteArray) : Bool := ps.any fun p => p.1 == key
/-- What a write makes of it. -/
def wrote (ps : List Pr) (x : Wt) : List Pr := ps.filter (fun p => Op.bytesLess p.1.toList x.key.toList) ++ (if x.drop = true then [] else [(x.key, x.val)]) ++ ps.filter (fun p => Op.bytesLess x.key.toList p.1.toList)
theorem Is.write {E : ByteArray → Option ByteArray} {ps : List Pr} (h : Is E ps) (x : Wt) : Is (applyE E x) (wrote ps x) := by
  refine ⟨?_, fun p => ?_⟩
  · unfold Inc wrote
    have hi : ps.Pairwise fun a b => Op.bytesLess a.1.toList b.1.toList = true := h.inc
    rw [List.pairwise_append, List.pairwise_append]
    refine ⟨⟨List.Pairwise.filter _ hi, ?_, ?_⟩, List.Pairwise.filter _ hi, ?_⟩
    · by_cases hd : x.drop = true <;> simp [hd]
    · intro a ha b hb
      by_cases hd : x.drop = true
      · simp [hd] at hb
      · simp [hd] at hb
        subst hb
        exact (List.mem_filter.1 ha).2
    · intro a ha b hb
      have hb' := (List.mem_filter.1 hb).2
      rcases List.mem_append.1 ha with ha | ha
      · exact bl_trans (List.mem_filter.1 ha).2 hb'
      · by_cases hd : x.drop = true
        · simp [hd] at ha
        · simp [hd] at ha
          subst ha
          exact hb'
  · unfold wrote applyE
    rw [List.mem_append, List.mem_append, List.mem_filter, List.mem_filter, h.mem p]
    by_cases hk : p.1 = x.key
    · rw [if_pos hk, hk, bl_irrefl]
      by_cases hd : x.drop = true
      · simp [hd]
      · simp [hd]
        constructor
        · rintro rfl; rfl
        · intro e; exact Prod.ext hk e.symm
    · rw [if_neg hk]
      have hne : ¬ p = (x.key, x.val) := fun e => hk (by rw [e])
      have hm : ¬ p ∈ (if x.drop = true then [] else [(x.key, x.val)]) := by
        by_cases hd : x.drop = true
        · simp [hd]
        · simp [hd]; exact hne
      constructor
      · rintro ((h1 | h1) | h1)
        · exact h1.1
        · exact absurd h1 hm
        · exact h1.1
      · intro h1
        cases hab : Op.bytesLess p.1.toList x.key.toList with
        | true => exact Or.inl (Or.inl ⟨h1, rfl⟩)
        | false =>
          cases hba : Op.bytesLess x.key.toList p.1.toList with
          | true => exact Or.inr ⟨h1, rfl⟩
          | false =>
            exfalso
            have e := bl_eq hab hba
            rw [ByteArray.toList_eq, ByteArray.toList_eq] at e
            exact hk (bytes_eq e)
end Go.Proofs.YtaefninikmaiiaaGreatDoor
/- Contracts of mayBe and of fold's Get. Conditions as each names them. -/
namespace Go.Proofs.YtaefninikmaiiaaGreatDoor
open Go.ChangeShapes Go.WideShapes Go.ChangeAt Go.RowKit Go.Lib Go.Maps
set_option linter.unusedVariables false
set_option linter.unusedSimpArgs false

/-- May a key be? -/
def okK (key : ByteArray) : Bool := !(key.toList == []) && decide (key.size ≤ 64)
theorem capplys_at (Pk : ByteArray → Bool) (s : ByteArray) (hs : Pk s = true) : ∀ (ws : List Wt) (E E' : ByteArray → Option ByteArray), E s = E' s → capplys Pk E ws s = capplys (fun _ => true) E' ws s
  | [], E, E', h => h
  | x :: ws, E, E', h => by
    show capplys Pk (capply Pk E x) ws s = capplys (fun _ => true) (capply (fun _ => true) E' x) ws s
    refine capplys_at Pk s hs ws _ _ ?_
    unfold capply
    rw [if_pos rfl]
    by_cases hk : Pk x.key = true
    · rw [if_pos hk]; unfold applyE; rw [h]
    · rw [if_neg hk]
      unfold applyE
      rw [if_neg (fun e => hk (by rw [← e]; exact hs)), h]
theorem capplys_off (Pk : ByteArray → Bool) (s : ByteArray) (hs : Pk s = false) : ∀ (ws : List Wt) (E : ByteArray → Option ByteArray), capplys Pk E ws s = E s
  | [], E => rfl
  | x :: ws, E => by
    show capplys Pk (capply Pk E x) ws s = E s
    rw [capplys_off Pk s hs ws]
    unfold capply
    by_cases hk : Pk x.key = true
    · rw [if_pos hk]; unfold applyE; rw [if_neg (fun e => by rw [e] at hs; rw [hs] at hk; cases hk)]
    · rw [if_neg hk]
theorem call_at' (Pk : ByteArray → Bool) (s : ByteArray) (hs : Pk s = true) : ∀ (l : List Tx) (E E' : ByteArray → Option ByteArray), E s = E' s → call Pk E l s = call (fun _ => true) E' l s
  | [], E, E', h => h
  | t :: l, E, E', h => call_at' Pk s hs l _ _ (capplys_at Pk s hs t.ws E E' h)
theorem call_off' (Pk : ByteArray → Bool) (s : ByteArray) (hs : Pk s = false) : ∀ (l : List Tx) (E : ByteArray → Option ByteArray), call Pk E l s = E s
  | [], E => rfl
  | t :: l, E => by
    show call Pk (capplys Pk E t.ws) l s = E s
    rw [call_off' Pk s hs l, capplys_off Pk s hs]
/-- What a log comes to. -/
def fo (l : List Tx) : ByteArray → Option ByteArray := call (fun _ => true) (fun _ => none) l
theorem call_fo (Pk : ByteArray → Bool) (l : List Tx) (s : ByteArray) : call Pk (fun _ => none) l s = if Pk s = true then fo l s else none := by
  by_cases h : Pk s = true
  · rw [if_pos h]; exact call_at' Pk s h l _ _ rfl
  · rw [if_neg h]; exact call_off' Pk s (by simpa using h) l _
/-- What Get tells. -/
def GTold (l : List Tx) (f : Int) (key : ByteArray) (val : ByteArray) (ok : Bool) (c : Nat) : Prop :=
  (CoTold l f c ∧ c ≠ 0 ∧ val = ⟨#[]⟩ ∧ ok = false) ∨ (CoTold l f 0 ∧ okK key = false ∧ c = 1 ∧ val = ⟨#[]⟩ ∧ ok = false) ∨
  (CoTold l f 0 ∧ okK key = true ∧ c = 0 ∧ val = (fo (l.take f.toNat) key).getD ⟨#[]⟩ ∧ ok = (fo (l.take f.toNat) key).isSome)
theorem GTold.ex (l : List Tx) (f : Int) (key : ByteArray) : ∃ val ok c, GTold l f key val ok c := by
  obtain ⟨c, hc⟩ := CoTold.ex l f
  by_cases h0 : c = 0
  · subst h0
    cases hk : okK key with
    | false => exact ⟨_, _, _, Or.inr (Or.inl ⟨hc, hk, rfl, rfl, rfl⟩)⟩
    | true => exact ⟨_, _, _, Or.inr (Or.inr ⟨hc, hk, rfl, rfl, rfl⟩)⟩
  · exact ⟨_, _, c, Or.inl ⟨hc, h0, rfl, rfl⟩⟩
theorem CoTold.ok0 {l : List Tx} {f : Int} (h : CoTold l f 0) : okL 1 l ∧ 0 ≤ f ∧ f ≤ (l.length : Int) := by
  rcases h with ⟨_, h0⟩ | ⟨_, _, h0⟩ | ⟨h1, h2, _⟩
  · exact absurd rfl h0
  · cases h0
  · exact ⟨h1, h2⟩
end Go.Proofs.YtaefninikmaiiaaGreatDoor
/- Contracts of slices.SortedFunc of a map's entries, of fold's Scan and Store. Conditions as each names them. -/
namespace Go.Proofs.YtaefninikmaiiaaGreatDoor
open Go.ChangeShapes Go.WideShapes Go.ChangeAt Go.RowKit Go.Lib Go.Maps Go.Sort Go.Shelf
set_option linter.unusedVariables false
set_option linter.unusedSimpArgs false

/-- A row of entries of its own. -/
structure EOut (w w' : World) (ro : Option Addr) (N rc : Nat) (ps : List Pr) : Prop where
  len : N = ps.length
  row : w'.ownsRow w.heap.size 115 2 (.slice ro N rc) N (celsE ps)
theorem own_base {w : World} {base base' : Nat} {e : TypeId} {size : Nat} {v : Value} {n : Nat} {xs : List Value} (h : w.ownsRow base e size v n xs) (hb : base' ≤ base) : w.ownsRow base' e size v n xs := by
  refine ⟨h.1, ?_⟩
  rcases h.2 with h0 | ⟨g, cap, cur, hv, hg, hr⟩
  · exact Or.inl h0
  · exact Or.inr ⟨g, cap, cur, hv, by omega, hr⟩
theorem sortE_any (base : Nat) (v : Value) (ps : List Pr) (w : World) (hrow : w.ownsRow base 115 2 v ps.length (celsE ps)) (hlen : ps.length < 1099511627776) :
    Calls Tryz.prog 173 #[v, .func (.func 151) #[] #[]] w fun e w' => e = .returned (.tuple #[]) ∧ ∃ ds, ds.Perm ps ∧ Sd ds ∧ w'.ownsRow base 115 2 v ps.length (celsE ds) ∧ Fr v.ownBlock.toList w w' := by
  rcases hrow.2 with ⟨rfl, h0⟩ | ⟨g, cap, cur, rfl, _⟩
  · have hcon := AnyF.slices_SortFunc_none Tryz.sortEn none 0 (.func (.func 151) #[] #[]) w
    change Calls Tryz.prog 173 _ _ _ at hcon
    obtain rfl : ps = [] := List.eq_nil_of_length_eq_zero h0
    refine hcon.mono ?_
    rintro e w' ⟨rfl, rfl⟩
    exact ⟨rfl, [], List.Perm.refl _, List.Pairwise.nil, hrow, Fr.refl _ _⟩
  · exact sortE_some base g cap ps w hrow hlen
set_option maxHeartbeats 1000000 in
theorem sortedFunc_any (b Bm nn : Nat) (E : ByteArray → Option ByteArray) (w : World) (hM : MapE w b nn E) (hn : nn < 1099511627776) (hBm : Bm < w.heap.size) (hm : w.cell? ⟨Bm, 0, none⟩ = some (.map (some b))) :
    Calls Tryz.prog 149 #[.func (.func 174) #[] #[.pointer (some ⟨Bm, 0, none⟩)], .func (.func 151) #[] #[]] w fun e w' => ∃ (v : Value) (ps : List Pr), e = .returned v ∧ Is E ps ∧ w'.ownsRow w.heap.size 115 2 v ps.length (celsE ps) ∧ Fr [] w w' := by
  have HC : Hid _ := collect_values b Bm nn E w hM hn hBm hm
  clear hM hm
  go_enter Tryz.func149, Tryz.ntmps149
  go_wp2_with fail
  refine Calls.mono HC.out ?_
  rintro e w1 ⟨v, ps, rfl, hA, hrow, hF1⟩
  have HS : Hid _ := sortE_any w.heap.size v ps w1 hrow (by have := hA.2; omega)
  have HA : Hid (AllP E ps) := hA.1
  have HR : Hid (∀ k, v.ownBlock = some k → w.heap.size ≤ k) := fun k hk => (owns_cells hrow hk).1
  clear HC hA hrow
  go_wp2_with fail
  refine Calls.mono HS.out ?_
  rintro e w2 ⟨rfl, ds, hp, hs, hrow2, hF2⟩
  have HG : Hid (Is E ds ∧ w2.ownsRow w.heap.size 115 2 v ds.length (celsE ds) ∧ Fr [] w w2) := ⟨is_sorted HA.out hp hs, by rw [hp.length_eq]; exact hrow2, hF1.on hF2 (fun x hx => by simp only [Option.mem_toList] at hx; exact HR.out x hx)⟩
  clear HS HA HR hp hs hrow2 hF1 hF2
  go_wp2
  go_ret
  exact ⟨v, ds, rfl, HG.out⟩
theorem capplys_is : ∀ (ws : List Wt) (E : ByteArray → Option ByteArray) (ps : List Pr), Is E ps → ∃ qs, Is (capplys (fun _ => true) E ws) qs
  | [], E, ps, h => ⟨ps, h⟩
  | x :: ws, E, ps, h => by
    have h1 : Is (capply (fun _ => true) E x) (wrote ps x) := by unfold capply; rw [if_pos rfl]; exact h.write x
    exact capplys_is ws _ _ h1
theorem call_is : ∀ (l : List Tx) (E : ByteArray → Option ByteArray) (ps : List Pr), Is E ps → ∃ qs, Is (call (fun _ => true) E l) qs
  | [], E, ps, h => ⟨ps, h⟩
  | t :: l, E, ps, h => by
    obtain ⟨qs, hq⟩ := capplys_is t.ws E ps h
    exact call_is l _ _ hq
theorem fo_is (l : List Tx) : ∃ ps, Is (fo l) ps := call_is l _ _ Is.nil
/-- What Scan tells. -/
def ScTold (l : List Tx) (f : Int) (key en : ByteArray) (ps : List Pr) (c : Nat) : Prop :=
  CoTold l f c ∧ ((c ≠ 0 ∧ ps = []) ∨ (c = 0 ∧ Is (call (inS key en) (fun _ => none) (l.take f.toNat)) ps))
theorem ScTold.ex (l : List Tx) (f : Int) (key en : ByteArray) : ∃ ps c, ScTold l f key en ps c := by
  obtain ⟨c, hc⟩ := CoTold.ex l f
  by_cases h0 : c = 0
  · obtain ⟨ps, hp⟩ := fo_is (l.take f.toNat)
    exact ⟨_, c, hc, Or.inr ⟨h0, (hp.filter (inS key en)).cong (fun s => (call_fo _ _ s).symm)⟩⟩
  · exact ⟨[], c, hc, Or.inl ⟨h0, rfl⟩⟩
theorem own_shape2 {w : World} {base : Nat} {e : TypeId} {v : Value} {n : Nat} {xs : List Value} (h : w.ownsRow base e 2 v n xs) : ∃ ao cap, v = .slice ao n cap := by
  rcases h.2 with ⟨rfl, h0⟩ | ⟨g, cap, _, rfl, _⟩
  · exact ⟨none, 0, by rw [h0]⟩
  · exact ⟨_, cap, rfl⟩
set_option maxHeartbeats 4000000 in
set_option maxRecDepth 100000 in
theorem fScan_any (ao : Option Addr) (L cap : Nat) (f : Int) (key en : ByteArray) (ps : List Pr) (N c : Nat) (ts : List Tm) (w : World) (hT : TRs w ao ts) (hLe : L = ts.length) (hcap : L ≤ cap) (hf0 : -9223372036854775808 ≤ f) (hf1 : f ≤ 9223372036854775807) (h : ScTold (txs ts) f key en ps c) (hN : N = ps.length) :
    Calls Tryz.prog 97 #[.slice ao L cap, .int .i64 f, .string key, .string en] w fun e w' => ∃ ro rc, e = .returned (.tuple #[.slice ro N rc, .int .i64 (c : Int)]) ∧ EOut w w' ro N rc ps ∧ Fr [] w w' := by
  have HL : Hid (L = ts.length) := hLe
  have HI : Hid (∀ W, Fr [] w W → TRs W ao ts) := fun W hf => hT.keep hf
  obtain ⟨hc, ⟨h0, rfl⟩ | ⟨rfl, hI⟩⟩ := h
  · have HC : Hid (CoTold (txs ts) f c ∧ c ≠ 0) := ⟨hc, h0⟩
    have hcb : ((c : Int) != 0) = true := by rw [bne_iff_ne]; omega
    obtain rfl : N = 0 := hN
    clear hc h0 hLe
    go_enter Tryz.func97, Tryz.ntmps97
    go_wp2_with fail
    refine (stretch_any key en _).mono ?_
    rintro e w1 ⟨b, b2, rfl, hb, hb2, hbl, hbl2, hF1⟩
    go_wp2_with fail
    refine (comeS_no ao L cap f c ts b b2 key en _ (HI.out _ hF1) HL.out hf0 hf1 HC.out.1 HC.out.2).mono ?_
    rintro e w2 ⟨rfl, hF2⟩
    have hG := hF1.then hF2
    clear hb hbl hF1 hF2 hb2 hbl2
    go_wp2
    go_ret2
    exact ⟨none, 0, rfl, ⟨rfl, ⟨rfl, .inl ⟨rfl, rfl⟩⟩⟩, hG⟩
  · obtain ⟨hok, hfn, hfl⟩ := hc.ok0
    obtain ⟨f', rfl⟩ : ∃ f' : Nat, f = (f' : Int) := ⟨f.toNat, by omega⟩
    have HO : Hid (okL 1 (txs ts) ∧ f' ≤ L) := ⟨hok, by rw [txs_length] at hfl; omega⟩
    rw [Int.toNat_natCast] at hI
    obtain ⟨E, hE⟩ : ∃ E, E = call (inS key en) (fun _ => none) ((txs ts).take f') := ⟨_, rfl⟩
    rw [← hE] at hI
    have HIs : Hid (Is E ps ∧ N = ps.length) := ⟨hI, hN⟩
    clear hc hok hfl hfn hLe hI hN
    go_enter Tryz.func97, Tryz.ntmps97
    go_wp2_with fail
    refine (stretch_any key en _).mono ?_
    rintro e w1 ⟨b, b2, rfl, hb, hb2, hbl, hbl2, hF1⟩
    go_wp2_with fail
    refine (comeS_ok ao L cap f' ts b b2 key en _ (HI.out _ hF1) HL.out hcap hb hb2 HO.out.1 HO.out.2).mono ?_
    rintro e w2 ⟨m, rfl, hm, hM, hF2⟩
    rw [← hE] at hM
    have hG := hF1.then hF2
    clear hb hbl hF1 hF2 hE hb2 hbl2
    go_wp2_with fail
    refine (values_any _ _).mono ?_
    rintro e w3 ⟨rfl, hw3⟩
    have hF3 : Fr [] w2 w3 := by rw [hw3]; exact Fr.alloc _ _ _
    have hbx : w3.heap[w2.heap.size]? = some (.cells #[.map (some m)] 195 (0, 0)) := by rw [hw3]; exact heap_alloc_new _ _
    have hM3 := hM.keep hF3 (by simp)
    have hG3 := hG.then hF3
    have hcx : w3.cell? ⟨w2.heap.size, 0, none⟩ = some (.map (some m)) := by rw [cell_of_row _ _ _ _ _ _ hbx]; rfl
    have HS : Hid _ := sortedFunc_any m w2.heap.size 9000000 E w3 hM3 (by omega) (lt_of_block hbx) hcx
    clear hw3 hM hM3 hcx hbx hF3 hG
    go_wp2_with fail
    refine Calls.mono HS.out ?_
    rintro e w4 ⟨v, qs, rfl, hQ, hrow, hF4⟩
    have hqp : ps = qs := HIs.out.1.unique hQ
    subst hqp
    obtain ⟨ro, rc, rfl⟩ := own_shape2 hrow
    have HR : Hid (EOut w w4 ro N rc ps ∧ Fr [] w w4) := ⟨⟨HIs.out.2, by rw [HIs.out.2]; exact own_base hrow hG3.size⟩, hG3.then hF4⟩
    rw [← HIs.out.2]
    clear HS hQ hrow hF4 hG3 HIs
    go_wp2
    go_ret2
    exact ⟨ro, rc, rfl, HR.out⟩
theorem fStore_any (ao : Option Addr) (L cap : Nat) (f : Int) (ps : List Pr) (N c : Nat) (ts : List Tm) (w : World) (hT : TRs w ao ts) (hLe : L = ts.length) (hcap : L ≤ cap) (hf0 : -9223372036854775808 ≤ f) (hf1 : f ≤ 9223372036854775807) (h : ScTold (txs ts) f ⟨#[]⟩ ⟨#[]⟩ ps c) (hN : N = ps.length) :
    Calls Tryz.prog 35 #[.slice ao L cap, .int .i64 f] w fun e w' => ∃ ro rc, e = .returned (.tuple #[.slice ro N rc, .int .i64 (c : Int)]) ∧ EOut w w' ro N rc ps ∧ Fr [] w w' := by
  have HS : Hid _ := fScan_any ao L cap f ⟨#[]⟩ ⟨#[]⟩ ps N c ts w hT hLe hcap hf0 hf1 h hN
  clear hT hLe h hN
  go_enter Tryz.func35, Tryz.ntmps35
  go_wp2_with fail
  refine Calls.mono HS.out ?_
  rintro e w1 ⟨ro, rc, rfl, hE, hF⟩
  have HR : Hid (EOut w w1 ro N rc ps ∧ Fr [] w w1) := ⟨hE, hF⟩
  clear HS hE hF
  go_wp2
  go_ret2
  exact ⟨ro, rc, rfl, HR.out⟩
end Go.Proofs.YtaefninikmaiiaaGreatDoor
/- A row of entries as it is read; the document's place of a key in entries. Conditions as each names them. -/
namespace Go.Proofs.YtaefninikmaiiaaGreatDoor
open Go.ChangeShapes Go.WideShapes Go.ChangeAt Go.RowKit Go.Lib Go.Maps Go.Sort
set_option linter.unusedVariables false
set_option linter.unusedSimpArgs false

/-- A row of entries can be read. -/
structure ERs (w : World) (ro : Option Addr) (ps : List Pr) : Prop where
  few : ps.length < 1099511627776
  lies : 0 < ps.length → ∃ g cur, ro = some ⟨g, 0, none⟩ ∧ w.heap[g]? = some (.cells cur 115 (0, 0)) ∧ cur.toList.take (ps.length * 2) = celsE ps
theorem ERs.keep {w w' : World} {ro : Option Addr} {ps : List Pr} (h : ERs w ro ps) (hf : Fr [] w w') : ERs w' ro ps :=
  ⟨h.few, fun h0 => by obtain ⟨g, cur, e, hb, ht⟩ := h.lies h0; exact ⟨g, cur, e, hf.keep hb (by simp), ht⟩⟩
theorem ers_of {w : World} {base : Nat} {ro : Option Addr} {N rc : Nat} {ps : List Pr} (h : w.ownsRow base 115 2 (.slice ro N rc) N (celsE ps)) (hN : N = ps.length) (hf : ps.length < 1099511627776) : ERs w ro ps := by
  refine ⟨hf, fun h0 => ?_⟩
  rcases h.2 with ⟨_, h1⟩ | ⟨g, cap, cur, hv, _, hg, _, _, _, ht⟩
  · omega
  · cases hv
    exact ⟨g, cur, rfl, hg, by rw [← hN]; exact ht⟩
def e0 : Pr := (⟨#[]⟩, ⟨#[]⟩)
theorem celsE_get (ps : List Pr) (i : Nat) (h : i < ps.length) : (celsE ps)[i * 2]? = some (.string (ps.getD i e0).1) ∧ (celsE ps)[i * 2 + 1]? = some (.string (ps.getD i e0).2) := by
  have a := celsE_at ps (i * 2) (by omega)
  have b := celsE_at ps (i * 2 + 1) (by omega)
  have e1 : i * 2 / 2 = i := by omega
  have e2 : i * 2 % 2 = 0 := by omega
  have e3 : (i * 2 + 1) / 2 = i := by omega
  have e4 : (i * 2 + 1) % 2 = 1 := by omega
  rw [e1, e2] at a
  rw [e3, e4] at b
  rw [a, b]
  simp [celE, List.getD, h]
theorem ERs.at {w : World} {ro : Option Addr} {ps : List Pr} (h : ERs w ro ps) (i : Nat) (hi : i < ps.length) : ∃ g, ro = some ⟨g, 0, none⟩ ∧ w.cell? ⟨g, i * 2, none⟩ = some (.string (ps.getD i e0).1) ∧ w.cell? ⟨g, i * 2 + 1, none⟩ = some (.string (ps.getD i e0).2) := by
  obtain ⟨g, cur, e, hb, ht⟩ := h.lies (by omega)
  obtain ⟨a, b⟩ := celsE_get ps i hi
  refine ⟨g, e, ?_, ?_⟩
  · rw [cell_of_row _ _ _ _ _ _ hb, ← Array.getElem?_toList, ← a, ← ht, List.getElem?_take_of_lt (by omega)]
  · rw [cell_of_row _ _ _ _ _ _ hb, ← Array.getElem?_toList, ← b, ← ht, List.getElem?_take_of_lt (by omega)]
/-- What place tells: the first that is not ahead of the key; is it the key's? -/
structure PlT (ps : List Pr) (key : ByteArray) (i : Nat) (ok : Bool) : Prop where
  le : i ≤ ps.length
  lo : ∀ j, j < i → Op.bytesLess (ps.getD j e0).1.toList key.toList = true
  hi : ∀ j, i ≤ j → j < ps.length → Op.bytesLess (ps.getD j e0).1.toList key.toList = false
  is : ok = true ↔ i < ps.length ∧ (ps.getD i e0).1 = key
theorem inc_getD {ps : List Pr} (h : Inc ps) {i j : Nat} (hij : i < j) (hj : j < ps.length) : Op.bytesLess (ps.getD i e0).1.toList (ps.getD j e0).1.toList = true := by
  have := List.pairwise_iff_getElem.1 h i j (by omega) hj hij
  simpa [List.getD, hj, show i < ps.length by omega] using this
set_option maxHeartbeats 4000000 in
set_option maxRecDepth 100000 in
theorem zplace_any (ro : Option Addr) (N rc : Nat) (ps : List Pr) (key : ByteArray) (w : World) (hE : ERs w ro ps) (hN : N = ps.length) (hInc : Inc ps) :
    Calls Tryz.prog 176 #[.slice ro N rc, .string key] w fun e w' => ∃ (i : Nat) (ok : Bool), e = .returned (.tuple #[.int .i64 (i : Int), .bool ok]) ∧ PlT ps key i ok ∧ Fr [] w w' := by
  have HN : Hid (N = ps.length) := hN
  have HI : Hid (Inc ps) := hInc
  have hNf : N < 1099511627776 := by rw [hN]; exact hE.few
  clear hN hInc
  go_enter Tryz.func176, Tryz.ntmps176
  go_wp2_with fail
  go_loop [6, 7, 8] (fun ll hh _ => ∃ (lo hi : Nat), ll = .int .i64 lo ∧ hh = .int .i64 hi ∧ lo ≤ hi ∧ hi ≤ N ∧ Hid (∀ j, j < lo → Op.bytesLess (ps.getD j e0).1.toList key.toList = true) ∧ Hid (∀ j, hi ≤ j → j < ps.length → Op.bytesLess (ps.getD j e0).1.toList key.toList = false)) (fun ll hh _ => (RowKit.intOf hh).toNat - (RowKit.intOf ll).toNat)
  case atStart => exact ⟨0, N, rfl, rfl, Nat.zero_le _, Nat.le_refl _, fun j hj => by omega, fun j h1 h2 => by have := HN.out; omega⟩
  case round =>
    obtain ⟨lo, hi, rfl, rfl, hlh, hhN, HLo, HHi⟩ := hrel
    by_cases hlt : lo < hi
    · have hmb : lo ≤ (lo + hi) / 2 ∧ (lo + hi) / 2 < hi := by omega
      obtain ⟨g, rfl, d0, d1⟩ := hE.at ((lo + hi) / 2) (by have := HN.out; omega)
      obtain ⟨y, hyy⟩ : ∃ y, y = ps.getD ((lo + hi) / 2) e0 := ⟨_, rfl⟩
      rw [← hyy] at d0 d1
      have HY : Hid (y = ps.getD ((lo + hi) / 2) e0) := hyy
      clear hyy
      obtain ⟨k2, v2⟩ := y
      simp only at d0 d1
      cases hB : Op.bytesLess k2.toList key.toList with
      | true =>
        have HLo2 : Hid (∀ j, j < (lo + hi) / 2 + 1 → Op.bytesLess (ps.getD j e0).1.toList key.toList = true) := by
          intro j hj
          by_cases hji : j = (lo + hi) / 2
          · subst hji; rw [← HY.out]; exact hB
          · have a := inc_getD HI.out (show j < (lo + hi) / 2 by omega) (by have := HN.out; omega)
            rw [← HY.out] at a
            exact bl_trans a hB
        go_wp2
        refine ⟨⟨(lo + hi) / 2 + 1, hi, congrArg _ (by omega), rfl, by omega, hhN, HLo2, HHi⟩, ?_⟩
        simp only [RowKit.intOf]
        omega
      | false =>
        have HHi2 : Hid (∀ j, (lo + hi) / 2 ≤ j → j < ps.length → Op.bytesLess (ps.getD j e0).1.toList key.toList = false) := by
          intro j h1 h2
          by_cases hji : j = (lo + hi) / 2
          · subst hji; rw [← HY.out]; exact hB
          · have a := inc_getD HI.out (show (lo + hi) / 2 < j by omega) h2
            rw [← HY.out] at a
            exact bl_ntrans (bl_asymm a) hB
        go_wp2
        refine ⟨⟨lo, (lo + hi) / 2, rfl, congrArg _ (by omega), by omega, by omega, HLo, HHi2⟩, ?_⟩
        simp only [RowKit.intOf]
        omega
    · obtain rfl : lo = hi := by omega
      by_cases hlN : lo < N
      · obtain ⟨g, rfl, d0, d1⟩ := hE.at lo (by have := HN.out; omega)
        obtain ⟨y, hyy⟩ : ∃ y, y = ps.getD lo e0 := ⟨_, rfl⟩
        rw [← hyy] at d0 d1
        have HY : Hid (y = ps.getD lo e0) := hyy
        clear hyy
        obtain ⟨k2, v2⟩ := y
        simp only at d0 d1
        obtain ⟨Q, hQ⟩ : ∃ Q, (k2.toList == key.toList) = Q := ⟨_, rfl⟩
        have HPl : Hid (PlT ps key lo Q) := by
          refine ⟨by have := HN.out; omega, HLo.out, HHi.out, ?_⟩
          rw [← hQ, ← HY.out, beq_iff_eq, tl_inj]
          exact ⟨fun h => ⟨by have := HN.out; omega, h⟩, fun h => h.2⟩
        go_wp2_with fail
        have hd : decide ((lo : Int) < (N : Int)) = true := by simp; omega
        go_quiet (fail)
        all_goals (
          go_wp2
          go_ret2
          exact ⟨lo, Q, rfl, HPl.out, Fr.drewN [] w _⟩)
      · obtain rfl : lo = N := by omega
        have HPl : Hid (PlT ps key lo false) := by
          refine ⟨by have := HN.out; omega, HLo.out, HHi.out, ?_⟩
          constructor
          · intro h; cases h
          · intro h; have := HN.out; omega
        go_wp2_with fail
        have hd : decide ((lo : Int) < (lo : Int)) = false := by simp
        go_quiet (fail)
        all_goals (
          go_wp2
          go_ret2
          exact ⟨lo, false, rfl, HPl.out, Fr.drewN [] w _⟩)
end Go.Proofs.YtaefninikmaiiaaGreatDoor
/- The document's write to entries. Conditions as each names them. -/
namespace Go.Proofs.YtaefninikmaiiaaGreatDoor
open Go.ChangeShapes Go.WideShapes Go.ChangeAt Go.RowKit Go.Lib Go.Maps Go.Sort
set_option linter.unusedVariables false
set_option linter.unusedSimpArgs false

theorem Tryz.undEnsE : Tryz.prog.underlying 75 = some (.slice (Tryz.prog.elem 75)) := by kernel_rfl
theorem Tryz.elemEns : Tryz.prog.elem 75 = 115 := by kernel_rfl
theorem celsE_append (ps qs : List Pr) : celsE (ps ++ qs) = celsE ps ++ celsE qs := by simp [celsE]
theorem celsE_ones (ps : List Pr) : ∀ u ∈ celsE ps, u.oneCell' = true := by
  intro u hu
  obtain ⟨p, _, hp⟩ := List.mem_flatMap.1 hu
  exact celE_one p u hp
/-- Some entries of a row, as an append takes them. -/
structure ESl (w : World) (xo : Option Addr) (m : Nat) (rs : List Pr) : Prop where
  len : m = rs.length
  lies : ∀ ad, xo = some ad → ∀ j u, (celsE rs)[j]? = some u → w.cell? (ad.add j) = some u
  none : xo = none → m = 0
theorem ERs.cells {w : World} {ro : Option Addr} {ps : List Pr} (h : ERs w ro ps) {j : Nat} {u : Value} (hu : (celsE ps)[j]? = some u) : ∃ g, ro = some ⟨g, 0, none⟩ ∧ w.cell? ⟨g, j, none⟩ = some u := by
  have hj : j < (celsE ps).length := (List.getElem?_eq_some_iff.1 hu).1
  rw [celsE_length] at hj
  obtain ⟨g, cur, e, hb, ht⟩ := h.lies (by omega)
  refine ⟨g, e, ?_⟩
  rw [cell_of_row _ _ _ _ _ _ hb, ← Array.getElem?_toList, ← hu, ← ht, List.getElem?_take_of_lt (by omega)]
theorem addr_add (g j k : Nat) : (⟨g, j, none⟩ : Addr).add k = ⟨g, j + k, none⟩ := by
  unfold Addr.add
  by_cases h : k = 0 <;> simp [h]
theorem ERs.take {w : World} {ro : Option Addr} {ps : List Pr} (h : ERs w ro ps) (i : Nat) (hi : i ≤ ps.length) : ESl w ro i (ps.take i) := by
  refine ⟨by simp; omega, ?_, ?_⟩
  · intro ad e j u hu
    have hu2 : (celsE ps)[j]? = some u := by
      rw [← List.take_append_drop i ps, celsE_append, List.getElem?_append_left (List.getElem?_eq_some_iff.1 hu).1]
      exact hu
    obtain ⟨g, e2, hc⟩ := h.cells hu2
    rw [e] at e2
    cases e2
    rw [addr_add, Nat.zero_add]
    exact hc
  · intro e
    rcases Nat.eq_zero_or_pos ps.length with h0 | h0
    · omega
    · obtain ⟨g, _, e2, _⟩ := h.lies h0
      rw [e] at e2
      cases e2
/-- A row from a place on. -/
def fromA (ro : Option Addr) (rc K : Nat) : Option Addr := if rc = K then ro else ro.map (·.add (K * 2))
theorem ERs.drop {w : World} {ro : Option Addr} {ps : List Pr} (h : ERs w ro ps) (rc K : Nat) (hK : K ≤ ps.length) (hrc : ps.length ≤ rc) : ESl w (fromA ro rc K) (ps.length - K) (ps.drop K) := by
  refine ⟨by simp, ?_, ?_⟩
  · intro ad e j u hu
    have hj := (List.getElem?_eq_some_iff.1 hu).1
    rw [celsE_length, List.length_drop] at hj
    have hu2 : (celsE ps)[K * 2 + j]? = some u := by
      have e1 : celsE ps = celsE (ps.take K) ++ celsE (ps.drop K) := by rw [← celsE_append, List.take_append_drop]
      have e2 : (celsE (ps.take K)).length = K * 2 := by rw [celsE_length, List.length_take]; omega
      rw [e1, List.getElem?_append_right (by omega), e2]
      have e3 : K * 2 + j - K * 2 = j := by omega
      rw [e3]
      exact hu
    obtain ⟨g, e2, hc⟩ := h.cells hu2
    unfold fromA at e
    rw [if_neg (by omega), e2] at e
    simp only [Option.map_some, Option.some.injEq] at e
    rw [← e, addr_add, addr_add, Nat.zero_add]
    exact hc
  · intro e
    rcases Nat.eq_zero_or_pos (ps.length - K) with h0 | h0
    · exact h0
    · obtain ⟨g, _, e2, _⟩ := h.lies (by omega)
      unfold fromA at e
      rw [if_neg (by omega), e2] at e
      cases e
theorem slE_h (ro : Option Addr) (N rc i : Nat) (h1 : i ≤ rc) (w : World) : (Instr.sliceAt 75 (.slice ro N rc) none (some (.int .i64 (i : Int))) none).run Tryz.prog w = .ok (.slice ro i rc) w := by
  rw [run_sliceAt_slice w 75 _ _ _ _ Tryz.undEnsE, run_slice_h w 75 _ _ _ Tryz.undEnsE .i64 (i : Int) (by omega) (by omega), Tryz.elemEns, Tryz.sizeOfEn]
  cases ro <;> simp [Result.andThen, sliced, Addr.add]
theorem slE_l (ro : Option Addr) (N rc K : Nat) (k : Int) (hk : k = (K : Int)) (h1 : K ≤ N) (w : World) : (Instr.sliceAt 75 (.slice ro N rc) (some (.int .i64 k)) none none).run Tryz.prog w = .ok (.slice (fromA ro rc K) (N - K) (rc - K)) w := by
  subst hk
  rw [run_sliceAt_slice w 75 _ _ _ _ Tryz.undEnsE, run_slice_l w 75 _ _ _ Tryz.undEnsE .i64 (K : Int) (by omega) (by omega), Tryz.elemEns, Tryz.sizeOfEn]
  simp [Result.andThen, sliced, fromA]
theorem run_append_noneB {P : Program} (w : World) (t ty e : TypeId) (i : TypeInfo) (size c base : Nat) (ht : P.underlying t = some (.slice e)) (hi : P.info? e = some i)
    (v : Value) (n : Nat) (xs : List Value) (hown : w.ownsRow base e size v n xs) :
    (Builtin.append_ #[t, t] ty #[v, .slice none 0 c]).run P w = .ok v w := by
  rcases hown.2 with ⟨rfl, rfl⟩ | ⟨g, cap, cur, rfl, _, _, hnc, _⟩
  · simp [Builtin.append_, run_underlying ht, sizeOf, typeInfo, hi, Builtin.lenOf, Builtin.firstCells]
  · simp [Builtin.append_, run_underlying ht, sizeOf, typeInfo, hi, Builtin.lenOf, Builtin.firstCells, hnc, storeCells]
theorem esl_new (w : World) (x : Pr) : ESl (w.alloc (.cells #[.string x.1, .string x.2] 115)) (some ⟨w.heap.size, 0, none⟩) 1 [x] :=
  ⟨rfl, fun ad e j u hu => by cases e; exact new2_cells w x j u (by simpa [celsE, celE] using hu), fun h => by cases h⟩
/-- Entries of a row, behind a row of one's own. -/
theorem wpList_appE (w : World) {ops : Array Oper} {rest : List Oper} {o : Oper} {a : Act} {Q : Exit → Act → World → Prop} (hgd : o.guard = none) (s x : Operand)
    (ho : o.op = .call { callee := .builtin .append, args := #[s, x], argTypes := #[75, 75] })
    (base : Nat) (v : Value) (qs : List Pr) (hs : a.eval s = v) (hown : w.ownsRow base 115 2 v qs.length (celsE qs))
    (xo : Option Addr) (m c : Nat) (rs : List Pr) (hx : a.eval x = .slice xo m c) (hB : ESl w xo m rs) (hn : qs.length + m < 2199023255552) (hbase : base ≤ w.heap.size)
    (h : ∀ bo n' cap' w', n' = (qs ++ rs).length → w'.ownsRow base 115 2 (.slice bo n' cap') n' (celsE (qs ++ rs)) → Fr v.ownBlock.toList w w' → wpList Tryz.prog ops Q rest (a.put o.dst (.slice bo n' cap')) w') : wpList Tryz.prog ops Q (o :: rest) a w := by
  obtain ⟨i0, hi, hz0, hz1, hz2⟩ := Tryz.infoEn'
  have hl : (celsE rs).length = m * 2 := by rw [celsE_length, hB.len]; omega
  have hmx : 2199023255552 ≤ maxLen := by unfold maxLen; omega
  cases xo with
  | none =>
    refine wpList_plain hgd fun K hK => ?_
    obtain rfl : m = 0 := hB.none rfl
    have hrs : rs = [] := List.eq_nil_of_length_eq_zero hB.len.symm
    subst hrs
    have hr := run_append_noneB (P := Tryz.prog) w 75 o.type 115 i0 2 c base Tryz.undEns hi v qs.length (celsE qs) hown
    obtain ⟨bo, cap', rfl⟩ := own_shape2 hown
    unfold Oper.wp execOp
    simp only [ho, resolve, invoke, builtin, Sem.run_bind, Sem.run_pure, Result.andThen_ok, List.map_toArray, List.map_cons, List.map_nil, hs, hx, hr]
    exact hK _ _ (h bo _ cap' w (by simp) (by simpa using hown) (Fr.refl _ _))
  | some ad =>
    refine wpList_append_own w hgd s x 75 ho base 115 i0 _ 2 32 Tryz.undEns hi hz0 hz1 hz2 rfl (by decide) v qs.length (celsE qs) hs hown ad m c (celsE rs) hx hl (hB.lies ad rfl) (celsE_ones rs) (by omega) (by omega) hbase ?_
    intro v' w' hown' hg' _
    have hlen : (qs ++ rs).length = qs.length + m := by rw [List.length_append, hB.len]
    obtain ⟨bo, cap', rfl⟩ := own_shape2 hown'
    exact h bo _ cap' w' hlen.symm (by rw [celsE_append]; exact hown') (Fr.grown hg' (fun y hy _ => Option.mem_toList.2 hy))
theorem filt_lo {ps : List Pr} {key : ByteArray} {i : Nat} {ok : Bool} (h : PlT ps key i ok) : ps.filter (fun p => Op.bytesLess p.1.toList key.toList) = ps.take i := by
  rw [← List.take_append_drop i ps, List.filter_append]
  have h1 : (ps.take i).filter (fun p => Op.bytesLess p.1.toList key.toList) = ps.take i := by
    refine List.filter_eq_self.2 fun p hp => ?_
    obtain ⟨j, hj, e⟩ := List.mem_iff_getElem.1 hp
    have hj' : j < i ∧ j < ps.length := by simp at hj; omega
    have := h.lo j hj'.1
    simp only [List.getD, List.getElem?_eq_getElem hj'.2, Option.getD_some] at this
    rw [← e]
    simpa using this
  have h2 : (ps.drop i).filter (fun p => Op.bytesLess p.1.toList key.toList) = [] := by
    refine List.filter_eq_nil_iff.2 fun p hp => ?_
    obtain ⟨j, hj, e⟩ := List.mem_iff_getElem.1 hp
    have hj' : i + j < ps.length := by simp at hj; omega
    have := h.hi (i + j) (by omega) hj'
    simp only [List.getD, List.getElem?_eq_getElem hj', Option.getD_some] at this
    rw [← e]
    simpa using this
  rw [h1, h2]
  simp
theorem filt_hi {ps : List Pr} {key : ByteArray} {i : Nat} {ok : Bool} (h : PlT ps key i ok) (hI : Inc ps) : ps.filter (fun p => Op.bytesLess key.toList p.1.toList) = ps.drop (if ok = true then i + 1 else i) := by
  have key1 : ∀ K, K ≤ ps.length → (∀ j, j < K → Op.bytesLess key.toList (ps.getD j e0).1.toList = false) → (∀ j, K ≤ j → j < ps.length → Op.bytesLess key.toList (ps.getD j e0).1.toList = true) → ps.filter (fun p => Op.bytesLess key.toList p.1.toList) = ps.drop K := by
    intro K hK a b
    conv => lhs; rw [← List.take_append_drop K ps, List.filter_append]
    have h1 : (ps.take K).filter (fun p => Op.bytesLess key.toList p.1.toList) = [] := by
      refine List.filter_eq_nil_iff.2 fun p hp => ?_
      obtain ⟨j, hj, e⟩ := List.mem_iff_getElem.1 hp
      have hj' : j < K ∧ j < ps.length := by simp at hj; omega
      have := a j hj'.1
      simp only [List.getD, List.getElem?_eq_getElem hj'.2, Option.getD_some] at this
      rw [← e]
      simpa using this
    have h2 : (ps.drop K).filter (fun p => Op.bytesLess key.toList p.1.toList) = ps.drop K := by
      refine List.filter_eq_self.2 fun p hp => ?_
      obtain ⟨j, hj, e⟩ := List.mem_iff_getElem.1 hp
      have hj' : K + j < ps.length := by simp at hj; omega
      have := b (K + j) (by omega) hj'
      simp only [List.getD, List.getElem?_eq_getElem hj', Option.getD_some] at this
      rw [← e]
      simpa using this
    rw [h1, h2]
    simp
  have ne : ∀ j, i ≤ j → j < ps.length → (ps.getD j e0).1 ≠ key → Op.bytesLess key.toList (ps.getD j e0).1.toList = true := by
    intro j h1 h2 h3
    cases hb : Op.bytesLess key.toList (ps.getD j e0).1.toList with
    | true => rfl
    | false =>
      exfalso
      exact h3 ((tl_inj _ _).1 (bl_eq (h.hi j h1 h2) hb))
  by_cases hok : ok = true
  · rw [if_pos hok]
    obtain ⟨h1, h2⟩ := h.is.1 hok
    refine key1 (i + 1) (by omega) ?_ ?_
    · intro j hj
      by_cases e : j = i
      · subst e; rw [h2]; exact bl_irrefl _
      · exact bl_asymm (h.lo j (by omega))
    · intro j h3 h4
      have := inc_getD hI (show i < j by omega) h4
      rw [h2] at this
      exact this
  · rw [if_neg hok]
    refine key1 i h.le (fun j hj => bl_asymm (h.lo j hj)) ?_
    intro j h3 h4
    refine ne j h3 h4 fun e => ?_
    by_cases e2 : j = i
    · subst e2; exact hok (h.is.2 ⟨h4, e⟩)
    · have a := inc_getD hI (show i < j by omega) h4
      rw [e] at a
      rw [h.hi i (Nat.le_refl _) (by omega)] at a
      cases a
end Go.Proofs.YtaefninikmaiiaaGreatDoor
/- The document's Write to entries: its walk. Conditions as it names them. -/
namespace Go.Proofs.YtaefninikmaiiaaGreatDoor
open Go.ChangeShapes Go.WideShapes Go.ChangeAt Go.RowKit Go.Lib Go.Maps Go.Sort
set_option linter.unusedVariables false
set_option linter.unusedSimpArgs false

set_option maxHeartbeats 8000000 in
set_option maxRecDepth 100000 in
theorem zWrite_any (ro : Option Addr) (N rc : Nat) (ps : List Pr) (key val : ByteArray) (drop : Bool) (w : World) (hE : ERs w ro ps) (hN : N = ps.length) (hrc : N ≤ rc) (hInc : Inc ps) :
    Calls Tryz.prog 152 #[.slice ro N rc, .agg #[.string key, .string val, .bool drop]] w fun e w' => ∃ ro' N' rc', e = .returned (.slice ro' N' rc') ∧ EOut w w' ro' N' rc' (wrote ps ⟨key, val, drop⟩) ∧ Fr [] w w' := by
  have HN : Hid (N = ps.length) := hN
  have HI : Hid (Inc ps) := hInc
  have hNf : N < 1099511627776 := by rw [hN]; exact hE.few
  have HE : Hid (∀ W, Fr [] w W → ERs W ro ps) := fun W hf => hE.keep hf
  obtain ⟨w0, HW0⟩ : ∃ w0, Hid (w.alloc (.cells #[.string key, .string val, .bool drop] 124) = w0) := ⟨_, rfl⟩
  have hF0 : Fr [] w w0 := by rw [← HW0.out]; exact Fr.alloc [] w _
  have hb0 : w0.heap[w.heap.size]? = some (.cells #[.string key, .string val, .bool drop] 124 (0, 0)) := by rw [← HW0.out]; exact heap_alloc_new w _
  have hnil : ∀ W : World, W.ownsRow w.heap.size 115 2 (.slice none 0 0) ([] : List Pr).length (celsE []) := fun W => ⟨rfl, .inl ⟨rfl, rfl⟩⟩
  have HW : Hid (w0.heap[w.heap.size]? = some (.cells #[.string key, .string val, .bool drop] 124 (0, 0))) := hb0
  have c0 : w0.cell? ⟨w.heap.size, 0, none⟩ = some (.string key) := by rw [cell_of_row _ _ _ _ _ _ hb0]; rfl
  obtain ⟨kb, hkb⟩ : ∃ kb, kb = w.heap.size := ⟨_, rfl⟩
  clear hE hN hInc hb0
  go_enter Tryz.func152, Tryz.ntmps152
  go_upto_region 1 with fail
  rw [HW0.out]
  go_wp2_with fail
  refine (zplace_any ro N rc ps key _ (HE.out _ hF0) HN.out HI.out).mono ?_
  rintro e w1 ⟨i, ok, rfl, hP, hF1⟩
  have hG1 := hF0.then hF1
  have hiN : i ≤ N := by rw [HN.out]; exact hP.le
  have HP : Hid (PlT ps key i ok) := hP
  have hb1 := hF1.keep HW.out (by simp)
  have d0 : w1.cell? ⟨w.heap.size, 0, none⟩ = some (.string key) := by rw [cell_of_row _ _ _ _ _ _ hb1]; rfl
  have HB1 : Hid (w1.heap[w.heap.size]? = some (.cells #[.string key, .string val, .bool drop] 124 (0, 0))) := hb1
  have hs1 := slE_h ro N rc i (by omega)
  have hsz1 : w.heap.size ≤ w1.heap.size := hG1.size
  have HT1 : Hid (ESl w1 ro i (ps.take i)) := (HE.out _ hG1).take i hP.le
  have HQ : Hid (wrote ps ⟨key, val, drop⟩ = ps.take i ++ (if drop = true then [] else [(key, val)]) ++ ps.drop (if ok = true then i + 1 else i)) := by
    show wrote _ _ = _
    unfold wrote
    rw [filt_lo hP, filt_hi hP HI.out]
  have HOk : Hid (ok = true → i + 1 ≤ N) := fun h => by have := (hP.is.1 h).1; have := HN.out; omega
  clear hP hF1 c0 HW0 HW hb1
  cases drop <;> cases ok
  · have hKN : i ≤ N := hiN
    have hs2 := slE_l ro N rc (i) ((i : Int)) (by omega) hKN
    go_wp2_with (first
      | (at_builtin; refine wpList_appE _ rfl _ _ rfl w.heap.size (.slice none 0 0) [] rfl (hnil _) ro i rc (ps.take i) rfl HT1.out (by simp; omega) hsz1 ?_
         intro bo n1 cap1 w2 hn1 hO2 hF2
         have hG2 : Fr [] w w2 := hG1.then hF2
         have hb2 := hG2.size
         have hl1 : n1 ≤ N := by rw [hn1]; simp; have := HN.out; omega
         have hbx : w2.heap[w.heap.size]? = some (.cells #[.string key, .string val, .bool false] 124 (0, 0)) := Fr.keep hF2 HB1.out (by simp [Value.ownBlock])
         have g0 : w2.cell? ⟨w.heap.size, 0, none⟩ = some (.string key) := by rw [cell_of_row _ _ _ _ _ _ hbx]; rfl
         have g1 : w2.cell? ⟨w.heap.size, 1, none⟩ = some (.string val) := by rw [cell_of_row _ _ _ _ _ _ hbx]; rfl
         have g2 : w2.cell? ⟨w.heap.size, 2, none⟩ = some (.bool false) := by rw [cell_of_row _ _ _ _ _ _ hbx]; rfl
         go_frame)
      | (at_builtin; refine wpList_appE _ rfl _ _ rfl w.heap.size (.slice bo n1 cap1) ([] ++ ps.take i) rfl (by rw [← hn1]; exact owns_keepB hO2 (Fr.alloc [] w2 _) (by simp)) (some ⟨w2.heap.size, 0, none⟩) 1 1 [(key, val)] rfl (esl_new w2 (key, val)) (by rw [← hn1]; omega) (by simp; omega) ?_
         intro bo2 n2 cap2 w3 hn2 hO3 hF3
         have hG3 : Fr [] w w3 := (hG2.then (Fr.alloc [] w2 _)).on hF3 (fun y hy => (owns_cells hO2 (Option.mem_toList.1 hy)).1)
         have hb3 := hG3.size
         have hl2 : n2 ≤ N + 1 := by rw [hn2, List.length_append, ← hn1]; simp; omega
         go_frame)
      | (at_builtin; refine wpList_appE _ rfl _ _ rfl w.heap.size (.slice bo2 n2 cap2) (([] ++ ps.take i) ++ [(key, val)]) rfl (by rw [← hn2]; exact hO3) (fromA ro rc (i)) (N - (i)) (rc - (i)) (ps.drop (i)) rfl (by have h9 := (HE.out _ hG3).drop rc (i) (by rw [← HN.out]; exact hKN) (by rw [← HN.out]; exact hrc); rw [← HN.out] at h9; exact h9) (by rw [← hn2]; omega) hb3 ?_
         intro bo9 n9 cap9 w9 hn9 hO9 hF9
         have hG9 : Fr [] w w9 := (hG3).on hF9 (fun y hy => (owns_cells hO3 (Option.mem_toList.1 hy)).1)
         go_frame))
    go_ret
    refine ⟨bo9, n9, cap9, rfl, ⟨?_, ?_⟩, hG9⟩
    · rw [HQ.out, hn9]; simp
    · rw [HQ.out]; simpa using hO9
  · have hKN : i + 1 ≤ N := HOk.out rfl
    have hs2 := slE_l ro N rc (i + 1) ((i : Int) + 1) (by omega) hKN
    go_wp2_with (first
      | (at_builtin; refine wpList_appE _ rfl _ _ rfl w.heap.size (.slice none 0 0) [] rfl (hnil _) ro i rc (ps.take i) rfl HT1.out (by simp; omega) hsz1 ?_
         intro bo n1 cap1 w2 hn1 hO2 hF2
         have hG2 : Fr [] w w2 := hG1.then hF2
         have hb2 := hG2.size
         have hl1 : n1 ≤ N := by rw [hn1]; simp; have := HN.out; omega
         have hbx : w2.heap[w.heap.size]? = some (.cells #[.string key, .string val, .bool false] 124 (0, 0)) := Fr.keep hF2 HB1.out (by simp [Value.ownBlock])
         have g0 : w2.cell? ⟨w.heap.size, 0, none⟩ = some (.string key) := by rw [cell_of_row _ _ _ _ _ _ hbx]; rfl
         have g1 : w2.cell? ⟨w.heap.size, 1, none⟩ = some (.string val) := by rw [cell_of_row _ _ _ _ _ _ hbx]; rfl
         have g2 : w2.cell? ⟨w.heap.size, 2, none⟩ = some (.bool false) := by rw [cell_of_row _ _ _ _ _ _ hbx]; rfl
         go_frame)
      | (at_builtin; refine wpList_appE _ rfl _ _ rfl w.heap.size (.slice bo n1 cap1) ([] ++ ps.take i) rfl (by rw [← hn1]; exact owns_keepB hO2 (Fr.alloc [] w2 _) (by simp)) (some ⟨w2.heap.size, 0, none⟩) 1 1 [(key, val)] rfl (esl_new w2 (key, val)) (by rw [← hn1]; omega) (by simp; omega) ?_
         intro bo2 n2 cap2 w3 hn2 hO3 hF3
         have hG3 : Fr [] w w3 := (hG2.then (Fr.alloc [] w2 _)).on hF3 (fun y hy => (owns_cells hO2 (Option.mem_toList.1 hy)).1)
         have hb3 := hG3.size
         have hl2 : n2 ≤ N + 1 := by rw [hn2, List.length_append, ← hn1]; simp; omega
         go_frame)
      | (at_builtin; refine wpList_appE _ rfl _ _ rfl w.heap.size (.slice bo2 n2 cap2) (([] ++ ps.take i) ++ [(key, val)]) rfl (by rw [← hn2]; exact hO3) (fromA ro rc (i + 1)) (N - (i + 1)) (rc - (i + 1)) (ps.drop (i + 1)) rfl (by have h9 := (HE.out _ hG3).drop rc (i + 1) (by rw [← HN.out]; exact hKN) (by rw [← HN.out]; exact hrc); rw [← HN.out] at h9; exact h9) (by rw [← hn2]; omega) hb3 ?_
         intro bo9 n9 cap9 w9 hn9 hO9 hF9
         have hG9 : Fr [] w w9 := (hG3).on hF9 (fun y hy => (owns_cells hO3 (Option.mem_toList.1 hy)).1)
         go_frame))
    go_ret
    refine ⟨bo9, n9, cap9, rfl, ⟨?_, ?_⟩, hG9⟩
    · rw [HQ.out, hn9]; simp
    · rw [HQ.out]; simpa using hO9
  · have hKN : i ≤ N := hiN
    have hs2 := slE_l ro N rc (i) ((i : Int)) (by omega) hKN
    go_wp2_with (first
      | (at_builtin; refine wpList_appE _ rfl _ _ rfl w.heap.size (.slice none 0 0) [] rfl (hnil _) ro i rc (ps.take i) rfl HT1.out (by simp; omega) hsz1 ?_
         intro bo n1 cap1 w2 hn1 hO2 hF2
         have hG2 : Fr [] w w2 := hG1.then hF2
         have hb2 := hG2.size
         have hl1 : n1 ≤ N := by rw [hn1]; simp; have := HN.out; omega
         have hbx : w2.heap[w.heap.size]? = some (.cells #[.string key, .string val, .bool true] 124 (0, 0)) := Fr.keep hF2 HB1.out (by simp [Value.ownBlock])
         have g0 : w2.cell? ⟨w.heap.size, 0, none⟩ = some (.string key) := by rw [cell_of_row _ _ _ _ _ _ hbx]; rfl
         have g1 : w2.cell? ⟨w.heap.size, 1, none⟩ = some (.string val) := by rw [cell_of_row _ _ _ _ _ _ hbx]; rfl
         have g2 : w2.cell? ⟨w.heap.size, 2, none⟩ = some (.bool true) := by rw [cell_of_row _ _ _ _ _ _ hbx]; rfl
         go_frame)
      | (at_builtin; refine wpList_appE _ rfl _ _ rfl w.heap.size (.slice bo n1 cap1) ([] ++ ps.take i) rfl (by rw [← hn1]; exact hO2) (fromA ro rc (i)) (N - (i)) (rc - (i)) (ps.drop (i)) rfl (by have h9 := (HE.out _ hG2).drop rc (i) (by rw [← HN.out]; exact hKN) (by rw [← HN.out]; exact hrc); rw [← HN.out] at h9; exact h9) (by rw [← hn1]; omega) hb2 ?_
         intro bo9 n9 cap9 w9 hn9 hO9 hF9
         have hG9 : Fr [] w w9 := (hG2).on hF9 (fun y hy => (owns_cells hO2 (Option.mem_toList.1 hy)).1)
         go_frame))
    go_ret
    refine ⟨bo9, n9, cap9, rfl, ⟨?_, ?_⟩, hG9⟩
    · rw [HQ.out, hn9]; simp
    · rw [HQ.out]; simpa using hO9
  · have hKN : i + 1 ≤ N := HOk.out rfl
    have hs2 := slE_l ro N rc (i + 1) ((i : Int) + 1) (by omega) hKN
    go_wp2_with (first
      | (at_builtin; refine wpList_appE _ rfl _ _ rfl w.heap.size (.slice none 0 0) [] rfl (hnil _) ro i rc (ps.take i) rfl HT1.out (by simp; omega) hsz1 ?_
         intro bo n1 cap1 w2 hn1 hO2 hF2
         have hG2 : Fr [] w w2 := hG1.then hF2
         have hb2 := hG2.size
         have hl1 : n1 ≤ N := by rw [hn1]; simp; have := HN.out; omega
         have hbx : w2.heap[w.heap.size]? = some (.cells #[.string key, .string val, .bool true] 124 (0, 0)) := Fr.keep hF2 HB1.out (by simp [Value.ownBlock])
         have g0 : w2.cell? ⟨w.heap.size, 0, none⟩ = some (.string key) := by rw [cell_of_row _ _ _ _ _ _ hbx]; rfl
         have g1 : w2.cell? ⟨w.heap.size, 1, none⟩ = some (.string val) := by rw [cell_of_row _ _ _ _ _ _ hbx]; rfl
         have g2 : w2.cell? ⟨w.heap.size, 2, none⟩ = some (.bool true) := by rw [cell_of_row _ _ _ _ _ _ hbx]; rfl
         go_frame)
      | (at_builtin; refine wpList_appE _ rfl _ _ rfl w.heap.size (.slice bo n1 cap1) ([] ++ ps.take i) rfl (by rw [← hn1]; exact hO2) (fromA ro rc (i + 1)) (N - (i + 1)) (rc - (i + 1)) (ps.drop (i + 1)) rfl (by have h9 := (HE.out _ hG2).drop rc (i + 1) (by rw [← HN.out]; exact hKN) (by rw [← HN.out]; exact hrc); rw [← HN.out] at h9; exact h9) (by rw [← hn1]; omega) hb2 ?_
         intro bo9 n9 cap9 w9 hn9 hO9 hF9
         have hG9 : Fr [] w w9 := (hG2).on hF9 (fun y hy => (owns_cells hO2 (Option.mem_toList.1 hy)).1)
         go_frame))
    go_ret
    refine ⟨bo9, n9, cap9, rfl, ⟨?_, ?_⟩, hG9⟩
    · rw [HQ.out, hn9]; simp
    · rw [HQ.out]; simpa using hO9
end Go.Proofs.YtaefninikmaiiaaGreatDoor
/- The document's fold, Store, Get, Stretch and Scan. Conditions as each names them. -/
namespace Go.Proofs.YtaefninikmaiiaaGreatDoor
open Go.ChangeShapes Go.WideShapes Go.ChangeAt Go.RowKit Go.Lib Go.Maps Go.Sort
set_option linter.unusedVariables false
set_option linter.unusedSimpArgs false

theorem filt_two {α : Type} (p q : α → Bool) (h : ∀ x, p x = true → q x = false) : ∀ l : List α, (l.filter p).length + (l.filter q).length ≤ l.length
  | [] => by simp
  | x :: l => by
    have ih := filt_two p q h l
    cases hp : p x with
    | true => simp [hp, h x hp]; omega
    | false =>
      cases hq : q x with
      | true => simp [hp, hq]; omega
      | false => simp [hp, hq]; omega
theorem wrote_length (ps : List Pr) (x : Wt) : (wrote ps x).length ≤ ps.length + 1 := by
  have h := filt_two (fun p : Pr => Op.bytesLess p.1.toList x.key.toList) (fun p : Pr => Op.bytesLess x.key.toList p.1.toList) (fun p hp => bl_asymm hp) ps
  unfold wrote
  rw [List.length_append, List.length_append]
  have : (if x.drop = true then ([] : List Pr) else [(x.key, x.val)]).length ≤ 1 := by by_cases hd : x.drop = true <;> simp [hd]
  omega
theorem EOut.ers {w w' : World} {ro : Option Addr} {N rc : Nat} {ps : List Pr} (h : EOut w w' ro N rc ps) (hf : ps.length < 1099511627776) : ERs w' ro ps := ers_of h.row h.len hf
theorem EOut.cap {w w' : World} {ro : Option Addr} {N rc : Nat} {ps : List Pr} (h : EOut w w' ro N rc ps) : N ≤ rc := by
  rcases h.row.2 with ⟨e, h0⟩ | ⟨g, cap, _, e, _, _, h1, _⟩
  · omega
  · cases e; exact h1
theorem EOut.later {w w' w'' : World} {ro : Option Addr} {N rc : Nat} {ps : List Pr} (h : EOut w' w'' ro N rc ps) (hs : w.heap.size ≤ w'.heap.size) : EOut w w'' ro N rc ps := ⟨h.len, own_base h.row hs⟩
theorem EOut.keep {w w' w'' : World} {ro : Option Addr} {N rc : Nat} {ps : List Pr} (h : EOut w w' ro N rc ps) (hf : Fr [] w' w'') : EOut w w'' ro N rc ps := ⟨h.len, owns_keepB h.row hf (by simp)⟩
theorem fo_snoc (l : List Tx) (t : Tx) : fo (l ++ [t]) = capplys (fun _ => true) (fo l) t.ws := call_snoc _ _ _ _
theorem txs_take_snoc (ts : List Tm) (i : Nat) (h : i < ts.length) : (txs ts).take (i + 1) = (txs ts).take i ++ [(ts.getD i Tm.zero).tx] := by
  rw [List.take_add_one]
  simp [txs, List.getD, h]
set_option maxHeartbeats 8000000 in
set_option maxRecDepth 100000 in
theorem zfold_any (ao : Option Addr) (L cap f : Nat) (ts : List Tm) (w : World) (hT : TRs w ao ts) (hLe : L = ts.length) (hok : okL 1 (txs ts)) (hf : f ≤ L) :
    Calls Tryz.prog 99 #[.slice ao L cap, .int .i64 (f : Int)] w fun e w' => ∃ ro N rc ps, e = .returned (.slice ro N rc) ∧ EOut w w' ro N rc ps ∧ Is (fo ((txs ts).take f)) ps ∧ ps.length < 1099511627776 ∧ Fr [] w w' := by
  have HL : Hid (L = ts.length) := hLe
  have HI : Hid (∀ W, Fr [] w W → TRs W ao ts) := fun W hf => hT.keep hf
  have hL2 : L ≤ 65536 := by have := okL_few hok; rw [txs_length] at this; omega
  have HNn : Hid (∀ t ∈ ts, t.L ≤ 32 ∧ ∀ x ∈ t.ws, x.key.size ≤ 64) := fun t ht => by
    have ho : okT t.n t.ws := okL_mem hok t.tx (List.mem_map.2 ⟨t, ht, rfl⟩)
    have ha := hT.each t ht
    exact ⟨by rw [ha.len]; exact ho.2.2.1, fun x hx => (ho.2.2.2 x hx).2.1⟩
  clear hLe hT hok
  go_enter Tryz.func99, Tryz.ntmps99
  go_wp2_with fail
  go_loopw [5, 6] (fun vv ii wr => ∃ (i N rc : Nat) (ro : Option Addr) (ps : List Pr), vv = .slice ro N rc ∧ ii = .int .i64 i ∧ i ≤ f ∧ Hid (EOut w wr ro N rc ps) ∧ Hid (Is (fo ((txs ts).take i)) ps ∧ ps.length ≤ i * 32) ∧ Fr [] w wr) (fun _ ii _ => f - (RowKit.intOf ii).toNat)
  case atStart => exact ⟨0, 0, 0, none, [], rfl, rfl, Nat.zero_le _, ⟨rfl, ⟨rfl, .inl ⟨rfl, rfl⟩⟩⟩, ⟨Is.nil, by simp⟩, Fr.refl _ _⟩
  case round =>
    obtain ⟨i, N, rc, ro, ps, rfl, rfl, hif, HO, HS, hFr⟩ := hrel
    obtain ⟨wo, hwo⟩ : ∃ wo, wo = wr := ⟨_, rfl⟩
    subst hwo
    by_cases hi : i < f
    · have hi' : i < ts.length := by rw [← HL.out]; omega
      obtain ⟨bb, off, rfl, hbl, hc⟩ := (HI.out _ hFr).lies (by omega)
      have hx := hc i hi'
      have hat := (HI.out _ hFr).each _ (tgetD_mem ts i hi')
      have hm := HNn.out _ (tgetD_mem ts i hi')
      obtain ⟨x, hxx⟩ : ∃ x, x = ts.getD i Tm.zero := ⟨_, rfl⟩
      rw [← hxx] at hx hat hm
      have HX : Hid (x = ts.getD i Tm.zero) := hxx
      clear hxx hc
      obtain ⟨n, xo, M, cm, ws⟩ := x
      obtain ⟨c0, c1⟩ := hx
      simp only at c0 c1 hm
      have hM32 : M ≤ 32 := hm.1
      have HML : Hid (M = ws.length) := hat.len
      have HWR : Hid (∀ W, Fr [] wo W → WRs W xo ws ∧ W.cell? ⟨bb, off + i * 2 + 1, none⟩ = some (.slice xo M cm)) := fun W hf => ⟨hat.rs.keep hf, (World.cell?_of_block (hf.block bb hbl (by simp))).trans c1⟩
      clear hat hm c0 c1
      go_wp2_with fail
      go_loopw [5, 7] (fun vv kk wq => ∃ (k N rc : Nat) (ro : Option Addr) (qs : List Pr), vv = .slice ro N rc ∧ kk = .int .i64 k ∧ k ≤ M ∧ Hid (EOut w wq ro N rc qs) ∧ Hid (Is (capplys (fun _ => true) (fo ((txs ts).take i)) (ws.take k)) qs ∧ qs.length ≤ i * 32 + k) ∧ Hid (Fr [] wo wq) ∧ wq.cell? ⟨bb, off + i * 2 + 1, none⟩ = some (.slice xo M cm)) (fun _ kk _ => M - (RowKit.intOf kk).toNat)
      case atStart => exact ⟨0, N, rc, ro, ps, rfl, rfl, Nat.zero_le _, HO, ⟨HS.out.1, by have := HS.out.2; omega⟩, Fr.refl _ _, (HWR.out _ (Fr.refl _ _)).2⟩
      case round =>
        obtain ⟨k, N2, rc2, ro2, qs, rfl, rfl, hkM, HO2, HS2, HF2, hcx⟩ := hrel
        by_cases hk : k < M
        · have hk' : k < ws.length := by rw [← HML.out]; exact hk
          obtain ⟨b2, o2, e2, _, hc2⟩ := (HWR.out _ HF2.out).1.lies (by omega)
          obtain ⟨d0, d1, d2⟩ := hc2 k hk'
          obtain ⟨y, hyy⟩ : ∃ y, y = ws.getD k Wt.zero := ⟨_, rfl⟩
          rw [← hyy] at d0 d1 d2
          have HY : Hid (y = ws.getD k Wt.zero) := hyy
          clear hyy hc2
          obtain ⟨k2, v2, p2⟩ := y
          simp only at d0 d1 d2
          subst e2
          have hq1 : qs.length < 1099511627776 := by have := HS2.out.2; omega
          have HC : Hid _ := zWrite_any ro2 N2 rc2 qs k2 v2 p2 wr (HO2.out.ers hq1) HO2.out.len HO2.out.cap HS2.out.1.inc
          go_wp2_with fail
          refine Calls.mono HC.out ?_
          rintro e w3 ⟨ro3, N3, rc3, rfl, hO3, hF3⟩
          have HF3 : Hid (Fr [] wo w3) := HF2.out.then hF3
          have hcx3 := (HWR.out _ HF3.out).2
          have HO3 : Hid (EOut w w3 ro3 N3 rc3 (wrote qs ⟨k2, v2, p2⟩)) := hO3.later (Nat.le_trans hFr.size HF2.out.size)
          have HS3 : Hid (Is (capplys (fun _ => true) (fo ((txs ts).take i)) (ws.take (k + 1))) (wrote qs ⟨k2, v2, p2⟩) ∧ (wrote qs ⟨k2, v2, p2⟩).length ≤ i * 32 + (k + 1)) := by
            refine ⟨?_, by have := wrote_length qs ⟨k2, v2, p2⟩; have := HS2.out.2; omega⟩
            rw [wtake_snoc ws k hk', capplys_snoc, ← HY.out]
            unfold capply
            rw [if_pos rfl]
            exact HS2.out.1.write _
          clear HC HO2 HS2 HF2 hO3 hF3 d0 d1 d2 hcx
          go_wp2
          go_roundw
          case rel => exact ⟨k + 1, N3, rc3, ro3, _, rfl, by simp, by omega, HO3, HS3, HF3, hcx3⟩
          case measure => simp [RowKit.intOf]; omega
        · obtain rfl : k = M := by omega
          have HFw : Hid (Fr [] w wr) := hFr.then HF2.out
          have HS4 : Hid (Is (fo ((txs ts).take (i + 1))) qs ∧ qs.length ≤ (i + 1) * 32) := by
            refine ⟨?_, by have := HS2.out.2; omega⟩
            have e1 := HS2.out.1
            rw [HML.out, List.take_length] at e1
            rw [txs_take_snoc ts i hi', fo_snoc, ← HX.out]
            exact e1
          clear HO HS HS2 HF2
          go_wp2
          go_roundw
          case rel => exact ⟨i + 1, N2, rc2, ro2, qs, rfl, by simp, by omega, HO2, HS4, HFw.out⟩
          case measure => simp [RowKit.intOf]; omega
    · obtain rfl : i = f := by omega
      go_wp2
      go_ret
      exact ⟨ro, N, rc, ps, rfl, HO.out, HS.out.1, by have := HS.out.2; omega, hFr⟩
end Go.Proofs.YtaefninikmaiiaaGreatDoor
/- The document's Store, Get, Stretch and Scan. Conditions as each names them. -/
namespace Go.Proofs.YtaefninikmaiiaaGreatDoor
open Go.ChangeShapes Go.WideShapes Go.ChangeAt Go.RowKit Go.Lib Go.Maps Go.Sort
set_option linter.unusedVariables false
set_option linter.unusedSimpArgs false

theorem inS_all2 (s : ByteArray) : inS ⟨#[]⟩ ⟨#[]⟩ s = true := by
  have hE0 : (⟨#[]⟩ : ByteArray).toList = [] := (tl_nil _).2 rfl
  unfold inS
  rw [hE0]
  cases s.toList <;> simp [Op.bytesLess]
set_option maxHeartbeats 4000000 in
set_option maxRecDepth 100000 in
theorem zStore_any (ao : Option Addr) (L cap : Nat) (f : Int) (ps : List Pr) (N c : Nat) (ts : List Tm) (w : World) (hT : TRs w ao ts) (hLe : L = ts.length) (hf0 : -9223372036854775808 ≤ f) (hf1 : f ≤ 9223372036854775807) (h : ScTold (txs ts) f ⟨#[]⟩ ⟨#[]⟩ ps c) (hN : N = ps.length) :
    Calls Tryz.prog 36 #[.slice ao L cap, .int .i64 f] w fun e w' => ∃ ro rc, e = .returned (.tuple #[.slice ro N rc, .int .i64 (c : Int)]) ∧ EOut w w' ro N rc ps ∧ ps.length < 1099511627776 ∧ Fr [] w w' := by
  have HL : Hid (L = ts.length) := hLe
  have HI : Hid (∀ W, Fr [] w W → TRs W ao ts) := fun W hf => hT.keep hf
  obtain ⟨hc, ⟨h0, rfl⟩ | ⟨rfl, hI⟩⟩ := h
  · obtain rfl : N = 0 := hN
    rcases hc with ⟨hb, _⟩ | ⟨hok, hb, rfl⟩ | ⟨_, _, h1⟩
    · have HB : Hid (Bad 1 (txs ts) c) := hb
      have hcb : ((c : Int) != 0) = true := by rw [bne_iff_ne]; omega
      clear hb h0 hLe
      go_enter Tryz.func36, Tryz.ntmps36
      go_wp2_with fail
      refine (zcheck_any ao L cap c ts _ hT HL.out HB.out).mono ?_
      rintro e w1 ⟨rfl, hF1⟩
      go_wp2
      go_ret2
      exact ⟨none, 0, rfl, ⟨rfl, ⟨rfl, .inl ⟨rfl, rfl⟩⟩⟩, by simp, hF1⟩
    · have HK : Hid (okL 1 (txs ts)) := hok
      have hL2 : L ≤ 65536 := by have := okL_few hok; rw [txs_length] at this; omega
      rw [txs_length, ← hLe] at hb
      clear hok hLe h0
      by_cases h1 : f < 0
      · have h1' : decide (f < 0) = true := by simpa using h1
        go_enter Tryz.func36, Tryz.ntmps36
        go_wp2_with fail
        refine (zcheck_any ao L cap 0 ts _ hT HL.out (okL_bad HK.out)).mono ?_
        rintro e w1 ⟨rfl, hF1⟩
        go_wp2
        go_ret2
        exact ⟨none, 0, rfl, ⟨rfl, ⟨rfl, .inl ⟨rfl, rfl⟩⟩⟩, by simp, hF1⟩
      · have h3 : (L : Int) < f := by
          by_cases h3 : (L : Int) < f
          · exact h3
          · exact absurd ⟨by omega, by omega⟩ hb
        go_enter Tryz.func36, Tryz.ntmps36
        go_wp2_with fail
        refine (zcheck_any ao L cap 0 ts _ hT HL.out (okL_bad HK.out)).mono ?_
        rintro e w1 ⟨rfl, hF1⟩
        go_wp2
        go_ret2
        exact ⟨none, 0, rfl, ⟨rfl, ⟨rfl, .inl ⟨rfl, rfl⟩⟩⟩, by simp, hF1⟩
    · exact absurd h1 h0
  · obtain ⟨hok, hfn, hfl⟩ := hc.ok0
    obtain ⟨f', rfl⟩ : ∃ f' : Nat, f = (f' : Int) := ⟨f.toNat, by omega⟩
    have HO : Hid (okL 1 (txs ts)) := hok
    have hfL : f' ≤ L := by rw [txs_length] at hfl; omega
    have hL2 : L ≤ 65536 := by have := okL_few hok; rw [txs_length] at this; omega
    rw [Int.toNat_natCast] at hI
    have HIs : Hid (Is (fo ((txs ts).take f')) ps ∧ N = ps.length) := ⟨hI.cong (fun s => by rw [call_fo, if_pos (inS_all2 s)]), hN⟩
    clear hc hok hfl hfn hLe hI hN
    go_enter Tryz.func36, Tryz.ntmps36
    go_wp2_with fail
    refine (zcheck_any ao L cap 0 ts _ hT HL.out (okL_bad HO.out)).mono ?_
    rintro e w1 ⟨rfl, hF1⟩
    have HC : Hid _ := zfold_any ao L cap f' ts w1 (HI.out _ hF1) HL.out HO.out hfL
    go_wp2_with fail
    refine Calls.mono HC.out ?_
    rintro e w2 ⟨ro, N2, rc, qs, rfl, hO, hQ, hql, hF2⟩
    have hqp : qs = ps := hQ.unique HIs.out.1
    have hNN : N2 = N := by rw [hO.len, HIs.out.2, hqp]
    subst hNN
    have HR : Hid (EOut w w2 ro N2 rc ps ∧ ps.length < 1099511627776 ∧ Fr [] w w2) := ⟨by rw [← hqp]; exact hO.later hF1.size, by rw [← hqp]; exact hql, hF1.then hF2⟩
    clear HC hO hQ hql hqp hF2 HIs
    go_wp2
    go_ret2
    exact ⟨ro, rc, rfl, HR.out⟩
end Go.Proofs.YtaefninikmaiiaaGreatDoor
/- The document's Scan and Get; entries that are the same. Conditions as each names them. -/
namespace Go.Proofs.YtaefninikmaiiaaGreatDoor
open Go.ChangeShapes Go.WideShapes Go.ChangeAt Go.RowKit Go.Lib Go.Maps Go.Sort
set_option linter.unusedVariables false
set_option linter.unusedSimpArgs false

theorem ScTold.all {l : List Tx} {f : Int} {key en : ByteArray} {ps : List Pr} {c : Nat} (h : ScTold l f key en ps c) : ∃ qs, ScTold l f ⟨#[]⟩ ⟨#[]⟩ qs c ∧ ps = qs.filter fun p => inS key en p.1 := by
  obtain ⟨hc, ⟨h0, rfl⟩ | ⟨rfl, hI⟩⟩ := h
  · exact ⟨[], ⟨hc, Or.inl ⟨h0, rfl⟩⟩, rfl⟩
  · obtain ⟨qs, hq⟩ := fo_is (l.take f.toNat)
    refine ⟨qs, ⟨hc, Or.inr ⟨rfl, hq.cong (fun s => by rw [call_fo, if_pos (inS_all2 s)])⟩⟩, ?_⟩
    exact hI.unique ((hq.filter (inS key en)).cong (fun s => (call_fo _ _ s).symm))
set_option maxHeartbeats 4000000 in
set_option maxRecDepth 100000 in
theorem sameEntries_any (ro ro' : Option Addr) (N rc rc' : Nat) (ps : List Pr) (w : World) (h1 : ERs w ro ps) (h2 : ERs w ro' ps) (hN : N = ps.length) :
    Calls Tryz.prog 37 #[.slice ro N rc, .slice ro' N rc'] w fun e w' => e = .returned (.bool true) ∧ Fr [] w w' := by
  have HN : Hid (N = ps.length) := hN
  have hNf : N < 1099511627776 := by rw [hN]; exact h1.few
  have HE : Hid (∀ W, Fr [] w W → ERs W ro ps ∧ ERs W ro' ps) := fun W hf => ⟨h1.keep hf, h2.keep hf⟩
  clear hN h1 h2
  go_enter Tryz.func37, Tryz.ntmps37
  go_wp2_with fail
  go_loopw [5] (fun ii wr => ∃ (i : Nat), ii = .int .i64 i ∧ i ≤ N ∧ Fr [] w wr) (fun ii _ => N - (RowKit.intOf ii).toNat)
  case atStart => exact ⟨0, rfl, Nat.zero_le _, Fr.refl _ _⟩
  case round =>
    obtain ⟨i, rfl, hiN, hFr⟩ := hrel
    by_cases hi : i < N
    · have hi' : i < ps.length := by rw [← HN.out]; exact hi
      obtain ⟨g, rfl, d0, d1⟩ := (HE.out _ hFr).1.at i hi'
      obtain ⟨g', rfl, d2, d3⟩ := (HE.out _ hFr).2.at i hi'
      obtain ⟨⟨k2, v2⟩, hyy⟩ : ∃ y, y = ps.getD i e0 := ⟨_, rfl⟩
      rw [← hyy] at d0 d1 d2 d3
      simp only at d0 d1 d2 d3
      clear hyy
      go_wp2_with fail
      go_quiet (fail)
      go_wp2
      exact ⟨⟨i + 1, by simp, by omega, hFr.then (Fr.drewN _ _ _)⟩, by simp [RowKit.intOf]; omega⟩
    · go_wp2
      go_ret
      exact ⟨rfl, hFr⟩
theorem okK_iff (key : ByteArray) : okK key = true ↔ 1 ≤ key.size ∧ key.size ≤ 64 := by
  unfold okK
  simp only [Bool.and_eq_true, Bool.not_eq_true', beq_eq_false_iff_ne, decide_eq_true_eq, ne_eq, tl_nil]
  omega
/-- What place tells of a key is what the map says. -/
theorem place_fo {E : ByteArray → Option ByteArray} {ps : List Pr} {key : ByteArray} {i : Nat} {ok : Bool} (h : Is E ps) (hP : PlT ps key i ok) : (ok = true ∧ i < ps.length ∧ E key = some (ps.getD i e0).2) ∨ (ok = false ∧ E key = none) := by
  cases ok with
  | true =>
    obtain ⟨h1, h2⟩ := hP.is.1 rfl
    refine Or.inl ⟨rfl, h1, ?_⟩
    have hm : ps.getD i e0 ∈ ps := by simp [List.getD, h1]
    have := (h.mem _).1 hm
    rw [h2] at this
    exact this
  | false =>
    refine Or.inr ⟨rfl, ?_⟩
    cases hE : E key with
    | none => rfl
    | some v =>
      exfalso
      have hm := (h.mem (key, v)).2 hE
      obtain ⟨j, hj, e⟩ := List.mem_iff_getElem.1 hm
      have hg : (ps.getD j e0).1 = key := by simp [List.getD, hj, e]
      have hij : j = i := by
        rcases Nat.lt_trichotomy j i with h1 | h1 | h1
        · have := hP.lo j h1
          rw [hg, bl_irrefl] at this
          cases this
        · exact h1
        · have a := inc_getD h.inc h1 hj
          rw [hg] at a
          rw [hP.hi i (Nat.le_refl _) (by omega)] at a
          cases a
      subst hij
      have := hP.is.2 ⟨hj, hg⟩
      cases this
end Go.Proofs.YtaefninikmaiiaaGreatDoor
