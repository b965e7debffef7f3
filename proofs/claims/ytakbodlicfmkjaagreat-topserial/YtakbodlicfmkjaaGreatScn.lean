/- Contracts of slices.SortedFunc of a map's entries, of fold's Scan and Store. Conditions as each names them. -/
import Derived.Test.YtakbodlicfmkjaaGreatSrt
import Derived.Test.YtakbodlicfmkjaaGreatSto7
import Derived.Test.YtakbodlicfmkjaaGreatGt7
import Derived.Shelf.SlSortCmp.NoneTotal
namespace Go.Proofs.YtakbodlicfmkjaaGreat.Fo
open Go.ChangeShapes Go.WideShapes Go.ChangeAt Go.RowKit Go.Lib Go.Maps Go.Sort Go.Shelf
set_option linter.unusedVariables false
set_option linter.unusedSimpArgs false

/-- A row of entries of its own. -/
structure EOut (w w' : World) (ro : Option Addr) (N rc : Nat) (ps : List Pr) : Prop where
  len : N = ps.length
  row : w'.ownsRow w.heap.size 61 2 (.slice ro N rc) N (celsE ps)
theorem own_base {w : World} {base base' : Nat} {e : TypeId} {size : Nat} {v : Value} {n : Nat} {xs : List Value} (h : w.ownsRow base e size v n xs) (hb : base' ≤ base) : w.ownsRow base' e size v n xs := by
  refine ⟨h.1, ?_⟩
  rcases h.2 with h0 | ⟨g, cap, cur, hv, hg, hr⟩
  · exact Or.inl h0
  · exact Or.inr ⟨g, cap, cur, hv, by omega, hr⟩
theorem sortE_any (base : Nat) (v : Value) (ps : List Pr) (w : World) (hrow : w.ownsRow base 61 2 v ps.length (celsE ps)) (hlen : ps.length < 1099511627776) :
    Calls Tryz.prog 73 #[v, .func (.func 41) #[] #[]] w fun e w' => e = .returned (.tuple #[]) ∧ ∃ ds, ds.Perm ps ∧ Sd ds ∧ w'.ownsRow base 61 2 v ps.length (celsE ds) ∧ Fr v.ownBlock.toList w w' := by
  rcases hrow.2 with ⟨rfl, h0⟩ | ⟨g, cap, cur, rfl, _⟩
  · have hcon := AnyF.slices_SortFunc_none Tryz.sortEn none 0 (.func (.func 41) #[] #[]) w
    change Calls Tryz.prog 73 _ _ _ at hcon
    obtain rfl : ps = [] := List.eq_nil_of_length_eq_zero h0
    refine hcon.mono ?_
    rintro e w' ⟨rfl, rfl⟩
    exact ⟨rfl, [], List.Perm.refl _, List.Pairwise.nil, hrow, Fr.refl _ _⟩
  · exact sortE_some base g cap ps w hrow hlen
set_option maxHeartbeats 1000000 in
theorem sortedFunc_any (b Bm nn : Nat) (E : ByteArray → Option ByteArray) (w : World) (hM : MapE w b nn E) (hn : nn < 1099511627776) (hBm : Bm < w.heap.size) (hm : w.cell? ⟨Bm, 0, none⟩ = some (.map (some b))) :
    Calls Tryz.prog 39 #[.func (.func 74) #[] #[.pointer (some ⟨Bm, 0, none⟩)], .func (.func 41) #[] #[]] w fun e w' => ∃ (v : Value) (ps : List Pr), e = .returned v ∧ Is E ps ∧ w'.ownsRow w.heap.size 61 2 v ps.length (celsE ps) ∧ Fr [] w w' := by
  have HC : Hid _ := collect_values b Bm nn E w hM hn hBm hm
  clear hM hm
  go_enter Tryz.func39, Tryz.ntmps39
  go_wp2_with fail
  refine Calls.mono HC.out ?_
  rintro e w1 ⟨v, ps, rfl, hA, hrow, hF1⟩
  have HS : Hid _ := sortE_any w.heap.size v ps w1 hrow (by have := hA.2; omega)
  have HA : Hid (AllP E ps) := hA.1
  have HR : Hid (∀ k, v.ownBlock = some k → w.heap.size ≤ k) := fun k hk => (owns_cells hrow hk).1
  clear HC hA hrow
  go_wp2_with fail
  refine Calls.mono HS.out ?_
  rintro e w2 ⟨rfl, ds, hp, hs, hrow2, hF2⟩
  have HG : Hid (Is E ds ∧ w2.ownsRow w.heap.size 61 2 v ds.length (celsE ds) ∧ Fr [] w w2) := ⟨is_sorted HA.out hp hs, by rw [hp.length_eq]; exact hrow2, hF1.on hF2 (fun x hx => by simp only [Option.mem_toList] at hx; exact HR.out x hx)⟩
  clear HS HA HR hp hs hrow2 hF1 hF2
  go_wp2
  go_ret
  exact ⟨v, ds, rfl, HG.out⟩
theorem capplys_is : ∀ (ws : List Wt) (E : ByteArray → Option ByteArray) (ps : List Pr), Is E ps → ∃ qs, Is (capplys (fun _ => true) E ws) qs
  | [], E, ps, h => ⟨ps, h⟩
  | x :: ws, E, ps, h => by
    have h1 : Is (capply (fun _ => true) E x) (wrote ps x) := by unfold capply; rw [if_pos rfl]; exact h.write x
    exact capplys_is ws _ _ h1
theorem call_is : ∀ (l : List Tx) (E : ByteArray → Option ByteArray) (ps : List Pr), Is E ps → ∃ qs, Is (call (fun _ => true) E l) qs
  | [], E, ps, h => ⟨ps, h⟩
  | t :: l, E, ps, h => by
    obtain ⟨qs, hq⟩ := capplys_is t.ws E ps h
    exact call_is l _ _ hq
theorem fo_is (l : List Tx) : ∃ ps, Is (fo l) ps := call_is l _ _ Is.nil
/-- What Scan tells. -/
def ScTold (l : List Tx) (f : Int) (key en : ByteArray) (ps : List Pr) (c : Nat) : Prop :=
  CoTold l f c ∧ ((c ≠ 0 ∧ ps = []) ∨ (c = 0 ∧ Is (call (inS key en) (fun _ => none) (l.take f.toNat)) ps))
theorem ScTold.ex (l : List Tx) (f : Int) (key en : ByteArray) : ∃ ps c, ScTold l f key en ps c := by
  obtain ⟨c, hc⟩ := CoTold.ex l f
  by_cases h0 : c = 0
  · obtain ⟨ps, hp⟩ := fo_is (l.take f.toNat)
    exact ⟨_, c, hc, Or.inr ⟨h0, (hp.filter (inS key en)).cong (fun s => (call_fo _ _ s).symm)⟩⟩
  · exact ⟨[], c, hc, Or.inl ⟨h0, rfl⟩⟩
theorem own_shape2 {w : World} {base : Nat} {e : TypeId} {v : Value} {n : Nat} {xs : List Value} (h : w.ownsRow base e 2 v n xs) : ∃ ao cap, v = .slice ao n cap := by
  rcases h.2 with ⟨rfl, h0⟩ | ⟨g, cap, _, rfl, _⟩
  · exact ⟨none, 0, by rw [h0]⟩
  · exact ⟨_, cap, rfl⟩
set_option maxHeartbeats 4000000 in
set_option maxRecDepth 100000 in
theorem fScan_any (ao : Option Addr) (L cap : Nat) (f : Int) (key en : ByteArray) (ps : List Pr) (N c : Nat) (ts : List Tm) (w : World) (hT : TRs w ao ts) (hLe : L = ts.length) (hcap : L ≤ cap) (hf0 : -9223372036854775808 ≤ f) (hf1 : f ≤ 9223372036854775807) (h : ScTold (txs ts) f key en ps c) (hN : N = ps.length) :
    Calls Tryz.prog 20 #[.slice ao L cap, .int .i64 f, .string key, .string en] w fun e w' => ∃ ro rc, e = .returned (.tuple #[.slice ro N rc, .int .i64 (c : Int)]) ∧ EOut w w' ro N rc ps ∧ Fr [] w w' := by
  have HL : Hid (L = ts.length) := hLe
  have HI : Hid (∀ W, Fr [] w W → TRs W ao ts) := fun W hf => hT.keep hf
  obtain ⟨hc, ⟨h0, rfl⟩ | ⟨rfl, hI⟩⟩ := h
  · have HC : Hid (CoTold (txs ts) f c ∧ c ≠ 0) := ⟨hc, h0⟩
    have hcb : ((c : Int) != 0) = true := by rw [bne_iff_ne]; omega
    obtain rfl : N = 0 := hN
    clear hc h0 hLe
    go_enter Tryz.func20, Tryz.ntmps20
    go_wp2_with fail
    refine (stretch_any key en _).mono ?_
    rintro e w1 ⟨b, b2, rfl, hb, hb2, hbl, hbl2, hF1⟩
    go_wp2_with fail
    refine (comeS_no ao L cap f c ts b b2 key en _ (HI.out _ hF1) HL.out hf0 hf1 HC.out.1 HC.out.2).mono ?_
    rintro e w2 ⟨rfl, hF2⟩
    have hG := hF1.then hF2
    clear hb hbl hF1 hF2 hb2 hbl2
    go_wp2
    go_ret2
    exact ⟨none, 0, rfl, ⟨rfl, ⟨rfl, .inl ⟨rfl, rfl⟩⟩⟩, hG⟩
  · obtain ⟨hok, hfn, hfl⟩ := hc.ok0
    obtain ⟨f', rfl⟩ : ∃ f' : Nat, f = (f' : Int) := ⟨f.toNat, by omega⟩
    have HO : Hid (okL 1 (txs ts) ∧ f' ≤ L) := ⟨hok, by rw [txs_length] at hfl; omega⟩
    rw [Int.toNat_natCast] at hI
    obtain ⟨E, hE⟩ : ∃ E, E = call (inS key en) (fun _ => none) ((txs ts).take f') := ⟨_, rfl⟩
    rw [← hE] at hI
    have HIs : Hid (Is E ps ∧ N = ps.length) := ⟨hI, hN⟩
    clear hc hok hfl hfn hLe hI hN
    go_enter Tryz.func20, Tryz.ntmps20
    go_wp2_with fail
    refine (stretch_any key en _).mono ?_
    rintro e w1 ⟨b, b2, rfl, hb, hb2, hbl, hbl2, hF1⟩
    go_wp2_with fail
    refine (comeS_ok ao L cap f' ts b b2 key en _ (HI.out _ hF1) HL.out hcap hb hb2 HO.out.1 HO.out.2).mono ?_
    rintro e w2 ⟨m, rfl, hm, hM, hF2⟩
    rw [← hE] at hM
    have hG := hF1.then hF2
    clear hb hbl hF1 hF2 hE hb2 hbl2
    go_wp2_with fail
    refine (values_any _ _).mono ?_
    rintro e w3 ⟨rfl, hw3⟩
    have hF3 : Fr [] w2 w3 := by rw [hw3]; exact Fr.alloc _ _ _
    have hbx : w3.heap[w2.heap.size]? = some (.cells #[.map (some m)] 108 (0, 0)) := by rw [hw3]; exact heap_alloc_new _ _
    have hM3 := hM.keep hF3 (by simp)
    have hG3 := hG.then hF3
    have hcx : w3.cell? ⟨w2.heap.size, 0, none⟩ = some (.map (some m)) := by rw [cell_of_row _ _ _ _ _ _ hbx]; rfl
    have HS : Hid _ := sortedFunc_any m w2.heap.size 9000000 E w3 hM3 (by omega) (lt_of_block hbx) hcx
    clear hw3 hM hM3 hcx hbx hF3 hG
    go_wp2_with fail
    refine Calls.mono HS.out ?_
    rintro e w4 ⟨v, qs, rfl, hQ, hrow, hF4⟩
    have hqp : ps = qs := HIs.out.1.unique hQ
    subst hqp
    obtain ⟨ro, rc, rfl⟩ := own_shape2 hrow
    have HR : Hid (EOut w w4 ro N rc ps ∧ Fr [] w w4) := ⟨⟨HIs.out.2, by rw [HIs.out.2]; exact own_base hrow hG3.size⟩, hG3.then hF4⟩
    rw [← HIs.out.2]
    clear HS hQ hrow hF4 hG3 HIs
    go_wp2
    go_ret2
    exact ⟨ro, rc, rfl, HR.out⟩
theorem fStore_any (ao : Option Addr) (L cap : Nat) (f : Int) (ps : List Pr) (N c : Nat) (ts : List Tm) (w : World) (hT : TRs w ao ts) (hLe : L = ts.length) (hcap : L ≤ cap) (hf0 : -9223372036854775808 ≤ f) (hf1 : f ≤ 9223372036854775807) (h : ScTold (txs ts) f ⟨#[]⟩ ⟨#[]⟩ ps c) (hN : N = ps.length) :
    Calls Tryz.prog 8 #[.slice ao L cap, .int .i64 f] w fun e w' => ∃ ro rc, e = .returned (.tuple #[.slice ro N rc, .int .i64 (c : Int)]) ∧ EOut w w' ro N rc ps ∧ Fr [] w w' := by
  have HS : Hid _ := fScan_any ao L cap f ⟨#[]⟩ ⟨#[]⟩ ps N c ts w hT hLe hcap hf0 hf1 h hN
  clear hT hLe h hN
  go_enter Tryz.func8, Tryz.ntmps8
  go_wp2_with fail
  refine Calls.mono HS.out ?_
  rintro e w1 ⟨ro, rc, rfl, hE, hF⟩
  have HR : Hid (EOut w w1 ro N rc ps ∧ Fr [] w w1) := ⟨hE, hF⟩
  clear HS hE hF
  go_wp2
  go_ret2
  exact ⟨ro, rc, rfl, HR.out⟩
end Go.Proofs.YtakbodlicfmkjaaGreat.Fo
