/- Chained: its contract. Conditions as it names them. -/
import Derived.Test.YtdcmjoildfofcaaCnt7
import Derived.Laws.EntriesVeiled
import Derived.WideLaws
namespace Go.Proofs.Ytdcmjoildfofcaa
open Go.ChangeShapes Go.WideShapes Go.ChangeAt Go.RowKit Go.Lib Go.Maps
set_option linter.unusedVariables false
set_option linter.unusedSimpArgs false

/-- What is told of a chain: what is wrong, and whether there is one. -/
def ChTold (l : List Tx) (i j : Int) (R : Bool) (e : Nat) : Prop :=
  (Bad 1 l e ∧ e ≠ 0 ∧ R = false) ∨ (okL 1 l ∧ ¬ (1 ≤ i ∧ i < j ∧ j ≤ (l.length : Int)) ∧ R = false ∧ e = 1) ∨ (okL 1 l ∧ (1 ≤ i ∧ i < j ∧ j ≤ (l.length : Int)) ∧ e = 0 ∧ (R = true ↔ Rch l i.toNat j.toNat))
theorem ChTold.ex (l : List Tx) (i j : Int) : ∃ R e, ChTold l i j R e := by
  obtain ⟨c, hc⟩ := Bad.ex l 1
  by_cases h0 : c = 0
  · have hok := hc.ok.1 h0
    by_cases hb : 1 ≤ i ∧ i < j ∧ j ≤ (l.length : Int)
    · by_cases hr : Rch l i.toNat j.toNat
      · exact ⟨true, 0, Or.inr (Or.inr ⟨hok, hb, rfl, by simp [hr]⟩)⟩
      · exact ⟨false, 0, Or.inr (Or.inr ⟨hok, hb, rfl, by simp [hr]⟩)⟩
    · exact ⟨false, 1, Or.inr (Or.inl ⟨hok, hb, rfl, rfl⟩)⟩
  · exact ⟨false, c, Or.inl ⟨hc, h0, rfl⟩⟩
theorem TRs.drop {w : World} {b off : Nat} {ts : List Tm} (h : TRs w (some ⟨b, off, none⟩) ts) (k : Nat) : TRs w (some ⟨b, off + k * 2, none⟩) (ts.drop k) := by
  refine ⟨fun h0 => ?_, by have := h.few; rw [List.length_drop]; omega, fun t ht => h.each t (List.mem_of_mem_drop ht)⟩
  rw [List.length_drop] at h0
  obtain ⟨b', off', e, hb, hc⟩ := h.lies (by omega)
  cases e
  refine ⟨b, off + k * 2, rfl, hb, fun i hi => ?_⟩
  rw [List.length_drop] at hi
  have := hc (k + i) (by omega)
  have e : (ts.drop k).getD i Tm.zero = ts.getD (k + i) Tm.zero := by simp [List.getD, List.getElem?_drop]
  rw [e]
  have e2 : off + (k + i) * 2 = off + k * 2 + i * 2 := by rw [Nat.add_mul]; omega
  rw [e2] at this
  exact this
theorem Try.undTsE : Try.prog.underlying 22 = some (.slice (Try.prog.elem 22)) := by kernel_rfl
theorem Try.elemTs : Try.prog.elem 22 = 31 := by kernel_rfl
theorem Try.sizeT (w : World) : (sizeOf 31).run Try.prog w = .ok 2 w := by kernel_rfl
theorem slice_lh (ab aoff L cap K J0 : Nat) (k : Int) (hk : k = (K : Int)) (h1 : K ≤ J0) (h2 : J0 ≤ cap) (h3 : ¬ cap = K) (w : World) : (Instr.slice 22 (.slice (some ⟨ab, aoff, none⟩) L cap) (some (.int .i64 k)) (some (.int .i64 (J0 : Int))) none).run Try.prog w = .ok (.slice (some ⟨ab, aoff + K * 2, none⟩) (J0 - K) (cap - K)) w := by
  subst hk
  rw [run_slice_lh w 22 _ _ _ Try.undTsE .i64 .i64 (K : Int) (J0 : Int) (by omega) (by omega) (by omega), Try.elemTs, Try.sizeT]
  simp [Result.andThen, sliced, h3, Addr.add]
theorem sliceAt_lh (ab aoff L cap K J0 : Nat) (k : Int) (hk : k = (K : Int)) (h1 : K ≤ J0) (h2 : J0 ≤ cap) (h3 : ¬ cap = K) (w : World) : (Instr.sliceAt 22 (.slice (some ⟨ab, aoff, none⟩) L cap) (some (.int .i64 k)) (some (.int .i64 (J0 : Int))) none).run Try.prog w = .ok (.slice (some ⟨ab, aoff + K * 2, none⟩) (J0 - K) (cap - K)) w := by
  rw [run_sliceAt_slice w 22 _ _ _ _ Try.undTsE]
  exact slice_lh ab aoff L cap K J0 k hk h1 h2 h3 w
theorem frozen_of_row {w : World} {b : Nat} {cs : Array Value} {t : TypeId} (h : w.heap[b]? = some (.cells cs t (0, 0))) (o : Nat) : w.frozen? ⟨b, o, none⟩ = false := by simp [World.frozen?, h]
theorem cell_one {w : World} {b : Nat} {v : Value} {t : TypeId} (h : w.heap[b]? = some (.cells #[v] t (0, 0))) : w.cell? ⟨b, 0, none⟩ = some v := by simp [World.cell?, h]
theorem hid_of {p : Prop} (h : p) : Hid p := h
theorem at_drew {w1 w2 : World} {o : Obj} (h : w2.heap[w1.drew.heap.size]? = some o) : w2.heap[w1.heap.size]? = some o := h
theorem row_set1 {w : World} {b : Nat} {v x : Value} {t : TypeId} (h : w.heap[b]? = some (.cells #[v] t (0, 0))) : (w.setCell ⟨b, 0, none⟩ x).heap[b]? = some (.cells #[x] t (0, 0)) := by
  have hlt := lt_of_block h
  have h' : w.heap[b] = .cells #[v] t (0, 0) := by simpa [Array.getElem?_eq_getElem hlt] using h
  show (w.heap.modify b _)[b]? = _
  rw [Array.getElem?_eq_getElem (by simpa using hlt), Array.getElem_modify_self, h']
  rfl
theorem MapF.ne {w : World} {b n k : Nat} {F : ByteArray → Int → Int} {cs : Array Value} {t : TypeId} {f : Nat × Nat} (h : MapF w b n F) (hk : w.heap[k]? = some (.cells cs t f)) : b ≠ k := by
  rintro rfl
  obtain ⟨D, ⟨es, clock, hb, _⟩, _⟩ := h
  rw [hk] at hb
  cases hb
/-- What the first step of Chained leaves: the map of writers, and its box. -/
structure Cut6 (w wx : World) (B9 b : Nat) (F : ByteArray → Int → Int) : Prop where
  x9 : wx.heap[B9]? = some (.cells #[.map (some b)] 70 (0, 0))
  map : MapF wx b 9000000 F
  n9 : w.heap.size ≤ B9
  nb : w.heap.size ≤ b
  fr : Fr [] w wx
theorem Cut6.set {w w3 : World} {k b : Nat} {F : ByteArray → Int → Int} (hd : w3.heap[k]? = some (.cells #[.map none] 70 (0, 0))) (hM : MapF w3 b 9000000 F) (hk : w.heap.size ≤ k) (hb : w.heap.size ≤ b) (hf : Fr [] w w3) : Cut6 w (w3.setCell ⟨k, 0, none⟩ (.map (some b))) k b F := by
  have hs : Fr [k] w3 (w3.setCell ⟨k, 0, none⟩ (.map (some b))) := Fr.set _ _ _ (by simp)
  exact ⟨row_set1 hd, hM.keep hs (by simp; exact hM.ne hd), hk, hb, hf.on hs (by intro x hx; simp at hx; omega)⟩
theorem Cut6.alloc {w w3 : World} {b : Nat} {F : ByteArray → Int → Int} (hM : MapF w3 b 9000000 F) (hb : w.heap.size ≤ b) (hf : Fr [] w w3) : Cut6 w (w3.alloc (.cells #[.map (some b)] 70)) w3.heap.size b F :=
  ⟨heap_alloc_new w3 _, hM.keep (Fr.alloc [] w3 _) (by simp), hf.size, hb, hf.then (Fr.alloc [] w3 _)⟩
theorem Try.infoBl : (Try.prog.info? 4).map (fun i => (i.zero, i.size, i.bytes)) = some (some (.bool false), 1, 1) := by kernel_rfl
theorem Try.undBools : Try.prog.underlying 34 = some (.slice 4) := by kernel_rfl
theorem made_bools (n : Nat) : (madeCells #[Value.bool false] n).toList = (List.replicate n false).map Value.bool := by
  apply List.ext_getElem?
  intro i
  by_cases h : i < n
  · simp [madeCells, h, Nat.mod_one]
  · simp [madeCells, h]
theorem bools_full {w : World} {g n : Nat} {xs : List Value} (h : w.ownsRow 0 4 1 (.slice (some ⟨g, 0, none⟩) n n) n xs) : w.heap[g]? = some (.cells xs.toArray 4 (0, 0)) := by
  have hl := h.1
  rcases h.2 with ⟨hh, _⟩ | ⟨g', cap', cur, hh, _, hg, _, _, hcs, ht⟩
  · cases hh
  · cases hh
    rw [hg]
    congr 2
    rw [← Array.toList_inj]
    simp only
    rw [← ht, List.take_of_length_le (by simp [hcs])]
theorem row_setB {w : World} {g j : Nat} {rs : List Bool} (x : Bool) (h : w.heap[g]? = some (.cells (rs.map Value.bool).toArray 4 (0, 0))) : (w.setCell ⟨g, j, none⟩ (.bool x)).heap[g]? = some (.cells ((rs.set j x).map Value.bool).toArray 4 (0, 0)) := by
  have hlt := lt_of_block h
  have h' : w.heap[g] = .cells (rs.map Value.bool).toArray 4 (0, 0) := by simpa [Array.getElem?_eq_getElem hlt] using h
  show (w.heap.modify g _)[g]? = _
  rw [Array.getElem?_eq_getElem (by simpa using hlt), Array.getElem_modify_self, h']
  simp [List.map_set]
theorem CW.put {W : World} {B10 B9 g b J : Nat} {F : ByteArray → Int → Int} {rs : List Bool} (h : CW W B10 B9 g b J F rs) (j : Nat) (x : Bool) : CW (W.setCell ⟨g, j, none⟩ (.bool x)) B10 B9 g b J F (rs.set j x) := by
  have hs : Fr [g] W (W.setCell ⟨g, j, none⟩ (.bool x)) := Fr.set _ _ _ (by simp)
  have n1 : B10 ≠ g := by
    rintro rfl
    have := h.x10
    rw [h.row] at this
    simp at this
  have n2 : B9 ≠ g := by
    rintro rfl
    have := h.x9
    rw [h.row] at this
    simp at this
  exact ⟨hs.keep h.x10 (by simpa using n1), hs.keep h.x9 (by simpa using n2), row_setB x h.row, h.map.keep hs (by simpa using h.map.ne h.row), by simpa using h.len⟩
theorem CW.n10 {W : World} {B10 B9 g b J : Nat} {F : ByteArray → Int → Int} {rs : List Bool} (h : CW W B10 B9 g b J F rs) : B10 ≠ g := by
  rintro rfl
  have := h.x10
  rw [h.row] at this
  simp at this
theorem CW.free {W : World} {B10 B9 g b J : Nat} {F : ByteArray → Int → Int} {rs : List Bool} (h : CW W B10 B9 g b J F rs) (j : Nat) : W.frozen? ⟨g, j, none⟩ = false := by simp [World.frozen?, h.row]
theorem st_same (J k : Nat) (h : k < J) : ((List.replicate J false).set k true).getD k false = true := by
  rw [List.getD_eq_getElem?_getD, List.getElem?_set_self (by simpa using h)]
  rfl
theorem st_other (J k m : Nat) (h : m ≠ k) : ((List.replicate J false).set k true).getD m false = false := by
  rw [List.getD_eq_getElem?_getD, List.getElem?_set_ne (Ne.symm h)]
  by_cases hm : m < J
  · rw [List.getElem?_replicate, if_pos hm]; rfl
  · rw [List.getElem?_eq_none (by simpa using hm)]; rfl
theorem inS_all (s : ByteArray) : inS ⟨#[]⟩ ⟨#[]⟩ s = true := by
  have h : (⟨#[]⟩ : ByteArray).toList = [] := (tl_nil _).2 rfl
  unfold inS
  rw [h]
  cases s.toList <;> rfl

set_option maxHeartbeats 16000000 in
set_option maxRecDepth 100000 in
theorem fChained_main (ao : Option Addr) (L cap K J0 : Nat) (ts : List Tm) (R : Bool) (w : World) (hT : TRs w ao ts) (hLe : L = ts.length) (hcap : L ≤ cap) (hok : okL 1 (txs ts)) (hIJ : K + 1 < J0) (hJL : J0 ≤ L) (hR : R = true ↔ Rch (txs ts) (K + 1) J0) :
    Calls Try.prog 16 #[.slice ao L cap, .int .i64 ((K + 1 : Nat) : Int), .int .i64 (J0 : Int)] w fun e w' => e = .returned (.tuple #[.bool R, .int .i64 0]) ∧ Fr [] w w' := by
  have HL : Hid (L = ts.length) := hLe
  have HK : Hid (okL 1 (txs ts)) := hok
  have hL2 : L ≤ 65536 := by have := okL_few hok; rw [txs_length] at this; omega
  have HR : Hid (R = true ↔ Rch (txs ts) (K + 1) J0) := hR
  have HI : Hid (∀ W, Fr [] w W → TRs W ao ts) := fun W hf => hT.keep hf
  obtain ⟨ab, aoff, ea, _, _⟩ := hT.lies (by omega)
  subst ea
  have hs0 : (0 : Int) ≤ (K : Int) := by omega
  have hs1' : (K : Int) ≤ (J0 : Int) := by omega
  have hs2' : (J0 : Int) ≤ (cap : Int) := by omega
  have hn1' : K ≤ J0 := by omega
  have hn2' : J0 ≤ cap := by omega
  have hcK : ¬ (cap = K) := by omega
  have hcK1 : ¬ (cap = K + 1) := by omega
  have hsA := sliceAt_lh ab aoff L cap K J0 (K : Int) rfl hn1' hn2' hcK
  have hsB := sliceAt_lh ab aoff L cap (K + 1) J0 ((K : Int) + 1) (by omega) (by omega) hn2' hcK1
  have hsC := slice_lh ab aoff L cap K J0 (K : Int) rfl hn1' hn2' hcK
  have hsD := slice_lh ab aoff L cap (K + 1) J0 ((K : Int) + 1) (by omega) (by omega) hn2' hcK1
  clear hLe hok hR hT
  go_enter Try.func16, Try.ntmps16
  go_wp2_with fail
  refine (fcheck_any _ L cap 0 ts _ (HI.out _ (Fr.refl _ _)) HL.out (okL_bad HK.out)).mono ?_
  rintro e w1 ⟨rfl, hF1⟩
  have hb1 : ¬ ((K : Int) + 1 < 1) := by omega
  have hb2 : ¬ ((J0 : Int) ≤ (K : Int) + 1) := by omega
  have hb3 : ¬ ((L : Int) < (J0 : Int)) := by omega
  have HSt : Hid (∀ W, Fr [] w1 W → Calls Try.prog 30 #[.string ⟨#[]⟩, .string ⟨#[]⟩] W fun e w' => ∃ b c, e = .returned (.func (Fn.func 39) #[] #[.pointer (some ⟨b, 0, none⟩), .pointer (some ⟨c, 0, none⟩)]) ∧ SBox w' b ⟨#[]⟩ ∧ SBox w' c ⟨#[]⟩ ∧ Fr [] W w' ∧ Fr [] w1 w') := fun W hf => by
    refine (stretch_any ⟨#[]⟩ ⟨#[]⟩ W).mono ?_
    rintro e w' ⟨b, c, rfl, h1, h2, _, _, h3⟩
    exact ⟨b, c, rfl, h1, h2, h3, hf.then h3⟩
  obtain ⟨F, HFe⟩ : ∃ F, Hid (F = wall (inS ⟨#[]⟩ ⟨#[]⟩) (fun _ _ => 0) (part (txs ts) (K + 1) (J0 - K))) := ⟨_, rfl⟩
  have HWr : Hid (∀ W kb ke, Fr [] w1 W → SBox W kb ⟨#[]⟩ → SBox W ke ⟨#[]⟩ → Calls Try.prog 29 #[.slice (some ⟨ab, aoff + K * 2, none⟩) (J0 - K) (cap - K), .func (Fn.func 39) #[] #[.pointer (some ⟨kb, 0, none⟩), .pointer (some ⟨ke, 0, none⟩)]] W fun e w' => ∃ b, e = .returned (.map (some b)) ∧ MapF w' b 9000000 F ∧ W.heap.size ≤ b ∧ Fr [] W w' ∧ Fr [] w1 w') := fun W kb ke hf h1 h2 => by
    have hq : J0 - K = J0 - K := rfl
    have ht : TRs W (some ⟨ab, aoff + K * 2, none⟩) ((ts.drop K).take (J0 - K)) := ((HI.out W (hF1.then hf)).drop K).take _
    refine (writersS_any (some ⟨ab, aoff + K * 2, none⟩) (J0 - K) (cap - K) ((ts.drop K).take (J0 - K)) kb ke ⟨#[]⟩ ⟨#[]⟩ W ht (by rw [List.length_take, List.length_drop, ← HL.out]; omega) h1 h2 ?_ (by omega)).mono ?_
    · intro t hm
      have hm2 : t ∈ ts := List.mem_of_mem_drop (List.mem_of_mem_take hm)
      have ho := okL_mem HK.out t.tx (List.mem_map.2 ⟨t, hm2, rfl⟩)
      have ha := (HI.out W (hF1.then hf)).each t hm2
      have ho' : okT t.n t.ws := ho
      exact ⟨by have := ho'.1; omega, ho'.2.1, by rw [ha.len]; exact ho'.2.2.1, fun x hx => (ho'.2.2.2 x hx).2.1⟩
    · rintro e w' ⟨b, rfl, hb, hM, h3⟩
      refine ⟨b, rfl, ?_, hb, h3, hf.then h3⟩
      rw [HFe.out]
      have e : txs ((ts.drop K).take (J0 - K)) = part (txs ts) (K + 1) (J0 - K) := by
        unfold part txs
        rw [List.map_take, List.map_drop]
        rfl
      rw [← e]
      exact hM
  go_upto_region 6 with fail
  have hwK : IntKind.i64.wrap (K : Int) = (K : Int) := by simp [IntKind.wrap, IntKind.bits, IntKind.signed]; omega
  go_cut [9] from 13 to 37 (fun s9 wx => ∃ (B9 b : Nat), s9 = .pointer (some ⟨B9, 0, none⟩) ∧ Cut6 w wx B9 b F)
  case first =>
    (go_region_held3 (fun W => True) (trivial)
          (first
          | (go_at_call 29; with_reducible refine Calls.mono (HWr.out _ kb ke (by first | exact hG2 | exact hG2.then (Fr.alloc [] _ _)) (by first | exact hs1 | exact hs1.keep (Fr.alloc [] _ _) (by simp)) (by first | exact hs2 | exact hs2.keep (Fr.alloc [] _ _) (by simp))) ?_; rintro e w3 ⟨b, rfl, hM3, hbW, hFV, hG3⟩; (first | (have hd9 := hFV.keep hc9 (by simp)) | (have hd9 := hFV.keep (heap_alloc_new w2 (.cells #[.map none] 70)) (by simp)) | skip); (first | (have z1 := cell_one hd9; have z2 := frozen_of_row hd9 0; have HD9 := hid_of hd9; clear hd9) | skip); (first | clear hc9 | skip))
          | (go_at_call 30; with_reducible refine Calls.mono (HSt.out _ (by first | exact Fr.drew [] _ | exact (Fr.drew [] _).then (Fr.alloc [] _ _) | exact Fr.refl _ _ | exact Fr.alloc [] _ _)) ?_; rintro e w2 ⟨kb, ke, rfl, hs1, hs2, hFW, hG2⟩; (first | (have hc9 := at_drew (hFW.keep (heap_alloc_new w1.drew (.cells #[.map none] 70)) (by simp))) | skip))))
    all_goals (go_wp2_with fail; go_meet)
    all_goals (have hsw := hF1.size; have hsw2 := hG2.size)
    · exact ⟨_, b, rfl, Cut6.alloc hM3 (by omega) (hF1.then hG3)⟩
    · exact ⟨_, b, rfl, Cut6.set HD9.out hM3 (by omega) (by simp at hbW; omega) (hF1.then hG3)⟩
    · exact ⟨_, b, rfl, Cut6.set HD9.out hM3 (by omega) (by omega) (hF1.then hG3)⟩
  case rest =>
    obtain ⟨B9, b, rfl, hC⟩ := hcut
    clear HSt HWr hF1 hwK hsA hsC
    obtain ⟨iB, hiB, hzB, hszB, hbB⟩ := info_parts Try.infoBl
    go_wp2_with (at_make; refine wpList_make_full _ rfl (.tmp 39) (.tmp 39) 34 rfl 0 4 iB _ 1 Try.undBools hiB hzB hszB .i64 .i64 ((J0 : Int) + 1) ((J0 : Int) + 1) (J0 + 1) rfl rfl (by simp) (by simp) ?b2 ?b3 ?b4 ?_)
    case b2 => rw [hbB]; omega
    case b3 => unfold maxLen; omega
    case b4 => exact Nat.zero_le _
    intro wd hown hgrow
    rw [made_bools] at hown
    have hrow := bools_full hown
    have hFd : Fr [] wc wd := Fr.grown (S := []) hgrow (by simp)
    obtain ⟨g, hg⟩ : ∃ g, g = wc.heap.size := ⟨_, rfl⟩
    rw [← hg] at hrow ⊢
    have hgw : w.heap.size ≤ g := by have := hC.fr.size; omega
    clear hown hgrow hg
    obtain ⟨we, HWe⟩ : ∃ we, Hid (wd.alloc (.cells #[.slice (some ⟨g, 0, none⟩) (J0 + 1) (J0 + 1)] 34) = we) := ⟨_, rfl⟩
    obtain ⟨B10, HB10⟩ : ∃ B10, Hid (B10 = wd.heap.size) := ⟨_, rfl⟩
    have hFe : Fr [] wd we := by rw [← HWe.out]; exact Fr.alloc [] wd _
    have hCW : CW we B10 B9 g b (J0 + 1) F (List.replicate (J0 + 1) false) := ⟨by rw [← HWe.out, HB10.out]; exact heap_alloc_new wd _, hFe.keep (hFd.keep hC.x9 (by simp)) (by simp), hFe.keep hrow (by simp), (hC.map.keep hFd (by simp)).keep hFe (by simp), by simp⟩
    have hGe : Fr [] w we := hC.fr.then (hFd.then hFe)
    have hB10 : w.heap.size ≤ B10 := by have := (hC.fr.then hFd).size; rw [HB10.out]; exact this
    clear hC hFd hFe hrow
    have c10 : we.cell? ⟨B10, 0, none⟩ = some (.slice (some ⟨g, 0, none⟩) (J0 + 1) (J0 + 1)) := cell_one hCW.x10
    have ci := hCW.cell (K + 1) (by omega)
    have cf := hCW.free (K + 1)
    go_upto_region 8 with fail
    rw [HWe.out, ← HB10.out]
    have hlt1 : K + 1 < J0 + 1 := by omega
    have hlt2 : (K : Int) + 1 < (J0 : Int) + 1 := by omega
    have hlt3 : (0 : Int) ≤ (K : Int) + 1 := by omega
    have hput := hCW.put (K + 1) true
    have hGp : Fr [] w (we.setCell ⟨g, K + 1, none⟩ (.bool true)) := hGe.on (Fr.set (S := [g]) we ⟨g, K + 1, none⟩ _ (by simp)) (by intro x hx; simp at hx; omega)
    obtain ⟨wf, HWf⟩ : ∃ wf, Hid (we.setCell ⟨g, K + 1, none⟩ (.bool true) = wf) := ⟨_, rfl⟩
    rw [HWf.out] at hput hGp
    have HSp := wall_spec (Pk := inS ⟨#[]⟩ ⟨#[]⟩) HK.out (i := K + 1) (by omega) (J0 - K) (by rw [txs_length, ← HL.out]; omega)
    rw [← HFe.out, show K + 1 + (J0 - K) = J0 + 1 by omega] at HSp
    have HPr : Hid (∀ (m : Nat) s, K + 1 ≤ m → m < J0 + 1 → Wrt (txs ts) m s → Prv (txs ts) (K + 1) m s (F s (m : Int))) := fun m s h1 h2 h3 => HSp.2 m s h1 h2 (inS_all s) h3
    have HP0 : Hid (CW wf B10 B9 g b (J0 + 1) F ((List.replicate (J0 + 1) false).set (K + 1) true)) := hput
    have HD : Hid (∀ W, Fr [] w W → TRs W (some ⟨ab, aoff + (K + 1) * 2, none⟩) (ts.drop (K + 1))) := fun W hf => (HI.out W hf).drop (K + 1)
    obtain ⟨Q, HQ⟩ : ∃ Q, Hid (Q = J0 - (K + 1)) := ⟨_, rfl⟩
    obtain ⟨C, HCq⟩ : ∃ C, Hid (C = cap - (K + 1)) := ⟨_, rfl⟩
    obtain ⟨O, HO⟩ : ∃ O, Hid (O = aoff + (K + 1) * 2) := ⟨_, rfl⟩
    rw [← HQ.out, ← HCq.out, ← HO.out] at hsB hsD
    have hQJ : Q ≤ J0 := by rw [HQ.out]; omega
    clear HSp hput hCW hGe
    go_upto_region 9 with fail
    rw [HWf.out]
    clear c10 ci cf HWf HWe HB10 hlt1 hlt2 hlt3
    go_wp2_with fail
    go_loopw [49] (fun ii wr => ∃ (i : Nat) (rs : List Bool), ii = .int .i64 i ∧ i ≤ Q ∧ Hid (CW wr B10 B9 g b (J0 + 1) F rs) ∧ Hid (∀ m, rs.getD m false = true ↔ m < K + 2 + i ∧ Rch (txs ts) (K + 1) m) ∧ Fr [] w wr) (fun ii _ => Q - (intOf ii).toNat)
    case atStart =>
      refine ⟨0, _, rfl, Nat.zero_le _, HP0, ?_, hGp⟩
      intro m
      by_cases hm : m = K + 1
      · subst hm
        exact ⟨fun _ => ⟨by omega, Rch.base⟩, fun _ => st_same _ _ (by omega)⟩
      · rw [st_other _ _ _ hm]
        refine ⟨fun h => Bool.noConfusion h, fun h => ?_⟩
        have h3 := h.2.ge
        have h4 := h.1
        omega
    case round =>
      obtain ⟨i, rs, rfl, hiQ, HCw, HRs, hFr⟩ := hrel
      by_cases hi : i < Q
      · have hiN : K + 1 + i < ts.length := by have := HQ.out; rw [← HL.out]; omega
        have hdl : i < (ts.drop (K + 1)).length := by rw [List.length_drop]; omega
        obtain ⟨b', o', e', _, hc⟩ := (HD.out _ hFr).lies (by omega)
        cases e'
        have hx := hc i hdl
        have hge : (ts.drop (K + 1)).getD i Tm.zero = ts.getD (K + 1 + i) Tm.zero := by simp [List.getD, List.getElem?_drop]
        rw [hge] at hx
        have HAt : Hid (∀ W, Fr [] w W → (ts.getD (K + 1 + i) Tm.zero).at W) := fun W hf => (HI.out W hf).each _ (tgetD_mem ts _ hiN)
        obtain ⟨hok, hnn⟩ := okL_get HK.out (K + 1 + i) (by rw [txs_length]; exact hiN)
        have hwt : (txs ts).getD (K + 2 + i - 1) Tx.zero = (ts.getD (K + 1 + i) Tm.zero).tx := by rw [← txs_getD]; congr 1; omega
        rw [txs_getD] at hok hnn
        obtain ⟨x, hxx⟩ : ∃ x, x = ts.getD (K + 1 + i) Tm.zero := ⟨_, rfl⟩
        rw [← hxx] at hx HAt hok hnn hwt
        clear hxx hc hge
        obtain ⟨n, xo, M, cm, ws⟩ := x
        obtain ⟨c0, c1⟩ := hx
        simp only at c0 c1
        rw [← HO.out] at c0 c1
        have hn : n = ((K + 2 + i : Nat) : Int) := by have : n = ((1 + (K + 1 + i) : Nat) : Int) := hnn; rw [this]; congr 1; omega
        have hokT : okT n ws := hok
        obtain ⟨N, HN⟩ : ∃ N, Hid (N = K + 2 + i) := ⟨_, rfl⟩
        rw [← HN.out] at hn hwt
        subst hn
        have HW : Hid (∀ s, Wrt (txs ts) N s ↔ ∃ x ∈ ws, x.key = s) := fun s => by unfold Wrt; rw [hwt]; rfl
        have hNJ : N < J0 + 1 := by rw [HN.out]; have := HQ.out; omega
        have HPv : Hid (∀ s, Wrt (txs ts) N s → Prv (txs ts) (K + 1) N s (F s (N : Int))) := fun s hs => HPr.out N s (by rw [HN.out]; omega) hNJ hs
        have hkK : K + 1 < N := by rw [HN.out]; omega
        obtain ⟨T, hT⟩ : ∃ T : Bool, T = true ↔ Rch (txs ts) (K + 1) N := by
          by_cases h : Rch (txs ts) (K + 1) N
          · exact ⟨true, by simp [h]⟩
          · exact ⟨false, by simp [h]⟩
        have HT : Hid (T = true ↔ Rch (txs ts) (K + 1) N) := hT
        have HHit : Hid (T = true ↔ ∃ x ∈ ws, Hit F (N : Int) rs x = true) := by
          show _ ↔ _
          rw [HT.out, Rch.by_last (by omega) hkK (fun s => F s (N : Int)) HPv.out, hwt]
          constructor
          · rintro ⟨x, hx, q, hq, h0, h1⟩
            refine ⟨x, hx, ?_⟩
            have hl := (HPv.out x.key ((HW.out _).2 ⟨x, hx, rfl⟩)).le (by omega)
            have hq' : F x.key (N : Int) = (q : Int) := hq
            unfold Hit
            rw [hq', Int.toNat_natCast, HRs.out q]
            rw [hq'] at hl
            exact ⟨by have := HN.out; omega, h1⟩
          · rintro ⟨x, hx, hh⟩
            have hl := (HPv.out x.key ((HW.out _).2 ⟨x, hx, rfl⟩)).le (by omega)
            unfold Hit at hh
            obtain ⟨_, h1⟩ := (HRs.out _).1 hh
            have h2 := h1.ge
            exact ⟨x, hx, (F x.key (N : Int)).toNat, (Int.toNat_of_nonneg hl.1).symm, by omega, h1⟩
        obtain ⟨w1, HW1⟩ : ∃ w1, Hid (wr.alloc (.cells #[.int .i64 (N : Int), .slice xo M cm] 31) = w1) := ⟨_, rfl⟩
        obtain ⟨B12, HB12⟩ : ∃ B12, Hid (B12 = wr.heap.size) := ⟨_, rfl⟩
        have hF1 : Fr [] wr w1 := by rw [← HW1.out]; exact Fr.alloc [] wr _
        have hbx : w1.heap[B12]? = some (.cells #[.int .i64 (N : Int), .slice xo M cm] 31 (0, 0)) := by rw [← HW1.out, HB12.out]; exact heap_alloc_new wr _
        have hG1 := hFr.then hF1
        have HCw1 : Hid (∀ W, Fr [] w1 W → CW W B10 B9 g b (J0 + 1) F rs) := fun W hf => (HCw.out.quiet hF1).quiet hf
        have HBx : Hid (∀ W, Fr [] w1 W → W.heap[B12]? = some (.cells #[.int .i64 (N : Int), .slice xo M cm] 31 (0, 0))) := fun W hf => hf.keep hbx (by simp)
        have HCe : Hid (∀ W, Fr [] w1 W → W.cell? ⟨B10, 0, none⟩ = some (.slice (some ⟨g, 0, none⟩) (J0 + 1) (J0 + 1)) ∧ W.cell? ⟨B12, 0, none⟩ = some (.int .i64 (N : Int)) ∧ W.cell? ⟨B12, 1, none⟩ = some (.slice xo M cm) ∧ W.cell? ⟨g, N, none⟩ = some (.bool (rs.getD N false)) ∧ W.frozen? ⟨g, N, none⟩ = false) := fun W hf => by
          have hb := HBx.out W hf
          exact ⟨cell_one (HCw1.out W hf).x10, by rw [cell_of_row _ _ _ _ _ _ hb]; rfl, by rw [cell_of_row _ _ _ _ _ _ hb]; rfl, (HCw1.out W hf).cell N hNJ, (HCw1.out W hf).free N⟩
        have HCo : Hid (∀ W, Fr [] w1 W → Calls Try.prog 31 #[.slice xo M cm, .func (Fn.func 32) #[] #[.pointer (some ⟨B10, 0, none⟩), .pointer (some ⟨B9, 0, none⟩), .pointer (some ⟨B12, 0, none⟩)]] W fun e w' => e = .returned (.bool T) ∧ Fr [] w1 w') := fun W hf => by
          have hat : TArg W (N : Int) xo M cm ws := HAt.out W (hG1.then hf)
          refine (containsF_any B10 B9 B12 g b (J0 + 1) F rs (N : Int) xo M cm ws T W (HCw1.out W hf) (HBx.out W hf) hat ?_ (by omega) (fun x hx => (hokT.2.2.2 x hx).2.1) (by omega) hokT.2.1 (by rw [hat.len]; exact hokT.2.2.1) HHit.out).mono ?_
          · intro x hx
            have hl := (HPv.out x.key ((HW.out _).2 ⟨x, hx, rfl⟩)).le (by omega)
            exact ⟨hl.1, by omega⟩
          · rintro e w' ⟨rfl, h⟩
            exact ⟨rfl, hf.then h⟩
        obtain ⟨k0, k1, k2, k3, k4⟩ := HCe.out _ (Fr.drew [] w1)
        have m1 := HCw.out.n10
        have m2 : g ≠ B10 := fun e => m1 e.symm
        have m3 : g ≠ B12 := by have := lt_of_block HCw.out.row; rw [HB12.out]; omega
        have m4 : B12 ≠ g := fun e => m3 e.symm
        have hNi : (N : Int) < (J0 : Int) + 1 := by omega
        have hN0 : (0 : Int) ≤ (N : Int) := by omega
        clear hok hnn hwt hT HHit hbx
        go_upto_region 12 with fail
        rw [HW1.out, ← HB12.out]
        clear c0 c1 HW1 HB12
        go_region_held3 (fun W => W.cell? ⟨B10, 0, none⟩ = some (.slice (some ⟨g, 0, none⟩) (J0 + 1) (J0 + 1)) ∧ W.cell? ⟨B12, 0, none⟩ = some (.int .i64 (N : Int)) ∧ W.cell? ⟨B12, 1, none⟩ = some (.slice xo M cm)) (go_keep)
          (first
          | (go_at_call 31; with_reducible refine Calls.mono (HCo.out _ (by first | exact Fr.drew [] _ | exact Fr.refl _ _)) ?_; rintro e w2 ⟨rfl, hF2⟩; obtain ⟨j0, j1, j2, j3, j4⟩ := HCe.out _ hF2))
        have HC2 : Hid (CW (w2.setCell ⟨g, N, none⟩ (.bool T)) B10 B9 g b (J0 + 1) F (rs.set N T)) := (HCw1.out _ hF2).put N T
        have hG2 : Fr [] w (w2.setCell ⟨g, N, none⟩ (.bool T)) := (hG1.then hF2).on (Fr.set (S := [g]) w2 ⟨g, N, none⟩ _ (by simp)) (by intro x hx; simp at hx; omega)
        have hrl := HCw.out.len
        have HRs2 : Hid (∀ m, (rs.set N T).getD m false = true ↔ m < K + 2 + (i + 1) ∧ Rch (txs ts) (K + 1) m) := by
          intro m
          have hNe := HN.out
          by_cases hm : m = N
          · subst hm
            rw [List.getD_eq_getElem?_getD, List.getElem?_set_self (by rw [hrl]; exact hNJ)]
            show T = true ↔ _
            rw [HT.out]
            exact ⟨fun h => ⟨by omega, h⟩, fun h => h.2⟩
          · have e : (rs.set N T).getD m false = rs.getD m false := by rw [List.getD_eq_getElem?_getD, List.getElem?_set_ne (fun e => hm e.symm), List.getD_eq_getElem?_getD]
            rw [e, HRs.out m]
            exact ⟨fun h => ⟨by have := h.1; omega, h.2⟩, fun h => ⟨by have := h.1; omega, h.2⟩⟩
        clear HCw1 HBx HCe HCo HCw hF2 hG1 k0 k1 k2 k3 k4 j0 j1 j2 j3 j4 hrl
        go_wp2
        go_roundw
        case rel => exact ⟨i + 1, _, by simp, by omega, HC2, HRs2, hG2⟩
        case measure => simp [intOf]; omega
      · obtain rfl : i = Q := by omega
        have HRJ : Hid (rs.getD J0 false = R) := by
          show _ = _
          rw [Bool.eq_iff_iff, HRs.out J0, HR.out]
          have := HQ.out
          exact ⟨fun h => h.2, fun h => ⟨by omega, h⟩⟩
        have c10 := cell_one HCw.out.x10
        have cJ := HCw.out.cell J0 (by omega)
        rw [HRJ.out] at cJ
        go_wp2
        go_ret2
        exact ⟨rfl, hFr⟩

set_option maxHeartbeats 4000000 in
set_option maxRecDepth 100000 in
theorem fChained_any (ao : Option Addr) (L cap : Nat) (i j : Int) (c : Nat) (R : Bool) (ts : List Tm) (w : World) (hT : TRs w ao ts) (hLe : L = ts.length) (hcap : L ≤ cap) (hi0 : -9223372036854775808 ≤ i) (hi1 : i ≤ 9223372036854775807) (hj0 : -9223372036854775808 ≤ j) (hj1 : j ≤ 9223372036854775807) (h : ChTold (txs ts) i j R c) :
    Calls Try.prog 16 #[.slice ao L cap, .int .i64 i, .int .i64 j] w fun e w' => e = .returned (.tuple #[.bool R, .int .i64 (c : Int)]) ∧ Fr [] w w' := by
  have HL : Hid (L = ts.length) := hLe
  rcases h with ⟨hb, h0, rfl⟩ | ⟨hok, hb, rfl, rfl⟩ | ⟨hok, hb, rfl, hR⟩
  · have HB : Hid (Bad 1 (txs ts) c) := hb
    have hcb : ((c : Int) != 0) = true := by rw [bne_iff_ne]; omega
    clear hb h0 hLe
    go_enter Try.func16, Try.ntmps16
    go_wp2_with fail
    refine (fcheck_any ao L cap c ts _ hT HL.out HB.out).mono ?_
    rintro e w1 ⟨rfl, hF1⟩
    go_wp2
    go_ret2
    exact ⟨rfl, hF1⟩
  · have HK : Hid (okL 1 (txs ts)) := hok
    have hL2 : L ≤ 65536 := by have := okL_few hok; rw [txs_length] at this; omega
    rw [txs_length, ← hLe] at hb
    clear hok hLe
    by_cases h1 : i < 1
    · have h1' : decide (i < 1) = true := by simpa using h1
      go_enter Try.func16, Try.ntmps16
      go_wp2_with fail
      refine (fcheck_any ao L cap 0 ts _ hT HL.out (okL_bad HK.out)).mono ?_
      rintro e w1 ⟨rfl, hF1⟩
      go_wp2
      go_ret2
      exact ⟨rfl, hF1⟩
    · by_cases h2 : j ≤ i
      · have h2' : decide (j ≤ i) = true := by simpa using h2
        go_enter Try.func16, Try.ntmps16
        go_wp2_with fail
        refine (fcheck_any ao L cap 0 ts _ hT HL.out (okL_bad HK.out)).mono ?_
        rintro e w1 ⟨rfl, hF1⟩
        go_wp2
        go_ret2
        exact ⟨rfl, hF1⟩
      · have h3 : (L : Int) < j := by
          by_cases h3 : (L : Int) < j
          · exact h3
          · exact absurd ⟨by omega, by omega, by omega⟩ hb
        go_enter Try.func16, Try.ntmps16
        go_wp2_with fail
        refine (fcheck_any ao L cap 0 ts _ hT HL.out (okL_bad HK.out)).mono ?_
        rintro e w1 ⟨rfl, hF1⟩
        go_wp2
        go_ret2
        exact ⟨rfl, hF1⟩
  · rw [txs_length, ← hLe] at hb
    obtain ⟨K, rfl⟩ : ∃ K : Nat, i = ((K + 1 : Nat) : Int) := ⟨(i - 1).toNat, by omega⟩
    obtain ⟨J0, rfl⟩ : ∃ J0 : Nat, j = (J0 : Int) := ⟨j.toNat, by omega⟩
    rw [Int.toNat_natCast, Int.toNat_natCast] at hR
    exact fChained_main ao L cap K J0 ts R w hT hLe hcap hok (by omega) (by omega) hR
end Go.Proofs.Ytdcmjoildfofcaa
