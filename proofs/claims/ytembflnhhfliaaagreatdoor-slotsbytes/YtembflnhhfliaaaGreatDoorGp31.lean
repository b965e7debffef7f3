/- Texts of this claim laid together, one behind the other: contracts and plain lemmas; conditions as each names them. -/
import Derived.Test.YtembflnhhfliaaaGreatDoorGp27
import Derived.Test.YtembflnhhfliaaaGreatDoorGp30
import Derived.Test.YtembflnhhfliaaaGreatDoorGp4
import Derived.Test.YtembflnhhfliaaaGreatDoorGp17
/- What both Encodes tell of a checkpoint; its twin read; a Book that is told a checkpoint. Conditions as each names them. -/
namespace Go.Proofs.YtembflnhhfliaaaGreatDoor
open BigFrame Go.ChangeShapes Go.WideShapes Go.ChangeAt Go.RowKit Go.Lib Go.Maps
set_option linter.unusedVariables false
set_option linter.unusedSimpArgs false

/-- What is told of a checkpoint: what is wrong, and its bytes. -/
def ToldD (m : Int) (bs : List Int) (ps : List Kv) (c : Nat) (ys : List Nat) : Prop := (OkS m bs ps ∧ c = 0 ∧ ys = encD m bs ps) ∨ (¬ OkS m bs ps ∧ c = 1 ∧ ys = [])
theorem ToldD.ex (m : Int) (bs : List Int) (ps : List Kv) : ∃ c ys, ToldD m bs ps c ys := by
  by_cases h : OkS m bs ps
  · exact ⟨0, _, Or.inl ⟨h, rfl, rfl⟩⟩
  · exact ⟨1, _, Or.inr ⟨h, rfl, rfl⟩⟩
theorem ToldD.ck {m : Int} {bs : List Int} {hs : List Hd} {ps : List Kv} {c : Nat} {ys : List Nat} (h : ToldD m bs ps c ys) (hp : hs.map Hd.kv = ps) : CkS m bs hs c := by
  subst hp
  rcases h with ⟨a, b, _⟩ | ⟨a, b, _⟩
  · exact Or.inl ⟨b, a⟩
  · exact Or.inr ⟨b, a⟩
theorem ToldD.len {m : Int} {bs : List Int} {ps : List Kv} {c : Nat} {ys : List Nat} (h : ToldD m bs ps c ys) (hz : bs.length + szKs ps ≤ 1048576) : ys.length < 2^26 := by
  rcases h with ⟨a, _, rfl⟩ | ⟨_, _, rfl⟩
  · have := (encD_length m bs ps).2
    omega
  · simp
theorem row_owns {w : World} {k N : Nat} {ys : List Nat} (h : w.heap[k]? = some (.cells (bts ys).toArray 5 (0, 0))) (hN : N = ys.length) (hm : N < 2^40) : w.ownsRow 0 5 1 (.slice (some ⟨k, 0, none⟩) N N) N (bts ys) := by
  refine ⟨by rw [bts_length]; omega, .inr ⟨k, N, (bts ys).toArray, rfl, Nat.zero_le _, h, Nat.le_refl _, by simp only [maxLen]; omega, by simp [bts_length]; omega, ?_⟩⟩
  simp only [Nat.mul_one]
  rw [List.take_of_length_le (by rw [bts_length]; omega)]
theorem own_rs {w : World} {ao : Option Addr} {n cap : Nat} {xs : List Nat} (h : w.ownsRow 0 5 1 (.slice ao n cap) n (bts xs)) (hn : n = xs.length) (hl : xs.length < 2^41) : Rs w ao xs := by
  have h' : Wn w (.slice ao n cap) xs := by unfold Wn; rw [← hn]; exact h
  exact h'.rs hl
theorem Rs.fr5 {w w' : World} {ao : Option Addr} {xs : List Nat} (h : Rs w ao xs) (hf : Fr [] w w') : Rs w' ao xs := by
  refine ⟨fun h0 => ?_, h.len⟩
  obtain ⟨b, off, e, hc⟩ := h.lies h0
  exact ⟨b, off, e, fun j hj => by
    have hlt := World.block_lt_of_cell? w _ (hc j hj)
    rw [World.cell?_of_block (hf.block b hlt (by simp))]
    exact hc j hj⟩
/-- The program's Encode. -/
theorem dencode_gen (m : Int) (bo ho : Option Addr) (Lb cb Lh ch c N : Nat) (bs : List Int) (hs : List Hd) (ps : List Kv) (ys : List Nat) (w : World) (hI : IRs w bo bs) (hLb : Lb = bs.length) (hH : HRs w ho hs) (hLh : Lh = hs.length) (hp : hs.map Hd.kv = ps) (hT : ToldD m bs ps c ys) (hN : N = ys.length) (hz : bs.length + szKs ps ≤ 1048576) :
    Calls Tryz.prog 76 #[.agg #[.int .i64 m, .slice bo Lb cb, .slice ho Lh ch]] w fun e w' => ∃ ao cap, e = .returned (.tuple #[.slice ao N cap, .int .i64 (c : Int)]) ∧ w'.ownsRow 0 5 1 (.slice ao N cap) N (bts ys) ∧ (∀ k, (Value.slice ao N cap).ownBlock = some k → w.heap.size ≤ k) ∧ Fr [] w w' := by
  have hl := hT.len hz
  subst hp
  rcases hT with ⟨hok, rfl, rfl⟩ | ⟨hno, rfl, rfl⟩
  · refine (dencode_ok m bo ho Lb cb Lh ch N bs hs _ w hI hLb hH hLh hok rfl hN (by omega)).mono ?_
    rintro e w' ⟨k, rfl, hk, hrow, hF⟩
    exact ⟨some ⟨k, 0, none⟩, N, rfl, row_owns hrow hN (by omega), by intro j hj; simp [Value.ownBlock] at hj; omega, hF⟩
  · simp only [List.length_nil] at hN
    subst hN
    refine (dencode_no m bo ho Lb cb Lh ch bs hs w hI hLb hH hLh hno).mono ?_
    rintro e w' ⟨rfl, hF⟩
    exact ⟨none, 0, rfl, World.ownsRow_nil _ _ _ _, by intro j hj; simp [Value.ownBlock] at hj, hF⟩
/-- The document's. -/
theorem ywencode_gen (m : Int) (bo ho : Option Addr) (Lb cb Lh ch c N : Nat) (bs : List Int) (hs : List Hd) (ys : List Nat) (w : World) (hI : IRs w bo bs) (hLb : Lb = bs.length) (hH : HRs w ho hs) (hLh : Lh = hs.length) (hT : ToldD m bs (hs.map Hd.kv) c ys) (hN : N = ys.length) (hz : bs.length + szKs (hs.map Hd.kv) ≤ 1048576) (hL : Lh < 2^21) :
    Calls Tryz.prog 81 #[.agg #[.int .i64 m, .slice bo Lb cb, .slice ho Lh ch]] w fun e w' => ∃ ao cap, e = .returned (.tuple #[.slice ao N cap, .int .i64 (c : Int)]) ∧ Rs w' ao ys ∧ Fr [] w w' := by
  have hl := hT.len hz
  rcases hT with ⟨hok, rfl, rfl⟩ | ⟨hno, rfl, rfl⟩
  · refine (ywencode_ok m bo ho Lb cb Lh ch N bs hs _ w hI hLb hH hLh hok rfl hN (by omega) (by omega) (by omega)).mono ?_
    rintro e w' ⟨ao, cap, rfl, hW⟩
    exact ⟨ao, cap, rfl, hW.it.wn.rs (by omega), hW.fr⟩
  · simp only [List.length_nil] at hN
    subst hN
    refine (ywencode_no m bo ho Lb cb Lh ch bs hs w hI hLb hH hLh hno).mono ?_
    rintro e w' ⟨rfl, hF⟩
    exact ⟨none, 0, rfl, Rs.nil _ _, hF⟩
/-! ### The twin -/
theorem TwS.irs {w0 w w1 : World} {bs : List Int} {hs : List Hd} {bb bh : Nat} {ks : List Nat} {bo : Option Addr} (h : TwS w0 w bs hs bb bh ks) (hI : IRs w1 bo bs) : IRs w (some ⟨bb, 0, none⟩) bs := by
  refine ⟨fun h0 => ⟨bb, 0, rfl, lt_of_block h.rb, fun i hi => ?_⟩, hI.few⟩
  rw [cell_of_row _ _ _ _ _ _ h.rb, List.getElem?_toArray, Nat.zero_add, intsT_get _ _ (by simp; omega)]
  congr 2
  simp [List.getD, List.getElem?_append_left hi]
theorem TwS.hrs {w0 w w1 : World} {bs : List Int} {hs : List Hd} {bb bh : Nat} {ks : List Nat} {ho : Option Addr} (h : TwS w0 w bs hs bb bh ks) (hH : HRs w1 ho hs) : HRs w (some ⟨bh, 0, none⟩) (twTs hs ks) := twins_hrs hH h.tw h.rh
theorem TwS.kv {w0 w : World} {bs : List Int} {hs : List Hd} {bb bh : Nat} {ks : List Nat} (h : TwS w0 w bs hs bb bh ks) : (twTs hs ks).map Hd.kv = hs.map Hd.kv := twins_kv h.tw
theorem TwS.iown {w0 w : World} {bs : List Int} {hs : List Hd} {bb bh L : Nat} {ks : List Nat} (h : TwS w0 w bs hs bb bh ks) (hL : L = bs.length) (hm : L < 2^21) : w.ownsRow 0 3 1 (.slice (some ⟨bb, 0, none⟩) L (L + 1)) L (intsT bs) := by
  refine ⟨by rw [intsT_length, hL, Nat.mul_one], .inr ⟨bb, L + 1, (intsT (bs ++ [7777])).toArray, rfl, Nat.zero_le _, h.rb, by omega, by simp only [maxLen]; omega, by simp [intsT_length]; omega, ?_⟩⟩
  have e : intsT (bs ++ [7777]) = intsT bs ++ intsT [7777] := by simp [intsT]
  simp only [e]
  rw [List.take_append_of_le_length (by rw [intsT_length]; omega), List.take_of_length_le (by rw [intsT_length]; omega)]
/-! ### The sizes -/
theorem szXs_ge (vs : List Vn) : vs.length ≤ szXs vs := by
  induction vs with
  | nil => simp
  | cons v r ih =>
    have hz : szX v = 1 + v.val.size := rfl
    simp only [szXs, List.map_cons, List.sum_cons, List.length_cons] at *
    omega
theorem szK_ge (p : Kv) : 1 ≤ szK p ∧ p.2.length ≤ szK p := by
  have := szXs_ge p.2
  unfold szK
  omega
theorem szKs_few {hs : List Hd} (h : szKs (hs.map Hd.kv) ≤ 1048576) : hs.length ≤ 1048576 ∧ ∀ x ∈ hs, x.vs.length ≤ 1048576 := by
  have key : ∀ l : List Hd, l.length ≤ szKs (l.map Hd.kv) ∧ ∀ x ∈ l, x.vs.length ≤ szKs (l.map Hd.kv) := by
    intro l
    induction l with
    | nil => simp [szKs]
    | cons b r ih =>
      have h1 : 1 ≤ szK b.kv ∧ b.vs.length ≤ szK b.kv := szK_ge b.kv
      obtain ⟨i1, i2⟩ := ih
      have e : szKs ((b :: r).map Hd.kv) = szK b.kv + szKs (r.map Hd.kv) := by simp [szKs]
      rw [e]
      refine ⟨by simp only [List.length_cons]; omega, fun x hx => ?_⟩
      rcases List.mem_cons.1 hx with rfl | hx
      · omega
      · have := i2 x hx; omega
  obtain ⟨a, b⟩ := key hs
  exact ⟨by omega, fun x hx => by have := b x hx; omega⟩
namespace Bq
theorem moved_weak {n k : Nat} {v v' : Value} (h : Moved k v v') (hk : n ≤ k) : Moved n v v' := by
  rcases h with h | ⟨b, h1, h2⟩
  · exact Or.inl h
  · exact Or.inr ⟨b, h1, Nat.le_trans hk h2⟩
set_option maxHeartbeats 4000000 in
set_option maxRecDepth 100000 in
/-- A Book is told a checkpoint. -/
theorem saved_tell {w0 w : World} {bk T : Nat} {rB rI rW rT : Value} {hB hI hW hT : List HB} (h : B4 w0 w bk T rB rI rW rT hB hI hW hT) (m : Int) (io ho : Option Addr) (Lb cb Lh ch : Nat) (ds : List Dt) (hp : P0 kInt w ⟨.slice io Lb cb, .slice none 0 0, T + 1⟩) (hal : ∀ k, (Value.slice io Lb cb).ownBlock = some k → k ∉ lbs hI) (hd : Dts w ho Lh ch ds) (hw : ∀ (i : Nat) (d : Dt), ds[i]? = some d → ∀ k, d.2.ownBlock = some k → k ∉ lbs hT) (ht : ∀ k, (Value.slice ho Lh ch).ownBlock = some k → k ∉ lbs hW) (hTL : T + 1 + Lh < 67108000) :
    Calls Tryz.prog 18 #[.pointer (some ⟨bk, 0, none⟩), .agg #[.int .i64 m, .slice io Lb cb, .slice ho Lh ch]] w fun e w' => e = .returned (.tuple #[]) ∧ ∃ rI' rT' rW', B4 w0 w' bk (T + 1 + Lh + 1) rB rI' rW' rT' hB (hI ++ [⟨.slice io Lb cb, .slice none 0 0, T + 1⟩]) (hW ++ [⟨.slice ho Lh ch, .slice none 0 0, T + 1 + Lh + 1⟩]) (hT ++ held (T + 1) ds) ∧ Fr (bk :: (rI.ownBlock.toList ++ (rT.ownBlock.toList ++ rW.ownBlock.toList))) w w' ∧ Moved w.heap.size rI rI' ∧ Moved w.heap.size rT rT' ∧ Moved w.heap.size rW rW' := by
  obtain ⟨wa, HWa⟩ : ∃ wa, Hid (w.alloc (.cells #[.int .i64 m, .slice io Lb cb, .slice ho Lh ch] 57) = wa) := ⟨_, rfl⟩
  have hFa : Fr [] w wa := by rw [← HWa.out]; exact Fr.alloc [] w _
  have hba : wa.heap[w.heap.size]? = some (.cells #[.int .i64 m, .slice io Lb cb, .slice ho Lh ch] 57 (0, 0)) := by rw [← HWa.out]; exact heap_alloc_new w _
  have hlt := h.lt
  have ha := h.keep hFa
  have hda := hd.keep hFa (by simp) (by simp)
  obtain ⟨k0, k1, k2⟩ := sv_cells hba
  have HI : Hid (Calls _ _ _ _ _) := ints_any ha io Lb cb (hp.keep hFa (by simp)) hal (by omega)
  have HNx : Hid (∀ rv' w1, B4 w0 w1 bk (T + 1) rB rv' rW rT hB (hI ++ [⟨.slice io Lb cb, .slice none 0 0, T + 1⟩]) hW hT → Fr (bk :: rI.ownBlock.toList) wa w1 → Moved wa.heap.size rI rv' →
      w1.cell? ⟨w.heap.size, 2, none⟩ = some (.slice ho Lh ch) ∧ Calls Tryz.prog 87 #[.pointer (some ⟨bk, 0, none⟩), .slice ho Lh ch] w1 fun e w' => e = .returned (.tuple #[]) ∧ ∃ rI' rT' rW', B4 w0 w' bk (T + 1 + Lh + 1) rB rI' rW' rT' hB (hI ++ [⟨.slice io Lb cb, .slice none 0 0, T + 1⟩]) (hW ++ [⟨.slice ho Lh ch, .slice none 0 0, T + 1 + Lh + 1⟩]) (hT ++ held (T + 1) ds) ∧ Fr (bk :: (rI.ownBlock.toList ++ (rT.ownBlock.toList ++ rW.ownBlock.toList))) w w' ∧ Moved w.heap.size rI rI' ∧ Moved w.heap.size rT rT' ∧ Moved w.heap.size rW rW') := fun rv' w1 h1 hF1 hM1 => by
    obtain ⟨cs, hX, _⟩ := ha.box
    have hnb : ∀ k cs' t, wa.heap[k]? = some (.cells cs' t (0, 0)) → t ≠ 52 → k ≠ bk := fun k cs' t hk hne e => by
      subst e
      rw [hX.box] at hk
      cases hk
      exact hne rfl
    have hnE : ∀ k cs', wa.heap[k]? = some (.cells cs' 147 (0, 0)) → k ∉ bk :: rI.ownBlock.toList := fun k cs' hk hm => by
      rcases List.mem_cons.1 hm with e | e
      · exact hnb k cs' _ hk (by decide) e
      · exact (off_row off_WI ha.sI.bl).notE hk e
    have hnV : ∀ k cs', wa.heap[k]? = some (.cells cs' 136 (0, 0)) → k ∉ bk :: rI.ownBlock.toList := fun k cs' hk hm => by
      rcases List.mem_cons.1 hm with e | e
      · exact hnb k cs' _ hk (by decide) e
      · exact (off_row off_TI ha.sI.bl).notE hk e
    have hd1 := hda.keep hF1 (fun k hk => by obtain ⟨c, hc⟩ := own_type hda.row k hk; exact hnE k c hc) (fun i d hdi k hk => by
      obtain ⟨n, vs, q1, q2⟩ := hda.each i d hdi
      obtain ⟨c, hc⟩ := q1.type k hk
      exact hnV k c hc)
    refine ⟨?_, (helds_any h1 ho Lh ch ds hd1 hw ht (by omega)).mono ?_⟩
    · have hbk : w.heap.size ∉ bk :: rI.ownBlock.toList := fun hm => by
        rcases List.mem_cons.1 hm with e | e
        · have := hlt bk (mem_kbs.2 (Or.inl rfl)); omega
        · have := hlt w.heap.size (mem_kbs.2 (Or.inr (Or.inr (Or.inl (Or.inl (by simpa using e)))))); omega
      exact (sv_cells (hF1.keep hba hbk)).2.2
    · rintro e w2 ⟨rfl, rT', rW', h2, hF2, hM2, hM3⟩
      have hs1 := hFa.size
      have hs2 := hF1.size
      refine ⟨rfl, rv', rT', rW', h2, ((hFa.mono (T := bk :: rI.ownBlock.toList) (by simp)).then hF1).trans hF2 (fun x hx _ => ?_) (fun x hx _ => ?_), moved_weak hM1 hs1, moved_weak hM2 (by omega), moved_weak hM3 (by omega)⟩
      · rcases List.mem_cons.1 hx with rfl | hx
        · exact List.mem_cons_self
        · exact List.mem_cons_of_mem _ (List.mem_append_left _ hx)
      · rcases List.mem_cons.1 hx with rfl | hx
        · exact List.mem_cons_self
        · exact List.mem_cons_of_mem _ (List.mem_append_right _ hx)
  clear h hp hal hd hw ht ha hda hlt hba hFa
  go_enter Tryz.func18, Tryz.ntmps18
  go_upto_region 1 with fail
  rw [HWa.out]
  go_wp2_with fail
  refine Calls.mono HI.out ?_
  rintro e w1 ⟨rfl, rv', h1, hF1, hM1⟩
  obtain ⟨k3, hC⟩ := HNx.out rv' w1 h1 hF1 hM1
  have HC : Hid (Calls _ _ _ _ _) := hC
  clear hC h1 hF1 hM1 HNx HI k0 k1 k2
  go_wp2_with fail
  refine Calls.mono HC.out ?_
  rintro e w2 ⟨rfl, R⟩
  have HR : Hid _ := R
  clear R HC
  go_wp2_with fail
  go_end0
  exact ⟨rfl, HR.out⟩
end Bq
end Go.Proofs.YtembflnhhfliaaaGreatDoor
/- What the document's Decode keeps between two steps. Plain lemmas on memory. -/
namespace Go.Proofs.YtembflnhhfliaaaGreatDoor
open BigFrame Go.ChangeShapes Go.WideShapes Go.ChangeAt Go.RowKit Go.Lib Go.Maps
set_option linter.unusedVariables false
set_option linter.unusedSimpArgs false

theorem far_row {w : World} {b : Nat} {cs : Array Value} {ty : TypeId} (hb : w.heap[b]? = some (.cells cs ty (0, 0))) {base : Nat} {e : TypeId} {size : Nat} {v : Value} {n : Nat} {xs : List Value} (ho : w.ownsRow base e size v n xs) (hne : e ≠ ty) : b ∉ v.ownBlock.toList := fun hh => by
  obtain ⟨_, cur, hc⟩ := owns_cells ho (Option.mem_toList.1 hh)
  rw [hb] at hc
  simp only [Option.some.injEq, Obj.cells.injEq] at hc
  exact hne hc.2.1.symm
theorem St.box {w : World} {t : Nat} {ao : Option Addr} {L cap : Nat} {lv : Nat → Prop} {de : Nat → Prop} (h : St w t ao L cap lv de) : ∃ cs, w.heap[t]? = some (.cells cs 233 (0, 0)) := by
  rcases h with ⟨p, h3, h4⟩ | ⟨c, ⟨_, _, _, _, h3⟩, h4⟩
  · exact ⟨_, h3.ta.box⟩
  · exact ⟨_, h3.box⟩
/-- Between two steps: the answer's box, the checkpoint's box. -/
structure Dy (w W : World) (b0 t sb : Nat) (x y z : Value) : Prop where
  i : DcI w W b0 sb x y z
  n0 : w.heap.size ≤ b0
  nt : w.heap.size ≤ t
  ns : w.heap.size ≤ sb
  d1 : b0 ≠ t
  d2 : sb ≠ t
  d3 : b0 ≠ sb
section
variable {w W W' : World} {b0 t sb : Nat} {x y z : Value}
theorem Dy.stepT (h : Dy w W b0 t sb x y z) (hF : Fr [t] W W') : Dy w W' b0 t sb x y z :=
  ⟨⟨h.i.rb.keep hF (by simp; exact h.d1), h.i.sv.keep hF (by simp; exact h.d2), h.i.fr.on hF (by intro k hk; simp at hk; have := h.nt; omega)⟩, h.n0, h.nt, h.ns, h.d1, h.d2, h.d3⟩
theorem Dy.step0 (h : Dy w W b0 t sb x y z) (hF : Fr [] W W') : Dy w W' b0 t sb x y z := h.stepT (hF.mono (by simp))
theorem Dy.row {S : List Nat} (h : Dy w W b0 t sb x y z) (hF : Fr S W W') (h0 : b0 ∉ S) (h1 : sb ∉ S) (hS : ∀ k ∈ S, w.heap.size ≤ k) : Dy w W' b0 t sb x y z :=
  ⟨⟨h.i.rb.keep hF h0, h.i.sv.keep hF h1, h.i.fr.on hF hS⟩, h.n0, h.nt, h.ns, h.d1, h.d2, h.d3⟩
theorem Dy.at1 (h : Dy w W b0 t sb x y z) (v : Value) : Dy w (W.setCell ⟨sb, 1, none⟩ v) b0 t sb x v z ∧ Fr [sb] W (W.setCell ⟨sb, 1, none⟩ v) := by
  have hF : Fr [sb] W (W.setCell ⟨sb, 1, none⟩ v) := Fr.set _ _ _ (by simp)
  exact ⟨⟨⟨h.i.rb.keep hF (by simp; exact h.d3), h.i.sv.set1 v, h.i.fr.on hF (by intro k hk; simp at hk; have := h.ns; omega)⟩, h.n0, h.nt, h.ns, h.d1, h.d2, h.d3⟩, hF⟩
theorem Dy.at2 (h : Dy w W b0 t sb x y z) (v : Value) : Dy w (W.setCell ⟨sb, 2, none⟩ v) b0 t sb x y v ∧ Fr [sb] W (W.setCell ⟨sb, 2, none⟩ v) := by
  have hF : Fr [sb] W (W.setCell ⟨sb, 2, none⟩ v) := Fr.set _ _ _ (by simp)
  exact ⟨⟨⟨h.i.rb.keep hF (by simp; exact h.d3), h.i.sv.set2 v, h.i.fr.on hF (by intro k hk; simp at hk; have := h.ns; omega)⟩, h.n0, h.nt, h.ns, h.d1, h.d2, h.d3⟩, hF⟩
end
/-- One number more in the checkpoint. -/
theorem app_beyond {w wr w2 w3 w4 : World} {b0 t sb : Nat} {x z : Value} {yo yo' : Option Addr} {i c c' : Nat} {bs : List Int} {n : Int} {ao : Option Addr} {L cap : Nat} {lv : Nat → Prop} {de : Nat → Prop}
    (h : Dy w wr b0 t sb x (.slice yo i c) z) (hO : IOw w.heap.size wr yo i c bs) (hT : ∃ cs, wr.heap[t]? = some (.cells cs 233 (0, 0))) (hF2 : Fr [t] wr w2) (hS2 : St w2 t ao L cap lv de) (hF3 : Fr [] w2 w3) :
    Dy w w3 b0 t sb x (.slice yo i c) z ∧ IOw w.heap.size w3 yo i c bs ∧
      (IOw w.heap.size w4 yo' (i + 1) c' (bs ++ [n]) → Fr (Value.slice yo i c).ownBlock.toList w3 w4 → Dy w w4 b0 t sb x (.slice yo i c) z ∧ w4.frozen? ⟨sb, 1, none⟩ = false ∧ w4.cell? ⟨sb, 1, none⟩ = some (.slice yo i c) ∧
        Dy w (w4.setCell ⟨sb, 1, none⟩ (.slice yo' (i + 1) c')) b0 t sb x (.slice yo' (i + 1) c') z ∧ IOw w.heap.size (w4.setCell ⟨sb, 1, none⟩ (.slice yo' (i + 1) c')) yo' (i + 1) c' (bs ++ [n]) ∧ St (w4.setCell ⟨sb, 1, none⟩ (.slice yo' (i + 1) c')) t ao L cap lv de) := by
  obtain ⟨ct, hct⟩ := hT
  have hO2 : IOw w.heap.size w2 yo i c bs := hO.keepS hF2 (fun k hk hm => by
    simp at hm
    subst hm
    exact far_row hct hO.row (by decide) (Option.mem_toList.2 hk))
  have hO3 : IOw w.heap.size w3 yo i c bs := hO2.keepS hF3 (by simp)
  have hD3 := (h.stepT hF2).step0 hF3
  have hS3 := hS2.keep hF3 (by simp)
  refine ⟨hD3, hO3, fun hO4 hF4 => ?_⟩
  obtain ⟨c3, hc3⟩ := hS3.box
  have hD4 := hD3.row hF4 (far_row hD3.i.rb.box hO3.row (by decide)) (far_row hD3.i.sv.box hO3.row (by decide)) (fun k hk => (owns_cells hO3.row (Option.mem_toList.1 hk)).1)
  have hS4 := hS3.keep hF4 (far_row hc3 hO3.row (by decide))
  obtain ⟨hD5, hF5⟩ := hD4.at1 (.slice yo' (i + 1) c')
  exact ⟨hD4, hD4.i.sv.fz 1, hD4.i.sv.c1, hD5, hO4.offS hD4.i.sv hF5, hS4.keep hF5 (by simp; exact fun e => hD4.d2 e.symm)⟩
end Go.Proofs.YtembflnhhfliaaaGreatDoor
/- What the document's Decode keeps in its inner loops. Plain lemmas. -/
namespace Go.Proofs.YtembflnhhfliaaaGreatDoor
open BigFrame Go.ChangeShapes Go.WideShapes Go.ChangeAt Go.RowKit Go.Lib Go.Maps
set_option linter.unusedVariables false
set_option linter.unusedSimpArgs false

def deX (xs : List Nat) (c : Nat) : Prop := dS xs = .error c
/-- Live in the loop over keys. -/
def lv2 (xs : List Nat) (m : Int) (bs : List Int) (z : Int) (j : Nat) (ps : List Kv) (p : Nat) : Prop := ∃ n : Nat, z = n ∧ n ≤ 65536 ∧ j ≤ n ∧ dS xs = kK m bs (preL ps (dR dK (n - j) (xs.drop p)))
/-- Live in the loop over a key's versions. -/
def lv3 (xs : List Nat) (m : Int) (bs : List Int) (z2 : Int) (j : Nat) (ps : List Kv) (key : ByteArray) (z : Int) (k : Nat) (vs : List Vn) (p : Nat) : Prop := ∃ N n : Nat, z2 = N ∧ N ≤ 65536 ∧ j < N ∧ z = n ∧ n ≤ 65536 ∧ k ≤ n ∧ dS xs = kV m bs ps key (N - (j + 1)) (preL vs (dR dX (n - k) (xs.drop p)))
section
variable {xs : List Nat} {m z z2 : Int} {bs : List Int} {j k : Nat} {ps : List Kv} {key : ByteArray} {vs : List Vn} {p p' q c : Nat}
theorem lv2.keyed {n : Nat} (h : lv2 xs m bs z2 j ps p) (hj : (j : Int) < z2) (h1 : dT 64 (xs.drop p) = .ok (key, xs.drop q)) (h2 : dN (xs.drop q) = .ok (n, xs.drop p')) (hn : n ≤ 65536) : lv3 xs m bs z2 j ps key (n : Int) 0 [] p' := by
  obtain ⟨N, g1, g2, g3, g4⟩ := h
  refine ⟨N, n, g1, g2, by omega, rfl, hn, Nat.zero_le _, ?_⟩
  rw [g4, show N - j = (N - (j + 1)) + 1 by omega, kK_key h1 h2, preL_nil]
  rfl
theorem lv2.noT (h : lv2 xs m bs z2 j ps p) (hj : (j : Int) < z2) (h1 : dT 64 (xs.drop p) = .error c) : deX xs c := by
  obtain ⟨N, g1, g2, g3, g4⟩ := h
  show dS xs = _
  rw [g4, show N - j = (N - (j + 1)) + 1 by omega, preL_err ps (dK_t h1)]
  rfl
theorem lv2.noN (h : lv2 xs m bs z2 j ps p) (hj : (j : Int) < z2) (h1 : dT 64 (xs.drop p) = .ok (key, xs.drop q)) (h2 : dN (xs.drop q) = .error c) : deX xs c := by
  obtain ⟨N, g1, g2, g3, g4⟩ := h
  show dS xs = _
  rw [g4, show N - j = (N - (j + 1)) + 1 by omega, preL_err ps (dK_l h1 (dL_no h2))]
  rfl
theorem lv2.out (h : lv2 xs m bs z2 j ps p) (hj : ¬ (j : Int) < z2) : dS xs = .ok (⟨m, bs, ps⟩, xs.drop p) := by
  obtain ⟨N, g1, g2, g3, g4⟩ := h
  rw [g4, show N - j = 0 by omega, preL_end]
  rfl
theorem lv3.go {v : Vn} (h : lv3 xs m bs z2 j ps key z k vs p) (hk : (k : Int) < z) (h1 : dX (xs.drop p) = .ok (v, xs.drop p')) : lv3 xs m bs z2 j ps key z (k + 1) (vs ++ [v]) p' := by
  obtain ⟨N, n, g1, g2, g3, g4, g5, g6, g7⟩ := h
  refine ⟨N, n, g1, g2, g3, g4, g5, by omega, ?_⟩
  rw [g7, show n - k = (n - (k + 1)) + 1 by omega, preL_step vs h1]
theorem lv3.no (h : lv3 xs m bs z2 j ps key z k vs p) (hk : (k : Int) < z) (h1 : dX (xs.drop p) = .error c) : deX xs c := by
  obtain ⟨N, n, g1, g2, g3, g4, g5, g6, g7⟩ := h
  show dS xs = _
  rw [g7, show n - k = (n - (k + 1)) + 1 by omega, preL_err vs h1]
  rfl
theorem lv3.out (h : lv3 xs m bs z2 j ps key z k vs p) (hk : ¬ (k : Int) < z) : lv2 xs m bs z2 (j + 1) (ps ++ [(key, vs)]) p := by
  obtain ⟨N, n, g1, g2, g3, g4, g5, g6, g7⟩ := h
  refine ⟨N, g1, g2, by omega, ?_⟩
  rw [g7, show n - k = 0 by omega, preL_end]
  rfl
end
/-- The loop over a key's versions: the key's box, its row. -/
structure L3 (wb wr : World) (t hb : Nat) (key : ByteArray) (vo : Option Addr) (k cv : Nat) (vs : List Vn) : Prop where
  box : wr.heap[hb]? = some (.cells #[.string key, .slice vo k cv] 147 (0, 0))
  row : wr.ownsRow wb.heap.size 136 3 (.slice vo k cv) k (vnsC vs)
  len : k = vs.length
  fr : Fr [t, hb] wb wr
  tn : t < wb.heap.size
  hn : hb < wb.heap.size
  ne : t ≠ hb
section
variable {wb wr w' : World} {t hb : Nat} {key : ByteArray} {vo : Option Addr} {k cv : Nat} {vs : List Vn}
theorem L3.stepT (h : L3 wb wr t hb key vo k cv vs) (hF : Fr [t] wr w') : L3 wb w' t hb key vo k cv vs :=
  ⟨hF.keep h.box (by simp; exact fun e => h.ne e.symm), owns_keepB h.row hF (fun j hj hm => by
    simp at hm
    subst hm
    have := (owns_cells h.row hj).1
    have := h.tn
    omega), h.len, h.fr.trans hF (fun x hx _ => hx) (fun x hx _ => by simp at hx; simp [hx]), h.tn, h.hn, h.ne⟩
theorem L3.c0 (h : L3 wb wr t hb key vo k cv vs) : wr.cell? ⟨hb, 0, none⟩ = some (.string key) := by rw [cell_of_row _ _ _ _ _ _ h.box]; rfl
theorem L3.c1 (h : L3 wb wr t hb key vo k cv vs) : wr.cell? ⟨hb, 1, none⟩ = some (.slice vo k cv) := by rw [cell_of_row _ _ _ _ _ _ h.box]; rfl
theorem L3.fz (h : L3 wb wr t hb key vo k cv vs) (j : Nat) : wr.frozen? ⟨hb, j, none⟩ = false := by simp [World.frozen?, h.box]
/-- One version more. -/
theorem L3.app {w4 : World} {vo' : Option Addr} {c' : Nat} {v : Vn} {ao : Option Addr} {L cap : Nat} {lv : Nat → Prop} {de : Nat → Prop} (h : L3 wb wr t hb key vo k cv vs) (hS : St wr t ao L cap lv de) (hrow : w4.ownsRow wb.heap.size 136 3 (.slice vo' (k + 1) c') (k + 1) (vnsC (vs ++ [v]))) (hF : Fr (Value.slice vo k cv).ownBlock.toList wr w4) :
    w4.frozen? ⟨hb, 1, none⟩ = false ∧ w4.cell? ⟨hb, 1, none⟩ = some (.slice vo k cv) ∧ L3 wb (w4.setCell ⟨hb, 1, none⟩ (.slice vo' (k + 1) c')) t hb key vo' (k + 1) c' (vs ++ [v]) ∧ St (w4.setCell ⟨hb, 1, none⟩ (.slice vo' (k + 1) c')) t ao L cap lv de := by
  obtain ⟨ct, hct⟩ := hS.box
  have hb4 := hF.keep h.box (far_row h.box h.row (by decide))
  have hS4 := hS.keep hF (far_row hct h.row (by decide))
  have hF5 : Fr [hb] w4 (w4.setCell ⟨hb, 1, none⟩ (.slice vo' (k + 1) c')) := Fr.set _ _ _ (by simp)
  refine ⟨by simp [World.frozen?, hb4], by rw [cell_of_row _ _ _ _ _ _ hb4]; rfl, ⟨?_, owns_keepB hrow hF5 (fun j hj hm => ?_), by rw [h.len]; simp, ?_, h.tn, h.hn, h.ne⟩, hS4.keep hF5 (by simp; exact h.ne)⟩
  · rw [put_row _ hb4]; rfl
  · simp at hm
    subst hm
    have := (owns_cells hrow hj).1
    have := h.hn
    omega
  · refine (h.fr.trans hF (U := [t, hb]) (fun x hx _ => hx) (fun x hx hl => ?_)).trans hF5 (fun x hx _ => hx) (fun x hx _ => by simp at hx; simp [hx])
    have := (owns_cells h.row (Option.mem_toList.1 hx)).1
    omega
end
theorem own_cap18 {w : World} {base : Nat} {e : TypeId} {size : Nat} {ao : Option Addr} {n cap : Nat} {xs : List Value} (h : w.ownsRow base e size (.slice ao n cap) n xs) : n ≤ cap := by
  rcases h.2 with ⟨hh, _⟩ | ⟨g, c, cur, hh, _, _, hn, _⟩
  · cases hh; omega
  · cases hh; exact hn
/-- One key more in the checkpoint. -/
theorem app_held {w wr w4 : World} {b0 t sb : Nat} {x : Value} {yo ho so' : Option Addr} {i c j ch c' : Nat} {bs : List Int} {hs hs' : List Hd} {ao : Option Addr} {L cap : Nat} {lv : Nat → Prop} {de : Nat → Prop}
    (h : Dy w wr b0 t sb x (.slice yo i c) (.slice ho j ch)) (hO : IOw w.heap.size wr yo i c bs) (hH : HOut w wr ho j ch hs) (hS : St wr t ao L cap lv de) (e1 : HOut w w4 so' (j + 1) c' hs') (e2 : Fr (Value.slice ho j ch).ownBlock.toList wr w4) :
    (w4.frozen? ⟨sb, 2, none⟩ = false ∧ w4.cell? ⟨sb, 2, none⟩ = some (.slice ho j ch)) ∧ Hid (Dy w (w4.setCell ⟨sb, 2, none⟩ (.slice so' (j + 1) c')) b0 t sb x (.slice yo i c) (.slice so' (j + 1) c') ∧ IOw w.heap.size (w4.setCell ⟨sb, 2, none⟩ (.slice so' (j + 1) c')) yo i c bs ∧ HOut w (w4.setCell ⟨sb, 2, none⟩ (.slice so' (j + 1) c')) so' (j + 1) c' hs' ∧ St (w4.setCell ⟨sb, 2, none⟩ (.slice so' (j + 1) c')) t ao L cap lv de) := by
  obtain ⟨ct, hct⟩ := hS.box
  have hD4 := h.row e2 (far_row h.i.rb.box hH.row (by decide)) (far_row h.i.sv.box hH.row (by decide)) (fun k hk => (owns_cells hH.row (Option.mem_toList.1 hk)).1)
  have hS4 := hS.keep e2 (far_row hct hH.row (by decide))
  have hO4 : IOw w.heap.size w4 yo i c bs := hO.keepS e2 (fun k hk hm => by
    obtain ⟨_, cur, hc⟩ := owns_cells hO.row hk
    exact far_row hc hH.row (by decide) hm)
  obtain ⟨hD5, hF5⟩ := hD4.at2 (.slice so' (j + 1) c')
  exact ⟨⟨hD4.i.sv.fz 2, hD4.i.sv.c2⟩, hD5, hO4.offS hD4.i.sv hF5, e1.offS hD4.i.sv hF5, hS4.keep hF5 (by simp; exact fun e => hD4.d2 e.symm)⟩
end Go.Proofs.YtembflnhhfliaaaGreatDoor
