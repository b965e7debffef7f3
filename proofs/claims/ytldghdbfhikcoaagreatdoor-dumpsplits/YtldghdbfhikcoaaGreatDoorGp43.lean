/- Texts of this claim laid together, one behind the other: contracts and plain lemmas; conditions as each names them. -/
import Derived.Test.YtldghdbfhikcoaaGreatDoorGp35
import Derived.Test.YtldghdbfhikcoaaGreatDoorGp40
import Derived.Test.YtldghdbfhikcoaaGreatDoorGp41
import Derived.Test.YtldghdbfhikcoaaGreatDoorGp42
import Derived.Test.YtldghdbfhikcoaaGreatDoorGp5
import Derived.Test.YtldghdbfhikcoaaGreatDoorGp34
import Derived.Test.YtldghdbfhikcoaaGreatDoorGp31
/- What both Encodes tell of a checkpoint; its twin read; a Book that is told a checkpoint. Conditions as each names them. -/
namespace Go.Proofs.YtldghdbfhikcoaaGreatDoor
open BigFrame Go.ChangeShapes Go.WideShapes Go.ChangeAt Go.RowKit Go.Lib Go.Maps
set_option linter.unusedVariables false
set_option linter.unusedSimpArgs false

/-- What is told of a checkpoint: what is wrong, and its bytes. -/
def ToldD (m : Int) (bs : List Int) (ps : List Kv) (c : Nat) (ys : List Nat) : Prop := (OkS m bs ps ∧ c = 0 ∧ ys = encD m bs ps) ∨ (¬ OkS m bs ps ∧ c = 1 ∧ ys = [])
theorem ToldD.ex (m : Int) (bs : List Int) (ps : List Kv) : ∃ c ys, ToldD m bs ps c ys := by
  by_cases h : OkS m bs ps
  · exact ⟨0, _, Or.inl ⟨h, rfl, rfl⟩⟩
  · exact ⟨1, _, Or.inr ⟨h, rfl, rfl⟩⟩
theorem ToldD.ck {m : Int} {bs : List Int} {hs : List Hd} {ps : List Kv} {c : Nat} {ys : List Nat} (h : ToldD m bs ps c ys) (hp : hs.map Hd.kv = ps) : CkS m bs hs c := by
  subst hp
  rcases h with ⟨a, b, _⟩ | ⟨a, b, _⟩
  · exact Or.inl ⟨b, a⟩
  · exact Or.inr ⟨b, a⟩
theorem ToldD.len {m : Int} {bs : List Int} {ps : List Kv} {c : Nat} {ys : List Nat} (h : ToldD m bs ps c ys) (hz : bs.length + szKs ps ≤ 1048576) : ys.length < 2^26 := by
  rcases h with ⟨a, _, rfl⟩ | ⟨_, _, rfl⟩
  · have := (encD_length m bs ps).2
    omega
  · simp
theorem row_owns {w : World} {k N : Nat} {ys : List Nat} (h : w.heap[k]? = some (.cells (bts ys).toArray 5 (0, 0))) (hN : N = ys.length) (hm : N < 2^40) : w.ownsRow 0 5 1 (.slice (some ⟨k, 0, none⟩) N N) N (bts ys) := by
  refine ⟨by rw [bts_length]; omega, .inr ⟨k, N, (bts ys).toArray, rfl, Nat.zero_le _, h, Nat.le_refl _, by simp only [maxLen]; omega, by simp [bts_length]; omega, ?_⟩⟩
  simp only [Nat.mul_one]
  rw [List.take_of_length_le (by rw [bts_length]; omega)]
theorem own_rs {w : World} {ao : Option Addr} {n cap : Nat} {xs : List Nat} (h : w.ownsRow 0 5 1 (.slice ao n cap) n (bts xs)) (hn : n = xs.length) (hl : xs.length < 2^41) : Rs w ao xs := by
  have h' : Wn w (.slice ao n cap) xs := by unfold Wn; rw [← hn]; exact h
  exact h'.rs hl
theorem Rs.fr5 {w w' : World} {ao : Option Addr} {xs : List Nat} (h : Rs w ao xs) (hf : Fr [] w w') : Rs w' ao xs := by
  refine ⟨fun h0 => ?_, h.len⟩
  obtain ⟨b, off, e, hc⟩ := h.lies h0
  exact ⟨b, off, e, fun j hj => by
    have hlt := World.block_lt_of_cell? w _ (hc j hj)
    rw [World.cell?_of_block (hf.block b hlt (by simp))]
    exact hc j hj⟩
/-- The program's Encode. -/
theorem dencode_gen (m : Int) (bo ho : Option Addr) (Lb cb Lh ch c N : Nat) (bs : List Int) (hs : List Hd) (ps : List Kv) (ys : List Nat) (w : World) (hI : IRs w bo bs) (hLb : Lb = bs.length) (hH : HRs w ho hs) (hLh : Lh = hs.length) (hp : hs.map Hd.kv = ps) (hT : ToldD m bs ps c ys) (hN : N = ys.length) (hz : bs.length + szKs ps ≤ 1048576) :
    Calls Tryz.prog 9 #[.agg #[.int .i64 m, .slice bo Lb cb, .slice ho Lh ch]] w fun e w' => ∃ ao cap, e = .returned (.tuple #[.slice ao N cap, .int .i64 (c : Int)]) ∧ w'.ownsRow 0 5 1 (.slice ao N cap) N (bts ys) ∧ (∀ k, (Value.slice ao N cap).ownBlock = some k → w.heap.size ≤ k) ∧ Fr [] w w' := by
  have hl := hT.len hz
  subst hp
  rcases hT with ⟨hok, rfl, rfl⟩ | ⟨hno, rfl, rfl⟩
  · refine (dencode_ok m bo ho Lb cb Lh ch N bs hs _ w hI hLb hH hLh hok rfl hN (by omega)).mono ?_
    rintro e w' ⟨k, rfl, hk, hrow, hF⟩
    exact ⟨some ⟨k, 0, none⟩, N, rfl, row_owns hrow hN (by omega), by intro j hj; simp [Value.ownBlock] at hj; omega, hF⟩
  · simp only [List.length_nil] at hN
    subst hN
    refine (dencode_no m bo ho Lb cb Lh ch bs hs w hI hLb hH hLh hno).mono ?_
    rintro e w' ⟨rfl, hF⟩
    exact ⟨none, 0, rfl, World.ownsRow_nil _ _ _ _, by intro j hj; simp [Value.ownBlock] at hj, hF⟩
/-- The document's. -/
theorem ywencode_gen (m : Int) (bo ho : Option Addr) (Lb cb Lh ch c N : Nat) (bs : List Int) (hs : List Hd) (ys : List Nat) (w : World) (hI : IRs w bo bs) (hLb : Lb = bs.length) (hH : HRs w ho hs) (hLh : Lh = hs.length) (hT : ToldD m bs (hs.map Hd.kv) c ys) (hN : N = ys.length) (hz : bs.length + szKs (hs.map Hd.kv) ≤ 1048576) (hL : Lh < 2^21) :
    Calls Tryz.prog 10 #[.agg #[.int .i64 m, .slice bo Lb cb, .slice ho Lh ch]] w fun e w' => ∃ ao cap, e = .returned (.tuple #[.slice ao N cap, .int .i64 (c : Int)]) ∧ Rs w' ao ys ∧ Fr [] w w' := by
  have hl := hT.len hz
  rcases hT with ⟨hok, rfl, rfl⟩ | ⟨hno, rfl, rfl⟩
  · refine (ywencode_ok m bo ho Lb cb Lh ch N bs hs _ w hI hLb hH hLh hok rfl hN (by omega) (by omega) (by omega)).mono ?_
    rintro e w' ⟨ao, cap, rfl, hW⟩
    exact ⟨ao, cap, rfl, hW.it.wn.rs (by omega), hW.fr⟩
  · simp only [List.length_nil] at hN
    subst hN
    refine (ywencode_no m bo ho Lb cb Lh ch bs hs w hI hLb hH hLh hno).mono ?_
    rintro e w' ⟨rfl, hF⟩
    exact ⟨none, 0, rfl, Rs.nil _ _, hF⟩
/-! ### The twin -/
theorem TwS.irs {w0 w w1 : World} {bs : List Int} {hs : List Hd} {bb bh : Nat} {ks : List Nat} {bo : Option Addr} (h : TwS w0 w bs hs bb bh ks) (hI : IRs w1 bo bs) : IRs w (some ⟨bb, 0, none⟩) bs := by
  refine ⟨fun h0 => ⟨bb, 0, rfl, lt_of_block h.rb, fun i hi => ?_⟩, hI.few⟩
  rw [cell_of_row _ _ _ _ _ _ h.rb, List.getElem?_toArray, Nat.zero_add, intsT_get _ _ (by simp; omega)]
  congr 2
  simp [List.getD, List.getElem?_append_left hi]
theorem TwS.hrs {w0 w w1 : World} {bs : List Int} {hs : List Hd} {bb bh : Nat} {ks : List Nat} {ho : Option Addr} (h : TwS w0 w bs hs bb bh ks) (hH : HRs w1 ho hs) : HRs w (some ⟨bh, 0, none⟩) (twTs hs ks) := twins_hrs hH h.tw h.rh
theorem TwS.kv {w0 w : World} {bs : List Int} {hs : List Hd} {bb bh : Nat} {ks : List Nat} (h : TwS w0 w bs hs bb bh ks) : (twTs hs ks).map Hd.kv = hs.map Hd.kv := twins_kv h.tw
theorem TwS.iown {w0 w : World} {bs : List Int} {hs : List Hd} {bb bh L : Nat} {ks : List Nat} (h : TwS w0 w bs hs bb bh ks) (hL : L = bs.length) (hm : L < 2^21) : w.ownsRow 0 3 1 (.slice (some ⟨bb, 0, none⟩) L (L + 1)) L (intsT bs) := by
  refine ⟨by rw [intsT_length, hL, Nat.mul_one], .inr ⟨bb, L + 1, (intsT (bs ++ [7777])).toArray, rfl, Nat.zero_le _, h.rb, by omega, by simp only [maxLen]; omega, by simp [intsT_length]; omega, ?_⟩⟩
  have e : intsT (bs ++ [7777]) = intsT bs ++ intsT [7777] := by simp [intsT]
  simp only [e]
  rw [List.take_append_of_le_length (by rw [intsT_length]; omega), List.take_of_length_le (by rw [intsT_length]; omega)]
/-! ### The sizes -/
theorem szXs_ge (vs : List Vn) : vs.length ≤ szXs vs := by
  induction vs with
  | nil => simp
  | cons v r ih =>
    have hz : szX v = 1 + v.val.size := rfl
    simp only [szXs, List.map_cons, List.sum_cons, List.length_cons] at *
    omega
theorem szK_ge (p : Kv) : 1 ≤ szK p ∧ p.2.length ≤ szK p := by
  have := szXs_ge p.2
  unfold szK
  omega
theorem szKs_few {hs : List Hd} (h : szKs (hs.map Hd.kv) ≤ 1048576) : hs.length ≤ 1048576 ∧ ∀ x ∈ hs, x.vs.length ≤ 1048576 := by
  have key : ∀ l : List Hd, l.length ≤ szKs (l.map Hd.kv) ∧ ∀ x ∈ l, x.vs.length ≤ szKs (l.map Hd.kv) := by
    intro l
    induction l with
    | nil => simp [szKs]
    | cons b r ih =>
      have h1 : 1 ≤ szK b.kv ∧ b.vs.length ≤ szK b.kv := szK_ge b.kv
      obtain ⟨i1, i2⟩ := ih
      have e : szKs ((b :: r).map Hd.kv) = szK b.kv + szKs (r.map Hd.kv) := by simp [szKs]
      rw [e]
      refine ⟨by simp only [List.length_cons]; omega, fun x hx => ?_⟩
      rcases List.mem_cons.1 hx with rfl | hx
      · omega
      · have := i2 x hx; omega
  obtain ⟨a, b⟩ := key hs
  exact ⟨by omega, fun x hx => by have := b x hx; omega⟩
namespace Bq
theorem moved_weak {n k : Nat} {v v' : Value} (h : Moved k v v') (hk : n ≤ k) : Moved n v v' := by
  rcases h with h | ⟨b, h1, h2⟩
  · exact Or.inl h
  · exact Or.inr ⟨b, h1, Nat.le_trans hk h2⟩
set_option maxHeartbeats 4000000 in
set_option maxRecDepth 100000 in
/-- A Book is told a checkpoint. -/
theorem saved_tell {w0 w : World} {bk T : Nat} {rB rI rW rT : Value} {hB hI hW hT : List HB} (h : B4 w0 w bk T rB rI rW rT hB hI hW hT) (m : Int) (io ho : Option Addr) (Lb cb Lh ch : Nat) (ds : List Dt) (hp : P0 kInt w ⟨.slice io Lb cb, .slice none 0 0, T + 1⟩) (hal : ∀ k, (Value.slice io Lb cb).ownBlock = some k → k ∉ lbs hI) (hd : Dts w ho Lh ch ds) (hw : ∀ (i : Nat) (d : Dt), ds[i]? = some d → ∀ k, d.2.ownBlock = some k → k ∉ lbs hT) (ht : ∀ k, (Value.slice ho Lh ch).ownBlock = some k → k ∉ lbs hW) (hTL : T + 1 + Lh < 67108000) :
    Calls Tryz.prog 15 #[.pointer (some ⟨bk, 0, none⟩), .agg #[.int .i64 m, .slice io Lb cb, .slice ho Lh ch]] w fun e w' => e = .returned (.tuple #[]) ∧ ∃ rI' rT' rW', B4 w0 w' bk (T + 1 + Lh + 1) rB rI' rW' rT' hB (hI ++ [⟨.slice io Lb cb, .slice none 0 0, T + 1⟩]) (hW ++ [⟨.slice ho Lh ch, .slice none 0 0, T + 1 + Lh + 1⟩]) (hT ++ held (T + 1) ds) ∧ Fr (bk :: (rI.ownBlock.toList ++ (rT.ownBlock.toList ++ rW.ownBlock.toList))) w w' ∧ Moved w.heap.size rI rI' ∧ Moved w.heap.size rT rT' ∧ Moved w.heap.size rW rW' := by
  obtain ⟨wa, HWa⟩ : ∃ wa, Hid (w.alloc (.cells #[.int .i64 m, .slice io Lb cb, .slice ho Lh ch] 25) = wa) := ⟨_, rfl⟩
  have hFa : Fr [] w wa := by rw [← HWa.out]; exact Fr.alloc [] w _
  have hba : wa.heap[w.heap.size]? = some (.cells #[.int .i64 m, .slice io Lb cb, .slice ho Lh ch] 25 (0, 0)) := by rw [← HWa.out]; exact heap_alloc_new w _
  have hlt := h.lt
  have ha := h.keep hFa
  have hda := hd.keep hFa (by simp) (by simp)
  obtain ⟨k0, k1, k2⟩ := sv_cells hba
  have HI : Hid (Calls _ _ _ _ _) := ints_any ha io Lb cb (hp.keep hFa (by simp)) hal (by omega)
  have HNx : Hid (∀ rv' w1, B4 w0 w1 bk (T + 1) rB rv' rW rT hB (hI ++ [⟨.slice io Lb cb, .slice none 0 0, T + 1⟩]) hW hT → Fr (bk :: rI.ownBlock.toList) wa w1 → Moved wa.heap.size rI rv' →
      w1.cell? ⟨w.heap.size, 2, none⟩ = some (.slice ho Lh ch) ∧ Calls Tryz.prog 45 #[.pointer (some ⟨bk, 0, none⟩), .slice ho Lh ch] w1 fun e w' => e = .returned (.tuple #[]) ∧ ∃ rI' rT' rW', B4 w0 w' bk (T + 1 + Lh + 1) rB rI' rW' rT' hB (hI ++ [⟨.slice io Lb cb, .slice none 0 0, T + 1⟩]) (hW ++ [⟨.slice ho Lh ch, .slice none 0 0, T + 1 + Lh + 1⟩]) (hT ++ held (T + 1) ds) ∧ Fr (bk :: (rI.ownBlock.toList ++ (rT.ownBlock.toList ++ rW.ownBlock.toList))) w w' ∧ Moved w.heap.size rI rI' ∧ Moved w.heap.size rT rT' ∧ Moved w.heap.size rW rW') := fun rv' w1 h1 hF1 hM1 => by
    obtain ⟨cs, hX, _⟩ := ha.box
    have hnb : ∀ k cs' t, wa.heap[k]? = some (.cells cs' t (0, 0)) → t ≠ 48 → k ≠ bk := fun k cs' t hk hne e => by
      subst e
      rw [hX.box] at hk
      cases hk
      exact hne rfl
    have hnE : ∀ k cs', wa.heap[k]? = some (.cells cs' 73 (0, 0)) → k ∉ bk :: rI.ownBlock.toList := fun k cs' hk hm => by
      rcases List.mem_cons.1 hm with e | e
      · exact hnb k cs' _ hk (by decide) e
      · exact (off_row off_WI ha.sI.bl).notE hk e
    have hnV : ∀ k cs', wa.heap[k]? = some (.cells cs' 80 (0, 0)) → k ∉ bk :: rI.ownBlock.toList := fun k cs' hk hm => by
      rcases List.mem_cons.1 hm with e | e
      · exact hnb k cs' _ hk (by decide) e
      · exact (off_row off_TI ha.sI.bl).notE hk e
    have hd1 := hda.keep hF1 (fun k hk => by obtain ⟨c, hc⟩ := own_type hda.row k hk; exact hnE k c hc) (fun i d hdi k hk => by
      obtain ⟨n, vs, q1, q2⟩ := hda.each i d hdi
      obtain ⟨c, hc⟩ := q1.type k hk
      exact hnV k c hc)
    refine ⟨?_, (helds_any h1 ho Lh ch ds hd1 hw ht (by omega)).mono ?_⟩
    · have hbk : w.heap.size ∉ bk :: rI.ownBlock.toList := fun hm => by
        rcases List.mem_cons.1 hm with e | e
        · have := hlt bk (mem_kbs.2 (Or.inl rfl)); omega
        · have := hlt w.heap.size (mem_kbs.2 (Or.inr (Or.inr (Or.inl (Or.inl (by simpa using e)))))); omega
      exact (sv_cells (hF1.keep hba hbk)).2.2
    · rintro e w2 ⟨rfl, rT', rW', h2, hF2, hM2, hM3⟩
      have hs1 := hFa.size
      have hs2 := hF1.size
      refine ⟨rfl, rv', rT', rW', h2, ((hFa.mono (T := bk :: rI.ownBlock.toList) (by simp)).then hF1).trans hF2 (fun x hx _ => ?_) (fun x hx _ => ?_), moved_weak hM1 hs1, moved_weak hM2 (by omega), moved_weak hM3 (by omega)⟩
      · rcases List.mem_cons.1 hx with rfl | hx
        · exact List.mem_cons_self
        · exact List.mem_cons_of_mem _ (List.mem_append_left _ hx)
      · rcases List.mem_cons.1 hx with rfl | hx
        · exact List.mem_cons_self
        · exact List.mem_cons_of_mem _ (List.mem_append_right _ hx)
  clear h hp hal hd hw ht ha hda hlt hba hFa
  go_enter Tryz.func15, Tryz.ntmps15
  go_upto_region 1 with fail
  rw [HWa.out]
  go_wp2_with fail
  refine Calls.mono HI.out ?_
  rintro e w1 ⟨rfl, rv', h1, hF1, hM1⟩
  obtain ⟨k3, hC⟩ := HNx.out rv' w1 h1 hF1 hM1
  have HC : Hid (Calls _ _ _ _ _) := hC
  clear hC h1 hF1 hM1 HNx HI k0 k1 k2
  go_wp2_with fail
  refine Calls.mono HC.out ?_
  rintro e w2 ⟨rfl, R⟩
  have HR : Hid _ := R
  clear R HC
  go_wp2_with fail
  go_end0
  exact ⟨rfl, HR.out⟩
end Bq
end Go.Proofs.YtldghdbfhikcoaaGreatDoor
/- A checkpoint parted by shards: contracts of homesOf, living, Split. Conditions as each names them. -/
namespace Go.Proofs.YtldghdbfhikcoaaGreatDoor
open Go.ChangeShapes Go.WideShapes Go.ChangeAt Go.RowKit Go.Lib Go.Maps
set_option linter.unusedVariables false
set_option linter.unusedSimpArgs false

/-- The shard of a key. -/
def homeOf (s : Int) (h : Hd) : Int := shN13 s h.key
theorem homeOf_lt (s : Int) (h : Hd) (h1 : 1 ≤ s) : 0 ≤ homeOf s h ∧ homeOf s h < s := by
  unfold homeOf shN13
  exact ⟨Int.emod_nonneg _ (by omega), Int.emod_lt_of_pos _ (by omega)⟩
theorem Cf.shard_ok {l s x q : Int} {key : ByteArray} (hm : Cf.may ⟨l, s, x, q⟩) (hk : okK9 key) : Cf.shard ⟨l, s, x, q⟩ key = (shN13 s key, 0) := by
  have hk' : 1 ≤ key.size ∧ key.size ≤ 64 := hk
  simp [Cf.shard, hm, hk']
/-- A row of numbers being filled. -/
structure Hm (w : World) (hb L i : Nat) (ns : List Int) : Prop where
  blk : ∃ cs : Array Value, w.heap[hb]? = some (.cells cs 3 (0, 0)) ∧ cs.size = L ∧ ∀ j, j < i → cs[j]? = some (.int .i64 (ns.getD j 0))
theorem Hm.keep {S : List Nat} {w w' : World} {hb L i : Nat} {ns : List Int} (h : Hm w hb L i ns) (hf : Fr S w w') (hn : hb ∉ S) : Hm w' hb L i ns := by
  obtain ⟨cs, h1, h2, h3⟩ := h.blk
  exact ⟨cs, hf.keep h1 hn, h2, h3⟩
theorem Hm.lt {w : World} {hb L i : Nat} {ns : List Int} (h : Hm w hb L i ns) : hb < w.heap.size := by
  obtain ⟨cs, h1, _⟩ := h.blk
  exact lt_of_block h1
theorem Hm.cell {w : World} {hb L i : Nat} {ns : List Int} (h : Hm w hb L i ns) (j : Nat) (hj : j < L) : ∃ v, w.cell? ⟨hb, j, none⟩ = some v ∧ w.frozen? ⟨hb, j, none⟩ = false := by
  obtain ⟨cs, h1, h2, _⟩ := h.blk
  exact ⟨cs[j]'(by omega), by rw [cell_of_row _ _ _ _ _ _ h1]; simp [h2, hj], vfrozen h1 j⟩
theorem row_put18 {w : World} {b j : Nat} {cs : Array Value} {t : TypeId} (x : Value) (h : w.heap[b]? = some (.cells cs t (0, 0))) : (w.setCell ⟨b, j, none⟩ x).heap[b]? = some (.cells (cs.setIfInBounds j x) t (0, 0)) := by
  have hlt := lt_of_block h
  have h' : w.heap[b] = .cells cs t (0, 0) := by simpa [Array.getElem?_eq_getElem hlt] using h
  show (w.heap.modify b _)[b]? = _
  rw [Array.getElem?_eq_getElem (by simpa using hlt), Array.getElem_modify_self, h']
  rfl
theorem Hm.put {w : World} {hb L i : Nat} {ns : List Int} (h : Hm w hb L i ns) (hi : i < L) : Hm (w.setCell ⟨hb, i, none⟩ (.int .i64 (ns.getD i 0))) hb L (i + 1) ns := by
  obtain ⟨cs, h1, h2, h3⟩ := h.blk
  refine ⟨_, row_put18 _ h1, by simpa using h2, fun j hj => ?_⟩
  by_cases hji : j = i
  · subst hji
    simp [h2, hi]
  · rw [Array.getElem?_setIfInBounds_ne (by omega)]
    exact h3 j (by omega)
theorem Hm.irs {w : World} {hb L : Nat} {ns : List Int} (h : Hm w hb L L ns) (hL : L = ns.length) (hl : L ≤ 17592186044416) : IRs w (some ⟨hb, 0, none⟩) ns := by
  obtain ⟨cs, h1, h2, h3⟩ := h.blk
  exact ⟨fun _ => ⟨hb, 0, rfl, lt_of_block h1, fun i hi => by rw [cell_of_row _ _ _ _ _ _ h1, Nat.zero_add]; exact h3 i (by omega)⟩, by omega⟩
theorem made_ints {w' : World} {b C : Nat} {ys : List Value} (ns : List Int) (h : w'.ownsRow 0 3 1 (.slice (some ⟨b, 0, none⟩) C C) C ys) : Hm w' b C 0 ns := by
  rcases h.2 with ⟨hh, _⟩ | ⟨g', cap', cur, hh, hb, hg, hnc, hcm, hcs, ht⟩
  · cases hh
  · cases hh
    exact ⟨cur, hg, by simpa using hcs, fun j hj => by omega⟩
set_option maxHeartbeats 8000000 in
set_option maxRecDepth 100000 in
theorem homes_any (l s x q : Int) (ho : Option Addr) (Lh ch : Nat) (hs : List Hd) (w : World) (hm : Cf.may ⟨l, s, x, q⟩) (hH : HRs w ho hs) (hLh : Lh = hs.length) (hk : ∀ h ∈ hs, okK9 h.key) :
    Calls Tryz.prog 93 #[.agg #[.int .i64 l, .int .i64 s, .int .i64 x, .int .i64 q], .slice ho Lh ch] w fun e w' => ∃ hb, e = .returned (.slice (some ⟨hb, 0, none⟩) Lh Lh) ∧ IRs w' (some ⟨hb, 0, none⟩) (hs.map (homeOf s)) ∧ Fr [] w w' := by
  obtain ⟨iI, hiI, hzI, hsI, hbI⟩ := infoI_parts
  have HLh : Hid (Lh = hs.length) := hLh
  have hLL : Lh ≤ 3518437208882 := by have := hH.few; omega
  have HK : Hid (∀ h ∈ hs, okK9 h.key) := hk
  have HM : Hid (Cf.may ⟨l, s, x, q⟩) := hm
  obtain ⟨w1, HW1⟩ : ∃ w1, Hid (w.alloc (.cells #[.int .i64 l, .int .i64 s, .int .i64 x, .int .i64 q] 58) = w1) := ⟨_, rfl⟩
  have hF1 : Fr [] w w1 := by rw [← HW1.out]; exact Fr.alloc [] w _
  have hC1 : CfM w1 w.heap.size l s x q := by rw [← HW1.out]; exact CfM.new _ _ _ _ _ _
  have hc1 := hC1.1
  have HH : Hid (∀ W, Fr [] w1 W → HRs W ho hs) := fun W hf => hH.keep (hF1.then hf)
  have HF1 : Hid (Fr [] w w1) := hF1
  have HC1 : Hid (∀ W, Fr [] w1 W → CfM W w.heap.size l s x q) := fun W hf => hC1.keep hf
  clear hH hLh hk hm hF1 hC1
  go_enter Tryz.func93, Tryz.ntmps93
  go_upto_region 1 with fail
  rw [HW1.out]
  go_wp2_with (at_make; refine wpList_make_full _ rfl (.tmp 9) (.tmp 9) 22 rfl 0 3 iI _ 1 Tryz.undIs11 hiI hzI hsI .i64 .i64 Lh Lh Lh rfl rfl rfl rfl ?b2 ?b3 ?b4 ?_)
  case b2 => rw [hbI]; omega
  case b3 => unfold maxLen; omega
  case b4 => exact Nat.zero_le _
  intro w2 hown hgrow
  have hF2 : Fr [] w1 w2 := Fr.grown (S := []) hgrow (by simp)
  have HM2 : Hid (Hm w2 w1.heap.size Lh 0 (hs.map (homeOf s))) := made_ints _ hown
  have HF2 : Hid (Fr [] w1 w2) := hF2
  obtain ⟨hb, hhb⟩ : ∃ hb, hb = w1.heap.size := ⟨_, rfl⟩
  rw [← hhb] at HM2 ⊢
  have hb1 : w1.heap.size ≤ hb := by omega
  clear hown hgrow hF2 hhb
  go_wp2_with fail
  go_loopw [13] (fun ii wr => ∃ (i : Nat), ii = .int .i64 i ∧ i ≤ Lh ∧ Hid (Hm wr hb Lh i (hs.map (homeOf s))) ∧ Hid (Fr [] w1 wr)) (fun ii _ => Lh - (RowKit.intOf ii).toNat)
  case atStart => exact ⟨0, rfl, Nat.zero_le _, HM2, HF2⟩
  case round =>
    obtain ⟨i, rfl, hiL, HR, HF⟩ := hrel
    by_cases hi : i < Lh
    · have hi' : i < hs.length := by rw [← HLh.out]; exact hi
      have hlt : (i : Int) < Lh := by omega
      have hHr := HH.out _ HF.out
      obtain ⟨pb, off, rfl, hpb, hat⟩ := hHr.lies (by omega)
      obtain ⟨c0, c1⟩ := hat i hi'
      have hok := HK.out _ (hgetD_mem hs i hi')
      have hhome : (hs.map (homeOf s)).getD i 0 = homeOf s (hs.getD i Hd.zero) := by simp [List.getD, hi']
      obtain ⟨y, hy⟩ : ∃ y, y = hs.getD i Hd.zero := ⟨_, rfl⟩
      rw [← hy] at c0 c1 hok hhome
      obtain ⟨key, vo, Lv, cv, vs⟩ := y
      simp only at c0 c1 hok
      obtain ⟨w4, HW4⟩ : ∃ w4, Hid (wr.alloc (.cells #[.string key, .slice vo Lv cv] 73) = w4) := ⟨_, rfl⟩
      have hF4 : Fr [] wr w4 := by rw [← HW4.out]; exact Fr.alloc [] wr _
      have hb4 : w4.heap[wr.heap.size]? = some (.cells #[.string key, .slice vo Lv cv] 73 (0, 0)) := by rw [← HW4.out]; exact heap_alloc_new wr _
      have x0 : w4.cell? ⟨wr.heap.size, 0, none⟩ = some (.string key) := by rw [cell_of_row _ _ _ _ _ _ hb4]; rfl
      obtain ⟨_, f0, f1, f2, f3⟩ := HC1.out _ (HF.out.then hF4)
      have hSh := shard_any l s x q key w4 (by have := hok.2; omega)
      rw [Cf.shard_ok HM.out hok] at hSh
      have e1 : shN13 s key = (hs.map (homeOf s)).getD i 0 := by rw [hhome]; rfl
      simp only at hSh
      rw [e1] at hSh
      have HSh : Hid (Calls _ _ _ _ _) := hSh
      have HF4 : Hid (Fr [] w1 w4) := HF.out.then hF4
      have HR4 : Hid (∀ W, Fr [] w4 W → Hm W hb Lh i (hs.map (homeOf s))) := fun W hf => HR.out.keep (hF4.then hf) (by simp)
      obtain ⟨N, hN⟩ : ∃ N, N = (hs.map (homeOf s)).getD i 0 := ⟨_, rfl⟩
      rw [← hN] at HSh
      have HN : Hid (N = (hs.map (homeOf s)).getD i 0) := hN
      clear hat hpb hHr hy hb4 hF4 hSh HR HF hok hhome e1 hN
      go_upto_region 5 with fail
      rw [HW4.out]
      go_wp2_with fail
      refine Calls.mono HSh.out ?_
      rintro e w5 ⟨rfl, hF5⟩
      have hM5 := HR4.out _ hF5
      obtain ⟨v5, g0, g1⟩ := hM5.cell i hi
      have hp := hM5.put hi
      rw [← HN.out] at hp
      have HP : Hid (Hm (w5.setCell ⟨hb, i, none⟩ (.int .i64 N)) hb Lh (i + 1) (hs.map (homeOf s))) := hp
      have HF6 : Hid (Fr [] w1 (w5.setCell ⟨hb, i, none⟩ (.int .i64 N))) := (HF4.out.then hF5).on (Fr.set _ ⟨hb, i, none⟩ _ (by simp) : Fr [hb] _ _) (by intro k hk; simp at hk; omega)
      clear hM5 hF5 hp HSh HR4
      go_wp2_with fail
      go_roundw
      case rel => exact ⟨i + 1, by simp, by omega, HP, HF6⟩
      case measure => simp [RowKit.intOf]; omega
    · have hiL2 : i = Lh := by omega
      have HR2 : Hid (IRs wr (some ⟨hb, 0, none⟩) (hs.map (homeOf s)) ∧ Fr [] w wr) := ⟨(by have h1 := HR.out; rw [hiL2] at h1; exact h1.irs (by rw [List.length_map]; exact HLh.out) (by omega)), HF1.out.then HF.out⟩
      have hlt : ¬ (i : Int) < Lh := by omega
      clear hiL2 HR HF
      go_wp2
      go_ret
      exact ⟨hb, rfl, HR2.out.1, HR2.out.2⟩
end Go.Proofs.YtldghdbfhikcoaaGreatDoor
