/- Contracts and plain lemmas of this claim. -/
import Derived.Test.YtembflnhhfliaaaGreatDoorGp8
import Derived.Deep.RegionHeld3
import Derived.Test.YtembflnhhfliaaaGreatDoorGp4
import Derived.Test.YtembflnhhfliaaaGreatDoorGp27
import Derived.Test.YtembflnhhfliaaaGreatDoorGp30
import Derived.Test.YtembflnhhfliaaaGreatDoorGp17
set_option linter.unusedSimpArgs false
set_option linter.unusedVariables false
namespace Go.Proofs.YtembflnhhfliaaaGreatDoor
open Go.ChangeShapes Go.WideShapes Go.ChangeAt Go.RowKit Go.Lib Go.Maps
def I6 (n : Int) : Prop := -9223372036854775808 <= n /\ n <= 9223372036854775807
structure Cf where
  l : Int
  s : Int
  w : Int
  q : Int
def Cf.ok (c : Cf) : Prop := I6 c.l /\ I6 c.s /\ I6 c.w /\ I6 c.q
def Cf.v (c : Cf) : Value := .agg #[.int .i64 c.l, .int .i64 c.s, .int .i64 c.w, .int .i64 c.q]
def Cf.may (c : Cf) : Prop := (1 <= c.l /\ c.l <= 16) /\ (1 <= c.s /\ c.s <= 16) /\ (1 <= c.w /\ c.w <= 64) /\ (1 <= c.q /\ c.q <= 16)
instance (c : Cf) : Decidable c.may := by unfold Cf.may; infer_instance
structure Wd13 (w1 : World) where
  W : World
  h : Fr [] w1 W
instance (w1 : World) : Nonempty (Wd13 w1) := ⟨⟨w1, Fr.refl _ _⟩⟩
theorem zdn {P : Program} {w1 wr : World} {id : Nat} {Q : Exit -> Act -> World -> Prop} {a : Act} {l : List Oper} (hm : P.follows .mixedOrders = true) (hB : Region.lexB .any l.toArray = true) (hf : Fr [] w1 wr)
    (h : wpQuiet P l.toArray (fun w' => ∃ x : Wd13 w1, w' = x.W) (fun a' => ∀ w', (∃ x : Wd13 w1, w' = x.W) -> Q .normal a' w') l a) : (Code.region id l.toArray true).wp P Q a wr :=
  wp_region_quiet (C := fun w' => ∃ x : Wd13 w1, w' = x.W) hm hB ⟨⟨_, hf.then (Fr.drew [] wr)⟩, rfl⟩ (by simpa using h)
def CfM (w : World) (b : Nat) (l s x q : Int) : Prop := b < w.heap.size /\ w.cell? ⟨b, 0, none⟩ = some (.int .i64 l) /\ w.cell? ⟨b, 1, none⟩ = some (.int .i64 s) /\ w.cell? ⟨b, 2, none⟩ = some (.int .i64 x) /\ w.cell? ⟨b, 3, none⟩ = some (.int .i64 q)
theorem CfM.keep {w w' : World} {b : Nat} {l s x q : Int} (h : CfM w b l s x q) (hf : Fr [] w w') : CfM w' b l s x q := by
  have e : ∀ j, w'.cell? ⟨b, j, none⟩ = w.cell? ⟨b, j, none⟩ := fun j => World.cell?_of_block (a := ⟨b, j, none⟩) (hf.block b h.1 (by simp))
  exact ⟨Nat.lt_of_lt_of_le h.1 hf.size, (e 0).trans h.2.1, (e 1).trans h.2.2.1, (e 2).trans h.2.2.2.1, (e 3).trans h.2.2.2.2⟩
theorem CfM.new (w : World) (l s x q : Int) (t : TypeId) : CfM (w.alloc (.cells #[.int .i64 l, .int .i64 s, .int .i64 x, .int .i64 q] t)) w.heap.size l s x q :=
  ⟨by simp, by simp [World.cell?_alloc_at], by simp [World.cell?_alloc_at], by simp [World.cell?_alloc_at], by simp [World.cell?_alloc_at]⟩
section
variable {H : Type} {enc : TypeId × Value -> H}
end
open BigFrame
def ToldD (m : Int) (bs : List Int) (ps : List Kv) (c : Nat) (ys : List Nat) : Prop := (OkS m bs ps /\ c = 0 /\ ys = encD m bs ps) \/ (¬ OkS m bs ps /\ c = 1 /\ ys = [])
theorem ToldD.ex (m : Int) (bs : List Int) (ps : List Kv) : ∃ c ys, ToldD m bs ps c ys := by
  by_cases h : OkS m bs ps
  · exact ⟨0, _, Or.inl ⟨h, rfl, rfl⟩⟩
  · exact ⟨1, _, Or.inr ⟨h, rfl, rfl⟩⟩
theorem ToldD.ck {m : Int} {bs : List Int} {hs : List Hd} {ps : List Kv} {c : Nat} {ys : List Nat} (h : ToldD m bs ps c ys) (hp : hs.map Hd.kv = ps) : CkS m bs hs c := by
  subst hp
  rcases h with ⟨a, b, _⟩ | ⟨a, b, _⟩
  · exact Or.inl ⟨b, a⟩
  · exact Or.inr ⟨b, a⟩
theorem ToldD.len {m : Int} {bs : List Int} {ps : List Kv} {c : Nat} {ys : List Nat} (h : ToldD m bs ps c ys) (hz : bs.length + szKs ps <= 1048576) : ys.length < 2^26 := by
  rcases h with ⟨a, _, rfl⟩ | ⟨_, _, rfl⟩
  · have := (zff m bs ps).2
    omega
  · simp
theorem zwn {w : World} {k N : Nat} {ys : List Nat} (h : w.heap[k]? = some (.cells (bts ys).toArray 5 (0, 0))) (hN : N = ys.length) (hm : N < 2^40) : w.ownsRow 0 5 1 (.slice (some ⟨k, 0, none⟩) N N) N (bts ys) := by
  refine ⟨by rw [zac]; omega, .inr ⟨k, N, (bts ys).toArray, rfl, Nat.zero_le _, h, Nat.le_refl _, by simp only [maxLen]; omega, by simp [zac]; omega, ?_⟩⟩
  simp only [Nat.mul_one]
  rw [List.take_of_length_le (by rw [zac]; omega)]
theorem Rs.fr5 {w w' : World} {ao : Option Addr} {xs : List Nat} (h : Rs w ao xs) (hf : Fr [] w w') : Rs w' ao xs := by
  refine ⟨fun h0 => ?_, h.len⟩
  obtain ⟨b, off, e, hc⟩ := h.lies h0
  exact ⟨b, off, e, fun j hj => by
    have hlt := World.block_lt_of_cell? w _ (hc j hj)
    rw [World.cell?_of_block (hf.block b hlt (by simp))]
    exact hc j hj⟩
theorem zph (m : Int) (bo ho : Option Addr) (Lb cb Lh ch c N : Nat) (bs : List Int) (hs : List Hd) (ps : List Kv) (ys : List Nat) (w : World) (hI : IRs w bo bs) (hLb : Lb = bs.length) (hH : HRs w ho hs) (hLh : Lh = hs.length) (hp : hs.map Hd.kv = ps) (hT : ToldD m bs ps c ys) (hN : N = ys.length) (hz : bs.length + szKs ps <= 1048576) :
    Calls Tryz.prog 76 #[.agg #[.int .i64 m, .slice bo Lb cb, .slice ho Lh ch]] w fun e w' => ∃ ao cap, e = .returned (.tuple #[.slice ao N cap, .int .i64 (c : Int)]) /\ w'.ownsRow 0 5 1 (.slice ao N cap) N (bts ys) /\ (∀ k, (Value.slice ao N cap).ownBlock = some k -> w.heap.size <= k) /\ Fr [] w w' := by
  have hl := hT.len hz
  subst hp
  rcases hT with ⟨hok, rfl, rfl⟩ | ⟨hno, rfl, rfl⟩
  · refine (zsd m bo ho Lb cb Lh ch N bs hs _ w hI hLb hH hLh hok rfl hN (by omega)).mono ?_
    rintro e w' ⟨k, rfl, hk, hrow, hF⟩
    exact ⟨some ⟨k, 0, none⟩, N, rfl, zwn hrow hN (by omega), by intro j hj; simp [Value.ownBlock] at hj; omega, hF⟩
  · simp only [List.length_nil] at hN
    subst hN
    refine (zsc m bo ho Lb cb Lh ch bs hs w hI hLb hH hLh hno).mono ?_
    rintro e w' ⟨rfl, hF⟩
    exact ⟨none, 0, rfl, World.ownsRow_nil _ _ _ _, by intro j hj; simp [Value.ownBlock] at hj, hF⟩
theorem TwS.irs {w0 w w1 : World} {bs : List Int} {hs : List Hd} {bb bh : Nat} {ks : List Nat} {bo : Option Addr} (h : TwS w0 w bs hs bb bh ks) (hI : IRs w1 bo bs) : IRs w (some ⟨bb, 0, none⟩) bs := by
  refine ⟨fun h0 => ⟨bb, 0, rfl, lt_of_block h.rb, fun i hi => ?_⟩, hI.few⟩
  rw [cell_of_row _ _ _ _ _ _ h.rb, List.getElem?_toArray, Nat.zero_add, zhh _ _ (by simp; omega)]
  congr 2
  simp [List.getD, List.getElem?_append_left hi]
theorem TwS.hrs {w0 w w1 : World} {bs : List Int} {hs : List Hd} {bb bh : Nat} {ks : List Nat} {ho : Option Addr} (h : TwS w0 w bs hs bb bh ks) (hH : HRs w1 ho hs) : HRs w (some ⟨bh, 0, none⟩) (twTs hs ks) := zuk hH h.tw h.rh
theorem TwS.kv {w0 w : World} {bs : List Int} {hs : List Hd} {bb bh : Nat} {ks : List Nat} (h : TwS w0 w bs hs bb bh ks) : (twTs hs ks).map Hd.kv = hs.map Hd.kv := zwh h.tw
theorem TwS.iown {w0 w : World} {bs : List Int} {hs : List Hd} {bb bh L : Nat} {ks : List Nat} (h : TwS w0 w bs hs bb bh ks) (hL : L = bs.length) (hm : L < 2^21) : w.ownsRow 0 3 1 (.slice (some ⟨bb, 0, none⟩) L (L + 1)) L (zbi bs) := by
  refine ⟨by rw [zdh, hL, Nat.mul_one], .inr ⟨bb, L + 1, (zbi (bs ++ [7777])).toArray, rfl, Nat.zero_le _, h.rb, by omega, by simp only [maxLen]; omega, by simp [zdh]; omega, ?_⟩⟩
  have e : zbi (bs ++ [7777]) = zbi bs ++ zbi [7777] := by simp [zbi]
  simp only [e]
  rw [List.take_append_of_le_length (by rw [zdh]; omega), List.take_of_length_le (by rw [zdh]; omega)]
theorem zyh (vs : List Vn) : vs.length <= szXs vs := by
  induction vs with
  | nil => simp
  | cons v r ih =>
    have hz : szX v = 1 + v.val.size := rfl
    simp only [szXs, List.map_cons, List.sum_cons, List.length_cons] at *
    omega
theorem zzl (p : Kv) : 1 <= szK p /\ p.2.length <= szK p := by
  have := zyh p.2
  unfold szK
  omega
theorem zgv {hs : List Hd} (h : szKs (hs.map Hd.kv) <= 1048576) : hs.length <= 1048576 /\ ∀ x ∈ hs, x.vs.length <= 1048576 := by
  have key : ∀ l : List Hd, l.length <= szKs (l.map Hd.kv) /\ ∀ x ∈ l, x.vs.length <= szKs (l.map Hd.kv) := by
    intro l
    induction l with
    | nil => simp [szKs]
    | cons b r ih =>
      have h1 : 1 <= szK b.kv /\ b.vs.length <= szK b.kv := zzl b.kv
      obtain ⟨i1, i2⟩ := ih
      have e : szKs ((b :: r).map Hd.kv) = szK b.kv + szKs (r.map Hd.kv) := by simp [szKs]
      rw [e]
      refine ⟨by simp only [List.length_cons]; omega, fun x hx => ?_⟩
      rcases List.mem_cons.1 hx with rfl | hx
      · omega
      · have := i2 x hx; omega
  obtain ⟨a, b⟩ := key hs
  exact ⟨by omega, fun x hx => by have := b x hx; omega⟩
namespace Bq
theorem zco {n k : Nat} {v v' : Value} (h : Moved k v v') (hk : n <= k) : Moved n v v' := by
  rcases h with h | ⟨b, h1, h2⟩
  · exact Or.inl h
  · exact Or.inr ⟨b, h1, Nat.le_trans hk h2⟩
set_option maxHeartbeats 4000000 in
set_option maxRecDepth 100000 in
theorem saved_tell {w0 w : World} {bk T : Nat} {rB rI rW rT : Value} {hB hI hW hT : List HB} (h : B4 w0 w bk T rB rI rW rT hB hI hW hT) (m : Int) (io ho : Option Addr) (Lb cb Lh ch : Nat) (ds : List Dt) (hp : P0 kInt w ⟨.slice io Lb cb, .slice none 0 0, T + 1⟩) (hal : ∀ k, (Value.slice io Lb cb).ownBlock = some k -> k ∉ lbs hI) (hd : Dts w ho Lh ch ds) (hw : ∀ (i : Nat) (d : Dt), ds[i]? = some d -> ∀ k, d.2.ownBlock = some k -> k ∉ lbs hT) (ht : ∀ k, (Value.slice ho Lh ch).ownBlock = some k -> k ∉ lbs hW) (hTL : T + 1 + Lh < 67108000) :
    Calls Tryz.prog 18 #[.pointer (some ⟨bk, 0, none⟩), .agg #[.int .i64 m, .slice io Lb cb, .slice ho Lh ch]] w fun e w' => e = .returned (.tuple #[]) /\ ∃ rI' rT' rW', B4 w0 w' bk (T + 1 + Lh + 1) rB rI' rW' rT' hB (hI ++ [⟨.slice io Lb cb, .slice none 0 0, T + 1⟩]) (hW ++ [⟨.slice ho Lh ch, .slice none 0 0, T + 1 + Lh + 1⟩]) (hT ++ held (T + 1) ds) /\ Fr (bk :: (rI.ownBlock.toList ++ (rT.ownBlock.toList ++ rW.ownBlock.toList))) w w' /\ Moved w.heap.size rI rI' /\ Moved w.heap.size rT rT' /\ Moved w.heap.size rW rW' := by
  obtain ⟨wa, HWa⟩ : ∃ wa, Hid (w.alloc (.cells #[.int .i64 m, .slice io Lb cb, .slice ho Lh ch] 57) = wa) := ⟨_, rfl⟩
  have hFa : Fr [] w wa := by rw [<- HWa.out]; exact Fr.alloc [] w _
  have hba : wa.heap[w.heap.size]? = some (.cells #[.int .i64 m, .slice io Lb cb, .slice ho Lh ch] 57 (0, 0)) := by rw [<- HWa.out]; exact heap_alloc_new w _
  have hlt := h.lt
  have ha := h.keep hFa
  have hda := hd.keep hFa (by simp) (by simp)
  obtain ⟨k0, k1, k2⟩ := zai hba
  have HI : Hid (Calls _ _ _ _ _) := ziz ha io Lb cb (hp.keep hFa (by simp)) hal (by omega)
  have HNx : Hid (∀ rv' w1, B4 w0 w1 bk (T + 1) rB rv' rW rT hB (hI ++ [⟨.slice io Lb cb, .slice none 0 0, T + 1⟩]) hW hT -> Fr (bk :: rI.ownBlock.toList) wa w1 -> Moved wa.heap.size rI rv' ->
      w1.cell? ⟨w.heap.size, 2, none⟩ = some (.slice ho Lh ch) /\ Calls Tryz.prog 87 #[.pointer (some ⟨bk, 0, none⟩), .slice ho Lh ch] w1 fun e w' => e = .returned (.tuple #[]) /\ ∃ rI' rT' rW', B4 w0 w' bk (T + 1 + Lh + 1) rB rI' rW' rT' hB (hI ++ [⟨.slice io Lb cb, .slice none 0 0, T + 1⟩]) (hW ++ [⟨.slice ho Lh ch, .slice none 0 0, T + 1 + Lh + 1⟩]) (hT ++ held (T + 1) ds) /\ Fr (bk :: (rI.ownBlock.toList ++ (rT.ownBlock.toList ++ rW.ownBlock.toList))) w w' /\ Moved w.heap.size rI rI' /\ Moved w.heap.size rT rT' /\ Moved w.heap.size rW rW') := fun rv' w1 h1 hF1 hM1 => by
    obtain ⟨cs, hX, _⟩ := ha.box
    have hnb : ∀ k cs' t, wa.heap[k]? = some (.cells cs' t (0, 0)) -> t ≠ 52 -> k ≠ bk := fun k cs' t hk hne e => by
      subst e
      rw [hX.box] at hk
      cases hk
      exact hne rfl
    have hnE : ∀ k cs', wa.heap[k]? = some (.cells cs' 147 (0, 0)) -> k ∉ bk :: rI.ownBlock.toList := fun k cs' hk hm => by
      rcases List.mem_cons.1 hm with e | e
      · exact hnb k cs' _ hk (by decide) e
      · exact (zau zdw ha.sI.bl).notE hk e
    have hnV : ∀ k cs', wa.heap[k]? = some (.cells cs' 136 (0, 0)) -> k ∉ bk :: rI.ownBlock.toList := fun k cs' hk hm => by
      rcases List.mem_cons.1 hm with e | e
      · exact hnb k cs' _ hk (by decide) e
      · exact (zau zdx ha.sI.bl).notE hk e
    have hd1 := hda.keep hF1 (fun k hk => by obtain ⟨c, hc⟩ := zaf hda.row k hk; exact hnE k c hc) (fun i d hdi k hk => by
      obtain ⟨n, vs, q1, q2⟩ := hda.each i d hdi
      obtain ⟨c, hc⟩ := q1.type k hk
      exact hnV k c hc)
    refine ⟨?_, (zht h1 ho Lh ch ds hd1 hw ht (by omega)).mono ?_⟩
    · have hbk : w.heap.size ∉ bk :: rI.ownBlock.toList := fun hm => by
        rcases List.mem_cons.1 hm with e | e
        · have := hlt bk (mem_kbs.2 (Or.inl rfl)); omega
        · have := hlt w.heap.size (mem_kbs.2 (Or.inr (Or.inr (Or.inl (Or.inl (by simpa using e)))))); omega
      exact (zai (hF1.keep hba hbk)).2.2
    · rintro e w2 ⟨rfl, rT', rW', h2, hF2, hM2, hM3⟩
      have hs1 := hFa.size
      have hs2 := hF1.size
      refine ⟨rfl, rv', rT', rW', h2, ((hFa.mono (T := bk :: rI.ownBlock.toList) (by simp)).then hF1).trans hF2 (fun x hx _ => ?_) (fun x hx _ => ?_), zco hM1 hs1, zco hM2 (by omega), zco hM3 (by omega)⟩
      · rcases List.mem_cons.1 hx with rfl | hx
        · exact List.mem_cons_self
        · exact List.mem_cons_of_mem _ (List.mem_append_left _ hx)
      · rcases List.mem_cons.1 hx with rfl | hx
        · exact List.mem_cons_self
        · exact List.mem_cons_of_mem _ (List.mem_append_right _ hx)
  clear h hp hal hd hw ht ha hda hlt hba hFa
  go_enter Tryz.func18, Tryz.ntmps18
  go_upto_region 1 with fail
  rw [HWa.out]
  go_wp2_with fail
  refine Calls.mono HI.out ?_
  rintro e w1 ⟨rfl, rv', h1, hF1, hM1⟩
  obtain ⟨k3, hC⟩ := HNx.out rv' w1 h1 hF1 hM1
  have HC : Hid (Calls _ _ _ _ _) := hC
  clear hC h1 hF1 hM1 HNx HI k0 k1 k2
  go_wp2_with fail
  refine Calls.mono HC.out ?_
  rintro e w2 ⟨rfl, R⟩
  have HR : Hid _ := R
  clear R HC
  go_wp2_with fail
  go_end0
  exact ⟨rfl, HR.out⟩
end Bq
theorem zbw {w : World} {b : Nat} {cs : Array Value} {ty : TypeId} (hb : w.heap[b]? = some (.cells cs ty (0, 0))) {base : Nat} {e : TypeId} {size : Nat} {v : Value} {n : Nat} {xs : List Value} (ho : w.ownsRow base e size v n xs) (hne : e ≠ ty) : b ∉ v.ownBlock.toList := fun hh => by
  obtain ⟨_, cur, hc⟩ := zak ho (Option.mem_toList.1 hh)
  rw [hb] at hc
  simp only [Option.some.injEq, Obj.cells.injEq] at hc
  exact hne hc.2.1.symm
theorem St.box {w : World} {t : Nat} {ao : Option Addr} {L cap : Nat} {lv : Nat -> Prop} {de : Nat -> Prop} (h : St w t ao L cap lv de) : ∃ cs, w.heap[t]? = some (.cells cs 233 (0, 0)) := by
  rcases h with ⟨p, h3, h4⟩ | ⟨c, ⟨_, _, _, _, h3⟩, h4⟩
  · exact ⟨_, h3.ta.box⟩
  · exact ⟨_, h3.box⟩
structure Dy (w W : World) (b0 t sb : Nat) (x y z : Value) : Prop where
  i : DcI w W b0 sb x y z
  n0 : w.heap.size <= b0
  nt : w.heap.size <= t
  ns : w.heap.size <= sb
  d1 : b0 ≠ t
  d2 : sb ≠ t
  d3 : b0 ≠ sb
section
variable {w W W' : World} {b0 t sb : Nat} {x y z : Value}
theorem Dy.stepT (h : Dy w W b0 t sb x y z) (hF : Fr [t] W W') : Dy w W' b0 t sb x y z :=
  ⟨⟨h.i.rb.keep hF (by simp; exact h.d1), h.i.sv.keep hF (by simp; exact h.d2), h.i.fr.on hF (by intro k hk; simp at hk; have := h.nt; omega)⟩, h.n0, h.nt, h.ns, h.d1, h.d2, h.d3⟩
theorem Dy.step0 (h : Dy w W b0 t sb x y z) (hF : Fr [] W W') : Dy w W' b0 t sb x y z := h.stepT (hF.mono (by simp))
theorem Dy.row {S : List Nat} (h : Dy w W b0 t sb x y z) (hF : Fr S W W') (h0 : b0 ∉ S) (h1 : sb ∉ S) (hS : ∀ k ∈ S, w.heap.size <= k) : Dy w W' b0 t sb x y z :=
  ⟨⟨h.i.rb.keep hF h0, h.i.sv.keep hF h1, h.i.fr.on hF hS⟩, h.n0, h.nt, h.ns, h.d1, h.d2, h.d3⟩
theorem Dy.at1 (h : Dy w W b0 t sb x y z) (v : Value) : Dy w (W.setCell ⟨sb, 1, none⟩ v) b0 t sb x v z /\ Fr [sb] W (W.setCell ⟨sb, 1, none⟩ v) := by
  have hF : Fr [sb] W (W.setCell ⟨sb, 1, none⟩ v) := Fr.set _ _ _ (by simp)
  exact ⟨⟨⟨h.i.rb.keep hF (by simp; exact h.d3), h.i.sv.set1 v, h.i.fr.on hF (by intro k hk; simp at hk; have := h.ns; omega)⟩, h.n0, h.nt, h.ns, h.d1, h.d2, h.d3⟩, hF⟩
theorem Dy.at2 (h : Dy w W b0 t sb x y z) (v : Value) : Dy w (W.setCell ⟨sb, 2, none⟩ v) b0 t sb x y v /\ Fr [sb] W (W.setCell ⟨sb, 2, none⟩ v) := by
  have hF : Fr [sb] W (W.setCell ⟨sb, 2, none⟩ v) := Fr.set _ _ _ (by simp)
  exact ⟨⟨⟨h.i.rb.keep hF (by simp; exact h.d3), h.i.sv.set2 v, h.i.fr.on hF (by intro k hk; simp at hk; have := h.ns; omega)⟩, h.n0, h.nt, h.ns, h.d1, h.d2, h.d3⟩, hF⟩
end
theorem zse {w wr w2 w3 w4 : World} {b0 t sb : Nat} {x z : Value} {yo yo' : Option Addr} {i c c' : Nat} {bs : List Int} {n : Int} {ao : Option Addr} {L cap : Nat} {lv : Nat -> Prop} {de : Nat -> Prop}
    (h : Dy w wr b0 t sb x (.slice yo i c) z) (hO : IOw w.heap.size wr yo i c bs) (hT : ∃ cs, wr.heap[t]? = some (.cells cs 233 (0, 0))) (hF2 : Fr [t] wr w2) (hS2 : St w2 t ao L cap lv de) (hF3 : Fr [] w2 w3) :
    Dy w w3 b0 t sb x (.slice yo i c) z /\ IOw w.heap.size w3 yo i c bs /\
      (IOw w.heap.size w4 yo' (i + 1) c' (bs ++ [n]) -> Fr (Value.slice yo i c).ownBlock.toList w3 w4 -> Dy w w4 b0 t sb x (.slice yo i c) z /\ w4.frozen? ⟨sb, 1, none⟩ = false /\ w4.cell? ⟨sb, 1, none⟩ = some (.slice yo i c) /\
        Dy w (w4.setCell ⟨sb, 1, none⟩ (.slice yo' (i + 1) c')) b0 t sb x (.slice yo' (i + 1) c') z /\ IOw w.heap.size (w4.setCell ⟨sb, 1, none⟩ (.slice yo' (i + 1) c')) yo' (i + 1) c' (bs ++ [n]) /\ St (w4.setCell ⟨sb, 1, none⟩ (.slice yo' (i + 1) c')) t ao L cap lv de) := by
  obtain ⟨ct, hct⟩ := hT
  have hO2 : IOw w.heap.size w2 yo i c bs := hO.keepS hF2 (fun k hk hm => by
    simp at hm
    subst hm
    exact zbw hct hO.row (by decide) (Option.mem_toList.2 hk))
  have hO3 : IOw w.heap.size w3 yo i c bs := hO2.keepS hF3 (by simp)
  have hD3 := (h.stepT hF2).step0 hF3
  have hS3 := hS2.keep hF3 (by simp)
  refine ⟨hD3, hO3, fun hO4 hF4 => ?_⟩
  obtain ⟨c3, hc3⟩ := hS3.box
  have hD4 := hD3.row hF4 (zbw hD3.i.rb.box hO3.row (by decide)) (zbw hD3.i.sv.box hO3.row (by decide)) (fun k hk => (zak hO3.row (Option.mem_toList.1 hk)).1)
  have hS4 := hS3.keep hF4 (zbw hc3 hO3.row (by decide))
  obtain ⟨hD5, hF5⟩ := hD4.at1 (.slice yo' (i + 1) c')
  exact ⟨hD4, hD4.i.sv.fz 1, hD4.i.sv.c1, hD5, hO4.offS hD4.i.sv hF5, hS4.keep hF5 (by simp; exact fun e => hD4.d2 e.symm)⟩
end Go.Proofs.YtembflnhhfliaaaGreatDoor
