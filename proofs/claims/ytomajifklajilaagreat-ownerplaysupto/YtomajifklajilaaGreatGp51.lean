/- Texts of this claim laid together, one behind the other: contracts and plain lemmas; conditions as each names them. -/
import Derived.Test.YtomajifklajilaaGreatGp45
import Derived.Test.YtomajifklajilaaGreatGp46
import Derived.Test.YtomajifklajilaaGreatGp47
import Derived.Test.YtomajifklajilaaGreatGp48
import Derived.Test.YtomajifklajilaaGreatGp49
import Derived.Test.YtomajifklajilaaGreatGp50
import Derived.Test.YtomajifklajilaaGreatGp7
import Derived.Laws.ResultCell
import Derived.Deep.RegionLaw
import Derived.Deep.RegionWith
import Derived.Deep.RegionHeld3
import Derived.Deep.CutRange
import Derived.Test.YtomajifklajilaaGreatGp24
import Derived.Test.YtomajifklajilaaGreatGp11
import Derived.Test.YtomajifklajilaaGreatGp27
/- The document's Serve, by one word for all kinds. Conditions as each names them. -/
namespace Go.Proofs.YtomajifklajilaaGreat
open Go.ChangeShapes Go.WideShapes Go.ChangeAt Go.RowKit Go.Lib Go.Maps
set_option linter.unusedVariables false
set_option linter.unusedSimpArgs false
section
variable {w : World} {yb C n c : Nat} {s lo : Option Addr} {xs : List Rv} {xf xn : Int} {xa xb : ByteArray} {xd : Bool} {xc xe : ByteArray} {xo : Option Addr} {xl xm : Nat}
theorem yoserve_1 (h : YoM w yb s C lo n c (⟨1, xf, xn, xa, xb, xd, xc, xe, xo, xl, xm⟩ :: xs)) (Pd : Bool → Int → World → World → Prop)
    (hD : ∀ W o2, Fr [yb] w W → w.heap.size < W.heap.size → YoM W yb s C o2 (n - 1) (c - 1) xs → qb o2 = qb lo → Calls Tryz.prog 34 #[.pointer s, .int .i64 xn, .agg #[.string xa, .string xb, .bool xd]] W fun e w' => ∃ ok er, e = .returned (.tuple #[.bool ok, .int .i64 er]) ∧ Pd ok er W w' ∧ W.heap.size ≤ w'.heap.size ∧ (∀ j, w.heap.size ≤ j → j < W.heap.size → w'.heap[j]? = W.heap[j]?) ∧ w'.heap[yb]? = W.heap[yb]?) :
    Calls Tryz.prog 14 #[.pointer (some ⟨yb, 0, none⟩)] w fun e w2 => ∃ ok er W w' o2, e = .returned (.tuple #[.agg #[.int .i64 xf, .bool ok, .slice none 0 0, .slice none 0 0, .int .i64 0], .int .i64 0]) ∧ Fr [yb] w W ∧ w.heap.size < W.heap.size ∧ YoM W yb s C o2 (n - 1) (c - 1) xs ∧ qb o2 = qb lo ∧ Pd ok er W w' ∧ W.heap.size ≤ w'.heap.size ∧ ∃ T, Fr T w' w2 ∧ ∀ j ∈ T, w.heap.size ≤ j ∧ j < W.heap.size := by
  by_cases hc : c = 1
  · exact yoserve_1A h hc Pd hD
  · exact yoserve_1B h hc Pd hD
theorem yoserve_2 (h : YoM w yb s C lo n c (⟨2, xf, xn, xa, xb, xd, xc, xe, xo, xl, xm⟩ :: xs)) (Pd : ByteArray → Bool → World → World → Prop)
    (hD : ∀ W o2, Fr [yb] w W → w.heap.size < W.heap.size → YoM W yb s C o2 (n - 1) (c - 1) xs → qb o2 = qb lo → Calls Tryz.prog 35 #[.pointer s, .string xc, .int .i64 xn] W fun e w' => ∃ v ok, e = .returned (.tuple #[.string v, .bool ok]) ∧ Pd v ok W w' ∧ W.heap.size ≤ w'.heap.size ∧ (∀ j, w.heap.size ≤ j → j < W.heap.size → w'.heap[j]? = W.heap[j]?) ∧ w'.heap[yb]? = W.heap[yb]?) :
    Calls Tryz.prog 14 #[.pointer (some ⟨yb, 0, none⟩)] w fun e w2 => ∃ v ok eo el ec W w' o2, e = .returned (.tuple #[.agg #[.int .i64 xf, .bool ok, .slice eo el ec, .slice none 0 0, .int .i64 0], .int .i64 0]) ∧ Fr [yb] w W ∧ w.heap.size < W.heap.size ∧ YoM W yb s C o2 (n - 1) (c - 1) xs ∧ qb o2 = qb lo ∧ Pd v ok W w' ∧ W.heap.size ≤ w'.heap.size ∧ ((ok = false ∧ eo = none ∧ el = 0 ∧ ec = 0) ∨ (ok = true ∧ ∃ E, eo = some ⟨E, 0, none⟩ ∧ el = 1 ∧ ec = 1 ∧ w'.heap.size ≤ E ∧ w2.heap[E]? = some (.cells #[.string xc, .string v] 67 (0, 0)))) ∧ ∃ T, Fr T w' w2 ∧ ∀ j ∈ T, w.heap.size ≤ j ∧ j < W.heap.size := by
  by_cases hc : c = 1
  · exact yoserve_2A h hc Pd hD
  · exact yoserve_2B h hc Pd hD
theorem yoserve_3 (h : YoM w yb s C lo n c (⟨3, xf, xn, xa, xb, xd, xc, xe, xo, xl, xm⟩ :: xs)) (Pd : Option Addr → Nat → Nat → World → World → Prop)
    (hD : ∀ W o2, Fr [yb] w W → w.heap.size < W.heap.size → YoM W yb s C o2 (n - 1) (c - 1) xs → qb o2 = qb lo → Calls Tryz.prog 36 #[.pointer s, .string xc, .string xe, .int .i64 xn] W fun e w' => ∃ eo el ec, e = .returned (.slice eo el ec) ∧ Pd eo el ec W w' ∧ W.heap.size ≤ w'.heap.size ∧ (∀ j, w.heap.size ≤ j → j < W.heap.size → w'.heap[j]? = W.heap[j]?) ∧ w'.heap[yb]? = W.heap[yb]?) :
    Calls Tryz.prog 14 #[.pointer (some ⟨yb, 0, none⟩)] w fun e w2 => ∃ eo el ec W w' o2, e = .returned (.tuple #[.agg #[.int .i64 xf, .bool true, .slice eo el ec, .slice none 0 0, .int .i64 0], .int .i64 0]) ∧ Fr [yb] w W ∧ w.heap.size < W.heap.size ∧ YoM W yb s C o2 (n - 1) (c - 1) xs ∧ qb o2 = qb lo ∧ Pd eo el ec W w' ∧ W.heap.size ≤ w'.heap.size ∧ ∃ T, Fr T w' w2 ∧ ∀ j ∈ T, w.heap.size ≤ j ∧ j < W.heap.size := by
  by_cases hc : c = 1
  · exact yoserve_3A h hc Pd hD
  · exact yoserve_3B h hc Pd hD
theorem yoserve_4 (h : YoM w yb s C lo n c (⟨4, xf, xn, xa, xb, xd, xc, xe, xo, xl, xm⟩ :: xs)) (Pd : Int → World → World → Prop)
    (hD : ∀ W o2, Fr [yb] w W → w.heap.size < W.heap.size → YoM W yb s C o2 (n - 1) (c - 1) xs → qb o2 = qb lo → Calls Tryz.prog 37 #[.pointer s, .int .i64 xn] W fun e w' => ∃ cc, e = .returned (.int .i64 cc) ∧ Pd cc W w' ∧ W.heap.size ≤ w'.heap.size ∧ (∀ j, w.heap.size ≤ j → j < W.heap.size → w'.heap[j]? = W.heap[j]?) ∧ w'.heap[yb]? = W.heap[yb]?) :
    Calls Tryz.prog 14 #[.pointer (some ⟨yb, 0, none⟩)] w fun e w2 => ∃ cc W w' o2, e = .returned (.tuple #[.agg #[.int .i64 xf, .bool true, .slice none 0 0, .slice none 0 0, .int .i64 cc], .int .i64 0]) ∧ Fr [yb] w W ∧ w.heap.size < W.heap.size ∧ YoM W yb s C o2 (n - 1) (c - 1) xs ∧ qb o2 = qb lo ∧ Pd cc W w' ∧ W.heap.size ≤ w'.heap.size ∧ ∃ T, Fr T w' w2 ∧ ∀ j ∈ T, w.heap.size ≤ j ∧ j < W.heap.size := by
  by_cases hc : c = 1
  · exact yoserve_4A h hc Pd hD
  · exact yoserve_4B h hc Pd hD
theorem yoserve_5 (h : YoM w yb s C lo n c (⟨5, xf, xn, xa, xb, xd, xc, xe, xo, xl, xm⟩ :: xs)) (Pd : Option Addr → Nat → Nat → World → World → Prop)
    (hD : ∀ W o2, Fr [yb] w W → w.heap.size < W.heap.size → YoM W yb s C o2 (n - 1) (c - 1) xs → qb o2 = qb lo → Calls Tryz.prog 38 #[.pointer s, .int .i64 xn, .slice xo xl xm] W fun e w' => ∃ eo el ec, e = .returned (.slice eo el ec) ∧ Pd eo el ec W w' ∧ W.heap.size ≤ w'.heap.size ∧ (∀ j, w.heap.size ≤ j → j < W.heap.size → w'.heap[j]? = W.heap[j]?) ∧ w'.heap[yb]? = W.heap[yb]?) :
    Calls Tryz.prog 14 #[.pointer (some ⟨yb, 0, none⟩)] w fun e w2 => ∃ eo el ec W w' o2, e = .returned (.tuple #[.agg #[.int .i64 xf, .bool true, .slice none 0 0, .slice eo el ec, .int .i64 0], .int .i64 0]) ∧ Fr [yb] w W ∧ w.heap.size < W.heap.size ∧ YoM W yb s C o2 (n - 1) (c - 1) xs ∧ qb o2 = qb lo ∧ Pd eo el ec W w' ∧ W.heap.size ≤ w'.heap.size ∧ ∃ T, Fr T w' w2 ∧ ∀ j ∈ T, w.heap.size ≤ j ∧ j < W.heap.size ∧ ∃ cur, w'.heap[j]? = some (.cells cur 56 (0, 0)) := by
  by_cases hc : c = 1
  · exact yoserve_5A h hc Pd hD
  · exact yoserve_5B h hc Pd hD
end
/-- What the document's owner answers, by kinds. -/
def RepY (hs : List Hd) (r : Rq) (gs : List Hd) (ok : Bool) (eo : Option Addr) (el ec : Nat) (ho : Option Addr) (hl hc : Nat) (c : Int) (w w2 : World) : Prop :=
  (r.k = 1 ∧ (eo = none ∧ el = 0 ∧ ec = 0) ∧ (ho = none ∧ hl = 0 ∧ hc = 0) ∧ c = 0 ∧ ∃ cc, InTold (mOf hs) ⟨r.n, r.wk, r.wv, r.wd⟩ (mOf gs) ok cc) ∨
  (r.k = 2 ∧ (ho = none ∧ hl = 0 ∧ hc = 0) ∧ c = 0 ∧ gs = hs ∧ ((ok = false ∧ valAt (mOf hs r.key) r.n = none ∧ eo = none ∧ el = 0 ∧ ec = 0) ∨ (ok = true ∧ ∃ v, valAt (mOf hs r.key) r.n = some v ∧ el = 1 ∧ EOut w w2 eo el ec [(r.key, v)]))) ∨
  (r.k = 3 ∧ ok = true ∧ (ho = none ∧ hl = 0 ∧ hc = 0) ∧ c = 0 ∧ gs = hs ∧ ∃ ps, EOut w w2 eo el ec ps ∧ Is (atMark (mOf hs) r.key r.en r.n) ps) ∨
  (r.k = 4 ∧ ok = true ∧ (eo = none ∧ el = 0 ∧ ec = 0) ∧ (ho = none ∧ hl = 0 ∧ hc = 0) ∧ mOf gs = (fun s => colV (mOf hs s) r.n) ∧ ∃ S : Nat, c = S ∧ GoT (mOf hs) r.n S) ∨
  (r.k = 5 ∧ ok = true ∧ (eo = none ∧ el = 0 ∧ ec = 0) ∧ c = 0 ∧ gs = hs ∧ ∃ hh, HRo w w2 ho hl hc hh ∧ PkT (mOf hs) (fun s => dmp (mOf hs s) r.n r.bs) hh)
section
variable {w1 w W w' w2 : World} {yb yg C qn qc N lc : Nat} {qo lo : Option Addr} {xs : List Rv} {hs : List Hd} {s : Option Addr} {y : List Rv}
/-- What the shard's call leaves alone. -/
theorem ysv_far {S : List Nat} (h : YoM w yb s C qo qn qc y) (hk : KSh w1 w yg N lc lo hs) (yy : ¬ DB yg lo N lc hs yb) (hFW : Fr [yb] w W) (hF : Fr S W w') (hS : ∀ j ∈ S, DB yg lo N lc hs j) :
    W.heap.size ≤ w'.heap.size ∧ (∀ j, w.heap.size ≤ j → j < W.heap.size → w'.heap[j]? = W.heap[j]?) ∧ w'.heap[yb]? = W.heap[yb]? := by
  refine ⟨hF.size, fun j h1 h2 => hF.block j h2 (fun hm => ?_), hF.block yb (Nat.lt_of_lt_of_le h.lt hFW.size) (fun hm => yy (hS _ hm))⟩
  have := hk.blk (hS j hm)
  omega
/-- What is left behind a Serve. -/
theorem ysv_end {S T : List Nat} {o2 lo' : Option Addr} {qn' qc' N' lc' : Nat} {gs : List Hd} (h : YoM w yb s C qo qn qc y) (hk : KSh w1 w yg N lc lo hs) (yy : ¬ DB yg lo N lc hs yb) (qq : ∀ k, qb qo = some k → ¬ DB yg lo N lc hs k) (hFW : Fr [yb] w W) (hY : YoM W yb s C o2 qn' qc' xs) (hq : qb o2 = qb qo) (hF : Fr S W w') (hS : ∀ j ∈ S, DB yg lo N lc hs j) (hK : KSh w1 w' yg N' lc' lo' gs) (hN : ∀ j, DB yg lo' N' lc' gs j → DB yg lo N lc hs j ∨ W.heap.size ≤ j) (hT : Fr T w' w2) (hT2 : ∀ j ∈ T, w.heap.size ≤ j ∧ j < W.heap.size) :
    YoM w2 yb s C o2 qn' qc' xs ∧ KSh w1 w2 yg N' lc' lo' gs ∧ Fr (yb :: S) w w2 ∧ (∀ j, DB yg lo' N' lc' gs j → DB yg lo N lc hs j ∨ w.heap.size ≤ j) ∧ (∀ j, W.heap.size ≤ j → j < w'.heap.size → w2.heap[j]? = w'.heap[j]?) ∧ w.heap.size ≤ W.heap.size := by
  have hl := h.lt
  have s1 := hFW.size
  refine ⟨(hY.keep hF (fun hm => yy (hS _ hm)) (fun k e hm => qq k (by rw [← hq]; exact e) (hS _ hm))).keep hT (fun hm => ?_) (fun k e hm => ?_), hK.keepS hT (fun j hj hd => ?_), ?_, fun j hd => ?_, fun j h1 h2 => hT.block j h2 (fun hm => ?_), s1⟩
  · have := (hT2 _ hm).1
    omega
  · rw [hq] at e
    obtain ⟨cur, e2⟩ := h.q.blk e
    have := lt_of_block e2
    have := (hT2 _ hm).1
    omega
  · have := hT2 j hj
    rcases hN j hd with q | q
    · have := hk.blk q
      omega
    · omega
  · have z : Fr (yb :: S) w w' := hFW.trans hF (fun x hx _ => by simp only [List.mem_singleton] at hx; simp [hx]) (fun x hx _ => List.mem_cons_of_mem _ hx)
    refine z.trans hT (fun x hx _ => hx) (fun x hx hl => ?_)
    have := (hT2 x hx).1
    omega
  · rcases hN j hd with q | q
    · exact Or.inl q
    · exact Or.inr (by omega)
  · have := (hT2 j hm).2
    omega
end
set_option maxHeartbeats 1000000 in
theorem ysv {w1 w : World} {yb yg C qn qc N lc : Nat} {qo lo : Option Addr} {x : Rv} {xs : List Rv} {hs : List Hd} {r : Rq} (h : YoM w yb (some ⟨yg, 0, none⟩) C qo qn qc (x :: xs)) (hk : KSh w1 w yg N lc lo hs) (h1 : w1.heap.size ≤ w.heap.size) (hN : N < 3518437208882) (yy : ¬ DB yg lo N lc hs yb) (qq : ∀ k, qb qo = some k → ¬ DB yg lo N lc hs k) (hok : okR r) (hi : x.q r.bs = r) (hlen : x.bl = r.bs.length) (hrow : IRs w x.bo r.bs) (hne : 0 < r.bs.length → ∀ a, x.bo = some a → a.block ≠ yb) :
    Calls Tryz.prog 14 #[.pointer (some ⟨yb, 0, none⟩)] w fun e w2 => ∃ ok eo el ec ho hl hc c qo' N' lc' lo' gs S, e = .returned (.tuple #[.agg #[.int .i64 r.f, .bool ok, .slice eo el ec, .slice ho hl hc, .int .i64 c], .int .i64 0]) ∧ YoM w2 yb (some ⟨yg, 0, none⟩) C qo' (qn - 1) (qc - 1) xs ∧ qb qo' = qb qo ∧ KSh w1 w2 yg N' lc' lo' gs ∧ N' ≤ N + 1 ∧ Fr (yb :: S) w w2 ∧ (∀ j ∈ S, DB yg lo N lc hs j) ∧ (∀ j, DB yg lo' N' lc' gs j → DB yg lo N lc hs j ∨ w.heap.size ≤ j) ∧ RepY hs r gs ok eo el ec ho hl hc c w w2 := by
  obtain ⟨xk, xf, xn, xa, xb, xd, xc, xe, xo, xl, xm⟩ := x
  obtain ⟨rk, rf, rn, ra, rb, rd, rc, re, rbs⟩ := r
  simp only [Rv.q, Rq.mk.injEq] at hi
  obtain ⟨rfl, rfl, rfl, rfl, rfl, rfl, rfl, rfl, _⟩ := hi
  simp only at hlen hrow hne
  obtain ⟨o1, o2, o3, ho⟩ := hok
  simp only at o1 o2 o3 ho
  have kW : ∀ {W : World}, Fr [yb] w W → KSh w1 W yg N lc lo hs := fun hf => hk.keepS hf (fun j hj hd => by
    simp only [List.mem_singleton] at hj
    subst hj
    exact yy hd)
  have hDB : ∀ j ∈ yg :: (Value.slice lo N lc).ownBlock.toList, DB yg lo N lc hs j := fun j hj => by
    rcases List.mem_cons.1 hj with e | e
    · exact Or.inl e
    · exact Or.inr (Or.inl (Option.mem_toList.1 e))
  rcases ho with ⟨rfl, ⟨e1, e2⟩, e3, e4, e5, e6⟩ | ⟨rfl, e1, e2, e3, e4⟩ | ⟨rfl, e1, e2, e3, e4⟩ | ⟨rfl, e1, e2, e3⟩ | ⟨rfl, e1, e2, e3⟩
  · refine (yoserve_1 h (fun ok er W w' => ∃ cc N' lc' lo' gs, InTold (mOf hs) ⟨xn, xa, xb, xd⟩ (mOf gs) ok cc ∧ KSh w1 w' yg N' lc' lo' gs ∧ N' ≤ N + 1 ∧ KNw W hs gs ∧ (∀ j, (Value.slice lo' N' lc').ownBlock = some j → (Value.slice lo N lc).ownBlock = some j ∨ W.heap.size ≤ j) ∧ Fr (yg :: (Value.slice lo N lc).ownBlock.toList) W w') (fun W o2 hFW hs1 hY hq => ?_)).mono ?_
    · refine (kinstall_any (kW hFW) (by omega) hN xn xa xb xd ⟨by have := e6.1.2; simp only; omega, by have := e6.2.1; simp only; omega, by simp only; omega, by simp only; omega⟩).mono ?_
      rintro e w' ⟨ok, cc, N', lc', lo', gs, rfl, hI, hK, hN', hKN, hRN, hF⟩
      exact ⟨ok, _, rfl, ⟨cc, N', lc', lo', gs, hI, hK, hN', hKN, hRN, hF⟩, ysv_far h hk yy hFW hF hDB⟩
    · rintro e w2 ⟨ok, er, W, w', o2, rfl, hFW, hs1, hY, hq, ⟨cc, N', lc', lo', gs, hI, hK, hN', hKN, hRN, hF⟩, _, T, hT, hT2⟩
      obtain ⟨z1, z2, z3, z4, _⟩ := ysv_end h hk yy qq hFW hY hq hF hDB hK (fun j hd => by
        rcases hd with e | e | ⟨x, hx, e⟩
        · exact Or.inl (Or.inl e)
        · rcases hRN j e with q | q
          · exact Or.inl (Or.inr (Or.inl q))
          · exact Or.inr q
        · rcases hKN x hx j e with q | ⟨y, hy, q⟩
          · exact Or.inr q
          · exact Or.inl (Or.inr (Or.inr ⟨y, hy, q⟩))) hT hT2
      exact ⟨ok, none, 0, 0, none, 0, 0, 0, o2, N', lc', lo', gs, _, rfl, z1, hq, z2, hN', z3, hDB, z4, Or.inl ⟨rfl, ⟨rfl, rfl, rfl⟩, ⟨rfl, rfl, rfl⟩, rfl, cc, hI⟩⟩
  · refine (yoserve_2 h (fun v ok W w' => GtH hs xc xn v ok ∧ Fr [] W w') (fun W o2 hFW hs1 hY hq => ?_)).mono ?_
    · refine (kget_any (kW hFW) xc xn).mono ?_
      rintro e w' ⟨v, o, rfl, hG, hF⟩
      exact ⟨v, o, rfl, ⟨hG, hF⟩, ysv_far h hk yy hFW hF (by simp)⟩
    · rintro e w2 ⟨v, ok, eo, el, ec, W, w', o2, rfl, hFW, hs1, hY, hq, ⟨hG, hF⟩, _, hE, T, hT, hT2⟩
      obtain ⟨z1, z2, z3, z4, _⟩ := ysv_end h hk yy qq hFW hY hq hF (by simp) ((kW hFW).keep hF) (fun j hd => Or.inl hd) hT hT2
      obtain ⟨g1, g2⟩ := hG.is hk.ok
      refine ⟨ok, eo, el, ec, none, 0, 0, 0, o2, N, lc, lo, hs, [], rfl, z1, hq, z2, by omega, z3, by simp, z4, Or.inr (Or.inl ⟨rfl, ⟨rfl, rfl, rfl⟩, rfl, rfl, ?_⟩)⟩
      rcases hE with ⟨rfl, a2, a3, a4⟩ | ⟨rfl, E, rfl, rfl, rfl, hE, hEr⟩
      · exact Or.inl ⟨rfl, by simpa using g1.symm, a2, a3, a4⟩
      · obtain ⟨u, hu⟩ := Option.isSome_iff_exists.1 g1.symm
        rw [hu] at g2
        simp only [Option.getD_some] at g2
        subst g2
        have := hF.size
        have := hFW.size
        exact Or.inr ⟨rfl, v, hu, rfl, rfl, rfl, .inr ⟨E, 1, _, rfl, by omega, hEr, Nat.le_refl _, by unfold maxLen; omega, rfl, rfl⟩⟩
  · refine (yoserve_3 h (fun eo el ec W w' => EOut W w' eo el ec (hs.filterMap (scOf xc xe xn)) ∧ Fr [] W w') (fun W o2 hFW hs1 hY hq => ?_)).mono ?_
    · refine (kscan_any (kW hFW) xc xe xn).mono ?_
      rintro e w' ⟨ro, R, rc, rfl, hE, _, hF⟩
      exact ⟨ro, R, rc, rfl, ⟨hE, hF⟩, ysv_far h hk yy hFW hF (by simp)⟩
    · rintro e w2 ⟨eo, el, ec, W, w', o2, rfl, hFW, hs1, hY, hq, ⟨hE, hF⟩, _, T, hT, hT2⟩
      obtain ⟨z1, z2, z3, z4, z5, z6⟩ := ysv_end h hk yy qq hFW hY hq hF (by simp) ((kW hFW).keep hF) (fun j hd => Or.inl hd) hT hT2
      exact ⟨true, eo, el, ec, none, 0, 0, 0, o2, N, lc, lo, hs, [], rfl, z1, hq, z2, by omega, z3, by simp, z4, Or.inr (Or.inr (Or.inl ⟨rfl, rfl, ⟨rfl, rfl, rfl⟩, rfl, rfl, _, hE.move z5 z6, scOf_is hk.ok xc xe xn⟩))⟩
  · refine (yoserve_4 h (fun c W w' => ∃ gs, c = ((goH hs xn : Nat) : Int) ∧ KSh w1 w' yg N lc lo gs ∧ ColI hs gs xn hs.length ∧ KNw W hs gs ∧ Fr (Value.slice lo N lc).ownBlock.toList W w') (fun W o2 hFW hs1 hY hq => ?_)).mono ?_
    · refine (kcollect_any (kW hFW) xn).mono ?_
      rintro e w' ⟨gs, rfl, hK, hC, hKN, hF⟩
      exact ⟨_, rfl, ⟨gs, rfl, hK, hC, hKN, hF⟩, ysv_far h hk yy hFW hF (fun j hj => hDB j (List.mem_cons_of_mem _ hj))⟩
    · rintro e w2 ⟨c, W, w', o2, rfl, hFW, hs1, hY, hq, ⟨gs, hc, hK, hC, hKN, hF⟩, _, T, hT, hT2⟩
      obtain ⟨z1, z2, z3, z4, _⟩ := ysv_end h hk yy qq hFW hY hq hF (fun j hj => hDB j (List.mem_cons_of_mem _ hj)) hK (fun j hd => by
        rcases hd with e | e | ⟨x, hx, e⟩
        · exact Or.inl (Or.inl e)
        · exact Or.inl (Or.inr (Or.inl e))
        · rcases hKN x hx j e with q | ⟨y, hy, q⟩
          · exact Or.inr q
          · exact Or.inl (Or.inr (Or.inr ⟨y, hy, q⟩))) hT hT2
      exact ⟨true, none, 0, 0, none, 0, 0, c, o2, N, lc, lo, gs, _, rfl, z1, hq, z2, by omega, z3, (fun j hj => hDB j (List.mem_cons_of_mem _ hj)), z4, Or.inr (Or.inr (Or.inr (Or.inl ⟨rfl, rfl, ⟨rfl, rfl, rfl⟩, ⟨rfl, rfl, rfl⟩, (hC.is hk.ok).2, _, hc, goH_is hk.ok xn⟩)))⟩
  · refine (yoserve_5 h (fun ho hl hc W w' => ∃ hh, HRo W w' ho hl hc hh ∧ hh.map hkv = hs.filterMap (duOf xn rbs) ∧ Fr [] W w') (fun W o2 hFW hs1 hY hq => ?_)).mono ?_
    · have hIW : IRs W xo rbs := hrow.keepS hFW (fun h0 a e hm => hne h0 a e (by simpa using hm))
      refine (kdump_any (kW hFW) xn xo xl xm rbs hIW hlen).mono ?_
      rintro e w' ⟨ro, R, rc, hh, rfl, hH, _, hd, hF⟩
      exact ⟨ro, R, rc, rfl, ⟨hh, hH, hd, hF⟩, ysv_far h hk yy hFW hF (by simp)⟩
    · rintro e w2 ⟨ho, hl, hc, W, w', o2, rfl, hFW, hs1, hY, hq, ⟨hh, hH, hd, hF⟩, _, T, hT, hT2⟩
      obtain ⟨z1, z2, z3, z4, z5, z6⟩ := ysv_end h hk yy qq hFW hY hq hF (by simp) ((kW hFW).keep hF) (fun j hd => Or.inl hd) hT (fun j hj => ⟨(hT2 j hj).1, (hT2 j hj).2.1⟩)
      have vT : ∀ x ∈ hh, ∀ j, VB x j → j ∉ T := fun x hx j hj hm => by
        obtain ⟨_, _, cur, e⟩ := hT2 j hm
        obtain ⟨c2, e2⟩ := hH.ty x hx j hj
        rw [e] at e2
        simp only [Option.some.injEq, Obj.cells.injEq] at e2
        exact absurd e2.2.1 (by decide)
      refine ⟨true, none, 0, 0, ho, hl, hc, 0, o2, N, lc, lo, hs, [], rfl, z1, hq, z2, by omega, z3, by simp, z4, Or.inr (Or.inr (Or.inr (Or.inr ⟨rfl, rfl, ⟨rfl, rfl, rfl⟩, rfl, rfl, hh, ⟨hH.len, owns_move hH.row z5 z6, fun x hx => (hH.each x hx).keepS hT (fun j hj hm => vT x hx j hj hm), fun x hx => (hH.ty x hx).keepS hT (fun j hj hm => vT x hx j hj hm)⟩, duOf_is hk.ok xn rbs hd⟩)))⟩
end Go.Proofs.YtomajifklajilaaGreat
/- What the statements' helpers TwinVersions and LeftVersions answer. Conditions: fewer than 2^21 versions. -/
namespace Go.Proofs.YtomajifklajilaaGreat
open Go.ChangeShapes Go.WideShapes Go.ChangeAt Go.RowKit Go.Lib
set_option linter.unusedVariables false
set_option linter.unusedSimpArgs false

/-- The version that stands in a twin's spare room. -/
def spV : Vn := ⟨7777, ⟨#[]⟩, false⟩
theorem Tryz.infoVnW : (Tryz.prog.info? 110).map (fun i => (i.zero, i.size, i.bytes)) = some (some (.agg #[.int .i64 0, .string ⟨#[]⟩, .bool false]), 3, 32) := by kernel_rfl
theorem Tryz.undVnsW : Tryz.prog.underlying 68 = some (.slice 110) := by kernel_rfl
theorem vown_full {w : World} {g n : Nat} {xs : List Value} (h : w.ownsRow 0 110 3 (.slice (some ⟨g, 0, none⟩) n n) n xs) : w.heap[g]? = some (.cells xs.toArray 110 (0, 0)) := by
  have hl := h.1
  rcases h.2 with ⟨hh, _⟩ | ⟨g', cap', cur, hh, _, hg, _, _, hcs, ht⟩
  · cases hh
  · cases hh
    rw [hg]
    congr 2
    rw [← Array.toList_inj]
    simp only
    rw [← ht, List.take_of_length_le (by simp [hcs])]

set_option maxHeartbeats 4000000 in
set_option maxRecDepth 100000 in
theorem twinVs_any (ao : Option Addr) (L cap : Nat) (ws : List Vn) (w : World) (h : VRs w ao ws) (hLe : L = ws.length) (hL : L < 2^21) :
    Calls Tryz.prog 51 #[.slice ao L cap] w fun e w' => ∃ b, e = .returned (.slice (some ⟨b, 0, none⟩) L (L + 1)) ∧ w.heap.size ≤ b ∧ w'.heap[b]? = some (.cells (vnsC (ws ++ [spV])).toArray 110 (0, 0)) ∧ Fr [] w w' := by
  obtain ⟨i0, hi, hz0, hz1, hz2⟩ := info_parts Tryz.infoVnW
  have HL : Hid (L = ws.length) := hLe
  clear hLe
  go_enter Tryz.func51, Tryz.ntmps51
  go_wp2_with (at_make; refine wpList_make_own _ rfl (.const (.int .i64 0)) (.tmp 7) 68 rfl 0 110 i0 _ 3 Tryz.undVnsW hi hz0 hz1 .i64 .i64 ((L : Int) + 1) (L + 1) rfl rfl ?bC ?b2 ?b3 ?b4 ?_)
  case bC => simp
  case b2 => rw [hz2]; omega
  case b3 => unfold maxLen; omega
  case b4 => exact Nat.zero_le _
  intro w1 hown hgrow
  obtain ⟨g, hg⟩ : ∃ g, g = w.heap.size := ⟨_, rfl⟩
  have hgw : w.heap.size ≤ g := by omega
  rw [← hg] at hown ⊢
  have h01 : Fr [] w w1 := Fr.grown (S := []) hgrow (by simp)
  clear hgrow hg
  go_wp2_with fail
  go_loopw [3, 4] (fun vv ii wr => ∃ i : Nat, vv = .slice (some ⟨g, 0, none⟩) i (L + 1) ∧ ii = .int .i64 i ∧ i ≤ L ∧ wr.ownsRow 0 110 3 (.slice (some ⟨g, 0, none⟩) i (L + 1)) i (vnsC (ws.take i)) ∧ Fr [] w wr) (fun _ ii _ => L - (RowKit.intOf ii).toNat)
  case atStart => exact ⟨0, rfl, rfl, Nat.zero_le _, hown, h01⟩
  case round =>
    obtain ⟨i, rfl, rfl, hiL, hO, hF⟩ := hrel
    have hsz := (hO.lt g rfl).2
    by_cases hil : i < L
    · have hi' : i < ws.length := by rw [← HL.out]; exact hil
      obtain ⟨b, off, e, _, hc⟩ := (h.keep hF).lies (by omega)
      subst e
      obtain ⟨d0, d1, d2⟩ := hc i hi'
      obtain ⟨x, hx⟩ : ∃ x, x = ws.getD i Vn.zero := ⟨_, rfl⟩
      rw [← hx] at d0 d1 d2
      have HE : Hid (vnsC (ws.take (i + 1)) = vnsC (ws.take i) ++ [.int .i64 x.num, .string x.val, .bool x.drop]) := by
        show _ = _
        rw [vtake_snoc ws i hi', vnsC_append, ← hx]; rfl
      clear hc hx
      obtain ⟨key, val, drop⟩ := x
      simp only at d0 d1 d2 HE
      go_wp2_with (at_builtin; refine wpList_append_fits _ rfl (.tmp 15) (.tmp 20) 68 rfl 0 110 i0 3 Tryz.undVnsW hi hz1 g i (L + 1) _ rfl (hO.alloc _) ⟨wr.heap.size, 0, none⟩ 1 1 [.int .i64 key, .string val, .bool drop] rfl rfl ?c1 ?c2 ?c3 ?_)
      case c1 => intro j u hj; match j, hj with | 0, hj => simp at hj; subst hj; simp [Addr.add] | 1, hj => simp at hj; subst hj; simp [Addr.add] | 2, hj => simp at hj; subst hj; simp [Addr.add]
      case c2 => intro u hu; simp at hu; rcases hu with rfl | rfl | rfl <;> rfl
      case c3 => omega
      intro w2 hO2 hg2
      rw [← HE.out] at hO2
      have hF2 : Fr [] w w2 := (hF.then (Fr.alloc [] wr _)).on (Fr.grown (S := [g]) hg2 (by intro k hk _; cases hk; simp)) (by intro y hy; simp at hy; omega)
      clear hO hg2 hF d0 d1 d2
      go_wp2
      go_roundw
      case rel => exact ⟨i + 1, rfl, by simp, by omega, hO2, hF2⟩
      case measure => simp [RowKit.intOf]; omega
    · have hiL' : L ≤ i := by omega
      obtain rfl : i = L := by omega
      have HE : Hid (vnsC (ws ++ [spV]) = vnsC (ws.take i) ++ [.int .i64 7777, .string ⟨#[]⟩, .bool false]) := by
        show _ = _
        rw [List.take_of_length_le (by rw [← HL.out]; omega), vnsC_append]; rfl
      go_wp2_with (at_builtin; refine wpList_append_fits _ rfl (.tmp 22) (.tmp 24) 68 rfl 0 110 i0 3 Tryz.undVnsW hi hz1 g i (i + 1) _ rfl (hO.alloc _) ⟨wr.heap.size, 0, none⟩ 1 1 [.int .i64 7777, .string ⟨#[]⟩, .bool false] rfl rfl ?c1 ?c2 ?c3 ?_)
      case c1 => intro j u hj; match j, hj with | 0, hj => simp at hj; subst hj; simp [Addr.add] | 1, hj => simp at hj; subst hj; simp [Addr.add] | 2, hj => simp at hj; subst hj; simp [Addr.add]
      case c2 => intro u hu; simp at hu; rcases hu with rfl | rfl | rfl <;> rfl
      case c3 => omega
      intro w2 hO2 hg2
      rw [← HE.out] at hO2
      have hF2 : Fr [] w w2 := (hF.then (Fr.alloc [] wr _)).on (Fr.grown (S := [g]) hg2 (by intro k hk _; cases hk; simp)) (by intro y hy; simp at hy; omega)
      have HRow : Hid (w2.heap[g]? = some (.cells (vnsC (ws ++ [spV])).toArray 110 (0, 0))) := vown_full hO2
      clear hO hg2 hF hO2
      go_wp2
      go_ret
      exact ⟨g, rfl, hgw, HRow.out, hF2⟩


set_option maxHeartbeats 4000000 in
set_option maxRecDepth 100000 in
theorem leftVs_any (t : Nat) (ao : Option Addr) (L cap : Nat) (ws : List Vn) (w : World) (h : VRs w ao ws) (hLe : L = ws.length) (hL : L < 2^21) (hrow : w.heap[t]? = some (.cells (vnsC (ws ++ [spV])).toArray 110 (0, 0))) :
    Calls Tryz.prog 56 #[.slice (some ⟨t, 0, none⟩) L (L + 1), .slice ao L cap] w fun e w' => e = .returned (.bool true) ∧ Fr [] w w' := by
  have HL : Hid (L = ws.length) := hLe
  clear hLe
  have hct : ∀ j, j < L → VAt w t (j * 3) (ws.getD j Vn.zero) := by
    intro j hj
    have key : ∀ c, c < 3 → w.cell? ⟨t, j * 3 + c, none⟩ = (vnC (ws.getD j Vn.zero))[c]? := by
      intro c hc
      rw [cell_of_row _ _ _ _ _ _ hrow]
      have := vnsC_get (ws ++ [spV]) j c (by rw [List.length_append, ← HL.out]; simp; omega) hc
      have e : (ws ++ [spV]).getD j Vn.zero = ws.getD j Vn.zero := by simp [List.getD, List.getElem?_append_left (show j < ws.length by rw [← HL.out]; exact hj)]
      rw [e] at this
      simpa using this
    exact ⟨key 0 (by omega), key 1 (by omega), key 2 (by omega)⟩
  have hsp : VAt w t (L * 3) spV := by
    have key : ∀ c, c < 3 → w.cell? ⟨t, L * 3 + c, none⟩ = (vnC spV)[c]? := by
      intro c hc
      rw [cell_of_row _ _ _ _ _ _ hrow]
      have := vnsC_get (ws ++ [spV]) L c (by rw [List.length_append, ← HL.out]; simp) hc
      have e : (ws ++ [spV]).getD L Vn.zero = spV := by simp [List.getD, HL.out]
      rw [e] at this
      simpa using this
    exact ⟨key 0 (by omega), key 1 (by omega), key 2 (by omega)⟩
  have hne : ((L : Int) != L) = false := by simp
  have hgd := Tryz.guardVn
  clear hrow
  go_enter Tryz.func56, Tryz.ntmps56
  go_wp2_with fail
  go_loopw [5] (fun ii wr => ∃ (i q : Nat), ii = .int .i64 i ∧ i ≤ L ∧ Hid (wr = w.drewN q)) (fun ii _ => L - (RowKit.intOf ii).toNat)
  case atStart => exact ⟨0, 0, rfl, Nat.zero_le _, rfl⟩
  case round =>
    obtain ⟨i, q, rfl, hiL, HQ⟩ := hrel
    have hce : ∀ a, wr.cell? a = w.cell? a := fun a => by rw [HQ.out]; rfl
    by_cases hi : i < L
    · have hi' : i < ws.length := by rw [← HL.out]; exact hi
      obtain ⟨b, off, e, _, hc⟩ := h.lies (by omega)
      subst e
      obtain ⟨c0, c1, c2⟩ := hct i hi
      obtain ⟨d0, d1, d2⟩ := hc i hi'
      obtain ⟨x, hxx⟩ : ∃ x, x = ws.getD i Vn.zero := ⟨_, rfl⟩
      rw [← hxx, ← hce] at c0 c1 c2 d0 d1 d2
      clear hxx hct hc hsp hce
      have hq : ∀ w', (Op.equalIn 10000 110 (.agg #[.int .i64 x.num, .string x.val, .bool x.drop]) (.agg #[.int .i64 x.num, .string x.val, .bool x.drop])).run Tryz.prog w' = .ok true w' := fun w' => by rw [vn_in w' x x, (sameV_iff x x).2 rfl]
      go_wp2_with fail
      go_quiet (fail)
      go_wp2
      go_roundw
      case rel => exact ⟨i + 1, q + nq, by simp, by omega, by show _ = _; rw [HQ.out]; simp⟩
      case measure => simp [RowKit.intOf]; omega
    · have hiL' : L ≤ i := by omega
      obtain ⟨c0, c1, c2⟩ := hsp
      rw [← hce] at c0 c1 c2
      have hFq : Fr [] w wr := by rw [HQ.out]; exact Fr.drewN _ _ _
      clear hct hce
      have hq : ∀ w', (Op.equalIn 10000 110 (.agg #[.int .i64 7777, .string ⟨#[]⟩, .bool false]) (.agg #[.int .i64 7777, .string ⟨#[]⟩, .bool false])).run Tryz.prog w' = .ok true w' := fun w' => by
        have := vn_in w' spV spV
        rw [(sameV_iff spV spV).2 rfl] at this
        exact this
      simp only [spV] at c0 c1 c2
      go_wp2
      go_ret
      exact ⟨by simp, hFq.then (Fr.alloc [] _ _)⟩

end Go.Proofs.YtomajifklajilaaGreat
/- What the statements' helpers TwinInts and LeftInts answer; numbers that came in. Conditions: as many numbers as may come in. -/
namespace Go.Proofs.YtomajifklajilaaGreat
open Go.ChangeShapes Go.WideShapes Go.ChangeAt Go.RowKit Go.Lib
set_option linter.unusedVariables false
set_option linter.unusedSimpArgs false

def intsT (ns : List Int) : List Value := ns.map fun n => Value.int .i64 n
theorem intsT_length (xs : List Int) : (intsT xs).length = xs.length := by simp [intsT]
theorem intsT_get (xs : List Int) (j : Nat) (h : j < xs.length) : (intsT xs)[j]? = some (.int .i64 (xs.getD j 0)) := by simp [intsT, List.getD, h]
theorem Tryz.infoIW : (Tryz.prog.info? 3).map (fun i => (i.zero, i.size, i.bytes)) = some (some (.int .i64 0), 1, 8) := by kernel_rfl
theorem Tryz.undIsW : Tryz.prog.underlying 34 = some (.slice 3) := by kernel_rfl
theorem iown_full {w : World} {g n : Nat} {xs : List Value} (h : w.ownsRow 0 3 1 (.slice (some ⟨g, 0, none⟩) n n) n xs) : w.heap[g]? = some (.cells xs.toArray 3 (0, 0)) := by
  have hl := h.1
  rcases h.2 with ⟨hh, _⟩ | ⟨g', cap', cur, hh, _, hg, _, _, hcs, ht⟩
  · cases hh
  · cases hh
    rw [hg]
    congr 2
    rw [← Array.toList_inj]
    simp only
    rw [← ht, List.take_of_length_le (by simp [hcs])]
set_option maxHeartbeats 4000000 in
set_option maxRecDepth 100000 in
theorem twinIs_any (ao : Option Addr) (L cap : Nat) (ws : List Int) (w : World) (h : IRs w ao ws) (hLe : L = ws.length) (hL : L ≤ 17592186044416) :
    Calls Tryz.prog 40 #[.slice ao L cap] w fun e w' => ∃ b, e = .returned (.slice (some ⟨b, 0, none⟩) L (L + 1)) ∧ w.heap.size ≤ b ∧ w'.heap[b]? = some (.cells (intsT (ws ++ [7777])).toArray 3 (0, 0)) ∧ Fr [] w w' := by
  obtain ⟨i0, hi, hz0, hz1, hz2⟩ := info_parts Tryz.infoIW
  have HL : Hid (L = ws.length) := hLe
  clear hLe
  go_enter Tryz.func40, Tryz.ntmps40
  go_wp2_with (at_make; refine wpList_make_own _ rfl (.const (.int .i64 0)) (.tmp 7) 34 rfl 0 3 i0 _ 1 Tryz.undIsW hi hz0 hz1 .i64 .i64 ((L : Int) + 1) (L + 1) rfl rfl ?bC ?b2 ?b3 ?b4 ?_)
  case bC => simp
  case b2 => rw [hz2]; omega
  case b3 => unfold maxLen; omega
  case b4 => exact Nat.zero_le _
  intro w1 hown hgrow
  obtain ⟨g, hg⟩ : ∃ g, g = w.heap.size := ⟨_, rfl⟩
  have hgw : w.heap.size ≤ g := by omega
  rw [← hg] at hown ⊢
  have h01 : Fr [] w w1 := Fr.grown (S := []) hgrow (by simp)
  clear hgrow hg
  go_wp2_with fail
  go_loopw [3, 4] (fun vv ii wr => ∃ i : Nat, vv = .slice (some ⟨g, 0, none⟩) i (L + 1) ∧ ii = .int .i64 i ∧ i ≤ L ∧ wr.ownsRow 0 3 1 (.slice (some ⟨g, 0, none⟩) i (L + 1)) i (intsT (ws.take i)) ∧ Fr [] w wr) (fun _ ii _ => L - (RowKit.intOf ii).toNat)
  case atStart => exact ⟨0, rfl, rfl, Nat.zero_le _, hown, h01⟩
  case round =>
    obtain ⟨i, rfl, rfl, hiL, hO, hF⟩ := hrel
    have hsz := (hO.lt g rfl).2
    by_cases hil : i < L
    · have hi' : i < ws.length := by rw [← HL.out]; exact hil
      obtain ⟨b, off, e, _, hc⟩ := (h.keep hF).lies (by omega)
      subst e
      have d0 := hc i hi'
      obtain ⟨x, hx⟩ : ∃ x, x = ws.getD i 0 := ⟨_, rfl⟩
      rw [← hx] at d0
      have HE : Hid (intsT (ws.take (i + 1)) = intsT (ws.take i) ++ [.int .i64 x]) := by
        show _ = _
        rw [itake_snoc ws i hi', ← hx]; simp [intsT]
      clear hc hx
      go_wp2_with (at_builtin; refine wpList_append_fits _ rfl (.tmp 15) (.tmp 20) 34 rfl 0 3 i0 1 Tryz.undIsW hi hz1 g i (L + 1) _ rfl (hO.alloc _) ⟨wr.heap.size, 0, none⟩ 1 1 [.int .i64 x] rfl rfl ?c1 ?c2 ?c3 ?_)
      case c1 => intro j u hj; match j, hj with | 0, hj => simp at hj; subst hj; simp [Addr.add]
      case c2 => intro u hu; simp at hu; subst hu; rfl
      case c3 => omega
      intro w2 hO2 hg2
      rw [← HE.out] at hO2
      have hF2 : Fr [] w w2 := (hF.then (Fr.alloc [] wr _)).on (Fr.grown (S := [g]) hg2 (by intro k hk _; cases hk; simp)) (by intro y hy; simp at hy; omega)
      clear hO hg2 hF d0
      go_wp2
      go_roundw
      case rel => exact ⟨i + 1, rfl, by simp, by omega, hO2, hF2⟩
      case measure => simp [RowKit.intOf]; omega
    · have hiL' : L ≤ i := by omega
      obtain rfl : i = L := by omega
      have HE : Hid (intsT (ws ++ [7777]) = intsT (ws.take i) ++ [.int .i64 7777]) := by
        show _ = _
        rw [List.take_of_length_le (by rw [← HL.out]; omega)]; simp [intsT]
      go_wp2_with (at_builtin; refine wpList_append_fits _ rfl (.tmp 22) (.tmp 23) 34 rfl 0 3 i0 1 Tryz.undIsW hi hz1 g i (i + 1) _ rfl (hO.alloc _) ⟨wr.heap.size, 0, none⟩ 1 1 [.int .i64 7777] rfl rfl ?c1 ?c2 ?c3 ?_)
      case c1 => intro j u hj; match j, hj with | 0, hj => simp at hj; subst hj; simp [Addr.add]
      case c2 => intro u hu; simp at hu; subst hu; rfl
      case c3 => omega
      intro w2 hO2 hg2
      rw [← HE.out] at hO2
      have hF2 : Fr [] w w2 := (hF.then (Fr.alloc [] wr _)).on (Fr.grown (S := [g]) hg2 (by intro k hk _; cases hk; simp)) (by intro y hy; simp at hy; omega)
      have HRow : Hid (w2.heap[g]? = some (.cells (intsT (ws ++ [7777])).toArray 3 (0, 0))) := iown_full hO2
      clear hO hg2 hF hO2
      go_wp2
      go_ret
      exact ⟨g, rfl, hgw, HRow.out, hF2⟩
set_option maxHeartbeats 4000000 in
set_option maxRecDepth 100000 in
theorem leftIs_any (t : Nat) (ao : Option Addr) (L cap : Nat) (ws : List Int) (w : World) (h : IRs w ao ws) (hLe : L = ws.length) (hL : L ≤ 17592186044416) (hrow : w.heap[t]? = some (.cells (intsT (ws ++ [7777])).toArray 3 (0, 0))) :
    Calls Tryz.prog 45 #[.slice (some ⟨t, 0, none⟩) L (L + 1), .slice ao L cap] w fun e w' => e = .returned (.bool true) ∧ Fr [] w w' := by
  have HL : Hid (L = ws.length) := hLe
  clear hLe
  have hct : ∀ j, j < L → w.cell? ⟨t, j, none⟩ = some (.int .i64 (ws.getD j 0)) := by
    intro j hj
    rw [cell_of_row _ _ _ _ _ _ hrow, List.getElem?_toArray, intsT_get _ _ (by rw [List.length_append, ← HL.out]; simp; omega)]
    have e : (ws ++ [7777]).getD j 0 = ws.getD j 0 := by simp [List.getD, List.getElem?_append_left (show j < ws.length by rw [← HL.out]; exact hj)]
    rw [e]
  have hsp : w.cell? ⟨t, L, none⟩ = some (.int .i64 7777) := by
    rw [cell_of_row _ _ _ _ _ _ hrow, List.getElem?_toArray, intsT_get _ _ (by rw [List.length_append, ← HL.out]; simp)]
    have e : (ws ++ [7777]).getD L 0 = 7777 := by simp [List.getD, HL.out]
    rw [e]
  have hne : ((L : Int) != L) = false := by simp
  clear hrow
  go_enter Tryz.func45, Tryz.ntmps45
  go_wp2_with fail
  go_loopw [5] (fun ii wr => ∃ (i q : Nat), ii = .int .i64 i ∧ i ≤ L ∧ Hid (wr = w.drewN q)) (fun ii _ => L - (RowKit.intOf ii).toNat)
  case atStart => exact ⟨0, 0, rfl, Nat.zero_le _, rfl⟩
  case round =>
    obtain ⟨i, q, rfl, hiL, HQ⟩ := hrel
    have hce : ∀ a, wr.cell? a = w.cell? a := fun a => by rw [HQ.out]; rfl
    by_cases hi : i < L
    · have hi' : i < ws.length := by rw [← HL.out]; exact hi
      obtain ⟨b, off, e, _, hc⟩ := h.lies (by omega)
      subst e
      have c0 := hct i hi
      have d0 := hc i hi'
      obtain ⟨x, hxx⟩ : ∃ x, x = ws.getD i 0 := ⟨_, rfl⟩
      rw [← hxx, ← hce] at c0 d0
      clear hxx hct hc hsp hce
      have hq : (x != x) = false := by simp
      go_wp2_with fail
      go_quiet (fail)
      go_wp2
      go_roundw
      case rel => exact ⟨i + 1, q + nq, by simp, by omega, by show _ = _; rw [HQ.out]; simp⟩
      case measure => simp [RowKit.intOf]; omega
    · have hiL' : L ≤ i := by omega
      have c0 := hsp
      rw [← hce] at c0
      have hFq : Fr [] w wr := by rw [HQ.out]; exact Fr.drewN _ _ _
      clear hct hce hsp
      go_wp2
      go_ret
      exact ⟨by simp, hFq⟩
end Go.Proofs.YtomajifklajilaaGreat
/- The statements' helpers TwinReq, LeftReq. Conditions as each names them. -/
namespace Go.Proofs.YtomajifklajilaaGreat
open Go.ChangeShapes Go.WideShapes Go.ChangeAt Go.RowKit Go.Lib
set_option linter.unusedVariables false
set_option linter.unusedSimpArgs false
theorem sets9_rowz {W : World} {b : Nat} {t : TypeId} {u0 u1 u2 u3 u4 u5 u6 u7 u8 : Value} (v0 v1 v2 v3 v4 v5 v6 v7 v8 : Value) (h : W.heap[b]? = some (.cells #[u0, u1, u2, u3, u4, u5, u6, u7, u8] t (0, 0))) : (sets9z W b v0 v1 v2 v3 v4 v5 v6 v7 v8).heap[b]? = some (.cells #[v0, v1, v2, v3, v4, v5, v6, v7, v8] t (0, 0)) ∧ Fr [b] W (sets9z W b v0 v1 v2 v3 v4 v5 v6 v7 v8) := by
  rw [sets9z_is]
  obtain ⟨h1, h2⟩ := setCells_row [v0, v1, v2, v3, v4, v5, v6, v7, v8] 0 W _ h (by simp)
  exact ⟨h1.trans (by simp [splice]), h2⟩
/-- A request's twin. -/
def Rv.tw (x : Rv) (tb : Nat) : Rv := ⟨x.k, x.f, x.n, x.wk, x.wv, x.wd, x.key, x.en, some ⟨tb, 0, none⟩, x.bl, x.bl + 1⟩
set_option maxHeartbeats 1000000 in
set_option maxRecDepth 100000 in
theorem twinReq_any (x : Rv) (ns : List Int) (w : World) (hR : RqB w x ns) : Calls Tryz.prog 16 #[x.v] w fun e w' => ∃ tb, e = .returned (x.tw tb).v ∧ w.heap.size ≤ tb ∧ w'.heap[tb]? = some (.cells (intsT (ns ++ [7777])).toArray 3 (0, 0)) ∧ Fr [] w w' := by
  obtain ⟨xk, xf, xn, xa, xb, xd, xc, xe, xo, xl, xm⟩ := x
  obtain ⟨wz, HWz⟩ : ∃ wz, Hid ((w.alloc (.cells #[.int .u8 xk, .int .i64 xf, .int .i64 xn, .string xa, .string xb, .bool xd, .string xc, .string xe, .slice xo xl xm] 36)).alloc (.cells #[.int .u8 0, .int .i64 0, .int .i64 0, .string ⟨#[]⟩, .string ⟨#[]⟩, .bool false, .string ⟨#[]⟩, .string ⟨#[]⟩, .slice none 0 0] 36) = wz) := ⟨_, rfl⟩
  have hF0 : Fr [] w wz := by rw [← HWz.out]; exact (Fr.alloc [] w _).then (Fr.alloc [] _ _)
  have hr1 : wz.heap[w.heap.size]? = some (.cells #[.int .u8 xk, .int .i64 xf, .int .i64 xn, .string xa, .string xb, .bool xd, .string xc, .string xe, .slice xo xl xm] 36 (0, 0)) := by rw [← HWz.out]; exact (Fr.alloc [] _ _).keep (heap_alloc_new w _) (by simp)
  have hr2 : wz.heap[w.heap.size + 1]? = some (.cells #[.int .u8 0, .int .i64 0, .int .i64 0, .string ⟨#[]⟩, .string ⟨#[]⟩, .bool false, .string ⟨#[]⟩, .string ⟨#[]⟩, .slice none 0 0] 36 (0, 0)) := by
    rw [← HWz.out, show w.heap.size + 1 = (w.alloc (.cells #[.int .u8 xk, .int .i64 xf, .int .i64 xn, .string xa, .string xb, .bool xd, .string xc, .string xe, .slice xo xl xm] 36)).heap.size by simp]
    exact heap_alloc_new _ _
  obtain ⟨Z1, HZ1⟩ : ∃ Z, Hid (w.heap.size = Z) := ⟨_, rfl⟩
  obtain ⟨Z2, HZ2⟩ : ∃ Z, Hid (w.heap.size + 1 = Z) := ⟨_, rfl⟩
  rw [HZ1.out] at hr1
  rw [HZ2.out] at hr2
  have h12 : Z1 ≠ Z2 := by rw [← HZ1.out, ← HZ2.out]; omega
  have h21 : Z2 ≠ Z1 := fun e => h12 e.symm
  have HC : Hid (∀ W, Fr [] wz W → Calls _ _ _ _ _) := fun W hf => twinIs_any xo xl xm ns W (hR.is.keep (hF0.then hf)) hR.len (by have := hR.is.few; have := hR.len; simp only at this; omega)
  have HS : Hid (∀ W, Fr [] wz W → (W.cell? ⟨Z1, 0, none⟩ = some (.int .u8 xk) ∧ W.cell? ⟨Z1, 1, none⟩ = some (.int .i64 xf) ∧ W.cell? ⟨Z1, 2, none⟩ = some (.int .i64 xn) ∧ W.cell? ⟨Z1, 3, none⟩ = some (.string xa) ∧ W.cell? ⟨Z1, 4, none⟩ = some (.string xb) ∧ W.cell? ⟨Z1, 5, none⟩ = some (.bool xd) ∧ W.cell? ⟨Z1, 6, none⟩ = some (.string xc) ∧ W.cell? ⟨Z1, 7, none⟩ = some (.string xe) ∧ W.cell? ⟨Z1, 8, none⟩ = some (.slice xo xl xm)) ∧ RvAt W Z2 0 Rv.zero ∧ ∀ j, W.frozen? ⟨Z2, j, none⟩ = false) := fun W hf => by
    have hz := RvAt.ofRow (x := ⟨xk, xf, xn, xa, xb, xd, xc, xe, xo, xl, xm⟩) (hf.keep hr1 (by simp))
    have k2 := hf.keep hr2 (by simp)
    exact ⟨⟨hz.c0, hz.c1, hz.c2, hz.c3, hz.c4, hz.c5, hz.c6, hz.c7, hz.c8⟩, RvAt.ofRow (x := Rv.zero) k2, fun j => by simp [World.frozen?, k2]⟩
  have HK : Hid (∀ W tb, Fr [] wz W → (sets9z W Z2 (.int .u8 xk) (.int .i64 xf) (.int .i64 xn) (.string xa) (.string xb) (.bool xd) (.string xc) (.string xe) (.slice (some ⟨tb, 0, none⟩) xl (xl + 1))).heap[Z2]? = some (.cells #[.int .u8 xk, .int .i64 xf, .int .i64 xn, .string xa, .string xb, .bool xd, .string xc, .string xe, .slice (some ⟨tb, 0, none⟩) xl (xl + 1)] 36 (0, 0)) ∧ Fr [Z2] W (sets9z W Z2 (.int .u8 xk) (.int .i64 xf) (.int .i64 xn) (.string xa) (.string xb) (.bool xd) (.string xc) (.string xe) (.slice (some ⟨tb, 0, none⟩) xl (xl + 1)))) := fun W tb hf => sets9_rowz _ _ _ _ _ _ _ _ _ (hf.keep hr2 (by simp))
  have HZw : Hid (w.heap.size < Z2) := by show _ < _; rw [← HZ2.out]; omega
  have HF0 : Hid (Fr [] w wz) := hF0
  have HZl : Hid (Z2 < wz.heap.size) := lt_of_block hr2
  clear hR hF0 hr1 hr2
  simp only [Rv.v, Rv.tw]
  go_enter Tryz.func16, Tryz.ntmps16
  go_upto_region 1 with fail
  rw [HWz.out, HZ2.out, HZ1.out]
  clear HWz HZ1 HZ2
  obtain ⟨⟨e0, e1, e2, e3, e4, e5, e6, e7, e8⟩, _⟩ := HS.out _ (Fr.refl _ _)
  go_region_held3 (fun W => W.cell? ⟨Z1, 0, none⟩ = some (.int .u8 xk) ∧ W.cell? ⟨Z1, 1, none⟩ = some (.int .i64 xf) ∧ W.cell? ⟨Z1, 2, none⟩ = some (.int .i64 xn) ∧ W.cell? ⟨Z1, 3, none⟩ = some (.string xa) ∧ W.cell? ⟨Z1, 4, none⟩ = some (.string xb) ∧ W.cell? ⟨Z1, 5, none⟩ = some (.bool xd) ∧ W.cell? ⟨Z1, 6, none⟩ = some (.string xc) ∧ W.cell? ⟨Z1, 7, none⟩ = some (.string xe) ∧ W.cell? ⟨Z1, 8, none⟩ = some (.slice xo xl xm)) (go_keep)
    (first
      | (with_reducible refine Calls.mono (HC.out _ (Fr.drew _ _)) ?_; rintro e w3 ⟨tb, rfl, htb, hrt, hF3⟩; have hF3' := (Fr.drew [] wz).then hF3; obtain ⟨⟨z0, z1, z2, z3, z4, z5, z6, z7, z8⟩, ⟨o0, o1, o2, o3, o4, o5, o6, o7, o8⟩, y5⟩ := HS.out _ hF3'; simp only [Nat.zero_add] at o1 o2 o3 o4 o5 o6 o7 o8))
  all_goals (
    obtain ⟨k1, k2⟩ := HK.out w3 tb hF3'
    unfold sets9z at k1 k2
    go_wp2_with fail
    refine bodyPost_ret (results_c_row rfl _ _ _ _ _ rfl (load_req ⟨xk, xf, xn, xa, xb, xd, xc, xe, some ⟨tb, 0, none⟩, xl, xl + 1⟩ k1)) rfl ?_
    have s0 := HF0.out.size
    have s1 : wz.heap.size ≤ tb := htb
    have s2 := HZl.out
    exact ⟨tb, rfl, by omega, k2.keep hrt (by simp; omega), (HF0.out.then hF3').on k2 (by intro y hy; simp at hy; have := HZw.out; omega)⟩)
set_option maxHeartbeats 4000000 in
set_option maxRecDepth 100000 in
theorem leftReq_any (x : Rv) (ns : List Int) (tb : Nat) (w : World) (hR : RqB w x ns) (hrow : w.heap[tb]? = some (.cells (intsT (ns ++ [7777])).toArray 3 (0, 0))) : Calls Tryz.prog 19 #[(x.tw tb).v, x.v] w fun e w' => e = .returned (.bool true) ∧ Fr [] w w' := by
  obtain ⟨xk, xf, xn, xa, xb, xd, xc, xe, xo, xl, xm⟩ := x
  have HC : Hid (∀ W, Fr [] w W → Calls _ _ _ _ _) := fun W hf => leftIs_any tb xo xl xm ns W (hR.is.keep hf) hR.len (by have := hR.is.few; have := hR.len; simp only at this; omega) (hf.keep hrow (by simp))
  have hF0 : Fr [] w ((w.alloc (.cells #[.int .u8 xk, .int .i64 xf, .int .i64 xn, .string xa, .string xb, .bool xd, .string xc, .string xe, .slice (some ⟨tb, 0, none⟩) xl (xl + 1)] 36)).alloc (.cells #[.int .u8 xk, .int .i64 xf, .int .i64 xn, .string xa, .string xb, .bool xd, .string xc, .string xe, .slice xo xl xm] 36)) := (Fr.alloc [] w _).then (Fr.alloc [] _ _)
  have HF0 : Hid (Fr _ _ _) := hF0
  have hq : ∀ W, (binOp .eql 33 (.agg #[.string xa, .string xb, .bool xd]) (.agg #[.string xa, .string xb, .bool xd])).run Tryz.prog W = .ok (.bool true) W := fun W => by rw [wt_eql15]; simp
  have b1 : (xc.toList == xc.toList) = true := by simp
  have b2 : (xe.toList == xe.toList) = true := by simp
  clear hR hrow hF0
  simp only [Rv.v, Rv.tw]
  go_enter Tryz.func19, Tryz.ntmps19
  go_wp2_with fail
  refine Calls.mono (HC.out _ HF0.out) ?_
  rintro e w1 ⟨rfl, hF1⟩
  go_wp2
  go_ret
  exact ⟨rfl, HF0.out.then hF1⟩
end Go.Proofs.YtomajifklajilaaGreat
