/- An owner's New, Ask, Serve, Len, Room, All, with its shard. Conditions as each names them. -/
import Derived.Test.YtakbodlicfmkjaaGreatOf15
import Derived.Test.YtakbodlicfmkjaaGreatHk9
namespace Go.Proofs.YtakbodlicfmkjaaGreat.O
open Go.ChangeShapes Go.WideShapes Go.ChangeAt Go.RowKit Go.Lib Go.Maps
set_option linter.unusedVariables false
set_option linter.unusedSimpArgs false
theorem Rg.move {w w' : World} {g C : Nat} {pb : Option Nat} {xs : List Rv} {cl : Bool} (h : Rg w g pb C xs cl) (hk : ∀ j ∈ Rg.own g pb, w'.heap[j]? = w.heap[j]?) : Rg w' g pb C xs cl := by
  obtain ⟨N, F, K, ps, hR⟩ := h
  exact ⟨N, F, K, ps, (hk g (by simp [Rg.own])).trans hR.box, hR.pl, fun b e => (hk b (by simp [Rg.own, e])).trans (hR.row b e), hR.none_, hR.cap⟩
theorem OwF.new {w w1 w2 : World} {b gg : Nat} {pp : Option Nat} {T : List Nat} (h : OwF b gg pp w w1) (hf : Fr T w1 w2) (hT : ∀ j ∈ T, w.heap.size ≤ j) (hb : b < w.heap.size) : OwF b gg pp w w2 := by
  obtain ⟨S, hS, hm⟩ := h
  refine ⟨S, hS.trans hf (fun x hx _ => hx) (fun x hx hl => absurd (hT x hx) (by omega)), fun hb' => ⟨(hm hb').1, fun j hr => (hm hb').2 j (hr.back hf (fun hm => absurd (hT b hm) (by omega)) (Nat.lt_of_lt_of_le hb hS.size))⟩⟩
section
variable {t : Nat → Prop} {w0 w : World} {ob sb b n g C : Nat} {pb : Option Nat} {M : ByteArray → List Vn} {rs : List Rq} {xs : List Rv}
/-- Rows of the shard lie ahead of what is new. -/
theorem OwS.old (h : OwS w0 t w ob sb b n g pb C M rs) {W Wd : World} (hFW : Fr (Rg.own g pb) w W) (hd : Fr [] W Wd) {j : Nat} (hr : RowOf Wd b j) : j < w.heap.size := by
  obtain ⟨xs, hq, _⟩ := h.q
  have hb := ring_nb hq.rg h.sh.mb
  have r2 := (hr.back hd (by simp) (Nat.lt_of_lt_of_le h.sh.bl hFW.size)).back hFW hb h.sh.bl
  obtain ⟨_, cur, e⟩ := h.sh.rowLt r2
  exact lt_of_block e
/-- What a deed leaves alone. -/
theorem serve_far (h : OwS w0 t w ob sb b n g pb C M rs) {W Wd w1 w2 : World} (hFW : Fr (Rg.own g pb) w W) (hQ : OwQ W ob g ⟨sb, 0, none⟩ pb C xs) (hd : Fr [] W Wd) (hS : FrS w0 b Wd w1) (hf : Fr [W.heap.size + 1] w1 w2) :
    W.heap.size ≤ w2.heap.size ∧ (∀ j, w.heap.size ≤ j → j < W.heap.size → w2.heap[j]? = W.heap[j]?) ∧ w2.heap[ob]? = W.heap[ob]? := by
  have hbl := h.sh.bl
  have s1 := hFW.size
  have s2 := hd.size
  have s3 := hS.size
  have s4 := hf.size
  refine ⟨by omega, fun j h1 h2 => ?_, ?_⟩
  · have e : W.heap[j]? = some W.heap[j] := Array.getElem?_eq_getElem h2
    have e2 : Wd.heap[j]? = some W.heap[j] := (hd.block j h2 (by simp)).trans e
    have e3 := hS.apart (by omega) e2 (by omega) (fun hr => by have := h.old hFW hd hr; omega)
    rw [e, hf.block j (by omega) (by simp; omega)]
    exact e3
  · have e := hQ.box
    have hmb : ∃ es c, Wd.heap[b]? = some (.map es c) := ((h.shR hFW).keep hd).mb
    have e3 := hS.keep (hd.keep e (by simp)) hmb (by decide)
    have := hQ.lt
    rw [e, hf.block ob (by omega) (by simp; omega)]
    exact e3
/-- What is left behind a Serve. -/
theorem serve_end {r : Rq} {x : Rv} {xs : List Rv} (h : OwS w0 t w ob sb b n g pb C M (r :: rs)) (hw : OwQ w ob g ⟨sb, 0, none⟩ pb C (x :: xs)) (ht : Wt15 w0 t w xs rs) {W Wd w1 w2 w3 : World} {T : List Nat} {n' : Nat} {M' : ByteArray → List Vn} (hFW : Fr (Rg.own g pb) w W) (hQ : OwQ W ob g ⟨sb, 0, none⟩ pb C xs) (hd : Fr [] W Wd) (hds : W.heap.size + 2 ≤ Wd.heap.size) (hS : FrS w0 b Wd w1) (hf : Fr [W.heap.size + 1] w1 w2) (hT : Fr T w2 w3) (hT2 : ∀ j ∈ T, w.heap.size ≤ j ∧ j < W.heap.size) (hSh : Sh w0 w1 sb b n' M') :
    OwS w0 t w3 ob sb b n' g pb C M' rs ∧ OwF b g pb w w3 ∧ (∀ j, Wd.heap.size ≤ j → j < w1.heap.size → w3.heap[j]? = w1.heap[j]?) ∧ (∀ j, w1.heap.size ≤ j → j < w2.heap.size → w3.heap[j]? = w2.heap[j]?) := by
  have hbl := h.sh.bl
  have s1 := hFW.size
  have s2 := hd.size
  have s3 := hS.size
  have s4 := hf.size
  have s5 := hT.size
  have s0 := h.fr.size
  have hmb : ∃ es c, Wd.heap[b]? = some (.map es c) := ((h.shR hFW).keep hd).mb
  have olds : ∀ j, RowOf w1 b j → j < w.heap.size ∨ Wd.heap.size ≤ j := fun j hr => by
    rcases hS.rows (by omega) hr with q | q
    · exact Or.inl (h.old hFW hd q)
    · exact Or.inr q
  -- what lies there at w and is of another type
  have keepT : ∀ j cs t, w.heap[j]? = some (.cells cs t (0, 0)) → j ∉ Rg.own g pb → t ≠ 128 → w3.heap[j]? = some (.cells cs t (0, 0)) := fun j cs t e ho hv => by
    have hl := lt_of_block e
    have e2 := hS.keep (hd.keep (hFW.keep e ho) (by simp)) hmb hv
    exact hT.keep (hf.keep e2 (by simp; omega)) (fun hm => by have := (hT2 j hm).1; omega)
  have bS : sb < w.heap.size := lt_of_block h.sh.box
  refine ⟨⟨⟨xs, ⟨?_, ?_⟩, ht.keep (fun j cs hj => keepT j cs _ hj (ring_not hw.rg hj (by decide) (by decide)) (by decide)) (by omega)⟩, ?_, ?_, h.gn, h.on, h.pn⟩, ?_, ?_, ?_⟩
  · exact keepT ob _ _ hw.box hw.no (by decide)
  · refine hQ.rg.move (fun j hj => ?_)
    obtain ⟨cur, t, e, htt⟩ := ring_is hQ.rg hj
    obtain ⟨cur0, t0, e0, _⟩ := ring_is hw.rg hj
    have hl := lt_of_block e0
    have hv : t ≠ 128 := by rcases htt with rfl | rfl <;> decide
    have e2 := hS.keep (hd.keep e (by simp)) hmb hv
    rw [e]
    exact hT.keep (hf.keep e2 (by simp; omega)) (fun hm => by have := (hT2 j hm).1; omega)
  · have k1 : Sh w0 w2 sb b n' M' := hSh.keepS hf (by simp; omega) (fun j hj hm => by
      simp only [List.mem_singleton] at hj
      subst hj
      rcases hm with e | ⟨_, e⟩
      · omega
      · rcases olds _ e with q | q <;> omega)
    refine k1.keepS hT (fun hm => by have := (hT2 sb hm).1; omega) (fun j hj hm => ?_)
    obtain ⟨q1, q2⟩ := hT2 j hj
    rcases hm with e | ⟨_, e⟩
    · omega
    · rcases olds _ (e.back hf (by simp; omega) (by omega)) with q | q <;> omega
  · have f1 : Fr [] w0 W := h.fr.on hFW h.own
    have f2 : Fr [] w0 w1 := hS.below h.sh.bn (f1.then hd) (by omega)
    exact (f2.on hf (by intro y hy; simp at hy; omega)).on hT (fun y hy => by have := (hT2 y hy).1; omega)
  · have f1 := ((OwF.ofR hw.rg h.sh.mb hFW).then (OwF.of hd)).then (OwF.ofS hS)
    exact (f1.new hf (by intro y hy; simp at hy; omega) hbl).new hT (fun y hy => (hT2 y hy).1) hbl
  · intro j h1 h2
    rw [hT.block j (by omega) (fun hm => by have := (hT2 j hm).2; omega), hf.block j h2 (by simp; omega)]
  · intro j h1 h2
    exact hT.block j h2 (fun hm => by have := (hT2 j hm).2; omega)
theorem owns_move {w1 w3 : World} {B B' : Nat} {e : TypeId} {sz : Nat} {v : Value} {N : Nat} {xs : List Value} (h : w1.ownsRow B e sz v N xs) (hk : ∀ j, B ≤ j → j < w1.heap.size → w3.heap[j]? = w1.heap[j]?) (hB : B' ≤ B) : w3.ownsRow B' e sz v N xs := by
  refine ⟨h.1, ?_⟩
  rcases h.2 with h0 | ⟨g, cap, cur, hv, hg, hb, hr⟩
  · exact .inl h0
  · exact .inr ⟨g, cap, cur, hv, by omega, (hk g hg (lt_of_block hb)).trans hb, hr⟩
theorem VOut.move {w w' w1 w3 : World} {ro : Option Addr} {N rc : Nat} {vs : List Vn} (h : VOut w w1 ro N rc vs) (hk : ∀ j, w.heap.size ≤ j → j < w1.heap.size → w3.heap[j]? = w1.heap[j]?) (hB : w'.heap.size ≤ w.heap.size) : VOut w' w3 ro N rc vs := by
  obtain ⟨rc', hr, ho⟩ := h.own
  exact ⟨⟨rc', hr, owns_move ho hk hB⟩, h.len, h.cap⟩
theorem HOut.move {w w' w1 w3 : World} {ro : Option Addr} {N rc : Nat} {hs : List Hd} (h : HOut w w1 ro N rc hs) (hk : ∀ j, w.heap.size ≤ j → j < w1.heap.size → w3.heap[j]? = w1.heap[j]?) (hB : w'.heap.size ≤ w.heap.size) : HOut w' w3 ro N rc hs := ⟨h.len, owns_move h.row hk hB, fun x hx => (h.each x hx).move hk hB, h.apart⟩
theorem EOut.move {w w' w1 w3 : World} {ro : Option Addr} {N rc : Nat} {ps : List Pr} (h : EOut w w1 ro N rc ps) (hk : ∀ j, w.heap.size ≤ j → j < w1.heap.size → w3.heap[j]? = w1.heap[j]?) (hB : w'.heap.size ≤ w.heap.size) : EOut w' w3 ro N rc ps := ⟨h.len, owns_move h.row hk hB⟩
/-- What a reply says. -/
def Rep (b : Nat) (M : ByteArray → List Vn) (r : Rq) (M' : ByteArray → List Vn) (n : Nat) (ok : Bool) (eo : Option Addr) (el ec : Nat) (ho : Option Addr) (hl hc : Nat) (c : Int) (w w2 : World) : Prop :=
  (r.k = 1 ∧ (eo = none ∧ el = 0 ∧ ec = 0) ∧ (ho = none ∧ hl = 0 ∧ hc = 0) ∧ c = 0 ∧ ∃ cc, InTold M ⟨r.n, r.wk, r.wv, r.wd⟩ M' ok cc) ∨
  (r.k = 2 ∧ (ho = none ∧ hl = 0 ∧ hc = 0) ∧ c = 0 ∧ M' = M ∧ ((ok = false ∧ valAt (M r.key) r.n = none ∧ eo = none ∧ el = 0 ∧ ec = 0) ∨ (ok = true ∧ ∃ v, valAt (M r.key) r.n = some v ∧ el = 1 ∧ EOut w w2 eo el ec [(r.key, v)]))) ∨
  (r.k = 3 ∧ ok = true ∧ (ho = none ∧ hl = 0 ∧ hc = 0) ∧ c = 0 ∧ M' = M ∧ el ≤ n ∧ ∃ ps, EOut w w2 eo el ec ps ∧ Is (atMark M r.key r.en r.n) ps) ∨
  (r.k = 4 ∧ ok = true ∧ (eo = none ∧ el = 0 ∧ ec = 0) ∧ (ho = none ∧ hl = 0 ∧ hc = 0) ∧ M' = (fun s => colV (M s) r.n) ∧ ∃ S : Nat, c = S ∧ GoT M r.n S) ∨
  (r.k = 5 ∧ ok = true ∧ (eo = none ∧ el = 0 ∧ ec = 0) ∧ c = 0 ∧ M' = M ∧ hl ≤ n ∧ (∀ j, RowOf w2 b j → j < w.heap.size) ∧ ∃ hs, HOut w w2 ho hl hc hs ∧ PkT M (fun s => dmp (M s) r.n r.bs) hs)
theorem dW_size {W : World} {k f n : Int} {wk wv : ByteArray} {wd : Bool} {key en : ByteArray} {bo : Option Addr} {bl bc : Nat} : W.heap.size + 2 ≤ (dW W k f n wk wv wd key en bo bl bc).heap.size := by unfold dW; simp
/-- The reply's box behind the shard's call. -/
theorem box_keep {W w1 : World} {k f n : Int} {wk wv : ByteArray} {wd : Bool} {key en : ByteArray} {bo : Option Addr} {bl bc : Nat} (hS : FrS w0 b (dW W k f n wk wv wd key en bo bl bc) w1) (hm : ∃ es c, (dW W k f n wk wv wd key en bo bl bc).heap[b]? = some (.map es c)) : w1.heap[W.heap.size + 1]? = some (.cells #[.int .i64 0, .bool false, .slice none 0 0, .slice none 0 0, .int .i64 0] 398 (0, 0)) := hS.keep dW_row hm (by decide)
set_option maxHeartbeats 1000000 in
theorem os_serve {r : Rq} (h : OwS w0 t w ob sb b n g pb C M (r :: rs)) (hn : n < 3518437208882) : Calls Tryz.prog 305 #[.pointer (some ⟨ob, 0, none⟩)] w fun e w' => ∃ ok eo el ec ho hl hc c M', e = .returned (.tuple #[.agg #[.int .i64 r.f, .bool ok, .slice eo el ec, .slice ho hl hc, .int .i64 c], .int .i64 0]) ∧ OwS w0 t w' ob sb b (n + 1) g pb C M' rs ∧ OwF b g pb w w' ∧ Rep b M r M' n ok eo el ec ho hl hc c w w' := by
  obtain ⟨xs', hq, hw⟩ := h.q
  cases hw with
  | cons h1 ht =>
    rename_i x xs
    obtain ⟨xk, xf, xn, xa, xb, xd, xc, xe, xo, xl, xm⟩ := x
    obtain ⟨hi, hok, hlen, hrow, hnb, hav⟩ := h1
    obtain ⟨rk, rf, rn, ra, rb, rd, rc, re, rbs⟩ := r
    simp only [Rv.q, Rq.mk.injEq] at hi
    obtain ⟨rfl, rfl, rfl, rfl, rfl, rfl, rfl, rfl, _⟩ := hi
    simp only at hlen hrow
    obtain ⟨o1, o2, o3, ho⟩ := hok
    simp only at o1 o2 o3 ho
    have s0 := h.fr.size
    have mb : ∀ {W : World} (hFW : Fr (Rg.own g pb) w W), ∃ es c, (dW W xk xf xn xa xb xd xc xe xo xl xm).heap[b]? = some (.map es c) := fun hFW => ((h.shR hFW).keep dW_fr).mb
    rcases ho with ⟨rfl, ⟨e1, e2⟩, e3, e4, e5, e6⟩ | ⟨rfl, e1, e2, e3, e4⟩ | ⟨rfl, e1, e2, e3, e4⟩ | ⟨rfl, e1, e2, e3⟩ | ⟨rfl, e1, e2, e3⟩
    · refine (oserve_1 hq (fun ok eo el ec ho hl hc c W w' => ∃ M' w1 cc, (eo = none ∧ el = 0 ∧ ec = 0) ∧ (ho = none ∧ hl = 0 ∧ hc = 0) ∧ c = 0 ∧ InTold M ⟨xn, xa, xb, xd⟩ M' ok cc ∧ Sh w0 w1 sb b (n + 1) M' ∧ FrS w0 b (dW W 1 xf xn xa xb xd xc xe xo xl xm) w1 ∧ Fr [W.heap.size + 1] w1 w') (fun W Q hFW hs hQ hc => ?_)).mono ?_
      · refine (odeed1_in hc (fun ok c w1 => ∃ M' cc, InTold M ⟨xn, xa, xb, xd⟩ M' ok cc ∧ Sh w0 w1 sb b (n + 1) M' ∧ FrS w0 b (dW W 1 xf xn xa xb xd xc xe xo xl xm) w1) ((hinstall_any xn xa xb xd _ ((h.shR hFW).keep dW_fr) (by have := hFW.size; have := (dW_fr (w := W) (k := 1) (f := xf) (n := xn) (wk := xa) (wv := xb) (wd := xd) (key := xc) (en := xe) (bo := xo) (bl := xl) (bc := xm)).size; omega) ⟨by have := e6.1.2; simp only; omega, by have := e6.2.1; simp only; omega, by simp only; omega, by simp only; omega⟩ (by omega)).mono ?_)).mono ?_
        · rintro e w1 ⟨ok, cc, M', rfl, hI, hSh, hF⟩
          exact ⟨ok, _, rfl, ⟨M', cc, hI, hSh, hF⟩, box_keep hF (mb hFW)⟩
        · rintro e w2 ⟨ok, c, w1, rfl, ⟨M', cc, hI, hSh, hF⟩, hf⟩
          exact ⟨ok, none, 0, 0, none, 0, 0, 0, rfl, ⟨M', w1, cc, ⟨rfl, rfl, rfl⟩, ⟨rfl, rfl, rfl⟩, rfl, hI, hSh, hF, hf⟩, serve_far h hFW hQ dW_fr hF hf⟩
      · rintro e w3 ⟨ok, eo, el, ec, ho, hl, hc, c, W, w2, rfl, hFW, hs, hQ, ⟨M', w1, cc, a1, a2, a3, hI, hSh, hF, hf⟩, _, T, hT, hT2⟩
        obtain ⟨z1, z2, z3, z4⟩ := serve_end h hq ht hFW hQ dW_fr dW_size hF hf hT hT2 hSh
        exact ⟨ok, eo, el, ec, ho, hl, hc, c, M', rfl, z1, z2, Or.inl ⟨rfl, a1, a2, a3, cc, hI⟩⟩
    · refine (oserve_2 hq (fun ok eo el ec ho hl hc c W w' => ∃ w1, (ho = none ∧ hl = 0 ∧ hc = 0) ∧ c = 0 ∧ ((ok = false ∧ valAt (M xc) xn = none ∧ eo = none ∧ el = 0 ∧ ec = 0) ∨ (ok = true ∧ ∃ v E, valAt (M xc) xn = some v ∧ eo = some ⟨E, 0, none⟩ ∧ el = 1 ∧ ec = 1 ∧ w1.heap.size ≤ E ∧ w'.heap[E]? = some (.cells #[.string xc, .string v] 61 (0, 0)))) ∧ Fr [] (dW W 2 xf xn xa xb xd xc xe xo xl xm) w1 ∧ Fr [W.heap.size + 1] w1 w') (fun W Q hFW hs hQ hc => ?_)).mono ?_
      · refine (odeed2_in hc (fun v o w1 => (v = (valAt (M xc) xn).getD noS ∧ o = (valAt (M xc) xn).isSome) ∧ Fr [] (dW W 2 xf xn xa xb xd xc xe xo xl xm) w1) ((hget_any xc xn _ ((h.shR hFW).keep dW_fr) (by have := e3.2; omega)).mono ?_)).mono ?_
        · rintro e w1 ⟨rfl, hF⟩
          exact ⟨_, _, rfl, ⟨⟨rfl, rfl⟩, hF⟩, hF.keep dW_row (by simp), hF⟩
        · rintro e w2 ⟨v, o, w1, ⟨⟨rfl, rfl⟩, hF⟩, ⟨k1, rfl, hf⟩ | ⟨k1, E, rfl, hE, hEr, hf⟩⟩
          · exact ⟨false, none, 0, 0, none, 0, 0, 0, rfl, ⟨w1, ⟨rfl, rfl, rfl⟩, rfl, Or.inl ⟨rfl, by simpa using k1, rfl, rfl, rfl⟩, hF, hf⟩, serve_far h hFW hQ dW_fr (FrS.of hF) hf⟩
          · obtain ⟨v, hv⟩ := Option.isSome_iff_exists.1 k1
            rw [hv] at hEr
            exact ⟨true, some ⟨E, 0, none⟩, 1, 1, none, 0, 0, 0, rfl, ⟨w1, ⟨rfl, rfl, rfl⟩, rfl, Or.inr ⟨rfl, v, E, hv, rfl, rfl, rfl, hE, hEr⟩, hF, hf⟩, serve_far h hFW hQ dW_fr (FrS.of hF) hf⟩
      · rintro e w3 ⟨ok, eo, el, ec, ho, hl, hc, c, W, w2, rfl, hFW, hs, hQ, ⟨w1, a1, a2, a3, hF, hf⟩, _, T, hT, hT2⟩
        obtain ⟨z1, z2, z3, z4⟩ := serve_end h hq ht hFW hQ dW_fr dW_size (FrS.of hF) hf hT hT2 (((h.shR hFW).keep (dW_fr.then hF)).mono (Nat.le_succ n))
        refine ⟨ok, eo, el, ec, ho, hl, hc, c, M, rfl, z1, z2, Or.inr (Or.inl ⟨rfl, a1, a2, rfl, ?_⟩)⟩
        rcases a3 with a3 | ⟨rfl, v, E, hv, rfl, rfl, rfl, hE, hEr⟩
        · exact Or.inl a3
        · refine Or.inr ⟨rfl, v, hv, rfl, rfl, rfl, .inr ⟨E, 1, _, rfl, ?_, (z4 E hE (lt_of_block hEr)).trans hEr, Nat.le_refl _, by unfold maxLen; omega, rfl, rfl⟩⟩
          have := hFW.size
          have := hF.size
          have := (dW_fr (w := W) (k := 2) (f := xf) (n := xn) (wk := xa) (wv := xb) (wd := xd) (key := xc) (en := xe) (bo := xo) (bl := xl) (bc := xm)).size
          omega
    · refine (oserve_3 hq (fun ok eo el ec ho hl hc c W w' => ∃ w1 ps, ok = true ∧ (ho = none ∧ hl = 0 ∧ hc = 0) ∧ c = 0 ∧ EOut (dW W 3 xf xn xa xb xd xc xe xo xl xm) w1 eo el ec ps ∧ el ≤ n ∧ Is (atMark M xc xe xn) ps ∧ Fr [] (dW W 3 xf xn xa xb xd xc xe xo xl xm) w1 ∧ Fr [W.heap.size + 1] w1 w') (fun W Q hFW hs hQ hc => ?_)).mono ?_
      · refine (odeed3_in hc (fun ro N rc w1 => ∃ ps, EOut (dW W 3 xf xn xa xb xd xc xe xo xl xm) w1 ro N rc ps ∧ N ≤ n ∧ Is (atMark M xc xe xn) ps ∧ Fr [] (dW W 3 xf xn xa xb xd xc xe xo xl xm) w1) ((hScan_any xc xe xn _ ((h.shR hFW).keep dW_fr) (by omega)).mono ?_)).mono ?_
        · rintro e w1 ⟨ro, N, rc, ps, rfl, h5, h6, h7, hF⟩
          exact ⟨_, _, _, rfl, ⟨ps, h5, h6, h7, hF⟩, hF.keep dW_row (by simp)⟩
        · rintro e w2 ⟨ro, N, rc, w1, rfl, ⟨ps, h5, h6, h7, hF⟩, hf⟩
          exact ⟨true, ro, N, rc, none, 0, 0, 0, rfl, ⟨w1, ps, rfl, ⟨rfl, rfl, rfl⟩, rfl, h5, h6, h7, hF, hf⟩, serve_far h hFW hQ dW_fr (FrS.of hF) hf⟩
      · rintro e w3 ⟨ok, eo, el, ec, ho, hl, hc, c, W, w2, rfl, hFW, hs, hQ, ⟨w1, ps, a1, a2, a3, h5, h6, h7, hF, hf⟩, _, T, hT, hT2⟩
        obtain ⟨z1, z2, z3, z4⟩ := serve_end h hq ht hFW hQ dW_fr dW_size (FrS.of hF) hf hT hT2 (((h.shR hFW).keep (dW_fr.then hF)).mono (Nat.le_succ n))
        refine ⟨ok, eo, el, ec, ho, hl, hc, c, M, rfl, z1, z2, Or.inr (Or.inr (Or.inl ⟨rfl, a1, a2, a3, rfl, h6, ps, h5.move z3 ?_, h7⟩))⟩
        have := hFW.size
        have := (dW_fr (w := W) (k := 3) (f := xf) (n := xn) (wk := xa) (wv := xb) (wd := xd) (key := xc) (en := xe) (bo := xo) (bl := xl) (bc := xm)).size
        omega
    · refine (oserve_4 hq (fun ok eo el ec ho hl hc c W w' => ∃ w1 S, ok = true ∧ (eo = none ∧ el = 0 ∧ ec = 0) ∧ (ho = none ∧ hl = 0 ∧ hc = 0) ∧ c = ((S : Nat) : Int) ∧ GoT M xn S ∧ Sh w0 w1 sb b n (fun s => colV (M s) xn) ∧ FrS w0 b (dW W 4 xf xn xa xb xd xc xe xo xl xm) w1 ∧ Fr [W.heap.size + 1] w1 w') (fun W Q hFW hs hQ hc => ?_)).mono ?_
      · refine (odeed4_in hc (fun c w1 => ∃ S, c = ((S : Nat) : Int) ∧ GoT M xn S ∧ Sh w0 w1 sb b n (fun s => colV (M s) xn) ∧ FrS w0 b (dW W 4 xf xn xa xb xd xc xe xo xl xm) w1) ((hcollect_any xn _ ((h.shR hFW).keep dW_fr) (by have := hFW.size; have := (dW_fr (w := W) (k := 4) (f := xf) (n := xn) (wk := xa) (wv := xb) (wd := xd) (key := xc) (en := xe) (bo := xo) (bl := xl) (bc := xm)).size; omega) (by omega)).mono ?_)).mono ?_
        · rintro e w1 ⟨S, rfl, h5, _, hSh, hF⟩
          exact ⟨_, rfl, ⟨S, rfl, h5, hSh, hF⟩, box_keep hF (mb hFW)⟩
        · rintro e w2 ⟨c, w1, rfl, ⟨S, rfl, h5, hSh, hF⟩, hf⟩
          exact ⟨true, none, 0, 0, none, 0, 0, _, rfl, ⟨w1, S, rfl, ⟨rfl, rfl, rfl⟩, ⟨rfl, rfl, rfl⟩, rfl, h5, hSh, hF, hf⟩, serve_far h hFW hQ dW_fr hF hf⟩
      · rintro e w3 ⟨ok, eo, el, ec, ho, hl, hc, c, W, w2, rfl, hFW, hs, hQ, ⟨w1, S, a1, a2, a3, a4, h5, hSh, hF, hf⟩, _, T, hT, hT2⟩
        obtain ⟨z1, z2, z3, z4⟩ := serve_end h hq ht hFW hQ dW_fr dW_size hF hf hT hT2 (hSh.mono (Nat.le_succ n))
        exact ⟨ok, eo, el, ec, ho, hl, hc, c, _, rfl, z1, z2, Or.inr (Or.inr (Or.inr (Or.inl ⟨rfl, a1, a2, a3, rfl, S, a4, h5⟩)))⟩
    · refine (oserve_5 hq (fun ok eo el ec ho hl hc c W w' => ∃ w1 hs, ok = true ∧ (eo = none ∧ el = 0 ∧ ec = 0) ∧ c = 0 ∧ HOut (dW W 5 xf xn xa xb xd xc xe xo xl xm) w1 ho hl hc hs ∧ hl ≤ n ∧ PkT M (fun s => dmp (M s) xn rbs) hs ∧ Fr [] (dW W 5 xf xn xa xb xd xc xe xo xl xm) w1 ∧ Fr [W.heap.size + 1] w1 w') (fun W Q hFW hs hQ hc => ?_)).mono ?_
      · have hIW : IRs W xo rbs := hrow.keepS hFW (fun _ a e hm => by
          obtain ⟨_, cur, hcur⟩ := hnb a e
          exact ring_not hq.rg hcur (by decide) (by decide) hm)
        refine (odeed5_in hc (fun ro N rc w1 => ∃ hs, HOut (dW W 5 xf xn xa xb xd xc xe xo xl xm) w1 ro N rc hs ∧ N ≤ n ∧ PkT M (fun s => dmp (M s) xn rbs) hs ∧ Fr [] (dW W 5 xf xn xa xb xd xc xe xo xl xm) w1) ((hdump_any xn xo xl xm rbs _ ((h.shR hFW).keep dW_fr) (by omega) (hIW.keep dW_fr) hlen).mono ?_)).mono ?_
        · rintro e w1 ⟨ro, N, rc, hs, rfl, h5, h6, h7, hF⟩
          exact ⟨_, _, _, rfl, ⟨hs, h5, h6, h7, hF⟩, hF.keep dW_row (by simp)⟩
        · rintro e w2 ⟨ro, N, rc, w1, rfl, ⟨hs, h5, h6, h7, hF⟩, hf⟩
          exact ⟨true, none, 0, 0, ro, N, rc, 0, rfl, ⟨w1, hs, rfl, ⟨rfl, rfl, rfl⟩, rfl, h5, h6, h7, hF, hf⟩, serve_far h hFW hQ dW_fr (FrS.of hF) hf⟩
      · rintro e w3 ⟨ok, eo, el, ec, ho, hl, hc, c, W, w2, rfl, hFW, hs, hQ, ⟨w1, hs', a1, a2, a3, h5, h6, h7, hF, hf⟩, _, T, hT, hT2⟩
        obtain ⟨z1, z2, z3, z4⟩ := serve_end h hq ht hFW hQ dW_fr dW_size (FrS.of hF) hf hT hT2 (((h.shR hFW).keep (dW_fr.then hF)).mono (Nat.le_succ n))
        refine ⟨ok, eo, el, ec, ho, hl, hc, c, M, rfl, z1, z2, Or.inr (Or.inr (Or.inr (Or.inr ⟨rfl, a1, a2, a3, rfl, h6, (fun j hr => ?_), hs', h5.move z3 ?_, h7⟩)))⟩
        · have s1 := hFW.size
          have s2 := hF.size
          have s3 := hf.size
          have hb := h.sh.bl
          have s4 := (dW_fr (w := W) (k := 5) (f := xf) (n := xn) (wk := xa) (wv := xb) (wd := xd) (key := xc) (en := xe) (bo := xo) (bl := xl) (bc := xm)).size
          have r1 := hr.back hT (fun hm => by have := (hT2 b hm).1; omega) (by omega)
          have r2 := r1.back hf (by simp; omega) (by omega)
          exact h.old hFW (dW_fr.then hF) r2
        have := hFW.size
        have := (dW_fr (w := W) (k := 5) (f := xf) (n := xn) (wk := xa) (wv := xb) (wd := xd) (key := xc) (en := xe) (bo := xo) (bl := xl) (bc := xm)).size
        omega
end
end Go.Proofs.YtakbodlicfmkjaaGreat.O
