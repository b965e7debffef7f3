/- Texts of this claim laid together, one behind the other: contracts and plain lemmas; conditions as each names them. -/
import Derived.Test.YtomajifklajilaaGreatDoorGp38
import Derived.Test.YtomajifklajilaaGreatDoorGp36
/- An owner's New, Ask, Serve, Len, Room, All, with its shard. Conditions as each names them. -/
namespace Go.Proofs.YtomajifklajilaaGreatDoor
open Go.ChangeShapes Go.WideShapes Go.ChangeAt Go.RowKit Go.Lib Go.Maps
set_option linter.unusedVariables false
set_option linter.unusedSimpArgs false
theorem Rg.move {w w' : World} {g C : Nat} {pb : Option Nat} {xs : List Rv} {cl : Bool} (h : Rg w g pb C xs cl) (hk : ∀ j ∈ Rg.own g pb, w'.heap[j]? = w.heap[j]?) : Rg w' g pb C xs cl := by
  obtain ⟨N, F, K, ps, hR⟩ := h
  exact ⟨N, F, K, ps, (hk g (by simp [Rg.own])).trans hR.box, hR.pl, fun b e => (hk b (by simp [Rg.own, e])).trans (hR.row b e), hR.none_, hR.cap⟩
theorem OwF.new {w w1 w2 : World} {b gg : Nat} {pp : Option Nat} {T : List Nat} (h : OwF b gg pp w w1) (hf : Fr T w1 w2) (hT : ∀ j ∈ T, w.heap.size ≤ j) (hb : b < w.heap.size) : OwF b gg pp w w2 := by
  obtain ⟨S, hS, hm⟩ := h
  refine ⟨S, hS.trans hf (fun x hx _ => hx) (fun x hx hl => absurd (hT x hx) (by omega)), fun hb' => ⟨(hm hb').1, fun j hr => (hm hb').2 j (hr.back hf (fun hm => absurd (hT b hm) (by omega)) (Nat.lt_of_lt_of_le hb hS.size))⟩⟩
section
variable {t : Nat → Prop} {w0 w : World} {ob sb b n g C : Nat} {pb : Option Nat} {M : ByteArray → List Vn} {rs : List Rq} {xs : List Rv}
/-- Rows of the shard lie ahead of what is new. -/
theorem OwS.old (h : OwS w0 t w ob sb b n g pb C M rs) {W Wd : World} (hFW : Fr (Rg.own g pb) w W) (hd : Fr [] W Wd) {j : Nat} (hr : RowOf Wd b j) : j < w.heap.size := by
  obtain ⟨xs, hq, _⟩ := h.q
  have hb := ring_nb hq.rg h.sh.mb
  have r2 := (hr.back hd (by simp) (Nat.lt_of_lt_of_le h.sh.bl hFW.size)).back hFW hb h.sh.bl
  obtain ⟨_, cur, e⟩ := h.sh.rowLt r2
  exact lt_of_block e
/-- What a deed leaves alone. -/
theorem serve_far (h : OwS w0 t w ob sb b n g pb C M rs) {W Wd w1 w2 : World} (hFW : Fr (Rg.own g pb) w W) (hQ : OwQ W ob g ⟨sb, 0, none⟩ pb C xs) (hd : Fr [] W Wd) (hS : FrS w0 b Wd w1) (hf : Fr [W.heap.size + 1] w1 w2) :
    W.heap.size ≤ w2.heap.size ∧ (∀ j, w.heap.size ≤ j → j < W.heap.size → w2.heap[j]? = W.heap[j]?) ∧ w2.heap[ob]? = W.heap[ob]? := by
  have hbl := h.sh.bl
  have s1 := hFW.size
  have s2 := hd.size
  have s3 := hS.size
  have s4 := hf.size
  refine ⟨by omega, fun j h1 h2 => ?_, ?_⟩
  · have e : W.heap[j]? = some W.heap[j] := Array.getElem?_eq_getElem h2
    have e2 : Wd.heap[j]? = some W.heap[j] := (hd.block j h2 (by simp)).trans e
    have e3 := hS.apart (by omega) e2 (by omega) (fun hr => by have := h.old hFW hd hr; omega)
    rw [e, hf.block j (by omega) (by simp; omega)]
    exact e3
  · have e := hQ.box
    have hmb : ∃ es c, Wd.heap[b]? = some (.map es c) := ((h.shR hFW).keep hd).mb
    have e3 := hS.keep (hd.keep e (by simp)) hmb (by decide)
    have := hQ.lt
    rw [e, hf.block ob (by omega) (by simp; omega)]
    exact e3
/-- What is left behind a Serve. -/
theorem serve_end {r : Rq} {x : Rv} {xs : List Rv} (h : OwS w0 t w ob sb b n g pb C M (r :: rs)) (hw : OwQ w ob g ⟨sb, 0, none⟩ pb C (x :: xs)) (ht : Wt15 w0 t w xs rs) {W Wd w1 w2 w3 : World} {T : List Nat} {n' : Nat} {M' : ByteArray → List Vn} (hFW : Fr (Rg.own g pb) w W) (hQ : OwQ W ob g ⟨sb, 0, none⟩ pb C xs) (hd : Fr [] W Wd) (hds : W.heap.size + 2 ≤ Wd.heap.size) (hS : FrS w0 b Wd w1) (hf : Fr [W.heap.size + 1] w1 w2) (hT : Fr T w2 w3) (hT2 : ∀ j ∈ T, w.heap.size ≤ j ∧ j < W.heap.size) (hSh : Sh w0 w1 sb b n' M') :
    OwS w0 t w3 ob sb b n' g pb C M' rs ∧ OwF b g pb w w3 ∧ (∀ j, Wd.heap.size ≤ j → j < w1.heap.size → w3.heap[j]? = w1.heap[j]?) ∧ (∀ j, w1.heap.size ≤ j → j < w2.heap.size → w3.heap[j]? = w2.heap[j]?) := by
  have hbl := h.sh.bl
  have s1 := hFW.size
  have s2 := hd.size
  have s3 := hS.size
  have s4 := hf.size
  have s5 := hT.size
  have s0 := h.fr.size
  have hmb : ∃ es c, Wd.heap[b]? = some (.map es c) := ((h.shR hFW).keep hd).mb
  have olds : ∀ j, RowOf w1 b j → j < w.heap.size ∨ Wd.heap.size ≤ j := fun j hr => by
    rcases hS.rows (by omega) hr with q | q
    · exact Or.inl (h.old hFW hd q)
    · exact Or.inr q
  -- what lies there at w and is of another type
  have keepT : ∀ j cs t, w.heap[j]? = some (.cells cs t (0, 0)) → j ∉ Rg.own g pb → t ≠ 106 → w3.heap[j]? = some (.cells cs t (0, 0)) := fun j cs t e ho hv => by
    have hl := lt_of_block e
    have e2 := hS.keep (hd.keep (hFW.keep e ho) (by simp)) hmb hv
    exact hT.keep (hf.keep e2 (by simp; omega)) (fun hm => by have := (hT2 j hm).1; omega)
  have bS : sb < w.heap.size := lt_of_block h.sh.box
  refine ⟨⟨⟨xs, ⟨?_, ?_⟩, ht.keep (fun j cs hj => keepT j cs _ hj (ring_not hw.rg hj (by decide) (by decide)) (by decide)) (by omega)⟩, ?_, ?_, h.gn, h.on, h.pn⟩, ?_, ?_, ?_⟩
  · exact keepT ob _ _ hw.box hw.no (by decide)
  · refine hQ.rg.move (fun j hj => ?_)
    obtain ⟨cur, t, e, htt⟩ := ring_is hQ.rg hj
    obtain ⟨cur0, t0, e0, _⟩ := ring_is hw.rg hj
    have hl := lt_of_block e0
    have hv : t ≠ 106 := by rcases htt with rfl | rfl <;> decide
    have e2 := hS.keep (hd.keep e (by simp)) hmb hv
    rw [e]
    exact hT.keep (hf.keep e2 (by simp; omega)) (fun hm => by have := (hT2 j hm).1; omega)
  · have k1 : Sh w0 w2 sb b n' M' := hSh.keepS hf (by simp; omega) (fun j hj hm => by
      simp only [List.mem_singleton] at hj
      subst hj
      rcases hm with e | ⟨_, e⟩
      · omega
      · rcases olds _ e with q | q <;> omega)
    refine k1.keepS hT (fun hm => by have := (hT2 sb hm).1; omega) (fun j hj hm => ?_)
    obtain ⟨q1, q2⟩ := hT2 j hj
    rcases hm with e | ⟨_, e⟩
    · omega
    · rcases olds _ (e.back hf (by simp; omega) (by omega)) with q | q <;> omega
  · have f1 : Fr [] w0 W := h.fr.on hFW h.own
    have f2 : Fr [] w0 w1 := hS.below h.sh.bn (f1.then hd) (by omega)
    exact (f2.on hf (by intro y hy; simp at hy; omega)).on hT (fun y hy => by have := (hT2 y hy).1; omega)
  · have f1 := ((OwF.ofR hw.rg h.sh.mb hFW).then (OwF.of hd)).then (OwF.ofS hS)
    exact (f1.new hf (by intro y hy; simp at hy; omega) hbl).new hT (fun y hy => (hT2 y hy).1) hbl
  · intro j h1 h2
    rw [hT.block j (by omega) (fun hm => by have := (hT2 j hm).2; omega), hf.block j h2 (by simp; omega)]
  · intro j h1 h2
    exact hT.block j h2 (fun hm => by have := (hT2 j hm).2; omega)
theorem owns_move {w1 w3 : World} {B B' : Nat} {e : TypeId} {sz : Nat} {v : Value} {N : Nat} {xs : List Value} (h : w1.ownsRow B e sz v N xs) (hk : ∀ j, B ≤ j → j < w1.heap.size → w3.heap[j]? = w1.heap[j]?) (hB : B' ≤ B) : w3.ownsRow B' e sz v N xs := by
  refine ⟨h.1, ?_⟩
  rcases h.2 with h0 | ⟨g, cap, cur, hv, hg, hb, hr⟩
  · exact .inl h0
  · exact .inr ⟨g, cap, cur, hv, by omega, (hk g hg (lt_of_block hb)).trans hb, hr⟩
theorem VOut.move {w w' w1 w3 : World} {ro : Option Addr} {N rc : Nat} {vs : List Vn} (h : VOut w w1 ro N rc vs) (hk : ∀ j, w.heap.size ≤ j → j < w1.heap.size → w3.heap[j]? = w1.heap[j]?) (hB : w'.heap.size ≤ w.heap.size) : VOut w' w3 ro N rc vs := by
  obtain ⟨rc', hr, ho⟩ := h.own
  exact ⟨⟨rc', hr, owns_move ho hk hB⟩, h.len, h.cap⟩
theorem HOut.move {w w' w1 w3 : World} {ro : Option Addr} {N rc : Nat} {hs : List Hd} (h : HOut w w1 ro N rc hs) (hk : ∀ j, w.heap.size ≤ j → j < w1.heap.size → w3.heap[j]? = w1.heap[j]?) (hB : w'.heap.size ≤ w.heap.size) : HOut w' w3 ro N rc hs := ⟨h.len, owns_move h.row hk hB, fun x hx => (h.each x hx).move hk hB, h.apart⟩
theorem EOut.move {w w' w1 w3 : World} {ro : Option Addr} {N rc : Nat} {ps : List Pr} (h : EOut w w1 ro N rc ps) (hk : ∀ j, w.heap.size ≤ j → j < w1.heap.size → w3.heap[j]? = w1.heap[j]?) (hB : w'.heap.size ≤ w.heap.size) : EOut w' w3 ro N rc ps := ⟨h.len, owns_move h.row hk hB⟩
/-- What a reply says. -/
def Rep (b : Nat) (M : ByteArray → List Vn) (r : Rq) (M' : ByteArray → List Vn) (n : Nat) (ok : Bool) (eo : Option Addr) (el ec : Nat) (ho : Option Addr) (hl hc : Nat) (c : Int) (w w2 : World) : Prop :=
  (r.k = 1 ∧ (eo = none ∧ el = 0 ∧ ec = 0) ∧ (ho = none ∧ hl = 0 ∧ hc = 0) ∧ c = 0 ∧ ∃ cc, InTold M ⟨r.n, r.wk, r.wv, r.wd⟩ M' ok cc) ∨
  (r.k = 2 ∧ (ho = none ∧ hl = 0 ∧ hc = 0) ∧ c = 0 ∧ M' = M ∧ ((ok = false ∧ valAt (M r.key) r.n = none ∧ eo = none ∧ el = 0 ∧ ec = 0) ∨ (ok = true ∧ ∃ v, valAt (M r.key) r.n = some v ∧ el = 1 ∧ EOut w w2 eo el ec [(r.key, v)]))) ∨
  (r.k = 3 ∧ ok = true ∧ (ho = none ∧ hl = 0 ∧ hc = 0) ∧ c = 0 ∧ M' = M ∧ el ≤ n ∧ ∃ ps, EOut w w2 eo el ec ps ∧ Is (atMark M r.key r.en r.n) ps) ∨
  (r.k = 4 ∧ ok = true ∧ (eo = none ∧ el = 0 ∧ ec = 0) ∧ (ho = none ∧ hl = 0 ∧ hc = 0) ∧ M' = (fun s => colV (M s) r.n) ∧ ∃ S : Nat, c = S ∧ GoT M r.n S) ∨
  (r.k = 5 ∧ ok = true ∧ (eo = none ∧ el = 0 ∧ ec = 0) ∧ c = 0 ∧ M' = M ∧ hl ≤ n ∧ (∀ j, RowOf w2 b j → j < w.heap.size) ∧ ∃ hs, HOut w w2 ho hl hc hs ∧ PkT M (fun s => dmp (M s) r.n r.bs) hs)
theorem dW_size {W : World} {k f n : Int} {wk wv : ByteArray} {wd : Bool} {key en : ByteArray} {bo : Option Addr} {bl bc : Nat} : W.heap.size + 2 ≤ (dW W k f n wk wv wd key en bo bl bc).heap.size := by unfold dW; simp
/-- The reply's box behind the shard's call. -/
theorem box_keep {W w1 : World} {k f n : Int} {wk wv : ByteArray} {wd : Bool} {key en : ByteArray} {bo : Option Addr} {bl bc : Nat} (hS : FrS w0 b (dW W k f n wk wv wd key en bo bl bc) w1) (hm : ∃ es c, (dW W k f n wk wv wd key en bo bl bc).heap[b]? = some (.map es c)) : w1.heap[W.heap.size + 1]? = some (.cells #[.int .i64 0, .bool false, .slice none 0 0, .slice none 0 0, .int .i64 0] 51 (0, 0)) := hS.keep dW_row hm (by decide)
set_option maxHeartbeats 1000000 in
theorem os_serve {r : Rq} (h : OwS w0 t w ob sb b n g pb C M (r :: rs)) (hn : n < 3518437208882) : Calls Tryz.prog 7 #[.pointer (some ⟨ob, 0, none⟩)] w fun e w' => ∃ ok eo el ec ho hl hc c M', e = .returned (.tuple #[.agg #[.int .i64 r.f, .bool ok, .slice eo el ec, .slice ho hl hc, .int .i64 c], .int .i64 0]) ∧ OwS w0 t w' ob sb b (n + 1) g pb C M' rs ∧ OwF b g pb w w' ∧ Rep b M r M' n ok eo el ec ho hl hc c w w' := by
  obtain ⟨xs', hq, hw⟩ := h.q
  cases hw with
  | cons h1 ht =>
    rename_i x xs
    obtain ⟨xk, xf, xn, xa, xb, xd, xc, xe, xo, xl, xm⟩ := x
    obtain ⟨hi, hok, hlen, hrow, hnb, hav⟩ := h1
    obtain ⟨rk, rf, rn, ra, rb, rd, rc, re, rbs⟩ := r
    simp only [Rv.q, Rq.mk.injEq] at hi
    obtain ⟨rfl, rfl, rfl, rfl, rfl, rfl, rfl, rfl, _⟩ := hi
    simp only at hlen hrow
    obtain ⟨o1, o2, o3, ho⟩ := hok
    simp only at o1 o2 o3 ho
    have s0 := h.fr.size
    have mb : ∀ {W : World} (hFW : Fr (Rg.own g pb) w W), ∃ es c, (dW W xk xf xn xa xb xd xc xe xo xl xm).heap[b]? = some (.map es c) := fun hFW => ((h.shR hFW).keep dW_fr).mb
    rcases ho with ⟨rfl, ⟨e1, e2⟩, e3, e4, e5, e6⟩ | ⟨rfl, e1, e2, e3, e4⟩ | ⟨rfl, e1, e2, e3, e4⟩ | ⟨rfl, e1, e2, e3⟩ | ⟨rfl, e1, e2, e3⟩
    · refine (oserve_1 hq (fun ok eo el ec ho hl hc c W w' => ∃ M' w1 cc, (eo = none ∧ el = 0 ∧ ec = 0) ∧ (ho = none ∧ hl = 0 ∧ hc = 0) ∧ c = 0 ∧ InTold M ⟨xn, xa, xb, xd⟩ M' ok cc ∧ Sh w0 w1 sb b (n + 1) M' ∧ FrS w0 b (dW W 1 xf xn xa xb xd xc xe xo xl xm) w1 ∧ Fr [W.heap.size + 1] w1 w') (fun W Q hFW hs hQ hc => ?_)).mono ?_
      · refine (odeed1_in hc (fun ok c w1 => ∃ M' cc, InTold M ⟨xn, xa, xb, xd⟩ M' ok cc ∧ Sh w0 w1 sb b (n + 1) M' ∧ FrS w0 b (dW W 1 xf xn xa xb xd xc xe xo xl xm) w1) ((hinstall_any xn xa xb xd _ ((h.shR hFW).keep dW_fr) (by have := hFW.size; have := (dW_fr (w := W) (k := 1) (f := xf) (n := xn) (wk := xa) (wv := xb) (wd := xd) (key := xc) (en := xe) (bo := xo) (bl := xl) (bc := xm)).size; omega) ⟨by have := e6.1.2; simp only; omega, by have := e6.2.1; simp only; omega, by simp only; omega, by simp only; omega⟩ (by omega)).mono ?_)).mono ?_
        · rintro e w1 ⟨ok, cc, M', rfl, hI, hSh, hF⟩
          exact ⟨ok, _, rfl, ⟨M', cc, hI, hSh, hF⟩, box_keep hF (mb hFW)⟩
        · rintro e w2 ⟨ok, c, w1, rfl, ⟨M', cc, hI, hSh, hF⟩, hf⟩
          exact ⟨ok, none, 0, 0, none, 0, 0, 0, rfl, ⟨M', w1, cc, ⟨rfl, rfl, rfl⟩, ⟨rfl, rfl, rfl⟩, rfl, hI, hSh, hF, hf⟩, serve_far h hFW hQ dW_fr hF hf⟩
      · rintro e w3 ⟨ok, eo, el, ec, ho, hl, hc, c, W, w2, rfl, hFW, hs, hQ, ⟨M', w1, cc, a1, a2, a3, hI, hSh, hF, hf⟩, _, T, hT, hT2⟩
        obtain ⟨z1, z2, z3, z4⟩ := serve_end h hq ht hFW hQ dW_fr dW_size hF hf hT hT2 hSh
        exact ⟨ok, eo, el, ec, ho, hl, hc, c, M', rfl, z1, z2, Or.inl ⟨rfl, a1, a2, a3, cc, hI⟩⟩
    · refine (oserve_2 hq (fun ok eo el ec ho hl hc c W w' => ∃ w1, (ho = none ∧ hl = 0 ∧ hc = 0) ∧ c = 0 ∧ ((ok = false ∧ valAt (M xc) xn = none ∧ eo = none ∧ el = 0 ∧ ec = 0) ∨ (ok = true ∧ ∃ v E, valAt (M xc) xn = some v ∧ eo = some ⟨E, 0, none⟩ ∧ el = 1 ∧ ec = 1 ∧ w1.heap.size ≤ E ∧ w'.heap[E]? = some (.cells #[.string xc, .string v] 61 (0, 0)))) ∧ Fr [] (dW W 2 xf xn xa xb xd xc xe xo xl xm) w1 ∧ Fr [W.heap.size + 1] w1 w') (fun W Q hFW hs hQ hc => ?_)).mono ?_
      · refine (odeed2_in hc (fun v o w1 => (v = (valAt (M xc) xn).getD noS ∧ o = (valAt (M xc) xn).isSome) ∧ Fr [] (dW W 2 xf xn xa xb xd xc xe xo xl xm) w1) ((hget_any xc xn _ ((h.shR hFW).keep dW_fr) (by have := e3.2; omega)).mono ?_)).mono ?_
        · rintro e w1 ⟨rfl, hF⟩
          exact ⟨_, _, rfl, ⟨⟨rfl, rfl⟩, hF⟩, hF.keep dW_row (by simp), hF⟩
        · rintro e w2 ⟨v, o, w1, ⟨⟨rfl, rfl⟩, hF⟩, ⟨k1, rfl, hf⟩ | ⟨k1, E, rfl, hE, hEr, hf⟩⟩
          · exact ⟨false, none, 0, 0, none, 0, 0, 0, rfl, ⟨w1, ⟨rfl, rfl, rfl⟩, rfl, Or.inl ⟨rfl, by simpa using k1, rfl, rfl, rfl⟩, hF, hf⟩, serve_far h hFW hQ dW_fr (FrS.of hF) hf⟩
          · obtain ⟨v, hv⟩ := Option.isSome_iff_exists.1 k1
            rw [hv] at hEr
            exact ⟨true, some ⟨E, 0, none⟩, 1, 1, none, 0, 0, 0, rfl, ⟨w1, ⟨rfl, rfl, rfl⟩, rfl, Or.inr ⟨rfl, v, E, hv, rfl, rfl, rfl, hE, hEr⟩, hF, hf⟩, serve_far h hFW hQ dW_fr (FrS.of hF) hf⟩
      · rintro e w3 ⟨ok, eo, el, ec, ho, hl, hc, c, W, w2, rfl, hFW, hs, hQ, ⟨w1, a1, a2, a3, hF, hf⟩, _, T, hT, hT2⟩
        obtain ⟨z1, z2, z3, z4⟩ := serve_end h hq ht hFW hQ dW_fr dW_size (FrS.of hF) hf hT hT2 (((h.shR hFW).keep (dW_fr.then hF)).mono (Nat.le_succ n))
        refine ⟨ok, eo, el, ec, ho, hl, hc, c, M, rfl, z1, z2, Or.inr (Or.inl ⟨rfl, a1, a2, rfl, ?_⟩)⟩
        rcases a3 with a3 | ⟨rfl, v, E, hv, rfl, rfl, rfl, hE, hEr⟩
        · exact Or.inl a3
        · refine Or.inr ⟨rfl, v, hv, rfl, rfl, rfl, .inr ⟨E, 1, _, rfl, ?_, (z4 E hE (lt_of_block hEr)).trans hEr, Nat.le_refl _, by unfold maxLen; omega, rfl, rfl⟩⟩
          have := hFW.size
          have := hF.size
          have := (dW_fr (w := W) (k := 2) (f := xf) (n := xn) (wk := xa) (wv := xb) (wd := xd) (key := xc) (en := xe) (bo := xo) (bl := xl) (bc := xm)).size
          omega
    · refine (oserve_3 hq (fun ok eo el ec ho hl hc c W w' => ∃ w1 ps, ok = true ∧ (ho = none ∧ hl = 0 ∧ hc = 0) ∧ c = 0 ∧ EOut (dW W 3 xf xn xa xb xd xc xe xo xl xm) w1 eo el ec ps ∧ el ≤ n ∧ Is (atMark M xc xe xn) ps ∧ Fr [] (dW W 3 xf xn xa xb xd xc xe xo xl xm) w1 ∧ Fr [W.heap.size + 1] w1 w') (fun W Q hFW hs hQ hc => ?_)).mono ?_
      · refine (odeed3_in hc (fun ro N rc w1 => ∃ ps, EOut (dW W 3 xf xn xa xb xd xc xe xo xl xm) w1 ro N rc ps ∧ N ≤ n ∧ Is (atMark M xc xe xn) ps ∧ Fr [] (dW W 3 xf xn xa xb xd xc xe xo xl xm) w1) ((hScan_any xc xe xn _ ((h.shR hFW).keep dW_fr) (by omega)).mono ?_)).mono ?_
        · rintro e w1 ⟨ro, N, rc, ps, rfl, h5, h6, h7, hF⟩
          exact ⟨_, _, _, rfl, ⟨ps, h5, h6, h7, hF⟩, hF.keep dW_row (by simp)⟩
        · rintro e w2 ⟨ro, N, rc, w1, rfl, ⟨ps, h5, h6, h7, hF⟩, hf⟩
          exact ⟨true, ro, N, rc, none, 0, 0, 0, rfl, ⟨w1, ps, rfl, ⟨rfl, rfl, rfl⟩, rfl, h5, h6, h7, hF, hf⟩, serve_far h hFW hQ dW_fr (FrS.of hF) hf⟩
      · rintro e w3 ⟨ok, eo, el, ec, ho, hl, hc, c, W, w2, rfl, hFW, hs, hQ, ⟨w1, ps, a1, a2, a3, h5, h6, h7, hF, hf⟩, _, T, hT, hT2⟩
        obtain ⟨z1, z2, z3, z4⟩ := serve_end h hq ht hFW hQ dW_fr dW_size (FrS.of hF) hf hT hT2 (((h.shR hFW).keep (dW_fr.then hF)).mono (Nat.le_succ n))
        refine ⟨ok, eo, el, ec, ho, hl, hc, c, M, rfl, z1, z2, Or.inr (Or.inr (Or.inl ⟨rfl, a1, a2, a3, rfl, h6, ps, h5.move z3 ?_, h7⟩))⟩
        have := hFW.size
        have := (dW_fr (w := W) (k := 3) (f := xf) (n := xn) (wk := xa) (wv := xb) (wd := xd) (key := xc) (en := xe) (bo := xo) (bl := xl) (bc := xm)).size
        omega
    · refine (oserve_4 hq (fun ok eo el ec ho hl hc c W w' => ∃ w1 S, ok = true ∧ (eo = none ∧ el = 0 ∧ ec = 0) ∧ (ho = none ∧ hl = 0 ∧ hc = 0) ∧ c = ((S : Nat) : Int) ∧ GoT M xn S ∧ Sh w0 w1 sb b n (fun s => colV (M s) xn) ∧ FrS w0 b (dW W 4 xf xn xa xb xd xc xe xo xl xm) w1 ∧ Fr [W.heap.size + 1] w1 w') (fun W Q hFW hs hQ hc => ?_)).mono ?_
      · refine (odeed4_in hc (fun c w1 => ∃ S, c = ((S : Nat) : Int) ∧ GoT M xn S ∧ Sh w0 w1 sb b n (fun s => colV (M s) xn) ∧ FrS w0 b (dW W 4 xf xn xa xb xd xc xe xo xl xm) w1) ((hcollect_any xn _ ((h.shR hFW).keep dW_fr) (by have := hFW.size; have := (dW_fr (w := W) (k := 4) (f := xf) (n := xn) (wk := xa) (wv := xb) (wd := xd) (key := xc) (en := xe) (bo := xo) (bl := xl) (bc := xm)).size; omega) (by omega)).mono ?_)).mono ?_
        · rintro e w1 ⟨S, rfl, h5, _, hSh, hF⟩
          exact ⟨_, rfl, ⟨S, rfl, h5, hSh, hF⟩, box_keep hF (mb hFW)⟩
        · rintro e w2 ⟨c, w1, rfl, ⟨S, rfl, h5, hSh, hF⟩, hf⟩
          exact ⟨true, none, 0, 0, none, 0, 0, _, rfl, ⟨w1, S, rfl, ⟨rfl, rfl, rfl⟩, ⟨rfl, rfl, rfl⟩, rfl, h5, hSh, hF, hf⟩, serve_far h hFW hQ dW_fr hF hf⟩
      · rintro e w3 ⟨ok, eo, el, ec, ho, hl, hc, c, W, w2, rfl, hFW, hs, hQ, ⟨w1, S, a1, a2, a3, a4, h5, hSh, hF, hf⟩, _, T, hT, hT2⟩
        obtain ⟨z1, z2, z3, z4⟩ := serve_end h hq ht hFW hQ dW_fr dW_size hF hf hT hT2 (hSh.mono (Nat.le_succ n))
        exact ⟨ok, eo, el, ec, ho, hl, hc, c, _, rfl, z1, z2, Or.inr (Or.inr (Or.inr (Or.inl ⟨rfl, a1, a2, a3, rfl, S, a4, h5⟩)))⟩
    · refine (oserve_5 hq (fun ok eo el ec ho hl hc c W w' => ∃ w1 hs, ok = true ∧ (eo = none ∧ el = 0 ∧ ec = 0) ∧ c = 0 ∧ HOut (dW W 5 xf xn xa xb xd xc xe xo xl xm) w1 ho hl hc hs ∧ hl ≤ n ∧ PkT M (fun s => dmp (M s) xn rbs) hs ∧ Fr [] (dW W 5 xf xn xa xb xd xc xe xo xl xm) w1 ∧ Fr [W.heap.size + 1] w1 w') (fun W Q hFW hs hQ hc => ?_)).mono ?_
      · have hIW : IRs W xo rbs := hrow.keepS hFW (fun _ a e hm => by
          obtain ⟨_, cur, hcur⟩ := hnb a e
          exact ring_not hq.rg hcur (by decide) (by decide) hm)
        refine (odeed5_in hc (fun ro N rc w1 => ∃ hs, HOut (dW W 5 xf xn xa xb xd xc xe xo xl xm) w1 ro N rc hs ∧ N ≤ n ∧ PkT M (fun s => dmp (M s) xn rbs) hs ∧ Fr [] (dW W 5 xf xn xa xb xd xc xe xo xl xm) w1) ((hdump_any xn xo xl xm rbs _ ((h.shR hFW).keep dW_fr) (by omega) (hIW.keep dW_fr) hlen).mono ?_)).mono ?_
        · rintro e w1 ⟨ro, N, rc, hs, rfl, h5, h6, h7, hF⟩
          exact ⟨_, _, _, rfl, ⟨hs, h5, h6, h7, hF⟩, hF.keep dW_row (by simp)⟩
        · rintro e w2 ⟨ro, N, rc, w1, rfl, ⟨hs, h5, h6, h7, hF⟩, hf⟩
          exact ⟨true, none, 0, 0, ro, N, rc, 0, rfl, ⟨w1, hs, rfl, ⟨rfl, rfl, rfl⟩, rfl, h5, h6, h7, hF, hf⟩, serve_far h hFW hQ dW_fr (FrS.of hF) hf⟩
      · rintro e w3 ⟨ok, eo, el, ec, ho, hl, hc, c, W, w2, rfl, hFW, hs, hQ, ⟨w1, hs', a1, a2, a3, h5, h6, h7, hF, hf⟩, _, T, hT, hT2⟩
        obtain ⟨z1, z2, z3, z4⟩ := serve_end h hq ht hFW hQ dW_fr dW_size (FrS.of hF) hf hT hT2 (((h.shR hFW).keep (dW_fr.then hF)).mono (Nat.le_succ n))
        refine ⟨ok, eo, el, ec, ho, hl, hc, c, M, rfl, z1, z2, Or.inr (Or.inr (Or.inr (Or.inr ⟨rfl, a1, a2, a3, rfl, h6, (fun j hr => ?_), hs', h5.move z3 ?_, h7⟩)))⟩
        · have s1 := hFW.size
          have s2 := hF.size
          have s3 := hf.size
          have hb := h.sh.bl
          have s4 := (dW_fr (w := W) (k := 5) (f := xf) (n := xn) (wk := xa) (wv := xb) (wd := xd) (key := xc) (en := xe) (bo := xo) (bl := xl) (bc := xm)).size
          have r1 := hr.back hT (fun hm => by have := (hT2 b hm).1; omega) (by omega)
          have r2 := r1.back hf (by simp; omega) (by omega)
          exact h.old hFW (dW_fr.then hF) r2
        have := hFW.size
        have := (dW_fr (w := W) (k := 5) (f := xf) (n := xn) (wk := xa) (wv := xb) (wd := xd) (key := xc) (en := xe) (bo := xo) (bl := xl) (bc := xm)).size
        omega
end
end Go.Proofs.YtomajifklajilaaGreatDoor
/- An owner's New, Ask, Len, Room, All, with its shard. Conditions as each names them. -/
namespace Go.Proofs.YtomajifklajilaaGreatDoor
open Go.ChangeShapes Go.WideShapes Go.ChangeAt Go.RowKit Go.Lib Go.Maps
set_option linter.unusedVariables false
set_option linter.unusedSimpArgs false
section
variable {t : Nat → Prop} {w0 w : World} {ob sb b n g C : Nat} {pb : Option Nat} {M : ByteArray → List Vn} {rs : List Rq}
theorem OwS.few (h : OwS w0 t w ob sb b n g pb C M rs) : rs.length ≤ C ∧ 1 ≤ C := by
  obtain ⟨xs, hq, hw⟩ := h.q
  have := hq.rg.few
  have := hw.len
  omega
theorem os_ask (h : OwS w0 t w ob sb b n g pb C M rs) (hT : ∀ k, t k → k < w.heap.size) (x : Rv) (ns : List Int) (hR : RqB w x ns) : Calls Tryz.prog 6 #[.pointer (some ⟨ob, 0, none⟩), x.v] w fun e w' =>
    (¬ okR (x.q ns) ∧ e = .returned (.tuple #[.bool false, .int .i64 1]) ∧ OwS w0 t w' ob sb b n g pb C M rs ∧ Fr [] w w') ∨
    (okR (x.q ns) ∧ rs.length = C ∧ e = .returned (.tuple #[.bool false, .int .i64 0]) ∧ OwS w0 t w' ob sb b n g pb C M rs ∧ Fr [] w w') ∨
    (okR (x.q ns) ∧ rs.length < C ∧ e = .returned (.tuple #[.bool true, .int .i64 0]) ∧ ∃ pb', OwS w0 t w' ob sb b n g pb' C M (rs ++ [x.q ns]) ∧ OwF b g pb w w' ∧ (∀ k, pb' = some k → pb = some k ∨ w.heap.size ≤ k)) := by
  obtain ⟨xs, hq, hw⟩ := h.q
  by_cases hB : okR (x.q ns)
  · refine (oask_any hq x ns hR hB).mono ?_
    rintro e w' (⟨h1, rfl, hF⟩ | ⟨h1, rfl, ro, rc, pb', hQ, hI, hN, hF, hM⟩)
    · exact Or.inr (Or.inl ⟨hB, by rw [← hw.len]; exact h1, rfl, h.same hF, hF⟩)
    · refine Or.inr (Or.inr ⟨hB, by rw [← hw.len]; exact h1, rfl, pb', ⟨⟨_, hQ, (hw.keep (fun j cs hj => hF.keep hj (ring_not hq.rg hj (by decide) (by decide))) hF.size).snoc ⟨rfl, hB, hR.len, hI, fun a e => ?_, fun a e q => by have := hT _ q; have := (hN a e).1; omega⟩⟩, h.shR hF, h.fr.on hF h.own, h.gn, h.on, fun k e => ?_⟩, OwF.ofR hq.rg h.sh.mb hF, fun k e => ?_⟩)
      · obtain ⟨k1, k2⟩ := hN a e
        exact ⟨by have := h.fr.size; omega, k2⟩
      · rcases hM with rfl | ⟨k', rfl, hk⟩
        · exact h.pn k e
        · cases e
          have := h.fr.size
          omega
      · rcases hM with rfl | ⟨k', rfl, hk⟩
        · exact Or.inl e
        · cases e
          exact Or.inr hk
  · refine (oask_no hq x ns hR hB).mono ?_
    rintro e w' ⟨rfl, hF⟩
    exact Or.inl ⟨hB, rfl, h.same hF, hF⟩
theorem os_idle (h : OwS w0 t w ob sb b n g pb C M []) : Calls Tryz.prog 7 #[.pointer (some ⟨ob, 0, none⟩)] w fun e w' => e = .returned (.tuple #[.agg #[.int .i64 0, .bool false, .slice none 0 0, .slice none 0 0, .int .i64 0], .int .i64 9]) ∧ OwS w0 t w' ob sb b n g pb C M [] ∧ Fr [] w w' := by
  obtain ⟨xs, hq, hw⟩ := h.q
  cases hw
  refine (oserve_nil hq).mono ?_
  rintro e w' ⟨rfl, hF⟩
  exact ⟨rfl, h.same hF, hF⟩
theorem os_all (h : OwS w0 t w ob sb b n g pb C M rs) (hn : n < 3518437208883) : Calls Tryz.prog 8 #[.pointer (some ⟨ob, 0, none⟩)] w fun e w' => ∃ ro N rc hs, e = .returned (.slice ro N rc) ∧ HOut w w' ro N rc hs ∧ N ≤ n ∧ PkT M M hs ∧ Fr [] w w' := by
  obtain ⟨xs, hq, hw⟩ := h.q
  have HT : Hid (Calls _ _ _ _ _) := othere_any hq
  have HA : Hid (Calls _ _ _ _ _) := hall_any w h.sh hn
  have c0 := hq.c0
  clear h hq hw
  go_enter Tryz.func8, Tryz.ntmps8
  go_wp2_with fail
  refine Calls.mono HT.out ?_
  rintro e w1 ⟨rfl, rfl⟩
  go_wp2_with fail
  refine Calls.mono HA.out ?_
  rintro e w1 ⟨ro, N, rc, hs, rfl, hh⟩
  go_wp2
  go_ret
  exact ⟨ro, N, rc, hs, rfl, hh⟩
end
/-- May an owner be made of these? -/
def okN (sh q : Int) : Prop := 0 ≤ sh ∧ sh < 16 ∧ 1 ≤ q ∧ q ≤ 16
set_option maxHeartbeats 1000000 in
theorem onew_no (sh q : Int) (ao : Option Addr) (L cap : Nat) (w : World) (h : ¬ okN sh q) : Calls Tryz.prog 4 #[.int .i64 sh, .int .i64 q, .slice ao L cap] w fun e w' => e = .returned (.tuple #[.pointer none, .int .i64 1]) ∧ w = w' := by
  by_cases h1 : sh < 0
  · clear h
    go_enter Tryz.func4, Tryz.ntmps4
    go_wp2
    go_ret2
    exact ⟨rfl, rfl⟩
  by_cases h2 : 16 ≤ sh
  · clear h
    go_enter Tryz.func4, Tryz.ntmps4
    go_wp2
    go_ret2
    exact ⟨rfl, rfl⟩
  by_cases h3 : q < 1
  · clear h
    go_enter Tryz.func4, Tryz.ntmps4
    go_wp2
    go_ret2
    exact ⟨rfl, rfl⟩
  have h4 : 16 < q := by unfold okN at h; omega
  clear h
  go_enter Tryz.func4, Tryz.ntmps4
  go_wp2
  go_ret2
  exact ⟨rfl, rfl⟩
set_option maxHeartbeats 1000000 in
theorem oload_any (q : Int) (ao : Option Addr) (L cap : Nat) (hs : List Hd) (w : World) (hq : 1 ≤ q ∧ q ≤ 16) (hH : HRs w ao hs) (hL : L = hs.length) : Calls Tryz.prog 13 #[.int .i64 q, .slice ao L cap] w fun e w' =>
    (¬ LoOk hs ∧ e = .returned (.tuple #[.pointer none, .int .i64 1]) ∧ Fr [] w w') ∨ (LoOk hs ∧ ∃ ob sb b g, e = .returned (.tuple #[.pointer (some ⟨ob, 0, none⟩), .int .i64 0]) ∧ OwS w (fun _ => False) w' ob sb b L g none q.toNat (mOf hs) []) := by
  have HLd : Hid (Calls _ _ _ _ _) := hload_any ao L cap hs w hH hL
  have HG : Hid (∀ W, Calls _ _ _ _ _) := fun W => gnew_any q W (by omega)
  clear hH hL
  go_enter Tryz.func13, Tryz.ntmps13
  go_wp2_with fail
  refine Calls.mono HLd.out ?_
  rintro e w1 (⟨hl, sb, b, rfl, hS, hF1⟩ | ⟨hl, rfl, hF1⟩)
  · have HS : Hid (Sh w w1 sb b L (mOf hs) ∧ Fr [] w w1 ∧ LoOk hs) := ⟨hS, hF1, hl⟩
    clear hS hF1 hl HLd
    go_wp2_with fail
    refine Calls.mono (HG.out _) ?_
    rintro e w2 ⟨g, rfl, hg, hR, hF2⟩
    have HR : Hid (Rg w2 g none q.toNat [] false ∧ Fr [] w1 w2 ∧ w1.heap.size ≤ g) := ⟨hR, hF2, hg⟩
    clear hR hF2 hg HG
    go_wp2
    go_ret2
    have s1 := HS.out.2.1.size
    have s2 := HR.out.2.1.size
    have fA := Fr.alloc [] w2 (.cells #[.pointer (some ⟨sb, 0, none⟩), .pointer (some ⟨g, 0, none⟩)] 67)
    exact Or.inr ⟨HS.out.2.2, w2.heap.size, sb, b, g, rfl, ⟨[], ⟨heap_alloc_new w2 _, HR.out.1.same fA⟩, .nil⟩, HS.out.1.keep (HR.out.2.1.then fA), HS.out.2.1.then (HR.out.2.1.then fA), by have := HR.out.2.2; omega, by omega, fun k e => by cases e⟩
  · have HS : Hid (Fr [] w w1 ∧ ¬ LoOk hs) := ⟨hF1, hl⟩
    clear hF1 hl HLd
    go_wp2
    go_ret2
    exact Or.inl ⟨HS.out.2, rfl, HS.out.1⟩
set_option maxHeartbeats 1000000 in
theorem onew_any (sh q : Int) (ao : Option Addr) (L cap : Nat) (hs : List Hd) (w : World) (h : okN sh q) (hH : HRs w ao hs) (hL : L = hs.length) : Calls Tryz.prog 4 #[.int .i64 sh, .int .i64 q, .slice ao L cap] w fun e w' =>
    (¬ LoOk hs ∧ e = .returned (.tuple #[.pointer none, .int .i64 1]) ∧ Fr [] w w') ∨ (LoOk hs ∧ ∃ ob sb b g, e = .returned (.tuple #[.pointer (some ⟨ob, 0, none⟩), .int .i64 0]) ∧ OwS w (fun _ => False) w' ob sb b L g none q.toNat (mOf hs) []) := by
  obtain ⟨h1, h2, h3, h4⟩ := h
  have HLd : Hid (Calls _ _ _ _ _) := oload_any q ao L cap hs w ⟨h3, h4⟩ hH hL
  clear hH hL
  go_enter Tryz.func4, Tryz.ntmps4
  go_wp2_with fail
  refine Calls.mono HLd.out ?_
  rintro e w1 (⟨hl, rfl, hF1⟩ | ⟨hl, ob, sb, b, g, rfl, hO⟩)
  · go_wp2
    go_ret2
    exact Or.inl ⟨hl, rfl, hF1⟩
  · have HO : Hid (OwS w (fun _ => False) w1 ob sb b L g none q.toNat (mOf hs) []) := hO
    clear hO HLd
    go_wp2
    go_ret2
    exact Or.inr ⟨hl, ob, sb, b, g, rfl, HO.out⟩
end Go.Proofs.YtomajifklajilaaGreatDoor
/- The law's helper lives: true. No conditions. -/
namespace Go.Proofs.YtomajifklajilaaGreatDoor
open Go.ChangeShapes Go.WideShapes Go.ChangeAt Go.RowKit Go.Lib Go.Maps
set_option linter.unusedVariables false
set_option linter.unusedSimpArgs false
theorem hrs_nil (w : World) : HRs w none [] := ⟨fun h => by simp at h, by simp, by simp⟩
theorem lo_nil : LoOk [] := ⟨List.Pairwise.nil, by simp⟩
def lv1 : Rv := ⟨1, 1, 1, ⟨#[97]⟩, ⟨#[49]⟩, false, ⟨#[]⟩, ⟨#[]⟩, none, 0, 0⟩
def lv2 : Rv := ⟨2, -1, 1, ⟨#[]⟩, ⟨#[]⟩, false, ⟨#[97]⟩, ⟨#[]⟩, none, 0, 0⟩
theorem lv1_b (w : World) : RqB w lv1 [] := ⟨by decide, by decide, by decide, by decide, by decide, by decide, by decide, ⟨fun h => by simp at h, by simp⟩, rfl, Nat.le_refl _⟩
theorem lv2_b (w : World) : RqB w lv2 [] := ⟨by decide, by decide, by decide, by decide, by decide, by decide, by decide, ⟨fun h => by simp at h, by simp⟩, rfl, Nat.le_refl _⟩
theorem lv1_ok : okR (lv1.q []) := ⟨by decide, by decide, by decide, Or.inl ⟨rfl, ⟨rfl, rfl⟩, rfl, by decide, by decide, by decide⟩⟩
theorem lv2_ok : okR (lv2.q []) := ⟨by decide, by decide, by decide, Or.inr (Or.inl ⟨rfl, by decide, rfl, by decide, rfl⟩)⟩
theorem lv_put {M' : ByteArray → List Vn} {ok : Bool} {cc : Nat} (h : InTold (fun _ => []) ⟨1, ⟨#[97]⟩, ⟨#[49]⟩, false⟩ M' ok cc) : ok = true ∧ valAt (M' ⟨#[97]⟩) 1 = some ⟨#[49]⟩ := by
  have okp : okP ⟨1, ⟨#[97]⟩, ⟨#[49]⟩, false⟩ := ⟨by decide, by decide, by decide, by decide, by decide⟩
  rcases h with ⟨_, _, h, _⟩ | ⟨_, _, ⟨_, _, y, hy, _⟩ | ⟨rfl, _, us, rfl, h1, h2⟩⟩
  · exact absurd okp h
  · simp at hy
  · refine ⟨rfl, ?_⟩
    have e : us = [⟨1, ⟨#[49]⟩, false⟩] := ris_unique _ _ h1.2 (by simp [Ris]) (fun v => by rw [h2 v]; simp [Pt.v])
    rw [e]
    simp [updM, valAt, vAt, valOf]
set_option maxHeartbeats 8000000 in
set_option maxRecDepth 100000 in
theorem lives_any (w : World) : Calls Tryz.prog 5 #[] w fun e w' => e = .returned (.bool true) ∧ Fr [] w w' := by
  have HN : Hid (Calls _ _ _ _ _) := onew_any 0 2 none 0 0 [] w ⟨by decide, by decide, by decide, by decide⟩ (hrs_nil w) rfl
  go_enter Tryz.func5, Tryz.ntmps5
  go_wp2_with fail
  refine Calls.mono HN.out ?_
  rintro e w1 (⟨h, _⟩ | ⟨_, ob, sb, b, g, rfl, hO⟩)
  · exact absurd lo_nil h
  have HO : Hid (OwS w (fun _ => False) w1 ob sb b 0 g none 2 (fun _ => []) []) := hO
  have HA : Hid (Calls Tryz.prog 6 #[.pointer (some ⟨ob, 0, none⟩), .agg #[.int .u8 1, .int .i64 1, .int .i64 1, .string ⟨#[97]⟩, .string ⟨#[49]⟩, .bool false, .string ⟨#[]⟩, .string ⟨#[]⟩, .slice none 0 0]] w1 fun e w' => e = .returned (.tuple #[.bool true, .int .i64 0]) ∧ ∃ pb, OwS w (fun _ => False) w' ob sb b 0 g pb 2 (fun _ => []) [lv1.q []]) := by
    refine (os_ask hO (by simp) lv1 [] (lv1_b w1)).mono ?_
    rintro e w' (⟨h, _⟩ | ⟨_, h, _⟩ | ⟨_, _, rfl, pb, h, _⟩)
    · exact absurd lv1_ok h
    · simp at h
    · exact ⟨rfl, pb, h⟩
  clear hO HN HO
  go_wp2_with fail
  refine Calls.mono HA.out ?_
  rintro e w2 ⟨rfl, pb, hO⟩
  have HA2 : Hid (Calls Tryz.prog 6 #[.pointer (some ⟨ob, 0, none⟩), .agg #[.int .u8 2, .int .i64 (-1), .int .i64 1, .string ⟨#[]⟩, .string ⟨#[]⟩, .bool false, .string ⟨#[97]⟩, .string ⟨#[]⟩, .slice none 0 0]] w2 fun e w' => e = .returned (.tuple #[.bool true, .int .i64 0]) ∧ ∃ pb, OwS w (fun _ => False) w' ob sb b 0 g pb 2 (fun _ => []) [lv1.q [], lv2.q []]) := by
    refine (os_ask hO (by simp) lv2 [] (lv2_b w2)).mono ?_
    rintro e w' (⟨h, _⟩ | ⟨_, h, _⟩ | ⟨_, _, rfl, pb, h, _⟩)
    · exact absurd lv2_ok h
    · simp at h
    · exact ⟨rfl, pb, h⟩
  clear hO HA
  go_wp2_with fail
  refine Calls.mono HA2.out ?_
  rintro e w3 ⟨rfl, pb2, hO⟩
  have HA3 : Hid (Calls Tryz.prog 6 #[.pointer (some ⟨ob, 0, none⟩), .agg #[.int .u8 2, .int .i64 (-1), .int .i64 1, .string ⟨#[]⟩, .string ⟨#[]⟩, .bool false, .string ⟨#[97]⟩, .string ⟨#[]⟩, .slice none 0 0]] w3 fun e w' => e = .returned (.tuple #[.bool false, .int .i64 0]) ∧ OwS w (fun _ => False) w' ob sb b 0 g pb2 2 (fun _ => []) [lv1.q [], lv2.q []]) := by
    refine (os_ask hO (by simp) lv2 [] (lv2_b w3)).mono ?_
    rintro e w' (⟨h, _⟩ | ⟨_, _, rfl, h, _⟩ | ⟨_, h, _⟩)
    · exact absurd lv2_ok h
    · exact ⟨rfl, h⟩
    · simp at h
  clear hO HA2
  go_wp2_with fail
  refine Calls.mono HA3.out ?_
  rintro e w4 ⟨rfl, hO⟩
  have HS : Hid (Calls Tryz.prog 7 #[.pointer (some ⟨ob, 0, none⟩)] w4 fun e w' => e = .returned (.tuple #[.agg #[.int .i64 1, .bool true, .slice none 0 0, .slice none 0 0, .int .i64 0], .int .i64 0]) ∧ ∃ M', OwS w (fun _ => False) w' ob sb b 1 g pb2 2 M' [lv2.q []] ∧ valAt (M' ⟨#[97]⟩) 1 = some ⟨#[49]⟩) := by
    refine (os_serve hO (by omega)).mono ?_
    rintro e w' ⟨ok, eo, el, ec, ho, hl, hc, c, M', rfl, h1, _, h2⟩
    rcases h2 with ⟨_, ⟨rfl, rfl, rfl⟩, ⟨rfl, rfl, rfl⟩, rfl, cc, hI⟩ | ⟨h, _⟩ | ⟨h, _⟩ | ⟨h, _⟩ | ⟨h, _⟩
    · obtain ⟨rfl, hv⟩ := lv_put hI
      exact ⟨rfl, M', h1, hv⟩
    · simp [lv1, Rv.q] at h
    · simp [lv1, Rv.q] at h
    · simp [lv1, Rv.q] at h
    · simp [lv1, Rv.q] at h
  clear hO HA3
  go_wp2_with fail
  refine Calls.mono HS.out ?_
  rintro e w5 ⟨rfl, M', hO, hv⟩
  obtain ⟨w6, HW6⟩ : ∃ w6, Hid (w5.alloc (.cells #[.int .i64 1, .bool true, .slice none 0 0, .slice none 0 0, .int .i64 0] 51) = w6) := ⟨_, rfl⟩
  have hF6 : Fr [] w5 w6 := by rw [← HW6.out]; exact Fr.alloc _ _ _
  have hr6 : w6.heap[w5.heap.size]? = some (.cells #[.int .i64 1, .bool true, .slice none 0 0, .slice none 0 0, .int .i64 0] 51 (0, 0)) := by rw [← HW6.out]; exact heap_alloc_new _ _
  obtain ⟨Z8, HZ8⟩ : ∃ Z8, Hid (w5.heap.size = Z8) := ⟨_, rfl⟩
  rw [HZ8.out] at hr6
  have HS2 : Hid (Calls Tryz.prog 7 #[.pointer (some ⟨ob, 0, none⟩)] w6 fun e w' => ∃ E ec, e = .returned (.tuple #[.agg #[.int .i64 (-1), .bool true, .slice (some ⟨E, 0, none⟩) 1 ec, .slice none 0 0, .int .i64 0], .int .i64 0]) ∧ OwS w (fun _ => False) w' ob sb b 2 g pb2 2 M' [] ∧ w'.heap[Z8]? = some (.cells #[.int .i64 1, .bool true, .slice none 0 0, .slice none 0 0, .int .i64 0] 51 (0, 0)) ∧ ∃ cur, w'.heap[E]? = some (.cells cur 61 (0, 0)) ∧ cur.toList.take 2 = [.string ⟨#[97]⟩, .string ⟨#[49]⟩]) := by
    have h6 := hO.same hF6
    refine (os_serve h6 (by omega)).mono ?_
    rintro e w' ⟨ok, eo, el, ec, ho, hl, hc, c, M2, rfl, h1, hf, h2⟩
    obtain ⟨xs6, hq6, _⟩ := h6.q
    have hZ := hf.keep hq6.rg h6.sh.mb hr6 (by decide) (by decide) (by decide)
    rcases h2 with ⟨h, _⟩ | ⟨_, ⟨rfl, rfl, rfl⟩, rfl, rfl, h2⟩ | ⟨h, _⟩ | ⟨h, _⟩ | ⟨h, _⟩
    · simp [lv2, Rv.q] at h
    · rcases h2 with ⟨_, h, _⟩ | ⟨rfl, v, h, rfl, hE⟩
      · simp only [lv2, Rv.q] at h
        rw [hv] at h
        cases h
      · simp only [lv2, Rv.q] at h hE
        rw [hv] at h
        cases h
        rcases hE.row.2 with ⟨_, h⟩ | ⟨E, cap, cur, hv, _, hb, _, _, _, ht⟩
        · omega
        · cases hv
          exact ⟨E, _, rfl, h1, hZ, cur, hb, ht⟩
    · simp [lv2, Rv.q] at h
    · simp [lv2, Rv.q] at h
    · simp [lv2, Rv.q] at h
  clear hO HS hr6 hF6 hv
  go_upto_region 10 with fail
  rw [HW6.out, HZ8.out]
  clear HW6 HZ8
  go_wp2_with fail
  refine Calls.mono HS2.out ?_
  rintro e w7 ⟨E, ec, rfl, hO, hr8, cur, hEr, hEc⟩
  obtain ⟨w8, HW8⟩ : ∃ w8, Hid (w7.alloc (.cells #[.int .i64 (-1), .bool true, .slice (some ⟨E, 0, none⟩) 1 ec, .slice none 0 0, .int .i64 0] 51) = w8) := ⟨_, rfl⟩
  have hF8 : Fr [] w7 w8 := by rw [← HW8.out]; exact Fr.alloc _ _ _
  have hr9 : w8.heap[w7.heap.size]? = some (.cells #[.int .i64 (-1), .bool true, .slice (some ⟨E, 0, none⟩) 1 ec, .slice none 0 0, .int .i64 0] 51 (0, 0)) := by rw [← HW8.out]; exact heap_alloc_new _ _
  obtain ⟨Z9, HZ9⟩ : ∃ Z9, Hid (w7.heap.size = Z9) := ⟨_, rfl⟩
  rw [HZ9.out] at hr9
  have HS3 : Hid (Calls Tryz.prog 7 #[.pointer (some ⟨ob, 0, none⟩)] w8 fun e w' => e = .returned (.tuple #[.agg #[.int .i64 0, .bool false, .slice none 0 0, .slice none 0 0, .int .i64 0], .int .i64 9]) ∧ Fr [] w w' ∧ w'.cell? ⟨Z8, 0, none⟩ = some (.int .i64 1) ∧ w'.cell? ⟨Z8, 1, none⟩ = some (.bool true) ∧ w'.cell? ⟨Z9, 0, none⟩ = some (.int .i64 (-1)) ∧ w'.cell? ⟨Z9, 2, none⟩ = some (.slice (some ⟨E, 0, none⟩) 1 ec) ∧ w'.cell? ⟨E, 0, none⟩ = some (.string ⟨#[97]⟩) ∧ w'.cell? ⟨E, 1, none⟩ = some (.string ⟨#[49]⟩)) := by
    refine (os_idle (hO.same hF8)).mono ?_
    rintro e w' ⟨rfl, h, hF⟩
    have k8 := (hF8.then hF).keep hr8 (by simp)
    have k9 := hF.keep hr9 (by simp)
    have kE := (hF8.then hF).keep hEr (by simp)
    have hc0 : cur[0]? = some (.string ⟨#[97]⟩) := by
      have := congrArg (fun l => l[0]?) hEc
      simpa using this
    have hc1 : cur[1]? = some (.string ⟨#[49]⟩) := by
      have := congrArg (fun l => l[1]?) hEc
      simpa [List.getElem?_take] using this
    refine ⟨rfl, h.fr, ?_, ?_, ?_, ?_, ?_, ?_⟩
    · rw [cell_of_row _ _ _ _ _ _ k8]; rfl
    · rw [cell_of_row _ _ _ _ _ _ k8]; rfl
    · rw [cell_of_row _ _ _ _ _ _ k9]; rfl
    · rw [cell_of_row _ _ _ _ _ _ k9]; rfl
    · rw [cell_of_row _ _ _ _ _ _ kE]; exact hc0
    · rw [cell_of_row _ _ _ _ _ _ kE]; exact hc1
  clear hO HS2 hr8 hEr hEc hF8 hr9
  go_upto_region 11 with fail
  rw [HW8.out, HZ9.out]
  clear HW8 HZ9
  go_wp2_with fail
  refine Calls.mono HS3.out ?_
  rintro e w9 ⟨rfl, hF, c0, c1, c2, c3, c4, c5⟩
  have HF : Hid (Fr [] w w9) := hF
  clear HS3 hF
  have hq : ∀ W, (binOp .eql 61 (.agg #[.string ⟨#[97]⟩, .string ⟨#[49]⟩]) (.agg #[.string ⟨#[97]⟩, .string ⟨#[49]⟩])).run Tryz.prog W = .ok (.bool true) W := fun W => by kernel_rfl
  go_wp2
  go_ret
  exact ⟨rfl, HF.out⟩
end Go.Proofs.YtomajifklajilaaGreatDoor
