/- Texts of this claim laid together, one behind the other: contracts and plain lemmas; conditions as each names them. -/
import Derived.Test.YtpdkdgmaofhlkaaGp46
/- A reply handed to both tasks, whatever they answer. Conditions as named. -/
namespace Go.Proofs.Ytpdkdgmaofhlkaa
open Go.ChangeShapes Go.WideShapes Go.ChangeAt Go.RowKit Go.Lib
set_option linter.unusedVariables false
set_option linter.unusedSimpArgs false

theorem TwR.old {w w0 W w' : World} {r : Rp} {es : List Ey} {hs : List Hd} {be bh : Nat} {ks : List Nat} (h : TwR w0 W r es hs be bh ks) (hw : w.heap.size ≤ w0.heap.size) (ho : Old w W w') : TwR w0 w' r es hs be bh ks := by
  obtain ⟨S, hf, hS⟩ := ho
  have n : ∀ k, w0.heap.size ≤ k → k ∉ S := fun k hk hm => by have := hS k hm; omega
  exact ⟨h.ne, h.nh, h.apart, hf.keep h.re (n _ h.ne), hf.keep h.rh (n _ h.nh), h.tw.keep hf (fun k hk => n k (h.tw.new k hk))⟩
/-- The keys' twins from the i-th on stand; the versions' rows are as long as they were. -/
structure Oz (S : List Nat) (w wr : World) (g bh : Nat) (hs : List Hd) (ks : List Nat) (hl : Nat) (bx : Array Value) (i : Nat) : Prop where
  fr : Fr S w wr
  hb : bh ∈ S
  bxr : wr.heap[g]? = some (.cells bx 46 (0, 0))
  rh : ∃ cs : Array Value, wr.heap[bh]? = some (.cells cs 88 (0, 0)) ∧ cs.size = (hl + 1) * 2 ∧ ∀ j, i ≤ j → j < hl → cs[j * 2 + 1]? = some (.slice (some ⟨ks.getD j 0, 0, none⟩) (hs.getD j Hd.zero).L ((hs.getD j Hd.zero).L + 1))
  rv : ∀ j, j < hl → ks.getD j 0 ∈ S ∧ ∃ cs : Array Value, wr.heap[ks.getD j 0]? = some (.cells cs 90 (0, 0)) ∧ cs.size = ((hs.getD j Hd.zero).L + 1) * 3
theorem Oz.ver {S : List Nat} {w wr : World} {g bh : Nat} {hs : List Hd} {ks : List Nat} {hl : Nat} {bx : Array Value} {i : Nat} (h : Oz S w wr g bh hs ks hl bx i) (hi : i < hl) (k : Nat) (hk : k < (hs.getD i Hd.zero).L) (v0 v1 v2 : Value) :
    (∃ u, wr.cell? ⟨ks.getD i 0, k * 3, none⟩ = some u) ∧ (∃ u, wr.cell? ⟨ks.getD i 0, k * 3 + 1, none⟩ = some u) ∧ (∃ u, wr.cell? ⟨ks.getD i 0, k * 3 + 2, none⟩ = some u) ∧ wr.frozen? ⟨ks.getD i 0, k * 3, none⟩ = false ∧ wr.frozen? ⟨ks.getD i 0, k * 3 + 1, none⟩ = false ∧ wr.frozen? ⟨ks.getD i 0, k * 3 + 2, none⟩ = false ∧
    Oz S w (((wr.setCell ⟨ks.getD i 0, k * 3, none⟩ v0).setCell ⟨ks.getD i 0, k * 3 + 1, none⟩ v1).setCell ⟨ks.getD i 0, k * 3 + 2, none⟩ v2) g bh hs ks hl bx i := by
  obtain ⟨hnw, cs, hr, hsz⟩ := h.rv i hi
  obtain ⟨p1, p2, p3, p4, p5, p6, ⟨cs', q1, q2⟩, hF⟩ := put_three v0 v1 v2 hr (show k * 3 + 2 < cs.size by rw [hsz]; omega)
  refine ⟨p1, p2, p3, p4, p5, p6, h.fr.then (hF.mono (fun z hz _ => by rw [List.mem_singleton.1 hz]; exact hnw)), h.hb, hF.keep h.bxr (by simp; exact ty_ne17 h.bxr hr (by decide)), ?_, fun j hj => ?_⟩
  · obtain ⟨c2, r1, r2, r3⟩ := h.rh
    exact ⟨c2, hF.keep r1 (by simp; exact ty_ne17 r1 hr (by decide)), r2, r3⟩
  · obtain ⟨s1, c3, s2, s3⟩ := h.rv j hj
    refine ⟨s1, ?_⟩
    by_cases he : ks.getD j 0 = ks.getD i 0
    · rw [he] at s2 ⊢
      rw [hr] at s2
      simp only [Option.some.injEq, Obj.cells.injEq] at s2
      exact ⟨cs', q1, by rw [q2, s2.1]; exact s3⟩
    · exact ⟨c3, hF.keep s2 (by simpa using he), s3⟩
theorem Oz.clr {S : List Nat} {w wr : World} {g bh : Nat} {hs : List Hd} {ks : List Nat} {hl : Nat} {bx : Array Value} {i : Nat} (h : Oz S w wr g bh hs ks hl bx i) (hi : i < hl) (v0 v1 : Value) :
    (∃ u, wr.cell? ⟨bh, i * 2, none⟩ = some u) ∧ (∃ u, wr.cell? ⟨bh, i * 2 + 1, none⟩ = some u) ∧ wr.frozen? ⟨bh, i * 2, none⟩ = false ∧ wr.frozen? ⟨bh, i * 2 + 1, none⟩ = false ∧
    Oz S w ((wr.setCell ⟨bh, i * 2, none⟩ v0).setCell ⟨bh, i * 2 + 1, none⟩ v1) g bh hs ks hl bx (i + 1) := by
  obtain ⟨cs, hr, hsz, hc⟩ := h.rh
  obtain ⟨p1, p2, p3, p4, ⟨cs', q1, q2, q3⟩, hF⟩ := put_two v0 v1 hr (show i * 2 + 1 < cs.size by rw [hsz]; omega)
  refine ⟨p1, p2, p3, p4, h.fr.then (hF.mono (fun z hz _ => by rw [List.mem_singleton.1 hz]; exact h.hb)), h.hb, hF.keep h.bxr (by simp; exact ty_ne17 h.bxr hr (by decide)), ⟨cs', q1, by rw [q2]; exact hsz, fun j hj1 hj2 => ?_⟩, fun j hj => ?_⟩
  · rw [q3 _ (by omega) (by omega)]
    exact hc j (by omega) hj2
  · obtain ⟨s1, c3, s2, s3⟩ := h.rv j hj
    exact ⟨s1, c3, hF.keep s2 (by simp; exact ty_ne17 s2 hr (by decide)), s3⟩
theorem Oz.cell {S : List Nat} {w wr : World} {g bh : Nat} {hs : List Hd} {ks : List Nat} {hl : Nat} {bx : Array Value} {i : Nat} (h : Oz S w wr g bh hs ks hl bx i) (hi : i < hl) : wr.cell? ⟨bh, i * 2 + 1, none⟩ = some (.slice (some ⟨ks.getD i 0, 0, none⟩) (hs.getD i Hd.zero).L ((hs.getD i Hd.zero).L + 1)) := by
  obtain ⟨cs, hr, hsz, hc⟩ := h.rh
  rw [cell_of_row _ _ _ _ _ _ hr]
  exact hc i (Nat.le_refl _) hi
theorem Oz.begin {w0 w3 w4 w5 : World} {r : Rp} {es : List Ey} {hs : List Hd} {be bh g : Nat} {ks : List Nat} {bx : Array Value} (hT : TwR w0 w4 r es hs be bh ks) (hH : ∀ t ∈ hs, t.L = t.vs.length) (hl : r.hl = hs.length) (hf : Fr [] w3 w4) (hg : w4.heap[g]? = some (.cells bx 46 (0, 0))) (h5 : Fr [be] w4 w5) : Oz (be :: bh :: ks) w3 w5 g bh hs ks r.hl bx 0 := by
  have n1 := hT.ne
  have n2 := hT.nh
  refine ⟨(hf.mono (by intro z hz; simp at hz)).then (h5.mono (fun z hz _ => by simp at hz; simp [hz])), by simp, h5.keep hg (by simp; exact ty_ne17 hg hT.re (by decide)), ⟨_, h5.keep hT.rh (by simp; exact fun e => hT.apart e.symm), ?_, fun j _ hj => ?_⟩, fun j hj => ?_⟩
  · have := hdsC_length (twTs hs ks ++ [spT])
    rw [List.length_append, twTs_length _ _ hT.tw.len] at this
    simp only [List.length_cons, List.length_nil] at this
    rw [hl]
    simpa using this
  · have hj' : j < hs.length := by omega
    have hlen := twTs_length hs ks hT.tw.len
    have h1 := (hdsC_get (twTs hs ks ++ [spT]) j (by rw [List.length_append, hlen]; omega)).2
    have h2 : (twTs hs ks ++ [spT]).getD j Hd.zero = twT (hs.getD j Hd.zero) (ks.getD j 0) := by
      have hk : j < ks.length := by rw [hT.tw.len]; exact hj'
      simp [List.getD, twTs, List.getElem?_append_left (show j < (List.zipWith twT hs ks).length by simp; omega), List.getElem?_zipWith, hj', hk]
    rw [h2] at h1
    simpa [twT] using h1
  · have hj' : j < hs.length := by omega
    have hk : j < ks.length := by rw [hT.tw.len]; exact hj'
    have e1 : hs[j]? = some (hs.getD j Hd.zero) := by simp [List.getD, hj']
    have e2 : ks[j]? = some (ks.getD j 0) := by simp [List.getD, hk]
    have hrow := hT.tw.row j _ _ e1 e2
    have hnew := hT.tw.new _ (List.mem_of_getElem? e2)
    refine ⟨List.mem_cons_of_mem _ (List.mem_cons_of_mem _ (List.mem_of_getElem? e2)), _, h5.keep hrow (by simp; exact ty_ne17 hrow hT.re (by decide)), ?_⟩
    have h3 := vnsC_length ((hs.getD j Hd.zero).vs ++ [spV])
    rw [List.length_append] at h3
    simp only [List.length_cons, List.length_nil] at h3
    rw [hH _ (List.mem_of_getElem? e1)]
    simpa using h3
set_option maxHeartbeats 8000000 in
set_option maxRecDepth 100000 in
theorem asks_got_gen {w : World} (p q : Option Addr) (a : Aj) (hA : AjB w a) (h0 : a.k = 2) (E : Int) (QA QB : Nat → Nat → List Nat → World → Prop) (QC : World → Prop)
    (hP : ∀ W w0 be bh ks, Fr [] w W → w.heap.size ≤ w0.heap.size → TwR w0 W a.r a.es a.hs be bh ks → Calls Try.prog 21 #[.pointer p, .agg (twRp a.r be bh).a] W fun e w' => e = .returned (.int .i64 E) ∧ QA be bh ks w' ∧ Old w W w')
    (hD : ∀ W be bh ks, QA be bh ks W → Calls Try.prog 29 #[.pointer q, .agg a.r.a] W fun e w' => e = .returned (.int .i64 E) ∧ QB be bh ks w' ∧ Old w W w')
    (hI : ∀ W be bh ks, QB be bh ks W → RpB W a.r a.es a.hs) (hC : ∀ W W' be bh ks, QB be bh ks W → Fr (be :: bh :: ks) W W' → QC W') :
    Calls Try.prog 12 #[.pointer p, .pointer q, .agg a.v] w fun e w' => e = .returned (.bool true) ∧ QC w' := by
  obtain ⟨ak, ma, le, bo, bl, bc, ns, ⟨rt, rk, eo, el, ec, ho, hl, hc, ct⟩, es, hs⟩ := a
  simp only [Aj.v] at h0 hP hD hI ⊢
  have hRp : RpB w ⟨rt, rk, eo, el, ec, ho, hl, hc, ct⟩ es hs := hA.rp
  have HAc : Hid (∀ W : World, W.heap[w.heap.size]? = some (.cells #[.int .u8 ak, .int .i64 ma, .int .i64 le, .slice bo bl bc, .int .i64 rt, .bool rk, .slice eo el ec, .slice ho hl hc, .int .i64 ct] 48 (0, 0)) → W.cell? ⟨w.heap.size, 0, none⟩ = some (.int .u8 ak) ∧ W.cell? ⟨w.heap.size, 1, none⟩ = some (.int .i64 ma) ∧ W.cell? ⟨w.heap.size, 2, none⟩ = some (.int .i64 le) ∧ W.cell? ⟨w.heap.size, 3, none⟩ = some (.slice bo bl bc) ∧ W.cell? ⟨w.heap.size, 4, none⟩ = some (.int .i64 rt) ∧ W.cell? ⟨w.heap.size, 5, none⟩ = some (.bool rk) ∧ W.cell? ⟨w.heap.size, 6, none⟩ = some (.slice eo el ec) ∧ W.cell? ⟨w.heap.size, 7, none⟩ = some (.slice ho hl hc) ∧ W.cell? ⟨w.heap.size, 8, none⟩ = some (.int .i64 ct)) := fun W hW => by
    have := rq_cells hW
    exact this
  have HF0 : Hid (Fr [] w (w.alloc (.cells #[.int .u8 ak, .int .i64 ma, .int .i64 le, .slice bo bl bc, .int .i64 rt, .bool rk, .slice eo el ec, .slice ho hl hc, .int .i64 ct] 48))) := Fr.alloc [] w _
  have HTR : Hid (Calls Try.prog 28 #[.agg #[.int .i64 rt, .bool rk, .slice eo el ec, .slice ho hl hc, .int .i64 ct]] (w.alloc (.cells #[.int .u8 ak, .int .i64 ma, .int .i64 le, .slice bo bl bc, .int .i64 rt, .bool rk, .slice eo el ec, .slice ho hl hc, .int .i64 ct] 48)) fun e w' => ∃ be bh ks, e = .returned (.agg #[.int .i64 rt, .bool rk, .slice (some ⟨be, 0, none⟩) el (el + 1), .slice (some ⟨bh, 0, none⟩) hl (hl + 1), .int .i64 ct]) ∧ TwR (w.alloc (.cells #[.int .u8 ak, .int .i64 ma, .int .i64 le, .slice bo bl bc, .int .i64 rt, .bool rk, .slice eo el ec, .slice ho hl hc, .int .i64 ct] 48)) w' ⟨rt, rk, eo, el, ec, ho, hl, hc, ct⟩ es hs be bh ks ∧ Fr [] (w.alloc (.cells #[.int .u8 ak, .int .i64 ma, .int .i64 le, .slice bo bl bc, .int .i64 rt, .bool rk, .slice eo el ec, .slice ho hl hc, .int .i64 ct] 48)) w') := twinR_any (r := ⟨rt, rk, eo, el, ec, ho, hl, hc, ct⟩) (es := es) (hs := hs) (hRp.keep HF0.out)
  have HLf : Hid (∀ W w0 be bh ks, RpB W ⟨rt, rk, eo, el, ec, ho, hl, hc, ct⟩ es hs → TwR w0 W ⟨rt, rk, eo, el, ec, ho, hl, hc, ct⟩ es hs be bh ks → Calls Try.prog 30 #[.agg #[.int .i64 rt, .bool rk, .slice (some ⟨be, 0, none⟩) el (el + 1), .slice (some ⟨bh, 0, none⟩) hl (hl + 1), .int .i64 ct], .agg #[.int .i64 rt, .bool rk, .slice eo el ec, .slice ho hl hc, .int .i64 ct]] W fun e w' => e = .returned (.bool true) ∧ Fr [] W w') := fun W w0 be bh ks hR hT => leftR_any (r := ⟨rt, rk, eo, el, ec, ho, hl, hc, ct⟩) (es := es) (hs := hs) (be := be) (bh := bh) (ks := ks) hR hT
  have HG : Hid (∀ W w0 be bh ks, Fr [] w W → w.heap.size ≤ w0.heap.size → TwR w0 W ⟨rt, rk, eo, el, ec, ho, hl, hc, ct⟩ es hs be bh ks → Calls Try.prog 21 #[.pointer p, .agg #[.int .i64 rt, .bool rk, .slice (some ⟨be, 0, none⟩) el (el + 1), .slice (some ⟨bh, 0, none⟩) hl (hl + 1), .int .i64 ct]] W fun e w' => e = .returned (.int .i64 E) ∧ QA be bh ks w' ∧ Old w W w') := hP
  have HY : Hid (∀ W be bh ks, QA be bh ks W → Calls Try.prog 29 #[.pointer q, .agg #[.int .i64 rt, .bool rk, .slice eo el ec, .slice ho hl hc, .int .i64 ct]] W fun e w' => e = .returned (.int .i64 E) ∧ QB be bh ks w' ∧ Old w W w') := hD
  have HI : Hid (∀ W be bh ks, QB be bh ks W → RpB W ⟨rt, rk, eo, el, ec, ho, hl, hc, ct⟩ es hs) := hI
  have HC : Hid (∀ W W' be bh ks, QB be bh ks W → Fr (be :: bh :: ks) W W' → QC W') := hC
  have HWa : Hid (w.heap.size ≤ (w.alloc (.cells #[.int .u8 ak, .int .i64 ma, .int .i64 le, .slice bo bl bc, .int .i64 rt, .bool rk, .slice eo el ec, .slice ho hl hc, .int .i64 ct] 48)).heap.size) := HF0.out.size
  have HHl : Hid ((hl = hs.length ∧ ∀ t ∈ hs, t.L = t.vs.length) ∧ el = es.length) := ⟨⟨hRp.hl, fun t ht => (hRp.yh.each t ht).len⟩, hRp.el⟩
  have hel : el ≤ 4398046511104 := by have := hRp.ye.few; have := hRp.el; simp only at *; omega
  have hhl : hl ≤ 4398046511104 := by have := hRp.yh.few; have := hRp.hl; simp only at *; omega
  have HVL : Hid (∀ j, (hs.getD j Hd.zero).L ≤ 4398046511104) := fun j => by
    by_cases hj : j < hs.length
    · have h1 := (hRp.yh.each _ (hgetD_mem hs j hj)).len
      have h2 := (hRp.yh.each _ (hgetD_mem hs j hj)).rs.few
      omega
    · rw [show hs.getD j Hd.zero = Hd.zero from by simp [List.getD, Nat.le_of_not_lt hj]]
      exact Nat.zero_le _
  subst h0
  clear hP hD hI hC hA hRp
  obtain ⟨a0, a1, a2, a3, a4, a5, a6, a7, a8⟩ := HAc.out _ (heap_alloc_new w _)
  go_enter Try.func12, Try.ntmps12
  go_wp2_with fail
  refine HTR.out.mono ?_
  rintro e w1 ⟨be, bh, ks, rfl, hT, hf1⟩
  have HF1 : Hid (Fr [] w (w1.alloc (.cells #[.int .i64 rt, .bool rk, .slice (some ⟨be, 0, none⟩) el (el + 1), .slice (some ⟨bh, 0, none⟩) hl (hl + 1), .int .i64 ct] 46))) := (HF0.out.then hf1).then (Fr.alloc [] w1 _)
  have HA1 : Hid ((w1.alloc (.cells #[.int .i64 rt, .bool rk, .slice (some ⟨be, 0, none⟩) el (el + 1), .slice (some ⟨bh, 0, none⟩) hl (hl + 1), .int .i64 ct] 46)).heap[w.heap.size]? = some (.cells #[.int .u8 2, .int .i64 ma, .int .i64 le, .slice bo bl bc, .int .i64 rt, .bool rk, .slice eo el ec, .slice ho hl hc, .int .i64 ct] 48 (0, 0))) := (hf1.then (Fr.alloc [] w1 _)).keep (heap_alloc_new w _) (by simp)
  have HT1 : Hid (TwR (w.alloc (.cells #[.int .u8 2, .int .i64 ma, .int .i64 le, .slice bo bl bc, .int .i64 rt, .bool rk, .slice eo el ec, .slice ho hl hc, .int .i64 ct] 48)) (w1.alloc (.cells #[.int .i64 rt, .bool rk, .slice (some ⟨be, 0, none⟩) el (el + 1), .slice (some ⟨bh, 0, none⟩) hl (hl + 1), .int .i64 ct] 46)) ⟨rt, rk, eo, el, ec, ho, hl, hc, ct⟩ es hs be bh ks) := hT.keep (Fr.alloc [] w1 _)
  have HG1 : Hid ((w1.alloc (.cells #[.int .i64 rt, .bool rk, .slice (some ⟨be, 0, none⟩) el (el + 1), .slice (some ⟨bh, 0, none⟩) hl (hl + 1), .int .i64 ct] 46)).heap[w1.heap.size]? = some (.cells #[.int .i64 rt, .bool rk, .slice (some ⟨be, 0, none⟩) el (el + 1), .slice (some ⟨bh, 0, none⟩) hl (hl + 1), .int .i64 ct] 46 (0, 0))) := heap_alloc_new w1 _
  have HGn : Hid (w.heap.size ≤ w1.heap.size) := (HF0.out.then hf1).size
  clear hT hf1 HTR a0 a1 a2 a3 a4 a5 a6 a7 a8
  go_wp2_with fail
  refine (HG.out _ _ be bh ks HF1.out HWa.out HT1.out).mono ?_
  rintro e w2 ⟨rfl, hqa, hO⟩
  have HQA : Hid (QA be bh ks w2) := hqa
  have HA2 : Hid (w2.heap[w.heap.size]? = some (.cells #[.int .u8 2, .int .i64 ma, .int .i64 le, .slice bo bl bc, .int .i64 rt, .bool rk, .slice eo el ec, .slice ho hl hc, .int .i64 ct] 48 (0, 0))) := hO.keep (Nat.le_refl _) HA1.out
  have HT2 : Hid (TwR (w.alloc (.cells #[.int .u8 2, .int .i64 ma, .int .i64 le, .slice bo bl bc, .int .i64 rt, .bool rk, .slice eo el ec, .slice ho hl hc, .int .i64 ct] 48)) w2 ⟨rt, rk, eo, el, ec, ho, hl, hc, ct⟩ es hs be bh ks) := HT1.out.old HWa.out hO
  have HG2 : Hid (w2.heap[w1.heap.size]? = some (.cells #[.int .i64 rt, .bool rk, .slice (some ⟨be, 0, none⟩) el (el + 1), .slice (some ⟨bh, 0, none⟩) hl (hl + 1), .int .i64 ct] 46 (0, 0))) := hO.keep HGn.out HG1.out
  clear hqa hO HA1 HT1 HG1 HG HF1
  obtain ⟨a0, a1, a2, a3, a4, a5, a6, a7, a8⟩ := HAc.out _ HA2.out
  go_wp2_with fail
  refine (HY.out _ be bh ks HQA.out).mono ?_
  rintro e w3 ⟨rfl, hqb, hO⟩
  have HQB : Hid (QB be bh ks w3) := hqb
  have HA3 : Hid (w3.heap[w.heap.size]? = some (.cells #[.int .u8 2, .int .i64 ma, .int .i64 le, .slice bo bl bc, .int .i64 rt, .bool rk, .slice eo el ec, .slice ho hl hc, .int .i64 ct] 48 (0, 0))) := hO.keep (Nat.le_refl _) HA2.out
  have HT3 : Hid (TwR (w.alloc (.cells #[.int .u8 2, .int .i64 ma, .int .i64 le, .slice bo bl bc, .int .i64 rt, .bool rk, .slice eo el ec, .slice ho hl hc, .int .i64 ct] 48)) w3 ⟨rt, rk, eo, el, ec, ho, hl, hc, ct⟩ es hs be bh ks) := HT2.out.old HWa.out hO
  have HG3 : Hid (w3.heap[w1.heap.size]? = some (.cells #[.int .i64 rt, .bool rk, .slice (some ⟨be, 0, none⟩) el (el + 1), .slice (some ⟨bh, 0, none⟩) hl (hl + 1), .int .i64 ct] 46 (0, 0))) := hO.keep HGn.out HG2.out
  clear hqb hO HA2 HT2 HG2 HY HQA a0 a1 a2 a3 a4 a5 a6 a7 a8
  obtain ⟨a0, a1, a2, a3, a4, a5, a6, a7, a8⟩ := HAc.out _ HA3.out
  obtain ⟨b0, b1, b2, b3, b4⟩ := rp_cells HG3.out
  go_wp2_with fail
  refine (HLf.out _ _ be bh ks (HI.out _ _ _ _ HQB.out) HT3.out).mono ?_
  rintro e w4 ⟨rfl, hf4⟩
  have HF4 : Hid (Fr [] w3 w4) := hf4
  have HT4 : Hid (TwR (w.alloc (.cells #[.int .u8 2, .int .i64 ma, .int .i64 le, .slice bo bl bc, .int .i64 rt, .bool rk, .slice eo el ec, .slice ho hl hc, .int .i64 ct] 48)) w4 ⟨rt, rk, eo, el, ec, ho, hl, hc, ct⟩ es hs be bh ks) := HT3.out.keep hf4
  have HG4 : Hid (w4.heap[w1.heap.size]? = some (.cells #[.int .i64 rt, .bool rk, .slice (some ⟨be, 0, none⟩) el (el + 1), .slice (some ⟨bh, 0, none⟩) hl (hl + 1), .int .i64 ct] 46 (0, 0))) := hf4.keep HG3.out (by simp)
  clear hf4 HA3 HT3 HG3 HLf HAc HF0 HI a0 a1 a2 a3 a4 a5 a6 a7 a8 b0 b1 b2 b3 b4
  obtain ⟨g, hg⟩ : ∃ g, g = w1.heap.size := ⟨_, rfl⟩
  rw [← hg] at HG4 ⊢
  clear HGn
  clear hg
  have HB4 : Hid (∀ W, Fr [be] w4 W → W.cell? ⟨g, 2, none⟩ = some (.slice (some ⟨be, 0, none⟩) el (el + 1))) := fun W hW => (rp_cells (hW.keep HG4.out (by simp; exact ty_ne17 HG4.out HT4.out.re (by decide)))).2.2.1
  go_wp2_with fail
  go_loopw [14] (fun ii wr => ∃ i : Nat, ii = .int .i64 i ∧ i ≤ el ∧ Hid (∃ cs : Array Value, wr.heap[be]? = some (.cells cs 85 (0, 0)) ∧ cs.size = (el + 1) * 2) ∧ Hid (Fr [be] w4 wr)) (fun ii _ => el - (RowKit.intOf ii).toNat)
  case atStart => exact ⟨0, rfl, Nat.zero_le _, ⟨_, HT4.out.re, by have h1 := eysC_length (es ++ [spE]); rw [List.length_append] at h1; simp only [List.length_cons, List.length_nil] at h1; rw [HHl.out.2]; simpa using h1⟩, Fr.refl _ _⟩
  case round =>
    obtain ⟨i, rfl, hiM, HCs, HFw⟩ := hrel
    have c2 := HB4.out wr HFw.out
    by_cases hil : i < el
    · obtain ⟨cs, hcs, hsz⟩ := HCs.out
      obtain ⟨⟨u0, p1⟩, ⟨u1, p2⟩, p3, p4, ⟨cs', q1, q2, _⟩, hF⟩ := put_two (.string ⟨#[115, 112, 111, 105, 108, 116]⟩) (.string ⟨#[]⟩) hcs (show i * 2 + 1 < cs.size by rw [hsz]; omega)
      have HC2 : Hid (∃ cs : Array Value, ((wr.setCell ⟨be, i * 2, none⟩ (.string ⟨#[115, 112, 111, 105, 108, 116]⟩)).setCell ⟨be, i * 2 + 1, none⟩ (.string ⟨#[]⟩)).heap[be]? = some (.cells cs 85 (0, 0)) ∧ cs.size = (el + 1) * 2) := ⟨cs', q1, by rw [q2]; exact hsz⟩
      have HF3 : Hid (Fr [be] w4 ((wr.setCell ⟨be, i * 2, none⟩ (.string ⟨#[115, 112, 111, 105, 108, 116]⟩)).setCell ⟨be, i * 2 + 1, none⟩ (.string ⟨#[]⟩))) := HFw.out.then hF
      clear hcs hsz HCs q1 q2 hF
      go_wp2
      go_roundw
      case rel => exact ⟨i + 1, by simp, by omega, HC2, HF3⟩
      case measure => simp [RowKit.intOf]; omega
    · have hie : el = i := by omega
      subst hie
      have HOv : Hid (Oz (be :: bh :: ks) w3 wr g bh hs ks hl #[.int .i64 rt, .bool rk, .slice (some ⟨be, 0, none⟩) el (el + 1), .slice (some ⟨bh, 0, none⟩) hl (hl + 1), .int .i64 ct] 0) := Oz.begin (r := ⟨rt, rk, eo, el, ec, ho, hl, hc, ct⟩) HT4.out HHl.out.1.2 HHl.out.1.1 HF4.out HG4.out HFw.out
      have HBx : Hid (∀ W j, Oz (be :: bh :: ks) w3 W g bh hs ks hl #[.int .i64 rt, .bool rk, .slice (some ⟨be, 0, none⟩) el (el + 1), .slice (some ⟨bh, 0, none⟩) hl (hl + 1), .int .i64 ct] j → W.cell? ⟨g, 3, none⟩ = some (.slice (some ⟨bh, 0, none⟩) hl (hl + 1))) := fun W j hO => (rp_cells hO.bxr).2.2.2.1
      clear HB4 HFw HCs HT4 HG4 HF4
      go_wp2_with fail
      clear c2
      go_loopg [15] hl (fun gk ii wq => ∃ m : Nat, ii = .int .i64 m ∧ m ≤ hl ∧ hl - m ≤ gk ∧ Hid (Oz (be :: bh :: ks) w3 wq g bh hs ks hl #[.int .i64 rt, .bool rk, .slice (some ⟨be, 0, none⟩) el (el + 1), .slice (some ⟨bh, 0, none⟩) hl (hl + 1), .int .i64 ct] m))
      case atStart => exact ⟨0, by simp, Nat.zero_le _, by omega, HOv⟩
      case round =>
        obtain ⟨m, rfl, hmM, hgk, HO⟩ := hrel
        have c3 := HBx.out _ _ HO.out
        by_cases hml : m < hl
        · have HLm : Hid (∃ B Lm, B = ks.getD m 0 ∧ Lm = (hs.getD m Hd.zero).L ∧ Lm ≤ 4398046511104) := ⟨_, _, rfl, rfl, HVL.out m⟩
          obtain ⟨B, Lm, hB, hLm, hLb⟩ := HLm.out
          have HBL : Hid (B = ks.getD m 0 ∧ Lm = (hs.getD m Hd.zero).L) := ⟨hB, hLm⟩
          have HCl : Hid (∀ W, Oz (be :: bh :: ks) w3 W g bh hs ks hl #[.int .i64 rt, .bool rk, .slice (some ⟨be, 0, none⟩) el (el + 1), .slice (some ⟨bh, 0, none⟩) hl (hl + 1), .int .i64 ct] m → W.cell? ⟨g, 3, none⟩ = some (.slice (some ⟨bh, 0, none⟩) hl (hl + 1)) ∧ W.cell? ⟨bh, m * 2 + 1, none⟩ = some (.slice (some ⟨B, 0, none⟩) Lm (Lm + 1))) := fun W hO => ⟨HBx.out _ _ hO, by rw [HBL.out.1, HBL.out.2]; exact hO.cell hml⟩
          clear hB hLm HLm
          go_wp2_with fail
          go_loopg [16] Lm (fun gj ii wq => ∃ k : Nat, ii = .int .i64 k ∧ k ≤ Lm ∧ Lm - k ≤ gj ∧ Hid (Oz (be :: bh :: ks) w3 wq g bh hs ks hl #[.int .i64 rt, .bool rk, .slice (some ⟨be, 0, none⟩) el (el + 1), .slice (some ⟨bh, 0, none⟩) hl (hl + 1), .int .i64 ct] m))
          case atStart => exact ⟨0, by simp, Nat.zero_le _, by omega, HO⟩
          case round =>
            obtain ⟨k, rfl, hkM, hgj, HOk⟩ := hrel
            obtain ⟨d3, d4⟩ := HCl.out _ HOk.out
            by_cases hkl : k < Lm
            · have hV := HOk.out.ver hml k (by rw [← HBL.out.2]; exact hkl) (.int .i64 (-77)) (.string ⟨#[]⟩) (.bool false)
              rw [← HBL.out.1] at hV
              obtain ⟨⟨u0, p1⟩, ⟨u1, p2⟩, ⟨u2, p3⟩, p4, p5, p6, hO2⟩ := hV
              have HO2 : Hid (Oz _ _ _ _ _ _ _ _ _ _) := hO2
              clear hO2 c3
              go_wp2
              go_roundg (Lm - (k + 1))
              case measure => omega
              case rel => exact ⟨k + 1, by simp, by omega, by omega, HO2⟩
            · have hC := HOk.out.clr hml (.string ⟨#[]⟩) (.slice none 0 0)
              obtain ⟨⟨u0, p1⟩, ⟨u1, p2⟩, p3, p4, hO2⟩ := hC
              have HO2 : Hid (Oz _ _ _ _ _ _ _ _ _ _) := hO2
              clear hO2 c3 p2
              go_wp2
              go_roundg (hl - (m + 1))
              case measure => omega
              case rel => exact ⟨m + 1, by simp, by omega, by omega, HO2⟩
        · go_wp2
          go_ret
          exact ⟨by simp, HC.out _ _ _ _ _ HQB.out HO.out.fr⟩
end Go.Proofs.Ytpdkdgmaofhlkaa
