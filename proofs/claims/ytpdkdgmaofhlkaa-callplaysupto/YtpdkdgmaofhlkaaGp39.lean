/- Texts of this claim laid together, one behind the other: contracts and plain lemmas; conditions as each names them. -/
import Derived.Test.YtpdkdgmaofhlkaaGp26
import Derived.Test.YtpdkdgmaofhlkaaGp38
import Derived.Test.YtpdkdgmaofhlkaaGp34
import Derived.Test.YtpdkdgmaofhlkaaGp36
/- The document's task: New. Conditions as each names them. -/
namespace Go.Proofs.Ytpdkdgmaofhlkaa
open Go.ChangeShapes Go.WideShapes Go.ChangeAt Go.RowKit Go.Lib
set_option linter.unusedVariables false
set_option linter.unusedSimpArgs false

/-- A task that New has just made. -/
def Yt.new (n l s x q k : Int) (key en : ByteArray) : Yt := ⟨n, l, s, x, q, k, key, en, false, 0, none, 0, 0, none, 0, 0, 0, none, 0, 0⟩
set_option maxHeartbeats 4000000 in
set_option maxRecDepth 100000 in
theorem ynew_no (n l s x q k : Int) (key en : ByteArray) (w : World) (hk : 0 ≤ k ∧ k ≤ 255) (he : newE n l s x q k key en ≠ 0) :
    Calls Try.prog 11 #[.int .i64 n, .agg #[.int .i64 l, .int .i64 s, .int .i64 x, .int .i64 q], .agg #[.int .u8 k, .string key, .string en]] w fun e w' => e = .returned (.tuple #[.pointer none, .int .i64 (newE n l s x q k key en)]) ∧ Fr [] w w' := by
  have HC := fun w => ocheck_cells l s x q w
  have HK := fun w => yccheck_any k key en w hk
  have HF0 : Hid (Fr [] w ((w.alloc (.cells #[.int .i64 l, .int .i64 s, .int .i64 x, .int .i64 q] 30)).alloc (.cells #[.int .u8 k, .string key, .string en] 24))) := (Fr.alloc _ _ _).then (Fr.alloc _ _ _)
  by_cases hn : 0 ≤ n
  · have E : newE n l s x q k key en = 1 := if_pos hn
    rw [E]
    clear E he HC HK
    go_enter Try.func11, Try.ntmps11
    go_wp2
    refine bodyPost_ret (results_tmp2 rfl _ _ _) rfl ?_
    exact ⟨rfl, HF0.out⟩
  · by_cases hm : Cf.may ⟨l, s, x, q⟩
    · have E : newE n l s x q k key en = ckE k key en := by unfold newE; rw [if_neg hn, if_neg (not_not_intro hm)]
      have hc : ¬ okC k key en := fun h => he (by rw [E]; exact if_pos h)
      have E1 : ckE k key en = 1 := if_neg hc
      have E2 : Cf.err ⟨l, s, x, q⟩ = 0 := if_pos hm
      rw [E, E1]
      rw [E1] at HK
      rw [E2] at HC
      clear E E1 E2 he hm hc
      go_enter Try.func11, Try.ntmps11
      go_wp2_with fail
      refine (HC _).mono ?_
      rintro e w1 ⟨rfl, hf1⟩
      have HF : Hid (Fr [] w w1) := HF0.out.then hf1
      have c0 : w1.cell? ⟨w.heap.size + 1, 0, none⟩ = some (.int .u8 k) := by rw [World.cell?_of_block (hf1.block _ (by simp) (by simp))]; simp [World.cell?_alloc_at]
      have c1 : w1.cell? ⟨w.heap.size + 1, 1, none⟩ = some (.string key) := by rw [World.cell?_of_block (hf1.block _ (by simp) (by simp))]; simp [World.cell?_alloc_at]
      have c2 : w1.cell? ⟨w.heap.size + 1, 2, none⟩ = some (.string en) := by rw [World.cell?_of_block (hf1.block _ (by simp) (by simp))]; simp [World.cell?_alloc_at]
      clear hf1 HF0
      go_wp2_with fail
      refine (HK _).mono ?_
      rintro e w2 ⟨rfl, hf2⟩
      have HF2 : Hid (Fr [] w w2) := HF.out.then hf2
      clear hf2 HF
      go_wp2
      refine bodyPost_ret (results_tmp2 rfl _ _ _) rfl ?_
      exact ⟨rfl, HF2.out⟩
    · have E : newE n l s x q k key en = 7 := by unfold newE; rw [if_neg hn, if_pos hm]
      have E2 : Cf.err ⟨l, s, x, q⟩ = 7 := if_neg hm
      rw [E]
      rw [E2] at HC
      clear E E2 he hm HK
      go_enter Try.func11, Try.ntmps11
      go_wp2_with fail
      refine (HC _).mono ?_
      rintro e w1 ⟨rfl, hf1⟩
      have HF : Hid (Fr [] w w1) := HF0.out.then hf1
      clear hf1 HF0
      go_wp2
      refine bodyPost_ret (results_tmp2 rfl _ _ _) rfl ?_
      exact ⟨rfl, HF.out⟩
set_option maxHeartbeats 4000000 in
set_option maxRecDepth 100000 in
theorem ynew_any (n l s x q k : Int) (key en : ByteArray) (w : World) (hk : 0 ≤ k ∧ k ≤ 255) (he : newE n l s x q k key en = 0) :
    Calls Try.prog 11 #[.int .i64 n, .agg #[.int .i64 l, .int .i64 s, .int .i64 x, .int .i64 q], .agg #[.int .u8 k, .string key, .string en]] w fun e w' => ∃ t, e = .returned (.tuple #[.pointer (some ⟨t, 0, none⟩), .int .i64 0]) ∧ w.heap.size ≤ t ∧ YtM w' t (Yt.new n l s x q k key en) ∧ Fr [] w w' := by
  have HC := fun w => ocheck_cells l s x q w
  have HK := fun w => yccheck_any k key en w hk
  have HF0 : Hid (Fr [] w ((w.alloc (.cells #[.int .i64 l, .int .i64 s, .int .i64 x, .int .i64 q] 30)).alloc (.cells #[.int .u8 k, .string key, .string en] 24))) := (Fr.alloc _ _ _).then (Fr.alloc _ _ _)
  unfold newE at he
  have hn : ¬ 0 ≤ n := fun h => by rw [if_pos h] at he; cases he
  rw [if_neg hn] at he
  have hm : Cf.may ⟨l, s, x, q⟩ := by
    by_cases h : Cf.may ⟨l, s, x, q⟩
    · exact h
    · rw [if_pos h] at he; cases he
  rw [if_neg (not_not_intro hm)] at he
  have E2 : Cf.err ⟨l, s, x, q⟩ = 0 := if_pos hm
  rw [he] at HK
  rw [E2] at HC
  clear E2 he hm
  go_enter Try.func11, Try.ntmps11
  go_wp2_with fail
  refine (HC _).mono ?_
  rintro e w1 ⟨rfl, hf1⟩
  have HF : Hid (Fr [] w w1) := HF0.out.then hf1
  have HB : Hid (w.heap.size + 2 ≤ w1.heap.size) := by have := hf1.size; simp at this; exact this
  have c0 : w1.cell? ⟨w.heap.size + 1, 0, none⟩ = some (.int .u8 k) := by rw [World.cell?_of_block (hf1.block _ (by simp) (by simp))]; simp [World.cell?_alloc_at]
  have c1 : w1.cell? ⟨w.heap.size + 1, 1, none⟩ = some (.string key) := by rw [World.cell?_of_block (hf1.block _ (by simp) (by simp))]; simp [World.cell?_alloc_at]
  have c2 : w1.cell? ⟨w.heap.size + 1, 2, none⟩ = some (.string en) := by rw [World.cell?_of_block (hf1.block _ (by simp) (by simp))]; simp [World.cell?_alloc_at]
  have d0 : w1.cell? ⟨w.heap.size, 0, none⟩ = some (.int .i64 l) := by rw [World.cell?_of_block (hf1.block w.heap.size (by simp; omega) (by simp)), World.cell?_of_block (w := w.alloc _) (Below.heap_alloc _ _ _ (by simp))]; simp [World.cell?_alloc_at]
  have d1 : w1.cell? ⟨w.heap.size, 1, none⟩ = some (.int .i64 s) := by rw [World.cell?_of_block (hf1.block w.heap.size (by simp; omega) (by simp)), World.cell?_of_block (w := w.alloc _) (Below.heap_alloc _ _ _ (by simp))]; simp [World.cell?_alloc_at]
  have d2 : w1.cell? ⟨w.heap.size, 2, none⟩ = some (.int .i64 x) := by rw [World.cell?_of_block (hf1.block w.heap.size (by simp; omega) (by simp)), World.cell?_of_block (w := w.alloc _) (Below.heap_alloc _ _ _ (by simp))]; simp [World.cell?_alloc_at]
  have d3 : w1.cell? ⟨w.heap.size, 3, none⟩ = some (.int .i64 q) := by rw [World.cell?_of_block (hf1.block w.heap.size (by simp; omega) (by simp)), World.cell?_of_block (w := w.alloc _) (Below.heap_alloc _ _ _ (by simp))]; simp [World.cell?_alloc_at]
  have HQ : Hid (∀ W, Fr [] w1 W → ∀ j, W.cell? ⟨w.heap.size, j, none⟩ = w1.cell? ⟨w.heap.size, j, none⟩ ∧ W.cell? ⟨w.heap.size + 1, j, none⟩ = w1.cell? ⟨w.heap.size + 1, j, none⟩) := fun W hW j => ⟨World.cell?_of_block (hW.block w.heap.size (by have := HB.out; omega) (by simp)), World.cell?_of_block (hW.block (w.heap.size + 1) (by have := HB.out; omega) (by simp))⟩
  clear hf1 HF0
  go_wp2_with fail
  refine (HK _).mono ?_
  rintro e w2 ⟨rfl, hf2⟩
  have HF2 : Hid (Fr [] w w2) := HF.out.then hf2
  have k0 := ((HQ.out w2 hf2 0).2).trans c0
  have k1 := ((HQ.out w2 hf2 1).2).trans c1
  have k2 := ((HQ.out w2 hf2 2).2).trans c2
  have l0 := ((HQ.out w2 hf2 0).1).trans d0
  have l1 := ((HQ.out w2 hf2 1).1).trans d1
  have l2 := ((HQ.out w2 hf2 2).1).trans d2
  have l3 := ((HQ.out w2 hf2 3).1).trans d3
  clear hf2 HF c0 c1 c2 d0 d1 d2 d3 HQ
  go_wp2
  refine bodyPost_ret (results_tmp2 rfl _ _ _) rfl ?_
  refine ⟨w2.heap.size, rfl, HF2.out.size, ?_, HF2.out.then (Fr.alloc _ _ _)⟩
  exact heap_alloc_new w2 _
end Go.Proofs.Ytpdkdgmaofhlkaa
/- The document's task: what its replies come to, as mathematics; Answer, ahead of the last reply. Conditions as each names them. -/
namespace Go.Proofs.Ytpdkdgmaofhlkaa
open Go.ChangeShapes Go.WideShapes Go.ChangeAt Go.RowKit Go.Lib Go.Sort
set_option linter.unusedVariables false
set_option linter.unusedSimpArgs false

/-- A reply, and what its lists hold. -/
structure Rx where
  r : Rp
  es : List Ey
  hs : List Hd
def Rx.zero : Rx := ⟨⟨0, false, none, 0, 0, none, 0, 0, 0⟩, [], []⟩
/-- Its lists can be read. -/
structure RxB (w : World) (x : Rx) : Prop where
  re : RrE w x.r.eo x.es
  le : x.r.el = x.es.length
  me : x.r.el ≤ 4194304
  rh : RdH w x.r.ho x.hs
  lh : x.r.hl = x.hs.length
  mh : x.r.hl ≤ 4194304
theorem RxB.keep {w w' : World} {x : Rx} (h : RxB w x) (hf : Fr [] w w') : RxB w' x := ⟨h.re.keep hf, h.le, h.me, h.rh.keep hf, h.lh, h.mh⟩
def rxC (xs : List Rx) : List Value := xs.flatMap fun x => x.r.c
theorem rxC_snoc (xs : List Rx) (x : Rx) : rxC (xs ++ [x]) = rxC xs ++ x.r.a.toList := by simp [rxC, Rp.c, Rp.a]
theorem rxC_get : ∀ (xs : List Rx) (i j : Nat), i < xs.length → j < 5 → (rxC xs)[i * 5 + j]? = ((xs.getD i Rx.zero).r.c)[j]?
  | [], i, j, h, _ => by simp at h
  | x :: xs, 0, j, _, hj => by
    have : (rxC (x :: xs)) = x.r.c ++ rxC xs := by simp [rxC]
    rw [this, List.getElem?_append_left (by simp [Rp.c]; omega)]
    simp
  | x :: xs, i + 1, j, h, hj => by
    have : (rxC (x :: xs)) = x.r.c ++ rxC xs := by simp [rxC]
    rw [this, List.getElem?_append_right (by simp [Rp.c]; omega), show (i + 1) * 5 + j - x.r.c.length = i * 5 + j by simp [Rp.c]; omega, rxC_get xs i j (by simpa using h) hj]
    simp
/-- What the replies come to. -/
def ansE (k : Int) (xs : List Rx) : List Ey := if k = 1 then xs.flatMap (fun x => if x.es.length = 1 then x.es else []) else if k = 2 then sortB Ey.key (xs.flatMap Rx.es) else []
def ansH (k : Int) (xs : List Rx) : List Hd := if k = 4 then sortB Hd.key (xs.flatMap Rx.hs) else []
def ansC (k : Int) (xs : List Rx) : Int := if k = 3 then xs.foldl (fun a x => wrap64 (a + x.r.ct)) 0 else 0
def ansB (k : Int) (xs : List Rx) : Bool := if k = 1 then xs.foldl (fun _ x => decide (x.es.length = 1)) true else true
/-- What Answer answers where all replies are there. -/
def YansP (k ma : Int) (xs : List Rx) (w : World) (e : Ending) (w' : World) : Prop := ∃ eo ec ho hc, e = .returned (.tuple #[.agg (ansA 0 ma (ansB k xs) eo (ansE k xs).length ec (ansC k xs)), .slice ho (ansH k xs).length hc, .int .i64 0]) ∧ RrE w' eo (ansE k xs) ∧ RdH w' ho (ansH k xs) ∧ Fr [] w w'
theorem rx_take (xs : List Rx) (i : Nat) (h : i < xs.length) : xs.take (i + 1) = xs.take i ++ [xs.getD i Rx.zero] := by
  rw [List.take_add_one]
  simp [List.getD, h]
theorem rx_mem (xs : List Rx) (i : Nat) (h : i < xs.length) : xs.getD i Rx.zero ∈ xs := by simp [List.getD, h]
/-- The document's replies, in a row of its own; what they point to can be read. -/
structure Rys (w : World) (T : Yt) (xs : List Rx) : Prop where
  row : w.ownsRow 0 46 5 (.slice T.po T.pl T.pc) T.pl (rxC xs)
  len : T.pl = xs.length
  few : T.pl ≤ 16
  each : ∀ x ∈ xs, RxB w x
theorem Rys.keep {w w' : World} {T : Yt} {xs : List Rx} (h : Rys w T xs) (hf : Fr [] w w') : Rys w' T xs := ⟨owns_keepB h.row hf (by simp), h.len, h.few, fun x hx => (h.each x hx).keep hf⟩
theorem Rys.at {w : World} {T : Yt} {xs : List Rx} (h : Rys w T xs) (i : Nat) (hi : i < T.pl) : ∃ pb, T.po = some ⟨pb, 0, none⟩ ∧ w.cell? ⟨pb, i * 5, none⟩ = some (.int .i64 (xs.getD i Rx.zero).r.to_) ∧ w.cell? ⟨pb, i * 5 + 1, none⟩ = some (.bool (xs.getD i Rx.zero).r.ok) ∧ w.cell? ⟨pb, i * 5 + 2, none⟩ = some (.slice (xs.getD i Rx.zero).r.eo (xs.getD i Rx.zero).r.el (xs.getD i Rx.zero).r.ec) ∧ w.cell? ⟨pb, i * 5 + 3, none⟩ = some (.slice (xs.getD i Rx.zero).r.ho (xs.getD i Rx.zero).r.hl (xs.getD i Rx.zero).r.hc) ∧ w.cell? ⟨pb, i * 5 + 4, none⟩ = some (.int .i64 (xs.getD i Rx.zero).r.ct) := by
  have hr := h.row
  have hi' : i < xs.length := by rw [← h.len]; exact hi
  obtain ⟨g, hg, _⟩ := own_some hr (by omega)
  rw [hg] at hr
  exact ⟨g, hg, own_cell hr (rxC_get xs i 0 hi' (by omega)), own_cell hr (rxC_get xs i 1 hi' (by omega)), own_cell hr (rxC_get xs i 2 hi' (by omega)), own_cell hr (rxC_get xs i 3 hi' (by omega)), own_cell hr (rxC_get xs i 4 hi' (by omega))⟩
theorem hs_bound {w : World} {xs : List Rx} (h : ∀ x ∈ xs, RxB w x) (i : Nat) : ((xs.take i).flatMap Rx.hs).length ≤ i * 4194304 := by
  induction i with
  | zero => simp
  | succ i ih =>
    by_cases hi : i < xs.length
    · rw [rx_take xs i hi, List.flatMap_append, List.length_append, Nat.succ_mul]
      have hm := (h _ (rx_mem xs i hi)).mh
      have hl := (h _ (rx_mem xs i hi)).lh
      rw [hl] at hm
      refine Nat.add_le_add ih ?_
      simpa using hm
    · rw [List.take_of_length_le (by omega)] at ih ⊢
      rw [Nat.succ_mul]
      exact Nat.le_trans ih (Nat.le_add_right _ _)
theorem es_bound {w : World} {xs : List Rx} (h : ∀ x ∈ xs, RxB w x) (i : Nat) : ((xs.take i).flatMap Rx.es).length ≤ i * 4194304 := by
  induction i with
  | zero => simp
  | succ i ih =>
    by_cases hi : i < xs.length
    · rw [rx_take xs i hi, List.flatMap_append, List.length_append, Nat.succ_mul]
      have hm := (h _ (rx_mem xs i hi)).me
      have hl := (h _ (rx_mem xs i hi)).le
      rw [hl] at hm
      refine Nat.add_le_add ih ?_
      simpa using hm
    · rw [List.take_of_length_le (by omega)] at ih ⊢
      rw [Nat.succ_mul]
      exact Nat.le_trans ih (Nat.le_add_right _ _)
set_option maxHeartbeats 800000 in
theorem yans_ord {w : World} {t : Nat} {T : Yt} (h : YtM w t T) (hal : T.al = false) : Calls Try.prog 34 #[.pointer (some ⟨t, 0, none⟩)] w fun e w' => e = .returned (.tuple #[.agg (ansA 0 0 false none 0 0 0), .slice none 0 0, .int .i64 6]) ∧ Fr [] w w' := by
  have hF := Fr.alloc [] w (.cells (ansA 0 0 false none 0 0 0) 72)
  have hA := yall_any (h.keep hF (by simp))
  rw [hal] at hA
  have HA : Hid (Calls _ _ _ _ _) := hA
  have HF : Hid (Fr _ _ _) := hF
  clear h hF hA
  simp only [ansA] at HF HA
  go_enter Try.func34, Try.ntmps34
  go_wp2_with fail
  refine Calls.mono HA.out ?_
  rintro e w1 ⟨rfl, hf1⟩
  have hr : w1.heap[w.heap.size]? = some (.cells (ansA 0 0 false none 0 0 0) 72 (0, 0)) := hf1.keep (heap_alloc_new w _) (by simp)
  have HF1 : Hid (Fr [] w w1) := HF.out.then hf1
  have HR : Hid (w1.heap[w.heap.size]? = some (.cells (ansA 0 0 false none 0 0 0) 72 (0, 0))) := hr
  clear hf1 HA HF hr
  go_wp2_with (refine wpList_storeRow rfl 72 _ _ rfl w.heap.size (ansA 0 0 false none 0 0 0) rfl rfl 72 _ HR.out (by kernel_rfl) rfl (by simp [ansA, Value.oneCell']) ?_; intro w3 hw3 hf3)
  refine bodyPost_ret (results_ctt17 rfl _ _ _ w.heap.size _ rfl (load_ans hw3.out)) rfl ?_
  exact ⟨rfl, HF1.out.on hf3 (fun x hx => by simp at hx; omega)⟩
/-- While the answer is being made: its box, and the one that goes out. -/
structure Ai (w wr : World) (b2 ab : Nat) (t : Nat) (T : Yt) (xs : List Rx) (B : Bool) (eo : Option Addr) (en ec : Nat) (ct : Int) : Prop where
  fr : Fr [] w wr
  n2 : w.heap.size ≤ b2
  na : w.heap.size ≤ ab
  ne : b2 ≠ ab
  r2 : wr.heap[b2]? = some (.cells (ansA 0 0 false none 0 0 0) 72 (0, 0))
  ra : wr.heap[ab]? = some (.cells (ansA 0 T.ma B eo en ec ct) 72 (0, 0))
  yt : YtM wr t T
  rs : Rys wr T xs
theorem Ai.keep {w wr w2 : World} {b2 ab t : Nat} {T : Yt} {xs : List Rx} {B : Bool} {eo : Option Addr} {en ec : Nat} {ct : Int} (h : Ai w wr b2 ab t T xs B eo en ec ct) (hf : Fr [] wr w2) : Ai w w2 b2 ab t T xs B eo en ec ct := ⟨h.fr.then hf, h.n2, h.na, h.ne, hf.keep h.r2 (by simp), hf.keep h.ra (by simp), h.yt.keep hf (by simp), h.rs.keep hf⟩
/-- The answer's box is put anew. -/
theorem Ai.put {w wr w2 : World} {b2 ab t : Nat} {T : Yt} {xs : List Rx} {B B' : Bool} {eo eo' : Option Addr} {en en' ec ec' : Nat} {ct ct' : Int} (h : Ai w wr b2 ab t T xs B eo en ec ct) (hx : ∀ x ∈ xs, RxB w x) (hf : Fr [ab] wr w2) (ha : w2.heap[ab]? = some (.cells (ansA 0 T.ma B' eo' en' ec' ct') 72 (0, 0))) : Ai w w2 b2 ab t T xs B' eo' en' ec' ct' := by
  have hna := h.na
  have hfr : Fr [] w w2 := h.fr.on hf (fun x hx => by simp at hx; omega)
  have hT : ∀ {e : TypeId}, e ≠ 72 → ∀ k ∈ [ab], ∀ cur, wr.heap[k]? ≠ some (.cells cur e (0, 0)) := fun he k hk cur hc => by
    rw [List.mem_singleton.1 hk, h.ra] at hc
    simp only [Option.some.injEq, Obj.cells.injEq] at hc
    exact he hc.2.1.symm
  refine ⟨hfr, h.n2, h.na, h.ne, hf.keep h.r2 (by simp; exact h.ne), ha, h.yt.keep hf (fun hm => ?_), ⟨owns_keepT h.rs.row hf (hT (by decide)), h.rs.len, h.rs.few, fun x hm => (hx x hm).keep hfr⟩⟩
  have := h.yt
  unfold YtM at this
  rw [List.mem_singleton.1 hm, h.ra] at this
  simp only [Option.some.injEq, Obj.cells.injEq] at this
  exact absurd this.2.1 (by decide)
theorem Ai.start {w w1 : World} {t : Nat} {T : Yt} {xs : List Rx} (h : YtM w t T) (hR : Rys w T xs) (hf : Fr [] (w.alloc (.cells (ansA 0 0 false none 0 0 0) 72)) w1) : Ai w (w1.alloc (.cells (ansA 0 T.ma true none 0 0 0) 72)) w.heap.size w1.heap.size t T xs true none 0 0 0 := by
  have h0 := Fr.alloc [] w (.cells (ansA 0 0 false none 0 0 0) 72)
  have h2 := Fr.alloc [] w1 (.cells (ansA 0 T.ma true none 0 0 0) 72)
  have hall := (h0.then hf).then h2
  have hs : w.heap.size < w1.heap.size := lt_of_block (hf.keep (heap_alloc_new w (.cells (ansA 0 0 false none 0 0 0) 72)) (by simp))
  exact ⟨hall, Nat.le_refl _, by omega, by omega, h2.keep (hf.keep (heap_alloc_new w _) (by simp)) (by simp), heap_alloc_new w1 _, h.keep hall (by simp), hR.keep hall⟩
/-- The answer's cells. -/
theorem Ai.ca {w wr : World} {b2 ab t : Nat} {T : Yt} {xs : List Rx} {B : Bool} {eo : Option Addr} {en ec : Nat} {ct : Int} (h : Ai w wr b2 ab t T xs B eo en ec ct) : (wr.cell? ⟨ab, 0, none⟩ = some (.int .i64 0) ∧ wr.cell? ⟨ab, 1, none⟩ = some (.int .i64 T.ma) ∧ wr.cell? ⟨ab, 2, none⟩ = some (.bool B) ∧ wr.cell? ⟨ab, 3, none⟩ = some (.slice eo en ec) ∧ wr.cell? ⟨ab, 4, none⟩ = some (.int .i64 ct)) ∧ (wr.frozen? ⟨ab, 2, none⟩ = false ∧ wr.frozen? ⟨ab, 3, none⟩ = false ∧ wr.frozen? ⟨ab, 4, none⟩ = false) := by
  refine ⟨an_cells h.ra, ?_⟩
  have : ∀ j, wr.frozen? ⟨ab, j, none⟩ = false := fun j => by simp [World.frozen?, h.ra]
  exact ⟨this 2, this 3, this 4⟩
theorem Ai.cb {w wr : World} {b2 ab t : Nat} {T : Yt} {xs : List Rx} {B : Bool} {eo : Option Addr} {en ec : Nat} {ct : Int} (h : Ai w wr b2 ab t T xs B eo en ec ct) : (wr.cell? ⟨b2, 0, none⟩ = some (.int .i64 0) ∧ wr.cell? ⟨b2, 1, none⟩ = some (.int .i64 0) ∧ wr.cell? ⟨b2, 2, none⟩ = some (.bool false) ∧ wr.cell? ⟨b2, 3, none⟩ = some (.slice none 0 0) ∧ wr.cell? ⟨b2, 4, none⟩ = some (.int .i64 0)) ∧ (wr.frozen? ⟨b2, 0, none⟩ = false ∧ wr.frozen? ⟨b2, 1, none⟩ = false ∧ wr.frozen? ⟨b2, 2, none⟩ = false ∧ wr.frozen? ⟨b2, 3, none⟩ = false ∧ wr.frozen? ⟨b2, 4, none⟩ = false) := by
  refine ⟨an_cells h.r2, ?_⟩
  have : ∀ j, wr.frozen? ⟨b2, j, none⟩ = false := fun j => by simp [World.frozen?, h.r2]
  exact ⟨this 0, this 1, this 2, this 3, this 4⟩
/-- The answer goes out. -/
theorem Ai.out {w wr : World} {b2 ab t : Nat} {T : Yt} {xs : List Rx} {B : Bool} {eo : Option Addr} {en ec : Nat} {ct : Int} (h : Ai w wr b2 ab t T xs B eo en ec ct) :
    (((((wr.setCell ⟨b2, 0, none⟩ (.int .i64 0)).setCell ⟨b2, 1, none⟩ (.int .i64 T.ma)).setCell ⟨b2, 2, none⟩ (.bool B)).setCell ⟨b2, 3, none⟩ (.slice eo en ec)).setCell ⟨b2, 4, none⟩ (.int .i64 ct)).heap[b2]? = some (.cells (ansA 0 T.ma B eo en ec ct) 72 (0, 0)) ∧ Fr [b2] wr (((((wr.setCell ⟨b2, 0, none⟩ (.int .i64 0)).setCell ⟨b2, 1, none⟩ (.int .i64 T.ma)).setCell ⟨b2, 2, none⟩ (.bool B)).setCell ⟨b2, 3, none⟩ (.slice eo en ec)).setCell ⟨b2, 4, none⟩ (.int .i64 ct)) ∧ Fr [] w (((((wr.setCell ⟨b2, 0, none⟩ (.int .i64 0)).setCell ⟨b2, 1, none⟩ (.int .i64 T.ma)).setCell ⟨b2, 2, none⟩ (.bool B)).setCell ⟨b2, 3, none⟩ (.slice eo en ec)).setCell ⟨b2, 4, none⟩ (.int .i64 ct)) := by
  have hn := h.n2
  have hfs : Fr [b2] wr (((((wr.setCell ⟨b2, 0, none⟩ (.int .i64 0)).setCell ⟨b2, 1, none⟩ (.int .i64 T.ma)).setCell ⟨b2, 2, none⟩ (.bool B)).setCell ⟨b2, 3, none⟩ (.slice eo en ec)).setCell ⟨b2, 4, none⟩ (.int .i64 ct)) := ((((Fr.set _ _ _ (by simp)).then (Fr.set _ _ _ (by simp))).then (Fr.set _ _ _ (by simp))).then (Fr.set _ _ _ (by simp))).then (Fr.set _ _ _ (by simp))
  refine ⟨?_, hfs, h.fr.on hfs (fun x hx => by simp at hx; omega)⟩
  rw [row_put17 _ (row_put17 _ (row_put17 _ (row_put17 _ (row_put17 _ h.r2))))]
  rfl
end Go.Proofs.Ytpdkdgmaofhlkaa
