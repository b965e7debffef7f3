/- Texts of this claim laid together, one behind the other: contracts and plain lemmas; conditions as each names them. -/
import Derived.Test.YtaaghcimfcjehaaGreatDoorGp33
import Derived.Laws.AppendOwn
/- The statements' own check of some fixed answers (the function lives) is true. Conditions as it names them. -/
namespace Go.Proofs.YtaaghcimfcjehaaGreatDoor
open Go.ChangeShapes Go.WideShapes Go.ChangeAt Go.RowKit Go.Lib Go.Maps
set_option linter.unusedVariables false
set_option linter.unusedSimpArgs false

def lTm (S : Nat) : List Tm := [⟨1, some ⟨S, 0, none⟩, 1, 1, lW⟩]
theorem lTm_txs (S : Nat) : txs (lTm S) = lT := rfl
def bA : Obj := .cells #[.int .i64 1, .int .i64 1, .int .i64 4, .int .i64 1] 23
def bB : Obj := .cells #[.string ⟨#[97]⟩, .string ⟨#[49]⟩, .bool false] 92
def bC (S : Nat) : Obj := .cells #[.int .i64 1, .slice (some ⟨S, 0, none⟩) 1 1] 66
def evV (e : Ev) : List Value := [.int .i64 e.t, .int .u8 e.k, .int .i64 e.n, .int .i64 e.s, .int .i64 e.c, .int .i64 e.m]
def bE : Obj := .cells (lE.flatMap evV).toArray 62
def wLv (w : World) : World := (((w.alloc bA).alloc bB).alloc (bC (w.heap.size + 1))).alloc bE
theorem wLv_fr (w : World) : Fr [] w (wLv w) := (((Fr.alloc [] w _).then (Fr.alloc [] _ _)).then (Fr.alloc [] _ _)).then (Fr.alloc [] _ _)
theorem wLv_a (w : World) : (wLv w).heap[w.heap.size]? = some bA := by
  unfold wLv
  exact (Below.heap_alloc _ _ _ (by simp <;> omega)).trans ((Below.heap_alloc _ _ _ (by simp <;> omega)).trans ((Below.heap_alloc _ _ _ (by simp)).trans (heap_alloc_new w _)))
theorem wLv_b (w : World) : (wLv w).heap[w.heap.size + 1]? = some bB := by
  unfold wLv
  refine (Below.heap_alloc _ _ _ (by simp <;> omega)).trans ((Below.heap_alloc _ _ _ (by simp)).trans ?_)
  have := heap_alloc_new (w.alloc bA) bB
  rwa [World.size_alloc] at this
theorem wLv_c (w : World) : (wLv w).heap[w.heap.size + 1 + 1]? = some (bC (w.heap.size + 1)) := by
  unfold wLv
  refine (Below.heap_alloc _ _ _ (by simp)).trans ?_
  have := heap_alloc_new ((w.alloc bA).alloc bB) (bC (w.heap.size + 1))
  rwa [World.size_alloc, World.size_alloc] at this
theorem wLv_e (w : World) : (wLv w).heap[w.heap.size + 1 + 1 + 1]? = some bE := by
  unfold wLv
  have := heap_alloc_new (((w.alloc bA).alloc bB).alloc (bC (w.heap.size + 1))) bE
  rwa [World.size_alloc, World.size_alloc, World.size_alloc] at this
theorem wLv_trs (w : World) : TRs (wLv w) (some ⟨w.heap.size + 1 + 1, 0, none⟩) (lTm (w.heap.size + 1)) := by
  have hsz : ∀ x : Wt, okW x → x.key.size ≤ 140737488355328 ∧ x.val.size ≤ 140737488355328 := fun x h => ⟨by have := h.2.1; omega, by have := h.2.2.1; omega⟩
  refine TRs.of_row (rest := []) (t := 66) (f := (0, 0)) (by rw [List.append_nil]; exact wLv_c w) (by simp [lTm]) ?_
  intro t ht
  simp only [lTm, List.mem_cons, List.not_mem_nil, or_false] at ht
  subst ht
  exact ⟨WRs.of_row (rest := []) (t := 92) (f := (0, 0)) (by rw [List.append_nil]; exact wLv_b w) (by simp [lW]) (fun x hx => hsz x (lW_ok x hx)), rfl, by simp, by simp⟩
theorem lE_each : ∀ x ∈ lE, EEach x := by
  intro x hx
  simp only [lE, List.mem_cons, List.not_mem_nil, or_false] at hx
  rcases hx with rfl | rfl | rfl | rfl | rfl | rfl | rfl <;> exact ⟨by simp [I6], by simp, by simp [I6], by simp [I6], by simp [I6], by simp [I6]⟩
theorem wLv_ers (w : World) : ERs (wLv w) (some ⟨w.heap.size + 1 + 1 + 1, 0, none⟩) lE := by
  have h := wLv_e w
  refine ⟨fun _ => ⟨_, 0, rfl, lt_of_block h, fun i hi => ?_⟩, by simp [lE], lE_each⟩
  have hi7 : i < 7 := hi
  have key : ∀ j, (wLv w).cell? ⟨w.heap.size + 1 + 1 + 1, j, none⟩ = ((lE.flatMap evV).toArray)[j]? := fun j => cell_of_row _ _ _ _ _ _ h
  obtain rfl | rfl | rfl | rfl | rfl | rfl | rfl : i = 0 ∨ i = 1 ∨ i = 2 ∨ i = 3 ∨ i = 4 ∨ i = 5 ∨ i = 6 := by omega
  all_goals exact ⟨by rw [key]; rfl, by rw [key]; rfl, by rw [key]; rfl, by rw [key]; rfl, by rw [key]; rfl, by rw [key]; rfl⟩
theorem ERs.drop1 {w : World} {b off : Nat} {es : List Ev} (h : ERs w (some ⟨b, off, none⟩) es) : ERs w (some ⟨b, off + 6, none⟩) (es.drop 1) := by
  refine ⟨fun h0 => ?_, ?_, fun x hx => h.each x (List.mem_of_mem_drop hx)⟩
  · simp only [List.length_drop] at h0
    obtain ⟨b', off', e, hb, hc⟩ := h.lies (by omega)
    cases e
    refine ⟨b, off + 6, rfl, hb, fun i hi => ?_⟩
    simp only [List.length_drop] at hi
    rw [show (es.drop 1).getD i Ev.no = es.getD (i + 1) Ev.no by simp [List.getD, List.getElem?_drop, Nat.add_comm], show off + 6 + i * 6 = off + (i + 1) * 6 by omega]
    exact hc (i + 1) (by omega)
  · have := h.few
    simp only [List.length_drop]
    omega
theorem l_beg (S : Nat) : Beg (lTm S) 0 [] := ⟨lT_ok, l_gok, by simp [grt, lTm]⟩
theorem l_tk1 (S : Nat) : tkN lc (lTm S) 0 [] lE = 7 ∧ tkC lc (lTm S) 0 [] lE = 0 := by
  have h : (goes lc (txs (lTm S)) (sy0 0 []) lE).1 = 7 := l_seven
  refine ⟨by unfold tkN; rw [if_pos ⟨l_may, l_beg S⟩]; exact h, ?_⟩
  unfold tkC folC
  rw [if_neg (fun hh => hh l_may), if_neg (fun hh => hh (l_beg S)), if_pos (by rw [h]; rfl)]
theorem l_tk2 (S : Nat) : tkN lc (lTm S) 0 [] (lE.drop 1) = 0 ∧ tkC lc (lTm S) 0 [] (lE.drop 1) = 14 := by
  have h : (goes lc (txs (lTm S)) (sy0 0 []) (lE.drop 1)).1 = 0 := l_none
  refine ⟨by unfold tkN; rw [if_pos ⟨l_may, l_beg S⟩]; exact h, ?_⟩
  unfold tkC folC
  rw [if_neg (fun hh => hh l_may), if_neg (fun hh => hh (l_beg S)), if_neg (by rw [h]; simp [lE])]
set_option maxHeartbeats 8000000 in
set_option maxRecDepth 100000 in
theorem lives_any (w : World) (hN : Nms w) : Calls Tryz.prog 15 #[] w fun e w' => e = .returned (.bool true) ∧ Fr [] w w' := by
  have hIn : ∀ W, IRs W none [] := fun W => ⟨fun h => by simp at h, by simp⟩
  have HC1 : Hid (∀ W, Fr [] (wLv w) W → Calls Tryz.prog 10 #[.agg #[.int .i64 1, .int .i64 1, .int .i64 4, .int .i64 1], .slice (some ⟨w.heap.size + 1 + 1, 0, none⟩) 1 1, .agg #[.int .i64 0, .slice none 0 0, .slice none 0 0], .slice (some ⟨w.heap.size + 1 + 1 + 1, 0, none⟩) 7 7] W fun e w' => e = .returned (.tuple #[.int .i64 7, .int .i64 0]) ∧ Fr [] W w') := fun W hf => by
    have := tk_any lc (some ⟨w.heap.size + 1 + 1, 0, none⟩) 1 1 (lTm (w.heap.size + 1)) 0 none 0 0 [] none 0 0 (some ⟨w.heap.size + 1 + 1 + 1, 0, none⟩) 7 7 lE W (hN.keep ((wLv_fr w).then hf) (by simp)) ((wLv_trs w).keep hf) rfl (by omega) (hIn W) rfl (by omega) ((wLv_ers w).keep hf) rfl (by omega) (by simp [lE])
    rw [(l_tk1 _).1, (l_tk1 _).2] at this
    exact this
  have HC2 : Hid (∀ W, Fr [] (wLv w) W → Calls Tryz.prog 10 #[.agg #[.int .i64 1, .int .i64 1, .int .i64 4, .int .i64 1], .slice (some ⟨w.heap.size + 1 + 1, 0, none⟩) 1 1, .agg #[.int .i64 0, .slice none 0 0, .slice none 0 0], .slice (some ⟨w.heap.size + 1 + 1 + 1, 6, none⟩) 6 6] W fun e w' => e = .returned (.tuple #[.int .i64 0, .int .i64 14]) ∧ Fr [] W w') := fun W hf => by
    have := tk_any lc (some ⟨w.heap.size + 1 + 1, 0, none⟩) 1 1 (lTm (w.heap.size + 1)) 0 none 0 0 [] none 0 0 (some ⟨w.heap.size + 1 + 1 + 1, 6, none⟩) 6 6 (lE.drop 1) W (hN.keep ((wLv_fr w).then hf) (by simp)) ((wLv_trs w).keep hf) rfl (by omega) (hIn W) rfl (by omega) (ERs.drop1 ((wLv_ers w).keep hf)) rfl (by omega) (by simp [lE])
    rw [(l_tk2 _).1, (l_tk2 _).2] at this
    exact this
  have HCf : Hid (∀ W, Fr [] (wLv w) W → W.cell? ⟨w.heap.size, 0, none⟩ = some (.int .i64 1) ∧ W.cell? ⟨w.heap.size, 1, none⟩ = some (.int .i64 1) ∧ W.cell? ⟨w.heap.size, 2, none⟩ = some (.int .i64 4) ∧ W.cell? ⟨w.heap.size, 3, none⟩ = some (.int .i64 1)) := fun W hf => by
    have h := hf.keep (wLv_a w) (by simp)
    exact ⟨by rw [cell_of_row _ _ _ _ _ _ h]; rfl, by rw [cell_of_row _ _ _ _ _ _ h]; rfl, by rw [cell_of_row _ _ _ _ _ _ h]; rfl, by rw [cell_of_row _ _ _ _ _ _ h]; rfl⟩
  have HF : Hid (Fr [] w (wLv w)) := wLv_fr w
  obtain ⟨wl, hwl⟩ : ∃ wl, wl = wLv w := ⟨_, rfl⟩
  have HW : Hid (((((w.alloc (.cells #[.int .i64 1, .int .i64 1, .int .i64 4, .int .i64 1] 23)).alloc (.cells #[.string ⟨#[97]⟩, .string ⟨#[49]⟩, .bool false] 92)).alloc (.cells #[.int .i64 1, .slice (some ⟨w.heap.size + 1, 0, none⟩) 1 1] 66)).alloc (.cells #[.int .i64 0, .int .u8 1, .int .i64 1, .int .i64 0, .int .i64 0, .int .i64 0, .int .i64 0, .int .u8 3, .int .i64 1, .int .i64 0, .int .i64 0, .int .i64 0, .int .i64 1, .int .u8 4, .int .i64 1, .int .i64 0, .int .i64 0, .int .i64 0, .int .i64 1, .int .u8 5, .int .i64 1, .int .i64 0, .int .i64 0, .int .i64 0, .int .i64 2, .int .u8 7, .int .i64 1, .int .i64 0, .int .i64 0, .int .i64 0, .int .i64 1, .int .u8 6, .int .i64 1, .int .i64 0, .int .i64 0, .int .i64 0, .int .i64 3, .int .u8 8, .int .i64 1, .int .i64 0, .int .i64 1, .int .i64 1] 62)) = wl) := by show _ = _; rw [hwl]; rfl
  rw [← hwl] at HC1 HC2 HCf HF
  obtain ⟨n, hn⟩ : ∃ n, n = w.heap.size := ⟨_, rfl⟩
  have HNn : Hid (w.heap.size = n) := hn.symm
  rw [← hn] at HC1 HC2 HCf
  clear hwl hn hIn hN
  go_enter Tryz.func15, Tryz.ntmps15
  go_upto_region 4 with fail
  rw [HW.out, HNn.out]
  obtain ⟨k0, k1, k2, k3⟩ := HCf.out wl (Fr.refl _ _)
  go_wp2_with fail
  refine Calls.mono (HC1.out wl (Fr.refl _ _)) ?_
  rintro e w1 ⟨rfl, hf1⟩
  have HF1 : Hid (Fr [] wl w1) := hf1
  clear hf1 k0 k1 k2 k3 HC1 HW
  go_upto_region 5 with fail
  have f0 : ∀ y : Wd13 w1, y.W.cell? ⟨n, 0, none⟩ = some (.int .i64 1) := fun y => (HCf.out _ (HF1.out.then y.h)).1
  have f1 : ∀ y : Wd13 w1, y.W.cell? ⟨n, 1, none⟩ = some (.int .i64 1) := fun y => (HCf.out _ (HF1.out.then y.h)).2.1
  have f2 : ∀ y : Wd13 w1, y.W.cell? ⟨n, 2, none⟩ = some (.int .i64 4) := fun y => (HCf.out _ (HF1.out.then y.h)).2.2.1
  have f3 : ∀ y : Wd13 w1, y.W.cell? ⟨n, 3, none⟩ = some (.int .i64 1) := fun y => (HCf.out _ (HF1.out.then y.h)).2.2.2
  have HC3 : Hid (∀ W, Fr [] w1 W → Calls _ _ _ W _) := fun W hf => HC2.out W (HF1.out.then hf)
  refine wp_region_wd13 (w1 := w1) (by kernel_rfl) (by kernel_rfl) (Fr.refl _ _) ?_
  repeat (go_big_quiet_step ((go_at_call 10; with_reducible refine (HC3.out _ (Wd13.h _)).mono ?_; exact fun e w3 hh => ⟨hh.1, ⟨_, Fr.then (Wd13.h _) hh.2⟩, rfl⟩)))
  refine wpQuiet_nil ?_
  rintro _ ⟨y, rfl⟩
  obtain ⟨w2, hw2⟩ : ∃ w2, w2 = y.W := ⟨_, rfl⟩
  have HF2 : Hid (Fr [] w1 w2) := by show Fr _ _ _; rw [hw2]; exact y.h
  rw [← hw2]
  clear hw2 f0 f1 f2 f3 HC3 HC2 HCf
  go_wp2_with fail
  go_ret
  exact ⟨rfl, HF.out.then (HF1.out.then HF2.out)⟩
end Go.Proofs.YtaaghcimfcjehaaGreatDoor
/- Rows of events as cells; appending one row to another. Conditions as each names them. -/
namespace Go.Proofs.YtaaghcimfcjehaaGreatDoor
open Go.ChangeShapes Go.WideShapes Go.ChangeAt Go.RowKit Go.Lib
set_option linter.unusedVariables false
set_option linter.unusedSimpArgs false

def evsC : List Ev → List Value
  | [] => []
  | e :: r => evV e ++ evsC r
theorem evsC_append (a b : List Ev) : evsC (a ++ b) = evsC a ++ evsC b := by
  induction a with
  | nil => rfl
  | cons v r ih => simp [evsC, ih]
theorem evsC_length (a : List Ev) : (evsC a).length = a.length * 6 := by
  induction a with
  | nil => rfl
  | cons v r ih => simp only [evsC, evV, List.length_append, List.length_cons, List.length_nil, ih]; omega
theorem evsC_get (a : List Ev) (j c : Nat) (hj : j < a.length) (hc : c < 6) : (evsC a)[j * 6 + c]? = (evV (a.getD j Ev.no))[c]? := by
  induction a generalizing j with
  | nil => simp at hj
  | cons v r ih =>
    cases j with
    | zero =>
      simp only [evsC, Nat.zero_mul, Nat.zero_add]
      rw [List.getElem?_append_left (by simp [evV]; omega)]
      simp
    | succ j =>
      simp only [evsC]
      rw [List.getElem?_append_right (by simp [evV]; omega)]
      have e : (j + 1) * 6 + c - (evV v).length = j * 6 + c := by simp [evV]; omega
      rw [e, ih j (by simpa using hj)]
      simp
theorem evsC_oneCell (a : List Ev) : ∀ u ∈ evsC a, u.oneCell' = true := by
  induction a with
  | nil => intro u hu; simp [evsC] at hu
  | cons v r ih =>
    intro u hu
    rcases List.mem_append.1 hu with h | h
    · simp only [evV, List.mem_cons, List.not_mem_nil, or_false] at h
      rcases h with rfl | rfl | rfl | rfl | rfl | rfl <;> rfl
    · exact ih u h
theorem ERs.cells {w : World} {ao : Option Addr} {es : List Ev} (h : ERs w ao es) {j : Nat} {u : Value} (hu : (evsC es)[j]? = some u) : ∃ b off, ao = some ⟨b, off, none⟩ ∧ w.cell? ⟨b, off + j, none⟩ = some u := by
  have hj := (List.getElem?_eq_some_iff.1 hu).1
  rw [evsC_length] at hj
  obtain ⟨b, off, e, hb, hc⟩ := h.lies (by omega)
  refine ⟨b, off, e, ?_⟩
  have hi : j / 6 < es.length := by omega
  have hm : j % 6 < 6 := Nat.mod_lt _ (by omega)
  have hg := evsC_get es (j / 6) (j % 6) hi hm
  have e3 : j / 6 * 6 + j % 6 = j := by omega
  rw [e3, hu] at hg
  have hA := hc (j / 6) hi
  rw [show off + j = off + j / 6 * 6 + j % 6 by omega, hg]
  have h6 : j % 6 = 0 ∨ j % 6 = 1 ∨ j % 6 = 2 ∨ j % 6 = 3 ∨ j % 6 = 4 ∨ j % 6 = 5 := by omega
  rcases h6 with h6 | h6 | h6 | h6 | h6 | h6 <;> rw [h6]
  · exact hA.c0
  · exact hA.c1
  · exact hA.c2
  · exact hA.c3
  · exact hA.c4
  · exact hA.c5
theorem ERs.of_own {w : World} {base : Nat} {ro : Option Addr} {N rc : Nat} {es : List Ev} (h : w.ownsRow base 62 6 (.slice ro N rc) N (evsC es)) (hN : N = es.length) (hl : es.length ≤ 4398046511104) (he : ∀ x ∈ es, EEach x) : ERs w ro es := by
  rcases h.2 with ⟨_, h1⟩ | ⟨g, cap, cur, hv, _, hg, _, _, _, ht⟩
  · have : es = [] := List.eq_nil_of_length_eq_zero (by omega)
    subst this
    exact ERs.nil _ _
  · cases hv
    refine ⟨fun h0 => ⟨g, 0, rfl, lt_of_block hg, fun i hi => ?_⟩, hl, he⟩
    have key : ∀ c u, c < 6 → (evV (es.getD i Ev.no))[c]? = some u → w.cell? ⟨g, 0 + i * 6 + c, none⟩ = some u := by
      intro c u hc hu
      rw [← evsC_get es i c hi hc] at hu
      rw [cell_of_row _ _ _ _ _ _ hg, ← Array.getElem?_toList, ← hu, ← ht, List.getElem?_take_of_lt (by omega)]
      congr 1
      omega
    exact ⟨key 0 _ (by omega) rfl, key 1 _ (by omega) rfl, key 2 _ (by omega) rfl, key 3 _ (by omega) rfl, key 4 _ (by omega) rfl, key 5 _ (by omega) rfl⟩
theorem Tryz.infoEvt : (Tryz.prog.info? 62).map (fun i => (i.zero, i.size, i.bytes)) = some (some (.agg #[.int .i64 0, .int .u8 0, .int .i64 0, .int .i64 0, .int .i64 0, .int .i64 0]), 6, 48) := by kernel_rfl
theorem own_shapeV {w : World} {base : Nat} {e : TypeId} {size : Nat} {v : Value} {n : Nat} {xs : List Value} (h : w.ownsRow base e size v n xs) : ∃ bo cap, v = .slice bo n cap := by
  rcases h.2 with ⟨hv, hn⟩ | ⟨g, cap, cur, hv, _⟩
  · exact ⟨none, 0, by rw [hv, hn]⟩
  · exact ⟨_, cap, hv⟩
theorem run_append_noneV {P : Program} (w : World) (t ty e : TypeId) (i : TypeInfo) (size c base : Nat) (ht : P.underlying t = some (.slice e)) (hi : P.info? e = some i)
    (v : Value) (n : Nat) (xs : List Value) (hown : w.ownsRow base e size v n xs) :
    (Builtin.append_ #[t, t] ty #[v, .slice none 0 c]).run P w = .ok v w := by
  rcases hown.2 with ⟨rfl, rfl⟩ | ⟨g, cap, cur, rfl, _, _, hnc, _⟩
  · simp [Builtin.append_, run_underlying ht, sizeOf, typeInfo, hi, Builtin.lenOf, Builtin.firstCells]
  · simp [Builtin.append_, run_underlying ht, sizeOf, typeInfo, hi, Builtin.lenOf, Builtin.firstCells, hnc, storeCells]
theorem wpList_appEv (w : World) {ops : Array Oper} {rest : List Oper} {o : Oper} {a : Act} {Q : Exit → Act → World → Prop} (hgd : o.guard = none) (s x : Operand)
    (ho : o.op = .call { callee := .builtin .append, args := #[s, x], argTypes := #[29, 29] })
    (base : Nat) (v : Value) (qs : List Ev) (hs : a.eval s = v) (hown : w.ownsRow base 62 6 v qs.length (evsC qs))
    (xo : Option Addr) (m c : Nat) (rs : List Ev) (hx : a.eval x = .slice xo m c) (hB : ERs w xo rs) (hm : m = rs.length) (hn : qs.length + m < 2199023255552) (hbase : base ≤ w.heap.size)
    (h : ∀ bo n' cap' w', n' = (qs ++ rs).length → w'.ownsRow base 62 6 (.slice bo n' cap') n' (evsC (qs ++ rs)) → Fr v.ownBlock.toList w w' → wpList Tryz.prog ops Q rest (a.put o.dst (.slice bo n' cap')) w') : wpList Tryz.prog ops Q (o :: rest) a w := by
  have hI := Tryz.infoEvt
  cases hi : Tryz.prog.info? 62 with
  | none => rw [hi] at hI; simp at hI
  | some i0 =>
    rw [hi] at hI
    simp only [Option.map_some, Option.some.injEq, Prod.mk.injEq] at hI
    obtain ⟨hz0, hz1, hz2⟩ := hI
    have hl : (evsC rs).length = m * 6 := by rw [evsC_length, hm]
    have hmx : 2199023255552 ≤ maxLen := by unfold maxLen; omega
    cases xo with
    | none =>
      refine wpList_plain hgd fun K hK => ?_
      obtain rfl : rs = [] := by
        refine List.eq_nil_of_length_eq_zero (Nat.eq_zero_of_not_pos fun h0 => ?_)
        obtain ⟨b, off, e, _⟩ := hB.lies h0
        cases e
      obtain rfl : m = 0 := hm
      have hr := run_append_noneV (P := Tryz.prog) w 29 o.type 62 i0 6 c base Tryz.undEvs' hi v qs.length (evsC qs) hown
      obtain ⟨bo, cap', rfl⟩ := own_shapeV hown
      unfold Oper.wp execOp
      simp only [ho, resolve, invoke, builtin, Sem.run_bind, Sem.run_pure, Result.andThen_ok, List.map_toArray, List.map_cons, List.map_nil, hs, hx, hr]
      exact hK _ _ (h bo _ cap' w (by simp) (by simpa using hown) (Fr.refl _ _))
    | some ad =>
      have hlies : ∀ j u, (evsC rs)[j]? = some u → w.cell? (ad.add j) = some u := by
        intro j u hu
        obtain ⟨b, off, e, hc⟩ := hB.cells hu
        cases e
        rw [Addr.add_lit]
        exact hc
      refine wpList_append_own w hgd s x 29 ho base 62 i0 _ 6 48 Tryz.undEvs' hi hz0 hz1 hz2 rfl (by decide) v qs.length (evsC qs) hs hown ad m c (evsC rs) hx hl hlies (evsC_oneCell rs) (by omega) (by omega) hbase ?_
      intro v' w' hown' hg' _
      have hlen : (qs ++ rs).length = qs.length + m := by rw [List.length_append, hm]
      obtain ⟨bo, cap', rfl⟩ := own_shapeV hown'
      exact h bo _ cap' w' hlen.symm (by rw [evsC_append]; exact hown') (Fr.grown hg' (fun y hy _ => Option.mem_toList.2 hy))
theorem own_blocksV {w : World} {base : Nat} {e : TypeId} {size : Nat} {v : Value} {n : Nat} {xs : List Value} (h : w.ownsRow base e size v n xs) : ∀ k ∈ v.ownBlock.toList, base ≤ k := by
  intro k hk
  rcases h.2 with ⟨rfl, _⟩ | ⟨g, cap, cur, rfl, hb, _⟩
  · simp [Value.ownBlock] at hk
  · simp [Value.ownBlock] at hk
    omega
theorem wpList_ev1 (w : World) {ops : Array Oper} {rest : List Oper} {o : Oper} {a : Act} {Q : Exit → Act → World → Prop} (hgd : o.guard = none) (s x : Operand)
    (ho : o.op = .call { callee := .builtin .append, args := #[s, x], argTypes := #[29, 29] }) (hs : a.eval s = .slice none 0 0)
    (xo : Option Addr) (m c : Nat) (rs : List Ev) (hx : a.eval x = .slice xo m c) (hB : ERs w xo rs) (hm : m = rs.length) (hn : m < 2199023255552)
    (h : ∀ bo cap' w', Hid (w'.ownsRow w.heap.size 62 6 (.slice bo m cap') m (evsC rs) ∧ Fr [] w w') → wpList Tryz.prog ops Q rest (a.put o.dst (.slice bo m cap')) w') : wpList Tryz.prog ops Q (o :: rest) a w := by
  refine wpList_appEv w hgd s x ho w.heap.size (.slice none 0 0) [] hs ⟨rfl, .inl ⟨rfl, rfl⟩⟩ xo m c rs hx hB hm (by simp; omega) (Nat.le_refl _) ?_
  intro bo n' cap' w' hn' hown hf
  rw [List.nil_append] at hn' hown
  rw [← hm] at hn'
  subst hn'
  exact h bo cap' w' ⟨hown, hf⟩
theorem wpList_ev2 (w0 w : World) {ops : Array Oper} {rest : List Oper} {o : Oper} {a : Act} {Q : Exit → Act → World → Prop} (hgd : o.guard = none) (s x : Operand)
    (ho : o.op = .call { callee := .builtin .append, args := #[s, x], argTypes := #[29, 29] }) (b0 : Option Addr) (k c0 : Nat) (qs : List Ev) (hs : a.eval s = .slice b0 k c0) (hown : w.ownsRow w0.heap.size 62 6 (.slice b0 k c0) k (evsC qs)) (hk : k = qs.length) (hf0 : Fr [] w0 w)
    (xo : Option Addr) (m c : Nat) (rs : List Ev) (hx : a.eval x = .slice xo m c) (hB : ERs w xo rs) (hm : m = rs.length) (hn : k + m < 2199023255552)
    (h : ∀ bo cap' w', Hid (w'.ownsRow w0.heap.size 62 6 (.slice bo (k + m) cap') (k + m) (evsC (qs ++ rs)) ∧ Fr [] w0 w') → wpList Tryz.prog ops Q rest (a.put o.dst (.slice bo (k + m) cap')) w') : wpList Tryz.prog ops Q (o :: rest) a w := by
  have hown2 := hown
  rw [hk] at hown2 hs
  refine wpList_appEv w hgd s x ho w0.heap.size (.slice b0 qs.length c0) qs hs hown2 xo m c rs hx hB hm (by omega) hf0.size ?_
  intro bo n' cap' w' hn' hown' hf
  rw [List.length_append, ← hm, ← hk] at hn'
  subst hn'
  exact h bo cap' w' ⟨hown', hf0.on hf (own_blocksV hown2)⟩
end Go.Proofs.YtaaghcimfcjehaaGreatDoor
