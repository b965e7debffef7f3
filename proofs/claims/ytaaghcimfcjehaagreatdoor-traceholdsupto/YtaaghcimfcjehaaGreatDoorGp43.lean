/- Texts of this claim laid together, one behind the other: contracts and plain lemmas; conditions as each names them. -/
import Derived.Test.YtaaghcimfcjehaaGreatDoorGp42
/- The statements' own example as mathematics: its seven events go, without the first none goes. No conditions. -/
namespace Go.Proofs.YtaaghcimfcjehaaGreatDoor
set_option linter.unusedVariables false
set_option linter.unusedSimpArgs false

def lc : Cf := ⟨1, 1, 4, 1⟩
def lW : List Wt := [⟨⟨#[97]⟩, ⟨#[49]⟩, false⟩]
def lT : List Tx := [⟨1, lW⟩]
def lE : List Ev := [⟨0, 1, 1, 0, 0, 0⟩, ⟨0, 3, 1, 0, 0, 0⟩, ⟨1, 4, 1, 0, 0, 0⟩, ⟨1, 5, 1, 0, 0, 0⟩, ⟨2, 7, 1, 0, 0, 0⟩, ⟨1, 6, 1, 0, 0, 0⟩, ⟨3, 8, 1, 0, 1, 1⟩]
theorem lW_ok : ∀ x ∈ lW, okW x := by
  intro x hx
  simp only [lW, List.mem_cons, List.not_mem_nil, or_false] at hx
  subst hx
  exact ⟨by decide, by decide, by decide, fun h => by simp at h⟩
theorem lT_ok : okL 1 lT := ⟨⟨by decide, by decide, by decide, lW_ok⟩, rfl, trivial⟩
theorem l_may : lc.may := by unfold Cf.may lc; decide
theorem l_gok : Gok 0 [] := ⟨⟨by omega, by omega, List.Pairwise.nil, by simp⟩, by simp⟩
theorem wsAt1 : wsAt lT 1 = lW := rfl
theorem dd1 : dd lW = lW := by
  have hk : Kept lW 0 := by
    intro m h1 h2
    have : lW.length = 1 := rfl
    omega
  show ddTo lW 1 = lW
  rw [ddTo_yes hk]
  rfl
theorem shs1 : shs lc lT 1 = [0] := by
  unfold shs
  rw [wsAt1, dd1]
  simp [lW, shN13, lc, Int.emod_one]
theorem adx1 (en : Int → Prop) (ks : List ByteArray) : adx [] en ks = [] := by
  refine adx_eq ⟨List.Pairwise.nil, fun m => ⟨fun h => by simp at h, fun h => ?_⟩⟩
  obtain ⟨⟨⟨p, hp, _⟩, _⟩, _⟩ := h
  simp at hp
noncomputable def k0 : Sy := sy0 0 []
noncomputable def k1 : Sy := (stp lc lT k0 ⟨0, 1, 1, 0, 0, 0⟩).2
noncomputable def k2 : Sy := (stp lc lT k1 ⟨0, 3, 1, 0, 0, 0⟩).2
noncomputable def k3 : Sy := (stp lc lT k2 ⟨1, 4, 1, 0, 0, 0⟩).2
noncomputable def k4 : Sy := (stp lc lT k3 ⟨1, 5, 1, 0, 0, 0⟩).2
noncomputable def k5 : Sy := (stp lc lT k4 ⟨2, 7, 1, 0, 0, 0⟩).2
noncomputable def k6 : Sy := (stp lc lT k5 ⟨1, 6, 1, 0, 0, 0⟩).2
noncomputable def k7 : Sy := (stp lc lT k6 ⟨3, 8, 1, 0, 1, 1⟩).2
theorem q1 : stp lc lT k0 ⟨0, 1, 1, 0, 0, 0⟩ = (⟨1, 1, 0, 0⟩, { k0 with read := 1, holds := true }) := by
  simp [stp, dsp, k0, sy0, lT]
theorem k1_eq : k1 = { k0 with read := 1, holds := true } := by unfold k1; rw [q1]
theorem q2 : stp lc lT k1 ⟨0, 3, 1, 0, 0, 0⟩ = (⟨3, 1, 0, 0⟩, { k1 with holds := false, L := [(1, keysW lW)], R := upd k1.R 0 [1] }) := by
  rw [k1_eq]
  simp [stp, dsp, k0, sy0, wsAt1, adx1, lc]
theorem k2_eq : k2 = { k1 with holds := false, L := [(1, keysW lW)], R := upd k1.R 0 [1] } := by unfold k2; rw [q2]
theorem q3 : stp lc lT k2 ⟨1, 4, 1, 0, 0, 0⟩ = (⟨4, 1, 0, 0⟩, { k2 with num := upd k2.num 0 1, R := upd (upd k2.R 0 []) 2 [0] }) := by
  rw [k2_eq, k1_eq]
  simp only [stp, lan, k0, sy0, lc, upd_same]
  simp
  rw [show shs ⟨1, 1, 4, 1⟩ lT 1 = [0] from shs1]
theorem k3_eq : k3 = { k2 with num := upd k2.num 0 1, R := upd (upd k2.R 0 []) 2 [0] } := by unfold k3; rw [q3]
theorem k3R (j : Nat) (h0 : j ≠ 0) (h2 : j ≠ 2) : k3.R j = [] := by rw [k3_eq, k2_eq, k1_eq]; simp [upd, h0, h2, k0, sy0]
theorem k3R0 : k3.R 0 = [] := by rw [k3_eq]; simp [upd]
theorem k3R2 : k3.R 2 = [0] := by rw [k3_eq]; simp [upd]
theorem k3n : k3.num 0 = 1 := by rw [k3_eq]; simp [upd]
theorem k3F (n : Int) : k3.F n = 0 := by rw [k3_eq, k2_eq, k1_eq]; rfl
theorem k3m : k3.ma = 0 := by rw [k3_eq, k2_eq, k1_eq]; rfl
theorem k3x : k3.bx = [] := by rw [k3_eq, k2_eq, k1_eq]; rfl
theorem q4 : stp lc lT k3 ⟨1, 5, 1, 0, 0, 0⟩ = (⟨5, 1, 0, 0⟩, { asks k3 0 1 with R := upd (asks k3 0 1).R 2 [] }) := by
  have h18 := k3R 18 (by decide) (by decide)
  simp [stp, lan, lc, k3n, k3R2, h18]
theorem k4_eq : k4 = { asks k3 0 1 with R := upd (asks k3 0 1).R 2 [] } := by unfold k4; rw [q4]
theorem k4q : k4.R 18 = [1] := by rw [k4_eq]; simp [asks, upd, k3R 18 (by decide) (by decide)]
theorem k4n : k4.num 0 = 1 := by rw [k4_eq]; exact k3n
theorem k4R2 : k4.R 2 = [] := by rw [k4_eq]; simp [upd]
theorem k4R1 : k4.R 1 = [] := by rw [k4_eq]; simp [asks, upd, k3R 1 (by decide) (by decide)]
theorem k4F : k4.F 1 = 1 := by rw [k4_eq]; simp [asks, updI, k3F]
theorem k4m : k4.ma = 0 ∧ k4.bx = [] := by rw [k4_eq]; exact ⟨k3m, k3x⟩
theorem q5 : stp lc lT k4 ⟨2, 7, 1, 0, 0, 0⟩ = (⟨7, 1, 0, 0⟩, { k4 with R := upd k4.R 18 [], F := updI k4.F 1 (k4.F 1 - 1) }) := by
  simp [stp, own, lc, k4q]
theorem k5_eq : k5 = { k4 with R := upd k4.R 18 [], F := updI k4.F 1 (k4.F 1 - 1) } := by unfold k5; rw [q5]
theorem k5n : k5.num 0 = 1 := by rw [k5_eq]; exact k4n
theorem k5R2 : k5.R 2 = [] := by rw [k5_eq]; simp [upd, k4R2]
theorem k5R1 : k5.R 1 = [] := by rw [k5_eq]; simp [upd, k4R1]
theorem k5F : k5.F 1 = 0 := by rw [k5_eq]; simp [updI, k4F]
theorem k5m : k5.ma = 0 ∧ k5.bx = [] := by rw [k5_eq]; exact k4m
theorem q6 : stp lc lT k5 ⟨1, 6, 1, 0, 0, 0⟩ = (⟨6, 1, 0, 0⟩, { k5 with num := upd k5.num 0 0, R := upd k5.R 1 [1] }) := by
  simp [stp, lan, lc, k5n, k5R2, k5R1, k5F]
theorem k6_eq : k6 = { k5 with num := upd k5.num 0 0, R := upd k5.R 1 [1] } := by unfold k6; rw [q6]
theorem k6R1 : k6.R 1 = [1] := by rw [k6_eq]; simp [upd]
theorem k6m : k6.ma = 0 ∧ k6.bx = [] := by rw [k6_eq]; exact k5m
theorem gdx1 : gdx 0 [] 1 = (1, 1, []) := by simp [gdx, insI, adv]
theorem q7 : (stp lc lT k6 ⟨3, 8, 1, 0, 1, 1⟩).1 = ⟨8, 1, 0, 1⟩ ∧ (stp lc lT k6 ⟨3, 8, 1, 0, 1, 1⟩).2.ma = 1 := by
  simp [stp, gat, lc, k6R1, k6m.1, k6m.2, gdx1]
theorem can_of {c : Cf} {T : List Tx} {s : Sy} {e : Ev} {a : Te} {s' : Sy} (ht : e.t < c.l + c.s + 2) (h : stp c T s e = (a, s')) (hk : a.k ≠ 0) (he : (⟨e.t, a.k, a.n, a.s, a.c, s'.ma⟩ : Ev) = e) : Can c T s e := by
  unfold Can tolE
  rw [if_pos ht, h]
  exact ⟨hk, he⟩
theorem goes_cons {c : Cf} {T : List Tx} {s : Sy} {e : Ev} {r : List Ev} (h : Can c T s e) : goes c T s (e :: r) = ((goes c T (stp c T s e).2 r).1 + 1, (goes c T (stp c T s e).2 r).2) := by
  simp only [goes, if_pos h]
theorem l_seven : (goes lc lT (sy0 0 []) lE).1 = 7 := by
  have c1 : Can lc lT k0 ⟨0, 1, 1, 0, 0, 0⟩ := can_of (by decide) q1 (by decide) rfl
  have c2 : Can lc lT k1 ⟨0, 3, 1, 0, 0, 0⟩ := can_of (by decide) q2 (by decide) (by rw [k1_eq]; rfl)
  have c3 : Can lc lT k2 ⟨1, 4, 1, 0, 0, 0⟩ := can_of (by decide) q3 (by decide) (by rw [k2_eq, k1_eq]; rfl)
  have c4 : Can lc lT k3 ⟨1, 5, 1, 0, 0, 0⟩ := can_of (by decide) q4 (by decide) (by simp only [asks]; rw [k3m])
  have c5 : Can lc lT k4 ⟨2, 7, 1, 0, 0, 0⟩ := can_of (by decide) q5 (by decide) (by simp only; rw [k4m.1])
  have c6 : Can lc lT k5 ⟨1, 6, 1, 0, 0, 0⟩ := can_of (by decide) q6 (by decide) (by simp only; rw [k5m.1])
  have c7 : Can lc lT k6 ⟨3, 8, 1, 0, 1, 1⟩ := by
    unfold Can tolE
    rw [if_pos (by decide), q7.1, q7.2]
    exact ⟨by decide, rfl⟩
  show (goes lc lT k0 lE).1 = 7
  unfold lE
  rw [goes_cons c1]
  show (goes lc lT k1 _).1 + 1 = 7
  rw [goes_cons c2]
  show (goes lc lT k2 _).1 + 1 + 1 = 7
  rw [goes_cons c3]
  show (goes lc lT k3 _).1 + 1 + 1 + 1 = 7
  rw [goes_cons c4]
  show (goes lc lT k4 _).1 + 1 + 1 + 1 + 1 = 7
  rw [goes_cons c5]
  show (goes lc lT k5 _).1 + 1 + 1 + 1 + 1 + 1 = 7
  rw [goes_cons c6]
  show (goes lc lT k6 _).1 + 1 + 1 + 1 + 1 + 1 + 1 = 7
  rw [goes_cons c7]
  rfl
theorem l_none : (goes lc lT (sy0 0 []) (lE.drop 1)).1 = 0 := by
  have hn : ¬ Can lc lT (sy0 0 []) ⟨0, 3, 1, 0, 0, 0⟩ := by
    intro h
    have h2 := h.2
    unfold tolE at h2
    rw [if_pos (by decide)] at h2
    simp [stp, dsp, sy0, lT] at h2
  show (goes lc lT (sy0 0 []) (⟨0, 3, 1, 0, 0, 0⟩ :: _)).1 = 0
  unfold goes
  rw [if_neg hn]
end Go.Proofs.YtaaghcimfcjehaaGreatDoor
/- The statements' own check of some fixed answers (the function lives) is true. Conditions as it names them. -/
namespace Go.Proofs.YtaaghcimfcjehaaGreatDoor
open Go.ChangeShapes Go.WideShapes Go.ChangeAt Go.RowKit Go.Lib Go.Maps
set_option linter.unusedVariables false
set_option linter.unusedSimpArgs false

def lTm (S : Nat) : List Tm := [⟨1, some ⟨S, 0, none⟩, 1, 1, lW⟩]
theorem lTm_txs (S : Nat) : txs (lTm S) = lT := rfl
def bA : Obj := .cells #[.int .i64 1, .int .i64 1, .int .i64 4, .int .i64 1] 23
def bB : Obj := .cells #[.string ⟨#[97]⟩, .string ⟨#[49]⟩, .bool false] 92
def bC (S : Nat) : Obj := .cells #[.int .i64 1, .slice (some ⟨S, 0, none⟩) 1 1] 66
def evV (e : Ev) : List Value := [.int .i64 e.t, .int .u8 e.k, .int .i64 e.n, .int .i64 e.s, .int .i64 e.c, .int .i64 e.m]
def bE : Obj := .cells (lE.flatMap evV).toArray 62
def wLv (w : World) : World := (((w.alloc bA).alloc bB).alloc (bC (w.heap.size + 1))).alloc bE
theorem wLv_fr (w : World) : Fr [] w (wLv w) := (((Fr.alloc [] w _).then (Fr.alloc [] _ _)).then (Fr.alloc [] _ _)).then (Fr.alloc [] _ _)
theorem wLv_a (w : World) : (wLv w).heap[w.heap.size]? = some bA := by
  unfold wLv
  exact (Below.heap_alloc _ _ _ (by simp <;> omega)).trans ((Below.heap_alloc _ _ _ (by simp <;> omega)).trans ((Below.heap_alloc _ _ _ (by simp)).trans (heap_alloc_new w _)))
theorem wLv_b (w : World) : (wLv w).heap[w.heap.size + 1]? = some bB := by
  unfold wLv
  refine (Below.heap_alloc _ _ _ (by simp <;> omega)).trans ((Below.heap_alloc _ _ _ (by simp)).trans ?_)
  have := heap_alloc_new (w.alloc bA) bB
  rwa [World.size_alloc] at this
theorem wLv_c (w : World) : (wLv w).heap[w.heap.size + 1 + 1]? = some (bC (w.heap.size + 1)) := by
  unfold wLv
  refine (Below.heap_alloc _ _ _ (by simp)).trans ?_
  have := heap_alloc_new ((w.alloc bA).alloc bB) (bC (w.heap.size + 1))
  rwa [World.size_alloc, World.size_alloc] at this
theorem wLv_e (w : World) : (wLv w).heap[w.heap.size + 1 + 1 + 1]? = some bE := by
  unfold wLv
  have := heap_alloc_new (((w.alloc bA).alloc bB).alloc (bC (w.heap.size + 1))) bE
  rwa [World.size_alloc, World.size_alloc, World.size_alloc] at this
theorem wLv_trs (w : World) : TRs (wLv w) (some ⟨w.heap.size + 1 + 1, 0, none⟩) (lTm (w.heap.size + 1)) := by
  have hsz : ∀ x : Wt, okW x → x.key.size ≤ 140737488355328 ∧ x.val.size ≤ 140737488355328 := fun x h => ⟨by have := h.2.1; omega, by have := h.2.2.1; omega⟩
  refine TRs.of_row (rest := []) (t := 66) (f := (0, 0)) (by rw [List.append_nil]; exact wLv_c w) (by simp [lTm]) ?_
  intro t ht
  simp only [lTm, List.mem_cons, List.not_mem_nil, or_false] at ht
  subst ht
  exact ⟨WRs.of_row (rest := []) (t := 92) (f := (0, 0)) (by rw [List.append_nil]; exact wLv_b w) (by simp [lW]) (fun x hx => hsz x (lW_ok x hx)), rfl, by simp, by simp⟩
theorem lE_each : ∀ x ∈ lE, EEach x := by
  intro x hx
  simp only [lE, List.mem_cons, List.not_mem_nil, or_false] at hx
  rcases hx with rfl | rfl | rfl | rfl | rfl | rfl | rfl <;> exact ⟨by simp [I6], by simp, by simp [I6], by simp [I6], by simp [I6], by simp [I6]⟩
theorem wLv_ers (w : World) : ERs (wLv w) (some ⟨w.heap.size + 1 + 1 + 1, 0, none⟩) lE := by
  have h := wLv_e w
  refine ⟨fun _ => ⟨_, 0, rfl, lt_of_block h, fun i hi => ?_⟩, by simp [lE], lE_each⟩
  have hi7 : i < 7 := hi
  have key : ∀ j, (wLv w).cell? ⟨w.heap.size + 1 + 1 + 1, j, none⟩ = ((lE.flatMap evV).toArray)[j]? := fun j => cell_of_row _ _ _ _ _ _ h
  obtain rfl | rfl | rfl | rfl | rfl | rfl | rfl : i = 0 ∨ i = 1 ∨ i = 2 ∨ i = 3 ∨ i = 4 ∨ i = 5 ∨ i = 6 := by omega
  all_goals exact ⟨by rw [key]; rfl, by rw [key]; rfl, by rw [key]; rfl, by rw [key]; rfl, by rw [key]; rfl, by rw [key]; rfl⟩
theorem ERs.drop1 {w : World} {b off : Nat} {es : List Ev} (h : ERs w (some ⟨b, off, none⟩) es) : ERs w (some ⟨b, off + 6, none⟩) (es.drop 1) := by
  refine ⟨fun h0 => ?_, ?_, fun x hx => h.each x (List.mem_of_mem_drop hx)⟩
  · simp only [List.length_drop] at h0
    obtain ⟨b', off', e, hb, hc⟩ := h.lies (by omega)
    cases e
    refine ⟨b, off + 6, rfl, hb, fun i hi => ?_⟩
    simp only [List.length_drop] at hi
    rw [show (es.drop 1).getD i Ev.no = es.getD (i + 1) Ev.no by simp [List.getD, List.getElem?_drop, Nat.add_comm], show off + 6 + i * 6 = off + (i + 1) * 6 by omega]
    exact hc (i + 1) (by omega)
  · have := h.few
    simp only [List.length_drop]
    omega
theorem l_beg (S : Nat) : Beg (lTm S) 0 [] := ⟨lT_ok, l_gok, by simp [grt, lTm]⟩
theorem l_tk1 (S : Nat) : tkN lc (lTm S) 0 [] lE = 7 ∧ tkC lc (lTm S) 0 [] lE = 0 := by
  have h : (goes lc (txs (lTm S)) (sy0 0 []) lE).1 = 7 := l_seven
  refine ⟨by unfold tkN; rw [if_pos ⟨l_may, l_beg S⟩]; exact h, ?_⟩
  unfold tkC folC
  rw [if_neg (fun hh => hh l_may), if_neg (fun hh => hh (l_beg S)), if_pos (by rw [h]; rfl)]
theorem l_tk2 (S : Nat) : tkN lc (lTm S) 0 [] (lE.drop 1) = 0 ∧ tkC lc (lTm S) 0 [] (lE.drop 1) = 14 := by
  have h : (goes lc (txs (lTm S)) (sy0 0 []) (lE.drop 1)).1 = 0 := l_none
  refine ⟨by unfold tkN; rw [if_pos ⟨l_may, l_beg S⟩]; exact h, ?_⟩
  unfold tkC folC
  rw [if_neg (fun hh => hh l_may), if_neg (fun hh => hh (l_beg S)), if_neg (by rw [h]; simp [lE])]
set_option maxHeartbeats 8000000 in
set_option maxRecDepth 100000 in
theorem lives_any (w : World) (hN : Nms w) : Calls Tryz.prog 15 #[] w fun e w' => e = .returned (.bool true) ∧ Fr [] w w' := by
  have hIn : ∀ W, IRs W none [] := fun W => ⟨fun h => by simp at h, by simp⟩
  have HC1 : Hid (∀ W, Fr [] (wLv w) W → Calls Tryz.prog 10 #[.agg #[.int .i64 1, .int .i64 1, .int .i64 4, .int .i64 1], .slice (some ⟨w.heap.size + 1 + 1, 0, none⟩) 1 1, .agg #[.int .i64 0, .slice none 0 0, .slice none 0 0], .slice (some ⟨w.heap.size + 1 + 1 + 1, 0, none⟩) 7 7] W fun e w' => e = .returned (.tuple #[.int .i64 7, .int .i64 0]) ∧ Fr [] W w') := fun W hf => by
    have := tk_any lc (some ⟨w.heap.size + 1 + 1, 0, none⟩) 1 1 (lTm (w.heap.size + 1)) 0 none 0 0 [] none 0 0 (some ⟨w.heap.size + 1 + 1 + 1, 0, none⟩) 7 7 lE W (hN.keep ((wLv_fr w).then hf) (by simp)) ((wLv_trs w).keep hf) rfl (by omega) (hIn W) rfl (by omega) ((wLv_ers w).keep hf) rfl (by omega) (by simp [lE])
    rw [(l_tk1 _).1, (l_tk1 _).2] at this
    exact this
  have HC2 : Hid (∀ W, Fr [] (wLv w) W → Calls Tryz.prog 10 #[.agg #[.int .i64 1, .int .i64 1, .int .i64 4, .int .i64 1], .slice (some ⟨w.heap.size + 1 + 1, 0, none⟩) 1 1, .agg #[.int .i64 0, .slice none 0 0, .slice none 0 0], .slice (some ⟨w.heap.size + 1 + 1 + 1, 6, none⟩) 6 6] W fun e w' => e = .returned (.tuple #[.int .i64 0, .int .i64 14]) ∧ Fr [] W w') := fun W hf => by
    have := tk_any lc (some ⟨w.heap.size + 1 + 1, 0, none⟩) 1 1 (lTm (w.heap.size + 1)) 0 none 0 0 [] none 0 0 (some ⟨w.heap.size + 1 + 1 + 1, 6, none⟩) 6 6 (lE.drop 1) W (hN.keep ((wLv_fr w).then hf) (by simp)) ((wLv_trs w).keep hf) rfl (by omega) (hIn W) rfl (by omega) (ERs.drop1 ((wLv_ers w).keep hf)) rfl (by omega) (by simp [lE])
    rw [(l_tk2 _).1, (l_tk2 _).2] at this
    exact this
  have HCf : Hid (∀ W, Fr [] (wLv w) W → W.cell? ⟨w.heap.size, 0, none⟩ = some (.int .i64 1) ∧ W.cell? ⟨w.heap.size, 1, none⟩ = some (.int .i64 1) ∧ W.cell? ⟨w.heap.size, 2, none⟩ = some (.int .i64 4) ∧ W.cell? ⟨w.heap.size, 3, none⟩ = some (.int .i64 1)) := fun W hf => by
    have h := hf.keep (wLv_a w) (by simp)
    exact ⟨by rw [cell_of_row _ _ _ _ _ _ h]; rfl, by rw [cell_of_row _ _ _ _ _ _ h]; rfl, by rw [cell_of_row _ _ _ _ _ _ h]; rfl, by rw [cell_of_row _ _ _ _ _ _ h]; rfl⟩
  have HF : Hid (Fr [] w (wLv w)) := wLv_fr w
  obtain ⟨wl, hwl⟩ : ∃ wl, wl = wLv w := ⟨_, rfl⟩
  have HW : Hid (((((w.alloc (.cells #[.int .i64 1, .int .i64 1, .int .i64 4, .int .i64 1] 23)).alloc (.cells #[.string ⟨#[97]⟩, .string ⟨#[49]⟩, .bool false] 92)).alloc (.cells #[.int .i64 1, .slice (some ⟨w.heap.size + 1, 0, none⟩) 1 1] 66)).alloc (.cells #[.int .i64 0, .int .u8 1, .int .i64 1, .int .i64 0, .int .i64 0, .int .i64 0, .int .i64 0, .int .u8 3, .int .i64 1, .int .i64 0, .int .i64 0, .int .i64 0, .int .i64 1, .int .u8 4, .int .i64 1, .int .i64 0, .int .i64 0, .int .i64 0, .int .i64 1, .int .u8 5, .int .i64 1, .int .i64 0, .int .i64 0, .int .i64 0, .int .i64 2, .int .u8 7, .int .i64 1, .int .i64 0, .int .i64 0, .int .i64 0, .int .i64 1, .int .u8 6, .int .i64 1, .int .i64 0, .int .i64 0, .int .i64 0, .int .i64 3, .int .u8 8, .int .i64 1, .int .i64 0, .int .i64 1, .int .i64 1] 62)) = wl) := by show _ = _; rw [hwl]; rfl
  rw [← hwl] at HC1 HC2 HCf HF
  obtain ⟨n, hn⟩ : ∃ n, n = w.heap.size := ⟨_, rfl⟩
  have HNn : Hid (w.heap.size = n) := hn.symm
  rw [← hn] at HC1 HC2 HCf
  clear hwl hn hIn hN
  go_enter Tryz.func15, Tryz.ntmps15
  go_upto_region 4 with fail
  rw [HW.out, HNn.out]
  obtain ⟨k0, k1, k2, k3⟩ := HCf.out wl (Fr.refl _ _)
  go_wp2_with fail
  refine Calls.mono (HC1.out wl (Fr.refl _ _)) ?_
  rintro e w1 ⟨rfl, hf1⟩
  have HF1 : Hid (Fr [] wl w1) := hf1
  clear hf1 k0 k1 k2 k3 HC1 HW
  go_upto_region 5 with fail
  have f0 : ∀ y : Wd13 w1, y.W.cell? ⟨n, 0, none⟩ = some (.int .i64 1) := fun y => (HCf.out _ (HF1.out.then y.h)).1
  have f1 : ∀ y : Wd13 w1, y.W.cell? ⟨n, 1, none⟩ = some (.int .i64 1) := fun y => (HCf.out _ (HF1.out.then y.h)).2.1
  have f2 : ∀ y : Wd13 w1, y.W.cell? ⟨n, 2, none⟩ = some (.int .i64 4) := fun y => (HCf.out _ (HF1.out.then y.h)).2.2.1
  have f3 : ∀ y : Wd13 w1, y.W.cell? ⟨n, 3, none⟩ = some (.int .i64 1) := fun y => (HCf.out _ (HF1.out.then y.h)).2.2.2
  have HC3 : Hid (∀ W, Fr [] w1 W → Calls _ _ _ W _) := fun W hf => HC2.out W (HF1.out.then hf)
  refine wp_region_wd13 (w1 := w1) (by kernel_rfl) (by kernel_rfl) (Fr.refl _ _) ?_
  repeat (go_big_quiet_step ((go_at_call 10; with_reducible refine (HC3.out _ (Wd13.h _)).mono ?_; exact fun e w3 hh => ⟨hh.1, ⟨_, Fr.then (Wd13.h _) hh.2⟩, rfl⟩)))
  refine wpQuiet_nil ?_
  rintro _ ⟨y, rfl⟩
  obtain ⟨w2, hw2⟩ : ∃ w2, w2 = y.W := ⟨_, rfl⟩
  have HF2 : Hid (Fr [] w1 w2) := by show Fr _ _ _; rw [hw2]; exact y.h
  rw [← hw2]
  clear hw2 f0 f1 f2 f3 HC3 HC2 HCf
  go_wp2_with fail
  go_ret
  exact ⟨rfl, HF.out.then (HF1.out.then HF2.out)⟩
end Go.Proofs.YtaaghcimfcjehaaGreatDoor
