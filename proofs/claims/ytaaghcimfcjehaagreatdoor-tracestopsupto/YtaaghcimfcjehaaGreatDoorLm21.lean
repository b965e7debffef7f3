/- The statements' own example as mathematics: its seven events go, without the first none goes. No conditions. -/
import Derived.Test.YtaaghcimfcjehaaGreatDoorTk21
namespace Go.Proofs.YtaaghcimfcjehaaGreatDoor
set_option linter.unusedVariables false
set_option linter.unusedSimpArgs false

def lc : Cf := ⟨1, 1, 4, 1⟩
def lW : List Wt := [⟨⟨#[97]⟩, ⟨#[49]⟩, false⟩]
def lT : List Tx := [⟨1, lW⟩]
def lE : List Ev := [⟨0, 1, 1, 0, 0, 0⟩, ⟨0, 3, 1, 0, 0, 0⟩, ⟨1, 4, 1, 0, 0, 0⟩, ⟨1, 5, 1, 0, 0, 0⟩, ⟨2, 7, 1, 0, 0, 0⟩, ⟨1, 6, 1, 0, 0, 0⟩, ⟨3, 8, 1, 0, 1, 1⟩]
theorem lW_ok : ∀ x ∈ lW, okW x := by
  intro x hx
  simp only [lW, List.mem_cons, List.not_mem_nil, or_false] at hx
  subst hx
  exact ⟨by decide, by decide, by decide, fun h => by simp at h⟩
theorem lT_ok : okL 1 lT := ⟨⟨by decide, by decide, by decide, lW_ok⟩, rfl, trivial⟩
theorem l_may : lc.may := by unfold Cf.may lc; decide
theorem l_gok : Gok 0 [] := ⟨⟨by omega, by omega, List.Pairwise.nil, by simp⟩, by simp⟩
theorem wsAt1 : wsAt lT 1 = lW := rfl
theorem dd1 : dd lW = lW := by
  have hk : Kept lW 0 := by
    intro m h1 h2
    have : lW.length = 1 := rfl
    omega
  show ddTo lW 1 = lW
  rw [ddTo_yes hk]
  rfl
theorem shs1 : shs lc lT 1 = [0] := by
  unfold shs
  rw [wsAt1, dd1]
  simp [lW, shN13, lc, Int.emod_one]
theorem adx1 (en : Int → Prop) (ks : List ByteArray) : adx [] en ks = [] := by
  refine adx_eq ⟨List.Pairwise.nil, fun m => ⟨fun h => by simp at h, fun h => ?_⟩⟩
  obtain ⟨⟨⟨p, hp, _⟩, _⟩, _⟩ := h
  simp at hp
noncomputable def k0 : Sy := sy0 0 []
noncomputable def k1 : Sy := (stp lc lT k0 ⟨0, 1, 1, 0, 0, 0⟩).2
noncomputable def k2 : Sy := (stp lc lT k1 ⟨0, 3, 1, 0, 0, 0⟩).2
noncomputable def k3 : Sy := (stp lc lT k2 ⟨1, 4, 1, 0, 0, 0⟩).2
noncomputable def k4 : Sy := (stp lc lT k3 ⟨1, 5, 1, 0, 0, 0⟩).2
noncomputable def k5 : Sy := (stp lc lT k4 ⟨2, 7, 1, 0, 0, 0⟩).2
noncomputable def k6 : Sy := (stp lc lT k5 ⟨1, 6, 1, 0, 0, 0⟩).2
noncomputable def k7 : Sy := (stp lc lT k6 ⟨3, 8, 1, 0, 1, 1⟩).2
theorem q1 : stp lc lT k0 ⟨0, 1, 1, 0, 0, 0⟩ = (⟨1, 1, 0, 0⟩, { k0 with read := 1, holds := true }) := by
  simp [stp, dsp, k0, sy0, lT]
theorem k1_eq : k1 = { k0 with read := 1, holds := true } := by unfold k1; rw [q1]
theorem q2 : stp lc lT k1 ⟨0, 3, 1, 0, 0, 0⟩ = (⟨3, 1, 0, 0⟩, { k1 with holds := false, L := [(1, keysW lW)], R := upd k1.R 0 [1] }) := by
  rw [k1_eq]
  simp [stp, dsp, k0, sy0, wsAt1, adx1, lc]
theorem k2_eq : k2 = { k1 with holds := false, L := [(1, keysW lW)], R := upd k1.R 0 [1] } := by unfold k2; rw [q2]
theorem q3 : stp lc lT k2 ⟨1, 4, 1, 0, 0, 0⟩ = (⟨4, 1, 0, 0⟩, { k2 with num := upd k2.num 0 1, R := upd (upd k2.R 0 []) 2 [0] }) := by
  rw [k2_eq, k1_eq]
  simp only [stp, lan, k0, sy0, lc, upd_same]
  simp
  rw [show shs ⟨1, 1, 4, 1⟩ lT 1 = [0] from shs1]
theorem k3_eq : k3 = { k2 with num := upd k2.num 0 1, R := upd (upd k2.R 0 []) 2 [0] } := by unfold k3; rw [q3]
theorem k3R (j : Nat) (h0 : j ≠ 0) (h2 : j ≠ 2) : k3.R j = [] := by rw [k3_eq, k2_eq, k1_eq]; simp [upd, h0, h2, k0, sy0]
theorem k3R0 : k3.R 0 = [] := by rw [k3_eq]; simp [upd]
theorem k3R2 : k3.R 2 = [0] := by rw [k3_eq]; simp [upd]
theorem k3n : k3.num 0 = 1 := by rw [k3_eq]; simp [upd]
theorem k3F (n : Int) : k3.F n = 0 := by rw [k3_eq, k2_eq, k1_eq]; rfl
theorem k3m : k3.ma = 0 := by rw [k3_eq, k2_eq, k1_eq]; rfl
theorem k3x : k3.bx = [] := by rw [k3_eq, k2_eq, k1_eq]; rfl
theorem q4 : stp lc lT k3 ⟨1, 5, 1, 0, 0, 0⟩ = (⟨5, 1, 0, 0⟩, { asks k3 0 1 with R := upd (asks k3 0 1).R 2 [] }) := by
  have h18 := k3R 18 (by decide) (by decide)
  simp [stp, lan, lc, k3n, k3R2, h18]
theorem k4_eq : k4 = { asks k3 0 1 with R := upd (asks k3 0 1).R 2 [] } := by unfold k4; rw [q4]
theorem k4q : k4.R 18 = [1] := by rw [k4_eq]; simp [asks, upd, k3R 18 (by decide) (by decide)]
theorem k4n : k4.num 0 = 1 := by rw [k4_eq]; exact k3n
theorem k4R2 : k4.R 2 = [] := by rw [k4_eq]; simp [upd]
theorem k4R1 : k4.R 1 = [] := by rw [k4_eq]; simp [asks, upd, k3R 1 (by decide) (by decide)]
theorem k4F : k4.F 1 = 1 := by rw [k4_eq]; simp [asks, updI, k3F]
theorem k4m : k4.ma = 0 ∧ k4.bx = [] := by rw [k4_eq]; exact ⟨k3m, k3x⟩
theorem q5 : stp lc lT k4 ⟨2, 7, 1, 0, 0, 0⟩ = (⟨7, 1, 0, 0⟩, { k4 with R := upd k4.R 18 [], F := updI k4.F 1 (k4.F 1 - 1) }) := by
  simp [stp, own, lc, k4q]
theorem k5_eq : k5 = { k4 with R := upd k4.R 18 [], F := updI k4.F 1 (k4.F 1 - 1) } := by unfold k5; rw [q5]
theorem k5n : k5.num 0 = 1 := by rw [k5_eq]; exact k4n
theorem k5R2 : k5.R 2 = [] := by rw [k5_eq]; simp [upd, k4R2]
theorem k5R1 : k5.R 1 = [] := by rw [k5_eq]; simp [upd, k4R1]
theorem k5F : k5.F 1 = 0 := by rw [k5_eq]; simp [updI, k4F]
theorem k5m : k5.ma = 0 ∧ k5.bx = [] := by rw [k5_eq]; exact k4m
theorem q6 : stp lc lT k5 ⟨1, 6, 1, 0, 0, 0⟩ = (⟨6, 1, 0, 0⟩, { k5 with num := upd k5.num 0 0, R := upd k5.R 1 [1] }) := by
  simp [stp, lan, lc, k5n, k5R2, k5R1, k5F]
theorem k6_eq : k6 = { k5 with num := upd k5.num 0 0, R := upd k5.R 1 [1] } := by unfold k6; rw [q6]
theorem k6R1 : k6.R 1 = [1] := by rw [k6_eq]; simp [upd]
theorem k6m : k6.ma = 0 ∧ k6.bx = [] := by rw [k6_eq]; exact k5m
theorem gdx1 : gdx 0 [] 1 = (1, 1, []) := by simp [gdx, insI, adv]
theorem q7 : (stp lc lT k6 ⟨3, 8, 1, 0, 1, 1⟩).1 = ⟨8, 1, 0, 1⟩ ∧ (stp lc lT k6 ⟨3, 8, 1, 0, 1, 1⟩).2.ma = 1 := by
  simp [stp, gat, lc, k6R1, k6m.1, k6m.2, gdx1]
theorem can_of {c : Cf} {T : List Tx} {s : Sy} {e : Ev} {a : Te} {s' : Sy} (ht : e.t < c.l + c.s + 2) (h : stp c T s e = (a, s')) (hk : a.k ≠ 0) (he : (⟨e.t, a.k, a.n, a.s, a.c, s'.ma⟩ : Ev) = e) : Can c T s e := by
  unfold Can tolE
  rw [if_pos ht, h]
  exact ⟨hk, he⟩
theorem goes_cons {c : Cf} {T : List Tx} {s : Sy} {e : Ev} {r : List Ev} (h : Can c T s e) : goes c T s (e :: r) = ((goes c T (stp c T s e).2 r).1 + 1, (goes c T (stp c T s e).2 r).2) := by
  simp only [goes, if_pos h]
theorem l_seven : (goes lc lT (sy0 0 []) lE).1 = 7 := by
  have c1 : Can lc lT k0 ⟨0, 1, 1, 0, 0, 0⟩ := can_of (by decide) q1 (by decide) rfl
  have c2 : Can lc lT k1 ⟨0, 3, 1, 0, 0, 0⟩ := can_of (by decide) q2 (by decide) (by rw [k1_eq]; rfl)
  have c3 : Can lc lT k2 ⟨1, 4, 1, 0, 0, 0⟩ := can_of (by decide) q3 (by decide) (by rw [k2_eq, k1_eq]; rfl)
  have c4 : Can lc lT k3 ⟨1, 5, 1, 0, 0, 0⟩ := can_of (by decide) q4 (by decide) (by simp only [asks]; rw [k3m])
  have c5 : Can lc lT k4 ⟨2, 7, 1, 0, 0, 0⟩ := can_of (by decide) q5 (by decide) (by simp only; rw [k4m.1])
  have c6 : Can lc lT k5 ⟨1, 6, 1, 0, 0, 0⟩ := can_of (by decide) q6 (by decide) (by simp only; rw [k5m.1])
  have c7 : Can lc lT k6 ⟨3, 8, 1, 0, 1, 1⟩ := by
    unfold Can tolE
    rw [if_pos (by decide), q7.1, q7.2]
    exact ⟨by decide, rfl⟩
  show (goes lc lT k0 lE).1 = 7
  unfold lE
  rw [goes_cons c1]
  show (goes lc lT k1 _).1 + 1 = 7
  rw [goes_cons c2]
  show (goes lc lT k2 _).1 + 1 + 1 = 7
  rw [goes_cons c3]
  show (goes lc lT k3 _).1 + 1 + 1 + 1 = 7
  rw [goes_cons c4]
  show (goes lc lT k4 _).1 + 1 + 1 + 1 + 1 = 7
  rw [goes_cons c5]
  show (goes lc lT k5 _).1 + 1 + 1 + 1 + 1 + 1 = 7
  rw [goes_cons c6]
  show (goes lc lT k6 _).1 + 1 + 1 + 1 + 1 + 1 + 1 = 7
  rw [goes_cons c7]
  rfl
theorem l_none : (goes lc lT (sy0 0 []) (lE.drop 1)).1 = 0 := by
  have hn : ¬ Can lc lT (sy0 0 []) ⟨0, 3, 1, 0, 0, 0⟩ := by
    intro h
    have h2 := h.2
    unfold tolE at h2
    rw [if_pos (by decide)] at h2
    simp [stp, dsp, sy0, lT] at h2
  show (goes lc lT (sy0 0 []) (⟨0, 3, 1, 0, 0, 0⟩ :: _)).1 = 0
  unfold goes
  rw [if_neg hn]
end Go.Proofs.YtaaghcimfcjehaaGreatDoor
