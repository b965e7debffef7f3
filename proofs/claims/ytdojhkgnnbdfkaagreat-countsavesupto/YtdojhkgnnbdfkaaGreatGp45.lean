/- Texts of this claim laid together, one behind the other: contracts and plain lemmas; conditions as each names them. -/
import Derived.Test.YtdojhkgnnbdfkaaGreatGp44
/- A transaction that came in: how it lies in memory. Conditions as each lemma names them. -/
namespace Go.Proofs.YtdojhkgnnbdfkaaGreat.Q
open Go.ChangeShapes Go.WideShapes Go.ChangeAt Go.RowKit Go.Lib
set_option linter.unusedVariables false
section
variable {H : Type} {enc : TypeId × Value → H}
theorem weightsAll_mem {P : Program} {e : TypeId} : ∀ {ds : List (DataW H)} {d : DataW H}, d ∈ ds → ∀ n ∈ d.weights P e, n ∈ DataW.weightsAll P e ds
  | x :: r, d, hd, n, hn => by
    simp only [DataW.weightsAll, List.mem_append]
    rcases List.mem_cons.1 hd with rfl | hd
    · exact Or.inl hn
    · exact Or.inr (weightsAll_mem hd n hn)
theorem Tryz.undWs' : Tryz.prog.underlying 52 = some (.slice 51) := by kernel_rfl
theorem Tryz.cellsWt : Tryz.prog.cellsOf 51 = 3 := by kernel_rfl
theorem Tryz.wtFields : (match Tryz.prog.underlying 51 with | some (.struct fs) => fs.toList.map (fun f => (f.type, f.offset)) | _ => []) = [(9, 0), (9, 1), (4, 2)] := by kernel_rfl
theorem Tryz.cellsT : Tryz.prog.cellsOf 54 = 2 := by kernel_rfl
theorem Tryz.tFields : (match Tryz.prog.underlying 54 with | some (.struct fs) => fs.toList.map (fun f => (f.type, f.offset)) | _ => []) = [(3, 0), (52, 1)] := by kernel_rfl
theorem Tryz.undI : Tryz.prog.underlying 3 = some (.int .i64) := by kernel_rfl
theorem Tryz.undBl : Tryz.prog.underlying 4 = some .bool := by kernel_rfl
theorem Tryz.cBl : Tryz.prog.cellsOf 4 = 1 := by kernel_rfl
theorem Tryz.cI : Tryz.prog.cellsOf 3 = 1 := by kernel_rfl
theorem Tryz.cS : Tryz.prog.cellsOf 9 = 1 := by kernel_rfl
theorem Tryz.cWs : Tryz.prog.cellsOf 52 = 1 := by kernel_rfl
set_option maxRecDepth 100000 in
theorem wt_open {w : World} {base : Nat} {spare : Nat → Bool} {held : Bool} {fuel : Nat} {cs : List Value} {x : DataW H × List MemPlace} (h : DataW.trod enc Tryz.prog w base spare held fuel 51 cs = some x) :
    ∃ v : Wt, cs = [.string v.key, .string v.val, .bool v.drop] ∧ v.key.size ∈ x.1.weights Tryz.prog 51 ∧ v.val.size ∈ x.1.weights Tryz.prog 51 := by
  have hF := Tryz.wtFields
  cases hu : Tryz.prog.underlying 51 with
  | none => rw [hu] at hF; simp at hF
  | some u =>
    rw [hu] at hF
    cases u with
    | struct fs =>
      simp only at hF
      obtain ⟨ys, n, _, hx, hlen, hys, hf⟩ := DataW.trod_struct hu h
      rw [Tryz.cellsWt] at hlen
      match cs, hlen with
      | [v0, v1, v2], _ =>
        have hl3 : fs.toList.length = 3 := by have := congrArg List.length hF; simpa using this
        obtain ⟨l, hl⟩ : ∃ l, l = fs.toList := ⟨_, rfl⟩
        rw [← hl] at hF hl3
        match l, hl3 with
        | [f0, f1, f2], _ =>
          simp only [List.map_cons, List.map_nil, List.cons.injEq, Prod.mk.injEq, and_true] at hF
          obtain ⟨⟨t0, o0⟩, ⟨t1, o1⟩, ⟨t2, o2⟩⟩ := hF
          have g : ∀ (i : Nat) (f : Field), [f0, f1, f2][i]? = some f → fs[i]? = some f := by
            intro i f hi
            rw [hl] at hi
            simpa using hi
          have r0 := hf 0 f0 (g 0 f0 rfl)
          have r1 := hf 1 f1 (g 1 f1 rfl)
          have r2 := hf 2 f2 (g 2 f2 rfl)
          rw [t0, o0, Tryz.cS] at r0
          rw [t1, o1, Tryz.cS] at r1
          rw [t2, o2, Tryz.cBl] at r2
          simp only [List.drop_zero, List.drop_succ_cons, List.take_succ_cons, List.take_zero] at r0 r1 r2
          have hy3 : ys.length = 3 := by rw [hys]; have := congrArg List.length hl; simpa using this.symm
          match ys, hy3 with
          | [y0, y1, y2], _ =>
            simp only [List.getElem?_cons_zero, List.getElem?_cons_succ] at r0 r1 r2
            obtain ⟨s0, e0, x0, _⟩ := DataW.trod_string Tryz.undStr r0
            obtain ⟨s1, e1, x1, _⟩ := DataW.trod_string Tryz.undStr r1
            obtain ⟨b2, e2, _⟩ := DataW.trod_bool Tryz.undBl r2
            simp only [List.cons.injEq, and_true] at e0 e1 e2
            have hty : fs.toList.map (·.type) = [9, 9, 4] := by rw [← hl]; simp [t0, t1, t2]
            refine ⟨⟨s0, s1, b2⟩, by rw [e0, e1, e2], ?_, ?_⟩
            · rw [hx]
              simp only [DataW.weights, hu]
              rw [hty]
              refine DataW.weights_mem_each (j := 0) (t := 9) (d := y0.1) rfl rfl _ ?_
              rw [x0]
              simp only [DataW.weights, List.mem_singleton]
              show s0.data.size = _
              simp
            · rw [hx]
              simp only [DataW.weights, hu]
              rw [hty]
              refine DataW.weights_mem_each (j := 1) (t := 9) (d := y1.1) rfl rfl _ ?_
              rw [x1]
              simp only [DataW.weights, List.mem_singleton]
              show s1.data.size = _
              simp
    | _ => simp at hF
set_option maxRecDepth 100000 in
theorem ws_open {w : World} {fuel : Nat} {v : Value} {d : DataW H} {ps : List MemPlace} (h : DataW.trod enc Tryz.prog w 0 (fun _ => true) true fuel 52 [v] = some (d, ps)) (hsz : ∀ n ∈ d.weights Tryz.prog 52, n ≤ reachBytes) :
    ∃ ao L cap ws, v = .slice ao L cap ∧ WRs w ao ws ∧ L = ws.length := by
  rcases Go.Deep.open_slice Tryz.undWs' h with ⟨hcs, _⟩ | ⟨a, len, cap, m, n, D, Pl, hcs, hb, hl, hm, hmm, hx, hE⟩
  · simp only [List.cons.injEq, and_true] at hcs
    exact ⟨none, 0, 0, [], hcs, WRs.nil _ _, rfl⟩
  · simp only [List.cons.injEq, and_true] at hcs
    simp only [if_true] at hmm
    subst hmm
    rw [Tryz.cellsWt] at hE hx
    have hO : ∀ i, i < m → ∃ o : Wt, (w.cells? 0 (a.add (i * 3)) 3 = some [.string o.key, .string o.val, .bool o.drop]) ∧ o.key.size ∈ (D i).weights Tryz.prog 51 ∧ o.val.size ∈ (D i).weights Tryz.prog 51 := by
      intro i hi
      obtain ⟨cs', h1, h2⟩ := hE i hi
      obtain ⟨o, rfl, rest⟩ := wt_open h2
      exact ⟨o, h1, rest⟩
    haveI : Inhabited Wt := ⟨Wt.zero⟩
    obtain ⟨F, hF⟩ := Go.Deep.choose_lt hO
    have hd : d = .slice ((List.range len).map D) ((List.range (m - len)).map fun j => D (len + j)) := by have := congrArg Prod.fst hx; simpa using this
    have hr := reachBytes_lt
    have hlen : len ≤ 140737488355328 := by
      have hw : len * Tryz.prog.bytesOf 51 ≤ reachBytes := by
        refine Nat.le_trans (Nat.mul_le_mul_right _ hl) (hsz _ ?_)
        rw [hd]
        simp only [DataW.weights, Tryz.undWs', List.length_map, List.length_range]
        rw [show len + (m - len) = m by omega]
        exact List.mem_cons_self
      have hb40 : 1 ≤ Tryz.prog.bytesOf 51 := by
        rw [show Tryz.prog.bytesOf 51 = 40 from by kernel_rfl]
        decide
      have := Nat.le_mul_of_pos_right len hb40
      omega
    refine ⟨some a, len, m, (List.range len).map F, hcs, ⟨fun h0 => ?_, by simpa using hlen, ?_⟩, by simp⟩
    · simp only [List.length_map, List.length_range] at h0 ⊢
      have hc0 := (World.cells?_some (hF 0 (by omega)).1).2.2
      obtain ⟨b, off, spot⟩ := a
      have hspot : spot = none := by
        have := hc0 0 (by omega)
        simp at this
        simpa [Addr.add] using World.cell?_spot this
      subst hspot
      have hcell : ∀ i, i < len → ∀ j, j < 3 → w.cell? ⟨b, off + i * 3 + j, none⟩ = [Value.string (F i).key, .string (F i).val, .bool (F i).drop][j]? := by
        intro i hi j hj
        have := (World.cells?_some (hF i (by omega)).1).2.2 j hj
        rw [show ((⟨b, off, none⟩ : Addr).add (i * 3)).add j = ⟨b, off + i * 3 + j, none⟩ from by rw [Addr.add_lit, Addr.add_lit]] at this
        exact this
      refine ⟨b, off, rfl, World.block_lt_of_cell? w ⟨b, off + 0 * 3 + 0, none⟩ (by rw [hcell 0 (by omega) 0 (by omega)]; rfl), fun i hi => ?_⟩
      have e : ((List.range len).map F).getD i Wt.zero = F i := by simp [List.getD, hi]
      rw [e]
      exact ⟨hcell i hi 0 (by omega), hcell i hi 1 (by omega), hcell i hi 2 (by omega)⟩
    · intro o ho
      obtain ⟨i, hi, rfl⟩ := List.mem_map.1 ho
      have hi' : i < len := by simpa using hi
      have key : ∀ q ∈ (D i).weights Tryz.prog 51, q ≤ 140737488355328 := by
        intro q hq
        have : q ≤ reachBytes := by
          apply hsz
          rw [hd]
          simp only [DataW.weights, Tryz.undWs']
          refine List.mem_cons_of_mem _ (List.mem_append_left _ ?_)
          exact weightsAll_mem (List.mem_map.2 ⟨i, by simpa using hi', rfl⟩) _ hq
        omega
      exact ⟨key _ (hF i (by omega)).2.1, key _ (hF i (by omega)).2.2⟩
/-- The transaction that came in. -/
structure TArg (w : World) (n : Int) (ao : Option Addr) (L cap : Nat) (ws : List Wt) : Prop where
  rs : WRs w ao ws
  len : L = ws.length
  n0 : -9223372036854775808 ≤ n
  n1 : n ≤ 9223372036854775807
theorem TArg.keep {w w' : World} {n : Int} {ao : Option Addr} {L cap : Nat} {ws : List Wt} (h : TArg w n ao L cap ws) (hf : Fr [] w w') : TArg w' n ao L cap ws := { h with rs := h.rs.keep hf }
set_option maxRecDepth 100000 in
theorem tx_open {w : World} {fuel : Nat} {cs : List Value} {x : DataW H × List MemPlace} (h : DataW.trod enc Tryz.prog w 0 (fun _ => true) true fuel 54 cs = some x) (hsz : ∀ n ∈ x.1.weights Tryz.prog 54, n ≤ reachBytes) :
    ∃ n ao L cap ws, cs = [.int .i64 n, .slice ao L cap] ∧ TArg w n ao L cap ws := by
  have hF := Tryz.tFields
  cases hu : Tryz.prog.underlying 54 with
  | none => rw [hu] at hF; simp at hF
  | some u =>
    rw [hu] at hF
    cases u with
    | struct fs =>
      simp only at hF
      obtain ⟨ys, n, _, hx, hlen, hys, hf⟩ := DataW.trod_struct hu h
      rw [Tryz.cellsT] at hlen
      match cs, hlen with
      | [v0, v1], _ =>
        have hl2 : fs.toList.length = 2 := by have := congrArg List.length hF; simpa using this
        obtain ⟨l, hl⟩ : ∃ l, l = fs.toList := ⟨_, rfl⟩
        rw [← hl] at hF hl2
        match l, hl2 with
        | [f0, f1], _ =>
          simp only [List.map_cons, List.map_nil, List.cons.injEq, Prod.mk.injEq, and_true] at hF
          obtain ⟨⟨t0, o0⟩, ⟨t1, o1⟩⟩ := hF
          have g : ∀ (i : Nat) (f : Field), [f0, f1][i]? = some f → fs[i]? = some f := by
            intro i f hi
            rw [hl] at hi
            simpa using hi
          have r0 := hf 0 f0 (g 0 f0 rfl)
          have r1 := hf 1 f1 (g 1 f1 rfl)
          rw [t0, o0, Tryz.cI] at r0
          rw [t1, o1, Tryz.cWs] at r1
          simp only [List.drop_zero, List.drop_succ_cons, List.take_succ_cons, List.take_zero] at r0 r1
          have hy2 : ys.length = 2 := by rw [hys]; have := congrArg List.length hl; simpa using this.symm
          match ys, hy2 with
          | [y0, y1], _ =>
            simp only [List.getElem?_cons_zero, List.getElem?_cons_succ] at r0 r1
            obtain ⟨k, e0, _, w0⟩ := DataW.trod_int Tryz.undI r0
            have hty : fs.toList.map (·.type) = [3, 52] := by rw [← hl]; simp [t0, t1]
            obtain ⟨ao, L, cap, ws, e1, hW, hL⟩ := ws_open (d := y1.1) (ps := y1.2) r1 (by
              intro q hq
              apply hsz
              rw [hx]
              simp only [DataW.weights, hu]
              rw [hty]
              exact DataW.weights_mem_each (j := 1) (t := 52) (d := y1.1) rfl rfl _ hq)
            simp only [List.cons.injEq, and_true] at e0
            have b0 := bounds_i64 w0
            exact ⟨k, ao, L, cap, ws, by rw [e0, e1], hW, hL, b0.1, b0.2⟩
    | _ => simp at hF
end
end Go.Proofs.YtdojhkgnnbdfkaaGreat.Q
/- What may be of a log, as plain functions on lists. Plain lemmas. -/
/- A log as bytes and back, as plain functions on lists: what is told of any bytes, one form, cut logs. Plain lemmas. -/

namespace Go.Proofs.YtdojhkgnnbdfkaaGreat.Q
open Go.ChangeShapes Go.WideShapes Go.ChangeAt Go.RowKit Go.Lib
set_option linter.unusedVariables false

/-- A transaction. -/
structure Tx where
  n : Int
  ws : List Wt
def Tx.zero : Tx := ⟨0, []⟩
def Tx.ok (t : Tx) : Prop := okT t.n t.ws

theorem Tx.nat {t : Tx} (h : t.ok) : ((t.n.toNat : Nat) : Int) = t.n := by have := h.1; omega
theorem Tx.okN {t : Tx} (h : t.ok) : okT ((t.n.toNat : Nat) : Int) t.ws := by rw [t.nat h]; exact h
/-- May a log be, of which the first number must be k? -/
def okL : Nat → List Tx → Prop
  | _, [] => True
  | k, t :: r => t.ok ∧ t.n = (k : Int) ∧ okL (k + 1) r
/-- What is wrong of it. -/
def Bad : Nat → List Tx → Nat → Prop
  | _, [], c => c = 0
  | k, t :: r, c => (¬ t.ok ∧ c = 1) ∨ (t.ok ∧ t.n ≠ (k : Int) ∧ c = 6) ∨ (t.ok ∧ t.n = (k : Int) ∧ Bad (k + 1) r c)
theorem Bad.ex : ∀ (l : List Tx) (k : Nat), ∃ c, Bad k l c := by
  intro l
  induction l with
  | nil => intro k; exact ⟨0, rfl⟩
  | cons t r ih =>
    intro k
    by_cases h : t.ok
    · by_cases h1 : t.n = (k : Int)
      · obtain ⟨c, hc⟩ := ih (k + 1)
        exact ⟨c, Or.inr (Or.inr ⟨h, h1, hc⟩)⟩
      · exact ⟨6, Or.inr (Or.inl ⟨h, h1, rfl⟩)⟩
    · exact ⟨1, Or.inl ⟨h, rfl⟩⟩
theorem Bad.ok : ∀ {l : List Tx} {k c : Nat}, Bad k l c → (c = 0 ↔ okL k l) := by
  intro l
  induction l with
  | nil => intro k c h; simp only [Bad] at h; simp [okL, h]
  | cons t r ih =>
    intro k c h
    rcases h with ⟨h, rfl⟩ | ⟨h, h1, rfl⟩ | ⟨h, h1, h2⟩
    · exact ⟨fun x => by omega, fun x => absurd x.1 h⟩
    · exact ⟨fun x => by omega, fun x => absurd x.2.1 h1⟩
    · rw [ih h2]
      exact ⟨fun x => ⟨h, h1, x⟩, fun x => x.2.2⟩
theorem Bad.one : ∀ {l : List Tx} {k c d : Nat}, Bad k l c → Bad k l d → c = d := by
  intro l
  induction l with
  | nil => intro k c d h h'; simp only [Bad] at h h'; omega
  | cons t r ih =>
    intro k c d h h'
    rcases h with ⟨h, rfl⟩ | ⟨h, h1, rfl⟩ | ⟨h, h1, h2⟩
    · rcases h' with ⟨_, rfl⟩ | ⟨g, _⟩ | ⟨g, _⟩
      · rfl
      · exact absurd g h
      · exact absurd g h
    · rcases h' with ⟨g, _⟩ | ⟨_, _, rfl⟩ | ⟨_, g, _⟩
      · exact absurd h g
      · rfl
      · exact absurd g h1
    · rcases h' with ⟨g, _⟩ | ⟨_, g, _⟩ | ⟨_, _, g⟩
      · exact absurd h g
      · exact absurd h1 g
      · exact ih h2 g
theorem okL_bad {l : List Tx} {k : Nat} (h : okL k l) : Bad k l 0 := by
  obtain ⟨c, hc⟩ := Bad.ex l k
  have := (Bad.ok hc).2 h
  rw [this] at hc
  exact hc
theorem okL_append : ∀ {a b : List Tx} {k : Nat}, okL k (a ++ b) ↔ okL k a ∧ okL (k + a.length) b := by
  intro a
  induction a with
  | nil => intro b k; simp [okL]
  | cons t r ih =>
    intro b k
    simp only [List.cons_append, okL, ih, List.length_cons]
    rw [show k + 1 + r.length = k + (r.length + 1) by omega]
    constructor
    · rintro ⟨h1, h2, h3, h4⟩; exact ⟨⟨h1, h2, h3⟩, h4⟩
    · rintro ⟨⟨h1, h2, h3⟩, h4⟩; exact ⟨h1, h2, h3, h4⟩
theorem okL_get : ∀ {l : List Tx} {k : Nat}, okL k l → ∀ i, i < l.length → (l.getD i Tx.zero).ok ∧ (l.getD i Tx.zero).n = ((k + i : Nat) : Int) := by
  intro l
  induction l with
  | nil => intro k h i hi; simp at hi
  | cons t r ih =>
    intro k h i hi
    cases i with
    | zero => exact ⟨h.1, by simpa using h.2.1⟩
    | succ i =>
      have := ih h.2.2 i (by simpa using hi)
      rw [show k + 1 + i = k + (i + 1) by omega] at this
      simpa [List.getD] using this
theorem okL_take {l : List Tx} {k : Nat} (h : okL k l) (i : Nat) : okL k (l.take i) := by
  have := h
  rw [← List.take_append_drop i l, okL_append] at this
  exact this.1
theorem okL_few {l : List Tx} (h : okL 1 l) : l.length ≤ 65536 := by
  by_cases h0 : l.length = 0
  · omega
  · obtain ⟨h1, h2⟩ := okL_get h (l.length - 1) (by omega)
    have := h1.2.1
    omega
theorem okL_mem {l : List Tx} {k : Nat} (h : okL k l) : ∀ t ∈ l, t.ok := by
  intro t ht
  obtain ⟨i, hi, rfl⟩ := List.getElem_of_mem ht
  have := (okL_get h i hi).1
  simpa [List.getD, hi] using this
/-! ### A record taken -/
/-! ### A log taken -/
end Go.Proofs.YtdojhkgnnbdfkaaGreat.Q
/- May a transaction be: contracts of Check and of the closure that it asks. Conditions as each names them. -/
namespace Go.Proofs.YtdojhkgnnbdfkaaGreat.Q
open Go.ChangeShapes Go.WideShapes Go.ChangeAt Go.RowKit Go.Lib
set_option linter.unusedVariables false

/-- It tells whether the write may not be. -/
def TellsW (e : Ending) (x : Wt) : Prop := ∃ B : Bool, e = .returned (.bool B) ∧ (B = true ↔ ¬ okW x)
set_option maxHeartbeats 2000000 in
set_option maxRecDepth 100000 in
theorem cCheck_any (i L cap b off g : Nat) (x : Wt) (w : World) (hi : i < L) (hL : L ≤ 140737488355328) (hx : WAt w b (off + i * 3) x) (hk : x.key.size ≤ 140737488355328) (hv : x.val.size ≤ 140737488355328)
    (hg : w.cell? ⟨g, 1, none⟩ = some (.slice (some ⟨b, off, none⟩) L cap)) :
    Calls Tryz.prog 66 #[.int .i64 (i : Int), .pointer (some ⟨g, 0, none⟩)] w fun e w' => TellsW e x ∧ Fr [] w w' := by
  obtain ⟨key, val, drop⟩ := x
  obtain ⟨c0, c1, c2⟩ := hx
  simp only at c0 c1 c2 hk hv
  have HO : Hid (okW ⟨key, val, drop⟩ ↔ _) := okW_iff key val drop
  go_enter Tryz.func66, Tryz.ntmps66
  go_wp2
  all_goals (
    go_ret
    refine ⟨⟨_, rfl, ?_⟩, Fr.alloc _ _ _⟩
    have HO' := HO.out
    clear HO
    simp_all)
  all_goals (intros; exfalso; omega)

theorem okT_no {n : Int} {ws : List Wt} {i : Nat} (hi : i < ws.length) (h : ¬ okW (ws.getD i Wt.zero)) : ¬ okT n ws := fun hh => h (hh.2.2.2 _ (wgetD_mem ws i hi))

set_option maxHeartbeats 4000000 in
set_option maxRecDepth 100000 in
theorem check_any (n : Int) (ao : Option Addr) (L cap c : Nat) (ws : List Wt) (w : World) (hW : WRs w ao ws) (hL : L = ws.length) (hn0 : -9223372036854775808 ≤ n) (hn1 : n ≤ 9223372036854775807)
    (hc : (okT n ws ∧ c = 0) ∨ (¬ okT n ws ∧ c = 1)) :
    Calls Tryz.prog 41 #[.agg #[.int .i64 n, .slice ao L cap]] w fun e w' => e = .returned (.int .i64 (c : Int)) ∧ Fr [] w w' := by
  have HC : Hid (_ ∨ _) := hc
  have HL : Hid (L = ws.length) := hL
  have hLm : L ≤ 140737488355328 := by have := hW.few; omega
  clear hc hL
  by_cases h1 : n < 1
  · have hc1 : c = 1 := by rcases HC.out with ⟨h, _⟩ | ⟨_, h⟩; · exact absurd h.1 (by omega)
                           · exact h
    subst hc1
    clear HC
    go_enter Tryz.func41, Tryz.ntmps41
    go_wp2
    go_ret
    exact ⟨rfl, Fr.alloc _ _ _⟩
  · by_cases h2 : 65536 < n
    · have hc1 : c = 1 := by rcases HC.out with ⟨h, _⟩ | ⟨_, h⟩; · exact absurd h.2.1 (by omega)
                             · exact h
      subst hc1
      clear HC
      have h1' : 1 ≤ n := by omega
      clear h1
      go_enter Tryz.func41, Tryz.ntmps41
      go_wp2
      go_ret
      exact ⟨rfl, Fr.alloc _ _ _⟩
    · have h1' : 1 ≤ n := by omega
      have h2' : n ≤ 65536 := by omega
      clear h1 h2
      by_cases h3 : 32 < L
      · have hc1 : c = 1 := by rcases HC.out with ⟨h, _⟩ | ⟨_, h⟩; · exact absurd h.2.2.1 (by rw [← HL.out]; omega)
                               · exact h
        subst hc1
        clear HC
        have h3' : (32 : Int) < L := by omega
        go_enter Tryz.func41, Tryz.ntmps41
        go_wp2
        go_ret
        exact ⟨rfl, Fr.alloc _ _ _⟩
      · have h3' : (L : Int) ≤ 32 := by omega
        clear h3
        have c1 : (w.alloc (.cells #[.int .i64 n, .slice ao L cap] 54)).cell? ⟨w.heap.size, 1, none⟩ = some (.slice ao L cap) := cell_of_row _ _ _ _ _ _ (heap_alloc_new w _)
        have hd1 : decide (n < 1) = false := by simp; omega
        have hd2 : decide (65536 < n) = false := by simp; omega
        have hd3 : decide ((32 : Int) < L) = false := by simp; omega
        have hF0 : Fr [] w (w.alloc (.cells #[.int .i64 n, .slice ao L cap] 54)) := Fr.alloc _ _ _
        have hW1 := hW.keep hF0
        go_enter Tryz.func41, Tryz.ntmps41
        go_wp2_with fail
        obtain ⟨w1, HW1⟩ : ∃ w1, Hid (w.alloc (.cells #[.int .i64 n, .slice ao L cap] 54) = w1) := ⟨_, rfl⟩
        rw [HW1.out] at c1 hF0 hW1 ⊢
        have hlt : w.heap.size < w1.heap.size := by rw [← HW1.out]; simp
        go_loopw [23] (fun ii wr => ∃ (i : Nat), ii = .int .i64 i ∧ i ≤ L ∧ Hid (∀ j, j < i → okW (ws.getD j Wt.zero)) ∧ Fr [] w1 wr) (fun ii _ => L - (RowKit.intOf ii).toNat)
        case atStart => exact ⟨0, rfl, Nat.zero_le _, fun j hj => by omega, Fr.refl _ _⟩
        case round =>
          obtain ⟨i, rfl, hiL, HE, hFr⟩ := hrel
          have c1r : wr.cell? ⟨w.heap.size, 1, none⟩ = some (.slice ao L cap) := (World.cell?_of_block (hFr.block _ hlt (by simp))).trans c1
          by_cases hi : i < L
          · have hi' : i < ws.length := by rw [← HL.out]; exact hi
            obtain ⟨b, off, rfl, _, hc⟩ := (hW1.keep hFr).lies (by omega)
            have hx := hc i hi'
            have hm := hW.each _ (wgetD_mem ws i hi')
            obtain ⟨x, hxx⟩ : ∃ x, x = ws.getD i Wt.zero := ⟨_, rfl⟩
            rw [← hxx] at hx hm
            have HX : Hid (x = ws.getD i Wt.zero) := hxx
            clear hxx hc
            go_wp2_with fail
            refine (cCheck_any i L cap b off w.heap.size x _ hi hLm hx hm.1 hm.2 c1r).mono ?_
            rintro e w2 ⟨⟨B, rfl, hB⟩, hF2⟩
            cases B with
            | true =>
              have hno : ¬ okW x := hB.1 rfl
              have hc1 : c = 1 := by rcases HC.out with ⟨h, _⟩ | ⟨_, h⟩; · exact absurd h (okT_no hi' (HX.out ▸ hno))
                                     · exact h
              subst hc1
              clear HC hB hno
              go_wp2
              go_ret
              exact ⟨rfl, hF0.then (hFr.then hF2)⟩
            | false =>
              have HE2 : Hid (∀ j, j < i + 1 → okW (ws.getD j Wt.zero)) := by
                intro j hj
                by_cases hji : j = i
                · subst hji
                  rw [← HX.out]
                  exact Classical.byContradiction fun h => absurd (hB.2 h) (by simp)
                · exact HE.out j (by omega)
              clear hB
              go_wp2
              go_roundw
              case rel => exact ⟨i + 1, by simp, by omega, HE2, hFr.then hF2⟩
              case measure => simp [RowKit.intOf]; omega
          · have hc0 : c = 0 := by
              rcases HC.out with ⟨_, h⟩ | ⟨h, _⟩
              · exact h
              · refine absurd ⟨h1', h2', by rw [← HL.out]; omega, ?_⟩ h
                intro x hx
                obtain ⟨j, hj, rfl⟩ := List.getElem_of_mem hx
                have := HE.out j (by have := HL.out; omega)
                simpa [List.getD, hj] using this
            subst hc0
            clear HC
            go_wp2
            go_ret
            exact ⟨rfl, hF0.then hFr⟩
end Go.Proofs.YtdojhkgnnbdfkaaGreat.Q
/- Transactions in memory: slices of them that read as a list, rows of them. Conditions as each lemma names them. -/

namespace Go.Proofs.YtdojhkgnnbdfkaaGreat.Q
open Go.ChangeShapes Go.WideShapes Go.ChangeAt Go.RowKit Go.Lib
set_option linter.unusedVariables false

/-- A transaction, and where its writes lie. -/
structure Tm where
  n : Int
  ao : Option Addr
  L : Nat
  cap : Nat
  ws : List Wt
def Tm.zero : Tm := ⟨0, none, 0, 0, []⟩
def Tm.tx (t : Tm) : Tx := ⟨t.n, t.ws⟩
def Tm.val (t : Tm) : Value := .agg #[.int .i64 t.n, .slice t.ao t.L t.cap]
def txs (ts : List Tm) : List Tx := ts.map Tm.tx
theorem txs_length (ts : List Tm) : (txs ts).length = ts.length := by simp [txs]
theorem txs_getD (ts : List Tm) (i : Nat) : (txs ts).getD i Tx.zero = (ts.getD i Tm.zero).tx := by
  by_cases h : i < ts.length
  · simp [txs, List.getD, h]
  · simp [txs, List.getD, h, Tm.zero, Tm.tx, Tx.zero]
theorem txs_take (ts : List Tm) (i : Nat) : (txs ts).take i = txs (ts.take i) := by simp [txs, List.map_take]
theorem txs_append (a b : List Tm) : txs (a ++ b) = txs a ++ txs b := by simp [txs]
/-- It is there. -/
def Tm.at (t : Tm) (w : World) : Prop := TArg w t.n t.ao t.L t.cap t.ws
theorem Tm.at.keep {t : Tm} {w w' : World} (h : t.at w) (hf : Fr [] w w') : t.at w' := TArg.keep h hf
theorem Tm.zero_at (w : World) : Tm.zero.at w := ⟨WRs.nil _ _, rfl, by decide, by decide⟩
/-- Its struct lies at o in block b. -/
structure TAt (w : World) (b o : Nat) (t : Tm) : Prop where
  c0 : w.cell? ⟨b, o, none⟩ = some (.int .i64 t.n)
  c1 : w.cell? ⟨b, o + 1, none⟩ = some (.slice t.ao t.L t.cap)
/-- The slice at ao reads as the transactions ts. -/
structure TRs (w : World) (ao : Option Addr) (ts : List Tm) : Prop where
  lies : 0 < ts.length → ∃ b off, ao = some ⟨b, off, none⟩ ∧ b < w.heap.size ∧ ∀ i, i < ts.length → TAt w b (off + i * 2) (ts.getD i Tm.zero)
  few : ts.length ≤ 140737488355328
  each : ∀ t ∈ ts, t.at w
theorem TRs.nil (w : World) (ao : Option Addr) : TRs w ao [] := ⟨fun h => by simp at h, by simp, by simp⟩
theorem TRs.keep {w w' : World} {ao : Option Addr} {ts : List Tm} (h : TRs w ao ts) (hf : Fr [] w w') : TRs w' ao ts := by
  refine ⟨fun h0 => ?_, h.few, fun t ht => (h.each t ht).keep hf⟩
  obtain ⟨b, off, e, hb, hc⟩ := h.lies h0
  have hk : ∀ o, w'.cell? ⟨b, o, none⟩ = w.cell? ⟨b, o, none⟩ := fun o => World.cell?_of_block (hf.block b hb (by simp))
  exact ⟨b, off, e, Nat.lt_of_lt_of_le hb hf.size, fun i hi => ⟨(hk _).trans (hc i hi).c0, (hk _).trans (hc i hi).c1⟩⟩
theorem tgetD_mem (ts : List Tm) (i : Nat) (h : i < ts.length) : ts.getD i Tm.zero ∈ ts := by simp [List.getD, h]
theorem ttake_snoc (ts : List Tm) (i : Nat) (h : i < ts.length) : ts.take (i + 1) = ts.take i ++ [ts.getD i Tm.zero] := by
  rw [List.take_add_one]
  simp [List.getD, h]
theorem TRs.take {w : World} {ao : Option Addr} {ts : List Tm} (h : TRs w ao ts) (k : Nat) : TRs w ao (ts.take k) := by
  refine ⟨fun h0 => ?_, by have := h.few; rw [List.length_take]; omega, fun t ht => h.each t (List.mem_of_mem_take ht)⟩
  rw [List.length_take] at h0
  obtain ⟨b, off, e, hb, hc⟩ := h.lies (by omega)
  refine ⟨b, off, e, hb, fun i hi => ?_⟩
  rw [List.length_take] at hi
  have e2 : (ts.take k).getD i Tm.zero = ts.getD i Tm.zero := by
    have : i < k := by omega
    simp [List.getD, this]
  rw [e2]
  exact hc i (by omega)
/-- A transaction's cells. -/
def tmC (t : Tm) : List Value := [.int .i64 t.n, .slice t.ao t.L t.cap]
def tmsC : List Tm → List Value
  | [] => []
  | t :: r => tmC t ++ tmsC r
theorem tmsC_append (a b : List Tm) : tmsC (a ++ b) = tmsC a ++ tmsC b := by
  induction a with
  | nil => rfl
  | cons v r ih => simp [tmsC, ih]
theorem tmsC_length (a : List Tm) : (tmsC a).length = a.length * 2 := by
  induction a with
  | nil => rfl
  | cons v r ih => simp only [tmsC, tmC, List.length_append, List.length_cons, List.length_nil, ih]; omega
theorem tmsC_get (a : List Tm) (j c : Nat) (hj : j < a.length) (hc : c < 2) : (tmsC a)[j * 2 + c]? = (tmC (a.getD j Tm.zero))[c]? := by
  induction a generalizing j with
  | nil => simp at hj
  | cons v r ih =>
    cases j with
    | zero =>
      simp only [tmsC, Nat.zero_mul, Nat.zero_add]
      rw [List.getElem?_append_left (by simp [tmC]; omega)]
      simp
    | succ j =>
      simp only [tmsC]
      rw [List.getElem?_append_right (by simp [tmC]; omega)]
      have e : (j + 1) * 2 + c - (tmC v).length = j * 2 + c := by simp [tmC]; omega
      rw [e, ih j (by simpa using hj)]
      simp
theorem tmsC_oneCell (a : List Tm) : ∀ u ∈ tmsC a, u.oneCell' = true := by
  induction a with
  | nil => intro u hu; simp [tmsC] at hu
  | cons v r ih =>
    intro u hu
    rcases List.mem_append.1 hu with h | h
    · simp only [tmC, List.mem_cons, List.not_mem_nil, or_false] at h
      rcases h with rfl | rfl <;> rfl
    · exact ih u h
theorem TRs.of_row {w : World} {b : Nat} {ts : List Tm} {rest : List Value} {t : TypeId} {f : Nat × Nat} (h : w.heap[b]? = some (.cells (tmsC ts ++ rest).toArray t f)) (hl : ts.length ≤ 140737488355328) (he : ∀ t ∈ ts, t.at w) : TRs w (some ⟨b, 0, none⟩) ts := by
  refine ⟨fun _ => ⟨b, 0, rfl, lt_of_block h, fun i hi => ?_⟩, hl, he⟩
  have key : ∀ c, c < 2 → w.cell? ⟨b, 0 + i * 2 + c, none⟩ = (tmC (ts.getD i Tm.zero))[c]? := by
    intro c hc
    rw [cell_of_row _ _ _ _ _ _ h, Nat.zero_add, ← tmsC_get ts i c hi hc]
    have hlt : i * 2 + c < (tmsC ts).length := by rw [tmsC_length]; omega
    simp [List.getElem?_append_left hlt]
  exact ⟨key 0 (by omega), key 1 (by omega)⟩
/-- Its number is one of 64 bits. -/
theorem Tm.at.bounds {t : Tm} {w : World} (h : t.at w) : -9223372036854775808 ≤ t.n ∧ t.n ≤ 9223372036854775807 := ⟨h.n0, h.n1⟩
end Go.Proofs.YtdojhkgnnbdfkaaGreat.Q
