/- Texts of this claim laid together, one behind the other: contracts and plain lemmas; conditions as each names them. -/
import Derived.Test.YtaaghcimfcjehaaGreatDoorGp15
import Derived.Test.YtaaghcimfcjehaaGreatDoorGp7
/- What Tasks and Name answer, the program's and the document's. Conditions: the array of names lies as its variable lays it; numbers of 64 bits. -/
namespace Go.Proofs.YtaaghcimfcjehaaGreatDoor
open Go.ChangeShapes Go.WideShapes Go.ChangeAt Go.RowKit Go.Lib
set_option linter.unusedVariables false
set_option linter.unusedSimpArgs false

def nDisp : ByteArray := ⟨#[100, 105, 115, 112, 97, 116, 99, 104, 101, 114]⟩
def nLane : ByteArray := ⟨#[108, 97, 110, 101]⟩
def nOwn : ByteArray := ⟨#[111, 119, 110, 101, 114]⟩
def nGate : ByteArray := ⟨#[103, 97, 116, 101]⟩
def nCall : ByteArray := ⟨#[99, 97, 108, 108]⟩
def nmAt : Nat → ByteArray
  | 0 => nDisp
  | 1 => nLane
  | 2 => nOwn
  | 3 => nGate
  | _ => nCall
/-- The names lie as they are laid. -/
def Nms (w : World) : Prop := ∀ j, j < 5 → w.cell? ⟨0, j, none⟩ = some (.string (nmAt j))
theorem Nms.lt {w : World} (h : Nms w) : 0 < w.heap.size := World.block_lt_of_cell? w _ (h 0 (by decide))
theorem Nms.keep {S : List Nat} {w w' : World} (h : Nms w) (hf : Fr S w w') (hn : 0 ∉ S) : Nms w' := fun j hj => (World.cell?_of_block (hf.block 0 h.lt hn)).trans (h j hj)

/-- What Tasks answers. -/
def Cf.tasks (c : Cf) : Int × Int := if c.may then (c.l + c.s + 2, 0) else (0, 7)

set_option maxHeartbeats 4000000 in
set_option maxRecDepth 100000 in
theorem tasks_any (l s x q : Int) (w : World) :
    Calls Tryz.prog 151 #[.agg #[.int .i64 l, .int .i64 s, .int .i64 x, .int .i64 q]] w fun e w' => e = .returned (.tuple #[.int .i64 (Cf.tasks ⟨l, s, x, q⟩).1, .int .i64 (Cf.tasks ⟨l, s, x, q⟩).2]) ∧ Fr [] w w' := by
  have HC := fun w => check_cells l s x q w
  by_cases hm : Cf.may ⟨l, s, x, q⟩
  · have E : Cf.err ⟨l, s, x, q⟩ = 0 := if_pos hm
    rw [E] at HC
    have hs : 1 ≤ s ∧ s ≤ 16 := hm.2.1
    have hl : 1 ≤ l ∧ l ≤ 16 := hm.1
    have E2 : Cf.tasks ⟨l, s, x, q⟩ = (l + s + 2, 0) := if_pos hm
    rw [E2]
    clear hm E E2
    have HS : Hid (1 + l + s + 1 = l + s + 2) := by show _ = _; omega
    go_enter Tryz.func151, Tryz.ntmps151
    go_wp2_with fail
    refine (HC _).mono ?_
    rintro e w1 ⟨rfl, hF1⟩
    obtain ⟨_, a0, a1, _, _⟩ := (CfM.new w l s x q 23).keep hF1
    have HF : Hid (Fr [] w w1) := (Fr.alloc _ _ _).then hF1
    clear hF1 HC
    go_wp2_with fail
    refine bodyPost_ret (results_tmp2 rfl _ _ _) rfl ?_
    exact ⟨by rw [← HS.out]; rfl, HF.out⟩
  · have E : Cf.err ⟨l, s, x, q⟩ = 7 := if_neg hm
    rw [E] at HC
    have E2 : Cf.tasks ⟨l, s, x, q⟩ = (0, 7) := if_neg hm
    rw [E2]
    clear hm E E2
    go_enter Tryz.func151, Tryz.ntmps151
    go_wp2_with fail
    refine (HC _).mono ?_
    rintro e w1 ⟨rfl, hF1⟩
    have HF : Hid (Fr [] w w1) := (Fr.alloc _ _ _).then hF1
    clear hF1 HC
    go_wp2_with fail
    refine bodyPost_ret (results_tmp2 rfl _ _ _) rfl ?_
    exact ⟨rfl, HF.out⟩

/-- Which kind, and which one of it, a task that is there is. -/
def KT (l s t : Int) (K : Nat) (k : Int) : Prop :=
  (t < 0 ∧ K = 4 ∧ k = t) ∨ (t = 0 ∧ K = 0 ∧ k = 0) ∨ (0 < t ∧ t ≤ l ∧ K = 1 ∧ k = t) ∨ (l < t ∧ t ≤ l + s ∧ K = 2 ∧ k = t - l - 1) ∨ (t = l + s + 1 ∧ K = 3 ∧ k = 0)
theorem KT.ex (l s t : Int) (h : t < l + s + 2) : ∃ K k, KT l s t K k := by
  by_cases h1 : t < 0
  · exact ⟨4, t, Or.inl ⟨h1, rfl, rfl⟩⟩
  · by_cases h2 : t = 0
    · exact ⟨0, 0, Or.inr (Or.inl ⟨h2, rfl, rfl⟩)⟩
    · by_cases h3 : t ≤ l
      · exact ⟨1, t, Or.inr (Or.inr (Or.inl ⟨by omega, h3, rfl, rfl⟩))⟩
      · by_cases h4 : t ≤ l + s
        · exact ⟨2, t - l - 1, Or.inr (Or.inr (Or.inr (Or.inl ⟨by omega, h4, rfl, rfl⟩)))⟩
        · exact ⟨3, 0, Or.inr (Or.inr (Or.inr (Or.inr ⟨by omega, rfl, rfl⟩)))⟩

set_option maxHeartbeats 4000000 in
set_option maxRecDepth 100000 in
theorem kind_any (l s x q t : Int) (K : Nat) (k : Int) (w : World) (hl : 1 ≤ l ∧ l ≤ 16) (hs : 1 ≤ s ∧ s ≤ 16) (ht : I6 t) (h : KT l s t K k) :
    Calls Tryz.prog 152 #[.agg #[.int .i64 l, .int .i64 s, .int .i64 x, .int .i64 q], .int .i64 t] w fun e w' => e = .returned (.int .u8 (K : Int)) ∧ Fr [] w w' := by
  rcases h with ⟨h1, rfl, h3⟩ | ⟨h1, rfl, h3⟩ | ⟨h1, h2, rfl, h3⟩ | ⟨h1, h2, rfl, h3⟩ | ⟨h1, rfl, h3⟩
  · clear h3 ht
    go_enter Tryz.func152, Tryz.ntmps152
    go_wp2
    go_ret
    exact ⟨rfl, Fr.alloc _ _ _⟩
  · subst h1
    clear h3 ht
    go_enter Tryz.func152, Tryz.ntmps152
    go_wp2
    go_ret
    exact ⟨rfl, Fr.alloc _ _ _⟩
  · have e1 : ¬ t < 0 := by omega
    have e2 : ¬ t = 0 := by omega
    clear h3 ht
    go_enter Tryz.func152, Tryz.ntmps152
    go_wp2
    go_ret
    exact ⟨rfl, Fr.alloc _ _ _⟩
  · have e1 : ¬ t < 0 := by omega
    have e2 : ¬ t = 0 := by omega
    have e3 : ¬ t ≤ l := by omega
    clear h3 ht h1
    go_enter Tryz.func152, Tryz.ntmps152
    go_wp2
    go_ret
    exact ⟨rfl, Fr.alloc _ _ _⟩
  · have e1 : ¬ t < 0 := by omega
    have e2 : ¬ t = 0 := by omega
    have e3 : ¬ t ≤ l := by omega
    have e4 : ¬ t ≤ l + s := by omega
    clear h3 ht h1
    go_enter Tryz.func152, Tryz.ntmps152
    go_wp2
    go_ret
    exact ⟨rfl, Fr.alloc _ _ _⟩

set_option maxHeartbeats 4000000 in
set_option maxRecDepth 100000 in
theorem which_any (l s x q t : Int) (K : Nat) (k : Int) (w : World) (hl : 1 ≤ l ∧ l ≤ 16) (hs : 1 ≤ s ∧ s ≤ 16) (ht : I6 t) (h : KT l s t K k) :
    Calls Tryz.prog 153 #[.agg #[.int .i64 l, .int .i64 s, .int .i64 x, .int .i64 q], .int .u8 (K : Int), .int .i64 t] w fun e w' => e = .returned (.int .i64 k) ∧ Fr [] w w' := by
  rcases h with ⟨h1, rfl, h3⟩ | ⟨h1, rfl, h3⟩ | ⟨h1, h2, rfl, h3⟩ | ⟨h1, h2, rfl, h3⟩ | ⟨h1, rfl, h3⟩
  · subst h3
    clear ht
    go_enter Tryz.func153, Tryz.ntmps153
    go_wp2
    go_ret
    exact ⟨rfl, Fr.alloc _ _ _⟩
  · subst h1 h3
    clear ht
    go_enter Tryz.func153, Tryz.ntmps153
    go_wp2
    go_ret
    exact ⟨rfl, Fr.alloc _ _ _⟩
  · subst h3
    clear ht
    go_enter Tryz.func153, Tryz.ntmps153
    go_wp2
    go_ret
    exact ⟨rfl, Fr.alloc _ _ _⟩
  · have HK : Hid (t - (1 + l) = k) := by show _ = _; omega
    clear h3 ht
    have h4 : 0 ≤ t - (1 + l) := by omega
    have h5 : t - (1 + l) ≤ 16 := by omega
    go_enter Tryz.func153, Tryz.ntmps153
    go_wp2
    go_ret
    exact ⟨by rw [← HK.out]; rfl, Fr.alloc _ _ _⟩
  · have HK : Hid (t - s - (1 + l) = k) := by show _ = _; omega
    clear h3 ht
    have h4 : 0 ≤ t - s ∧ t - s ≤ 32 := by omega
    have h5 : 0 ≤ t - s - (1 + l) ∧ t - s - (1 + l) ≤ 16 := by omega
    clear h1
    go_enter Tryz.func153, Tryz.ntmps153
    go_wp2
    go_ret
    exact ⟨by rw [← HK.out]; rfl, Fr.alloc _ _ _⟩
end Go.Proofs.YtaaghcimfcjehaaGreatDoor
/- What Name answers, the program's and the document's. Conditions: the array of names lies as its variable lays it; a task of 64 bits. -/
namespace Go.Proofs.YtaaghcimfcjehaaGreatDoor
open Go.ChangeShapes Go.WideShapes Go.ChangeAt Go.RowKit Go.Lib
set_option linter.unusedVariables false
set_option linter.unusedSimpArgs false

/-- What Name answers: a name, a number, an error. -/
def NaT (l s x q t : Int) (nm : ByteArray) (k e : Int) : Prop :=
  (¬ Cf.may ⟨l, s, x, q⟩ ∧ nm = ⟨#[]⟩ ∧ k = 0 ∧ e = 7) ∨ (Cf.may ⟨l, s, x, q⟩ ∧ l + s + 2 ≤ t ∧ nm = ⟨#[]⟩ ∧ k = 0 ∧ e = 1) ∨ (Cf.may ⟨l, s, x, q⟩ ∧ t < l + s + 2 ∧ e = 0 ∧ ∃ K, KT l s t K k ∧ nm = nmAt K)
theorem NaT.ex (l s x q t : Int) : ∃ nm k e, NaT l s x q t nm k e := by
  by_cases h : Cf.may ⟨l, s, x, q⟩
  · by_cases h2 : l + s + 2 ≤ t
    · exact ⟨_, _, _, Or.inr (Or.inl ⟨h, h2, rfl, rfl, rfl⟩)⟩
    · obtain ⟨K, k, hk⟩ := KT.ex l s t (by omega)
      exact ⟨_, k, 0, Or.inr (Or.inr ⟨h, by omega, rfl, K, hk, rfl⟩)⟩
  · exact ⟨_, _, _, Or.inl ⟨h, rfl, rfl, rfl⟩⟩
theorem KT.le {l s t : Int} {K : Nat} {k : Int} (h : KT l s t K k) : K < 5 := by
  rcases h with ⟨_, h, _⟩ | ⟨_, h, _⟩ | ⟨_, _, h, _⟩ | ⟨_, _, h, _⟩ | ⟨_, h, _⟩ <;> omega

set_option maxHeartbeats 4000000 in
set_option maxRecDepth 100000 in
theorem name_any (l s x q t : Int) (nm : ByteArray) (k e : Int) (w : World) (hT : Nms w) (ht : I6 t) (h : NaT l s x q t nm k e) :
    Calls Tryz.prog 125 #[.agg #[.int .i64 l, .int .i64 s, .int .i64 x, .int .i64 q], .int .i64 t] w fun e' w' => e' = .returned (.tuple #[.string nm, .int .i64 k, .int .i64 e]) ∧ Fr [] w w' := by
  have HC := fun w => tasks_any l s x q w
  rcases h with ⟨hm, rfl, rfl, rfl⟩ | ⟨hm, h2, rfl, rfl, rfl⟩ | ⟨hm, h2, rfl, K, hK, rfl⟩
  · have E : Cf.tasks ⟨l, s, x, q⟩ = (0, 7) := if_neg hm
    rw [E] at HC
    clear hm E ht hT
    go_enter Tryz.func125, Tryz.ntmps125
    go_wp2_with fail
    refine (HC _).mono ?_
    rintro e w1 ⟨rfl, hF1⟩
    have HF : Hid (Fr [] w w1) := (Fr.alloc _ _ _).then hF1
    clear hF1 HC
    go_wp2_with fail
    go_ret3
    exact ⟨rfl, HF.out⟩
  · have E : Cf.tasks ⟨l, s, x, q⟩ = (l + s + 2, 0) := if_pos hm
    rw [E] at HC
    clear hm E ht hT
    go_enter Tryz.func125, Tryz.ntmps125
    go_wp2_with fail
    refine (HC _).mono ?_
    rintro e w1 ⟨rfl, hF1⟩
    have HF : Hid (Fr [] w w1) := (Fr.alloc _ _ _).then hF1
    clear hF1 HC
    go_wp2_with fail
    go_ret3
    exact ⟨rfl, HF.out⟩
  · have E : Cf.tasks ⟨l, s, x, q⟩ = (l + s + 2, 0) := if_pos hm
    rw [E] at HC
    have HK := fun w => kind_any l s x q t K k w hm.1 hm.2.1 ht hK
    have HW := fun w => which_any l s x q t K k w hm.1 hm.2.1 ht hK
    have hK5 := hK.le
    have hK5' : (K : Int) < 5 := by omega
    have hnt : ¬ l + s + 2 ≤ t := by omega
    have HN : Hid (∀ W, Fr [] w W → W.cell? ⟨0, K, none⟩ = some (.string (nmAt K))) := fun W hf => (hT.keep hf (by simp)) K hK5
    have HM : Hid (∀ W, Fr [] (w.alloc (.cells #[.int .i64 l, .int .i64 s, .int .i64 x, .int .i64 q] 23)) W → CfM W w.heap.size l s x q) := fun W hf => (CfM.new w l s x q 23).keep hf
    generalize nmAt K = nm at HN
    clear hm E ht hT hK h2
    go_enter Tryz.func125, Tryz.ntmps125
    go_wp2_with fail
    refine (HC _).mono ?_
    rintro e w1 ⟨rfl, hF1⟩
    have HF : Hid (Fr [] (w.alloc (.cells #[.int .i64 l, .int .i64 s, .int .i64 x, .int .i64 q] 23)) w1) := hF1
    clear hF1 HC
    obtain ⟨_, a0, a1, a2, a3⟩ := HM.out w1 HF.out
    go_wp2_with fail
    refine (HK _).mono ?_
    rintro e w2 ⟨rfl, hF2⟩
    have HF2 : Hid (Fr [] (w.alloc (.cells #[.int .i64 l, .int .i64 s, .int .i64 x, .int .i64 q] 23)) w2) := HF.out.then hF2
    clear hF2 HK HF a0 a1 a2 a3
    have f0 : ∀ y : Wd13 w2, y.W.cell? ⟨w.heap.size, 0, none⟩ = some (.int .i64 l) := fun y => (HM.out _ (HF2.out.then y.h)).2.1
    have f1 : ∀ y : Wd13 w2, y.W.cell? ⟨w.heap.size, 1, none⟩ = some (.int .i64 s) := fun y => (HM.out _ (HF2.out.then y.h)).2.2.1
    have f2 : ∀ y : Wd13 w2, y.W.cell? ⟨w.heap.size, 2, none⟩ = some (.int .i64 x) := fun y => (HM.out _ (HF2.out.then y.h)).2.2.2.1
    have f3 : ∀ y : Wd13 w2, y.W.cell? ⟨w.heap.size, 3, none⟩ = some (.int .i64 q) := fun y => (HM.out _ (HF2.out.then y.h)).2.2.2.2
    have f4 : ∀ y : Wd13 w2, y.W.cell? ⟨0, K, none⟩ = some (.string nm) := fun y => HN.out _ ((Fr.alloc _ _ _).then (HF2.out.then y.h))
    go_wp2_with fail
    refine wp_region_wd13 (w1 := w2) (by kernel_rfl) (by kernel_rfl) (Fr.refl _ _) ?_
    repeat (go_big_quiet_step ((go_at_call 153; with_reducible refine (HW _).mono ?_; exact fun e w3 hh => ⟨hh.1, ⟨_, Fr.then (Wd13.h _) hh.2⟩, rfl⟩)))
    refine wpQuiet_nil ?_
    rintro _ ⟨y, rfl⟩
    go_wp2_with fail
    go_ret3
    exact ⟨rfl, (Fr.alloc _ _ _).then (HF2.out.then y.h)⟩
end Go.Proofs.YtaaghcimfcjehaaGreatDoor
/- A transaction that came in: how it lies in memory. Conditions as each lemma names them. -/
namespace Go.Proofs.YtaaghcimfcjehaaGreatDoor
open Go.ChangeShapes Go.WideShapes Go.ChangeAt Go.RowKit Go.Lib
set_option linter.unusedVariables false
section
variable {H : Type} {enc : TypeId × Value → H}
theorem weightsAll_mem {P : Program} {e : TypeId} : ∀ {ds : List (DataW H)} {d : DataW H}, d ∈ ds → ∀ n ∈ d.weights P e, n ∈ DataW.weightsAll P e ds
  | x :: r, d, hd, n, hn => by
    simp only [DataW.weightsAll, List.mem_append]
    rcases List.mem_cons.1 hd with rfl | hd
    · exact Or.inl hn
    · exact Or.inr (weightsAll_mem hd n hn)
theorem Tryz.undWs' : Tryz.prog.underlying 64 = some (.slice 92) := by kernel_rfl
theorem Tryz.cellsWt : Tryz.prog.cellsOf 92 = 3 := by kernel_rfl
theorem Tryz.wtFields : (match Tryz.prog.underlying 92 with | some (.struct fs) => fs.toList.map (fun f => (f.type, f.offset)) | _ => []) = [(9, 0), (9, 1), (4, 2)] := by kernel_rfl
theorem Tryz.cellsT : Tryz.prog.cellsOf 66 = 2 := by kernel_rfl
theorem Tryz.tFields : (match Tryz.prog.underlying 66 with | some (.struct fs) => fs.toList.map (fun f => (f.type, f.offset)) | _ => []) = [(3, 0), (64, 1)] := by kernel_rfl
theorem Tryz.undI : Tryz.prog.underlying 3 = some (.int .i64) := by kernel_rfl
theorem Tryz.undBl : Tryz.prog.underlying 4 = some .bool := by kernel_rfl
theorem Tryz.cBl : Tryz.prog.cellsOf 4 = 1 := by kernel_rfl
theorem Tryz.cI : Tryz.prog.cellsOf 3 = 1 := by kernel_rfl
theorem Tryz.cS : Tryz.prog.cellsOf 9 = 1 := by kernel_rfl
theorem Tryz.cWs : Tryz.prog.cellsOf 64 = 1 := by kernel_rfl
set_option maxRecDepth 100000 in
theorem wt_open {w : World} {base : Nat} {spare : Nat → Bool} {held : Bool} {fuel : Nat} {cs : List Value} {x : DataW H × List MemPlace} (h : DataW.trod enc Tryz.prog w base spare held fuel 92 cs = some x) :
    ∃ v : Wt, cs = [.string v.key, .string v.val, .bool v.drop] ∧ v.key.size ∈ x.1.weights Tryz.prog 92 ∧ v.val.size ∈ x.1.weights Tryz.prog 92 := by
  have hF := Tryz.wtFields
  cases hu : Tryz.prog.underlying 92 with
  | none => rw [hu] at hF; simp at hF
  | some u =>
    rw [hu] at hF
    cases u with
    | struct fs =>
      simp only at hF
      obtain ⟨ys, n, _, hx, hlen, hys, hf⟩ := DataW.trod_struct hu h
      rw [Tryz.cellsWt] at hlen
      match cs, hlen with
      | [v0, v1, v2], _ =>
        have hl3 : fs.toList.length = 3 := by have := congrArg List.length hF; simpa using this
        obtain ⟨l, hl⟩ : ∃ l, l = fs.toList := ⟨_, rfl⟩
        rw [← hl] at hF hl3
        match l, hl3 with
        | [f0, f1, f2], _ =>
          simp only [List.map_cons, List.map_nil, List.cons.injEq, Prod.mk.injEq, and_true] at hF
          obtain ⟨⟨t0, o0⟩, ⟨t1, o1⟩, ⟨t2, o2⟩⟩ := hF
          have g : ∀ (i : Nat) (f : Field), [f0, f1, f2][i]? = some f → fs[i]? = some f := by
            intro i f hi
            rw [hl] at hi
            simpa using hi
          have r0 := hf 0 f0 (g 0 f0 rfl)
          have r1 := hf 1 f1 (g 1 f1 rfl)
          have r2 := hf 2 f2 (g 2 f2 rfl)
          rw [t0, o0, Tryz.cS] at r0
          rw [t1, o1, Tryz.cS] at r1
          rw [t2, o2, Tryz.cBl] at r2
          simp only [List.drop_zero, List.drop_succ_cons, List.take_succ_cons, List.take_zero] at r0 r1 r2
          have hy3 : ys.length = 3 := by rw [hys]; have := congrArg List.length hl; simpa using this.symm
          match ys, hy3 with
          | [y0, y1, y2], _ =>
            simp only [List.getElem?_cons_zero, List.getElem?_cons_succ] at r0 r1 r2
            obtain ⟨s0, e0, x0, _⟩ := DataW.trod_string Tryz.undStr r0
            obtain ⟨s1, e1, x1, _⟩ := DataW.trod_string Tryz.undStr r1
            obtain ⟨b2, e2, _⟩ := DataW.trod_bool Tryz.undBl r2
            simp only [List.cons.injEq, and_true] at e0 e1 e2
            have hty : fs.toList.map (·.type) = [9, 9, 4] := by rw [← hl]; simp [t0, t1, t2]
            refine ⟨⟨s0, s1, b2⟩, by rw [e0, e1, e2], ?_, ?_⟩
            · rw [hx]
              simp only [DataW.weights, hu]
              rw [hty]
              refine DataW.weights_mem_each (j := 0) (t := 9) (d := y0.1) rfl rfl _ ?_
              rw [x0]
              simp only [DataW.weights, List.mem_singleton]
              show s0.data.size = _
              simp
            · rw [hx]
              simp only [DataW.weights, hu]
              rw [hty]
              refine DataW.weights_mem_each (j := 1) (t := 9) (d := y1.1) rfl rfl _ ?_
              rw [x1]
              simp only [DataW.weights, List.mem_singleton]
              show s1.data.size = _
              simp
    | _ => simp at hF
set_option maxRecDepth 100000 in
theorem ws_open {w : World} {fuel : Nat} {v : Value} {d : DataW H} {ps : List MemPlace} (h : DataW.trod enc Tryz.prog w 0 (fun _ => true) true fuel 64 [v] = some (d, ps)) (hsz : ∀ n ∈ d.weights Tryz.prog 64, n ≤ reachBytes) :
    ∃ ao L cap ws, v = .slice ao L cap ∧ WRs w ao ws ∧ L = ws.length := by
  rcases Go.Deep.open_slice Tryz.undWs' h with ⟨hcs, _⟩ | ⟨a, len, cap, m, n, D, Pl, hcs, hb, hl, hm, hmm, hx, hE⟩
  · simp only [List.cons.injEq, and_true] at hcs
    exact ⟨none, 0, 0, [], hcs, WRs.nil _ _, rfl⟩
  · simp only [List.cons.injEq, and_true] at hcs
    simp only [if_true] at hmm
    subst hmm
    rw [Tryz.cellsWt] at hE hx
    have hO : ∀ i, i < m → ∃ o : Wt, (w.cells? 0 (a.add (i * 3)) 3 = some [.string o.key, .string o.val, .bool o.drop]) ∧ o.key.size ∈ (D i).weights Tryz.prog 92 ∧ o.val.size ∈ (D i).weights Tryz.prog 92 := by
      intro i hi
      obtain ⟨cs', h1, h2⟩ := hE i hi
      obtain ⟨o, rfl, rest⟩ := wt_open h2
      exact ⟨o, h1, rest⟩
    haveI : Inhabited Wt := ⟨Wt.zero⟩
    obtain ⟨F, hF⟩ := Go.Deep.choose_lt hO
    have hd : d = .slice ((List.range len).map D) ((List.range (m - len)).map fun j => D (len + j)) := by have := congrArg Prod.fst hx; simpa using this
    have hr := reachBytes_lt
    have hlen : len ≤ 140737488355328 := by
      have hw : len * Tryz.prog.bytesOf 92 ≤ reachBytes := by
        refine Nat.le_trans (Nat.mul_le_mul_right _ hl) (hsz _ ?_)
        rw [hd]
        simp only [DataW.weights, Tryz.undWs', List.length_map, List.length_range]
        rw [show len + (m - len) = m by omega]
        exact List.mem_cons_self
      have hb40 : 1 ≤ Tryz.prog.bytesOf 92 := by
        rw [show Tryz.prog.bytesOf 92 = 40 from by kernel_rfl]
        decide
      have := Nat.le_mul_of_pos_right len hb40
      omega
    refine ⟨some a, len, m, (List.range len).map F, hcs, ⟨fun h0 => ?_, by simpa using hlen, ?_⟩, by simp⟩
    · simp only [List.length_map, List.length_range] at h0 ⊢
      have hc0 := (World.cells?_some (hF 0 (by omega)).1).2.2
      obtain ⟨b, off, spot⟩ := a
      have hspot : spot = none := by
        have := hc0 0 (by omega)
        simp at this
        simpa [Addr.add] using World.cell?_spot this
      subst hspot
      have hcell : ∀ i, i < len → ∀ j, j < 3 → w.cell? ⟨b, off + i * 3 + j, none⟩ = [Value.string (F i).key, .string (F i).val, .bool (F i).drop][j]? := by
        intro i hi j hj
        have := (World.cells?_some (hF i (by omega)).1).2.2 j hj
        rw [show ((⟨b, off, none⟩ : Addr).add (i * 3)).add j = ⟨b, off + i * 3 + j, none⟩ from by rw [Addr.add_lit, Addr.add_lit]] at this
        exact this
      refine ⟨b, off, rfl, World.block_lt_of_cell? w ⟨b, off + 0 * 3 + 0, none⟩ (by rw [hcell 0 (by omega) 0 (by omega)]; rfl), fun i hi => ?_⟩
      have e : ((List.range len).map F).getD i Wt.zero = F i := by simp [List.getD, hi]
      rw [e]
      exact ⟨hcell i hi 0 (by omega), hcell i hi 1 (by omega), hcell i hi 2 (by omega)⟩
    · intro o ho
      obtain ⟨i, hi, rfl⟩ := List.mem_map.1 ho
      have hi' : i < len := by simpa using hi
      have key : ∀ q ∈ (D i).weights Tryz.prog 92, q ≤ 140737488355328 := by
        intro q hq
        have : q ≤ reachBytes := by
          apply hsz
          rw [hd]
          simp only [DataW.weights, Tryz.undWs']
          refine List.mem_cons_of_mem _ (List.mem_append_left _ ?_)
          exact weightsAll_mem (List.mem_map.2 ⟨i, by simpa using hi', rfl⟩) _ hq
        omega
      exact ⟨key _ (hF i (by omega)).2.1, key _ (hF i (by omega)).2.2⟩
/-- The transaction that came in. -/
structure TArg (w : World) (n : Int) (ao : Option Addr) (L cap : Nat) (ws : List Wt) : Prop where
  rs : WRs w ao ws
  len : L = ws.length
  n0 : -9223372036854775808 ≤ n
  n1 : n ≤ 9223372036854775807
theorem TArg.keep {w w' : World} {n : Int} {ao : Option Addr} {L cap : Nat} {ws : List Wt} (h : TArg w n ao L cap ws) (hf : Fr [] w w') : TArg w' n ao L cap ws := { h with rs := h.rs.keep hf }
set_option maxRecDepth 100000 in
theorem tx_open {w : World} {fuel : Nat} {cs : List Value} {x : DataW H × List MemPlace} (h : DataW.trod enc Tryz.prog w 0 (fun _ => true) true fuel 66 cs = some x) (hsz : ∀ n ∈ x.1.weights Tryz.prog 66, n ≤ reachBytes) :
    ∃ n ao L cap ws, cs = [.int .i64 n, .slice ao L cap] ∧ TArg w n ao L cap ws := by
  have hF := Tryz.tFields
  cases hu : Tryz.prog.underlying 66 with
  | none => rw [hu] at hF; simp at hF
  | some u =>
    rw [hu] at hF
    cases u with
    | struct fs =>
      simp only at hF
      obtain ⟨ys, n, _, hx, hlen, hys, hf⟩ := DataW.trod_struct hu h
      rw [Tryz.cellsT] at hlen
      match cs, hlen with
      | [v0, v1], _ =>
        have hl2 : fs.toList.length = 2 := by have := congrArg List.length hF; simpa using this
        obtain ⟨l, hl⟩ : ∃ l, l = fs.toList := ⟨_, rfl⟩
        rw [← hl] at hF hl2
        match l, hl2 with
        | [f0, f1], _ =>
          simp only [List.map_cons, List.map_nil, List.cons.injEq, Prod.mk.injEq, and_true] at hF
          obtain ⟨⟨t0, o0⟩, ⟨t1, o1⟩⟩ := hF
          have g : ∀ (i : Nat) (f : Field), [f0, f1][i]? = some f → fs[i]? = some f := by
            intro i f hi
            rw [hl] at hi
            simpa using hi
          have r0 := hf 0 f0 (g 0 f0 rfl)
          have r1 := hf 1 f1 (g 1 f1 rfl)
          rw [t0, o0, Tryz.cI] at r0
          rw [t1, o1, Tryz.cWs] at r1
          simp only [List.drop_zero, List.drop_succ_cons, List.take_succ_cons, List.take_zero] at r0 r1
          have hy2 : ys.length = 2 := by rw [hys]; have := congrArg List.length hl; simpa using this.symm
          match ys, hy2 with
          | [y0, y1], _ =>
            simp only [List.getElem?_cons_zero, List.getElem?_cons_succ] at r0 r1
            obtain ⟨k, e0, _, w0⟩ := DataW.trod_int Tryz.undI r0
            have hty : fs.toList.map (·.type) = [3, 64] := by rw [← hl]; simp [t0, t1]
            obtain ⟨ao, L, cap, ws, e1, hW, hL⟩ := ws_open (d := y1.1) (ps := y1.2) r1 (by
              intro q hq
              apply hsz
              rw [hx]
              simp only [DataW.weights, hu]
              rw [hty]
              exact DataW.weights_mem_each (j := 1) (t := 64) (d := y1.1) rfl rfl _ hq)
            simp only [List.cons.injEq, and_true] at e0
            have b0 := bounds_i64 w0
            exact ⟨k, ao, L, cap, ws, by rw [e0, e1], hW, hL, b0.1, b0.2⟩
    | _ => simp at hF
end
end Go.Proofs.YtaaghcimfcjehaaGreatDoor
