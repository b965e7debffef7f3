/- A script of ops that came in: how it lies in memory, and the statements' own test of its size. Conditions as each lemma names them. -/
import Derived.Test.YtgoonbikhdbkiaaGreatDoorAskedG
import Derived.Deep.Slices
import Derived.SizedLaws
namespace Go.Proofs.YtgoonbikhdbkiaaGreatDoor
open Go.ChangeShapes Go.WideShapes Go.ChangeAt Go.RowKit Go.Lib

/-- An op of a script. -/
structure OV where
  k : Int
  s : Int
  a : Int
  bo : Option Addr
  M : Nat
  cb : Nat
  ys : List Nat
  n : Int
def OV.zero : OV := ⟨0, 0, 0, none, 0, 0, [], 0⟩
/-- It lies at o in block b. -/
structure OAt (w : World) (b o : Nat) (v : OV) : Prop where
  c0 : w.cell? ⟨b, o, none⟩ = some (.int .u8 v.k)
  c1 : w.cell? ⟨b, o + 1, none⟩ = some (.int .i64 v.s)
  c2 : w.cell? ⟨b, o + 2, none⟩ = some (.int .i64 v.a)
  c3 : w.cell? ⟨b, o + 3, none⟩ = some (.slice v.bo v.M v.cb)
  c4 : w.cell? ⟨b, o + 4, none⟩ = some (.int .i64 v.n)
structure OV.ok (w : World) (v : OV) : Prop where
  k0 : 0 ≤ v.k
  k1 : v.k ≤ 255
  s0 : -9223372036854775808 ≤ v.s
  s1 : v.s ≤ 9223372036854775807
  a0 : -9223372036854775808 ≤ v.a
  a1 : v.a ≤ 9223372036854775807
  n0 : -9223372036854775808 ≤ v.n
  n1 : v.n ≤ 9223372036854775807
  few : v.M ≤ 140737488355328
  arg : BArg w v.bo v.M v.cb v.ys
theorem OV.ok.keep {w w' : World} {v : OV} (h : v.ok w) (hf : Fr [] w w') : v.ok w' := { h with arg := h.arg.keep hf }
/-- The script that came in. -/
structure SArg (w : World) (ao : Option Addr) (L cap : Nat) (os : List OV) : Prop where
  len : L = os.length
  each : ∀ v ∈ os, v.ok w
  most : L ≤ 9223372036854775807
  lies : 0 < L → ∃ b off, ao = some ⟨b, off, none⟩ ∧ b < w.heap.size ∧ ∀ i, i < L → OAt w b (off + i * 5) (os.getD i OV.zero)
def total : List OV → Nat
  | [] => 0
  | v :: r => 1 + v.M + total r
theorem total_snoc (l : List OV) (v : OV) : total (l ++ [v]) = total l + 1 + v.M := by
  induction l with
  | nil => simp [total]
  | cons a r ih => simp only [List.cons_append, total, ih]; omega
theorem total_take_le (l : List OV) (i : Nat) : total (l.take i) ≤ total l := by
  induction l generalizing i with
  | nil => simp
  | cons a r ih =>
    cases i with
    | zero => simp [total]
    | succ i => simp only [List.take_succ_cons, total]; have := ih i; omega
theorem total_ge (os : List OV) : os.length ≤ total os := by
  induction os with
  | nil => simp
  | cons a r ih => simp only [List.length_cons, total]; omega
theorem total_mem (os : List OV) (v : OV) (h : v ∈ os) : v.M ≤ total os := by
  induction os with
  | nil => cases h
  | cons a r ih =>
    simp only [total]
    rcases List.mem_cons.1 h with rfl | h
    · omega
    · have := ih h; omega
theorem getD_mem (os : List OV) (i : Nat) (h : i < os.length) : os.getD i OV.zero ∈ os := by
  simp [List.getD, h]
theorem take_snoc (os : List OV) (i : Nat) (h : i < os.length) : os.take (i + 1) = os.take i ++ [os.getD i OV.zero] := by
  rw [List.take_add_one]
  simp [List.getD, h]

set_option maxHeartbeats 2000000 in
set_option maxRecDepth 100000 in
theorem script_any (ao : Option Addr) (L cap : Nat) (os : List OV) (w : World) (h : SArg w ao L cap os) :
    Calls Tryz.prog 4 #[.slice ao L cap] w fun e w' => e = .returned (.bool (decide (1048576 < total os))) ∧ w = w' := by
  have HL : Hid (L = os.length) := h.len
  have hLm := h.most
  by_cases h0 : 0 < L
  · obtain ⟨b, off, rfl, _, hc⟩ := h.lies h0
    obtain ⟨B, hB⟩ : ∃ B, B = decide (1048576 < total os) := ⟨_, rfl⟩
    rw [← hB]
    have HB : Hid (B = decide (1048576 < total os)) := hB
    clear hB
    go_enter Tryz.func4, Tryz.ntmps4
    go_wp2_with fail
    go_loop [3, 4] (fun vv ii => ∃ (n i : Nat), vv = .int .i64 n ∧ ii = .int .i64 i ∧ i ≤ L ∧ n ≤ 1048576 ∧ Hid (n = total (os.take i))) (fun _ ii => L - (intOf ii).toNat)
    case atStart => exact ⟨0, 0, rfl, rfl, Nat.zero_le _, by omega, rfl⟩
    case round =>
      obtain ⟨n, i, rfl, rfl, hiL, hn, E⟩ := hrel
      by_cases hi : i < L
      · have hO := hc i hi
        have hok := h.each _ (getD_mem os i (by rw [← HL.out]; exact hi))
        have hE2 := total_snoc (os.take i) (os.getD i OV.zero)
        rw [← take_snoc os i (by rw [← HL.out]; exact hi), ← E.out] at hE2
        obtain ⟨v, hv⟩ : ∃ v, v = os.getD i OV.zero := ⟨_, rfl⟩
        rw [← hv] at hO hok hE2
        have c3 := hO.c3
        have t1 := hok.few
        obtain ⟨T, hT⟩ : ∃ T, T = v.M := ⟨_, rfl⟩
        rw [← hT] at c3 t1 hE2
        clear hT hO hok hc hv
        have HE : Hid (total (os.take (i + 1)) = n + 1 + T) := hE2
        clear hE2
        by_cases hbig : 1048576 < n + 1 + T
        · have HB' : Hid (B = true) := by
            show B = true
            rw [HB.out, decide_eq_true_eq]
            have := total_take_le os (i + 1)
            rw [HE.out] at this
            omega
          have hb' : (1048576 : Int) < n + 1 + T := by omega
          go_wp2
          go_ret
          rw [HB'.out]
          exact ⟨rfl, rfl⟩
        · have hb' : (n : Int) + 1 + T ≤ 1048576 := by omega
          go_wp2
          go_round
          case rel => exact ⟨n + 1 + T, i + 1, by simp, by simp, by omega, by omega, HE.out.symm⟩
          case measure => simp [intOf]; omega
      · have HB' : Hid (B = false) := by
          show B = false
          rw [HB.out, decide_eq_false_iff_not]
          have := E.out
          rw [List.take_of_length_le (by rw [← HL.out]; omega)] at this
          omega
        go_wp2
        go_ret
        rw [HB'.out]
        exact ⟨rfl, rfl⟩
  · obtain rfl : L = 0 := by omega
    have : os = [] := List.eq_nil_of_length_eq_zero HL.out.symm
    subst this
    go_enter Tryz.func4, Tryz.ntmps4
    go_wp2_with fail
    refine wp_loop_rounds 1 ?_
    rw [rounds_succ]
    go_wp2
    go_ret
    exact ⟨rfl, rfl⟩

theorem SArg.keep {w w' : World} {ao : Option Addr} {L cap : Nat} {os : List OV} (h : SArg w ao L cap os) (hf : Fr [] w w') : SArg w' ao L cap os := by
  refine ⟨h.len, fun v hv => (h.each v hv).keep hf, h.most, fun h0 => ?_⟩
  obtain ⟨b, off, e, hb, hc⟩ := h.lies h0
  have hk : ∀ o, w'.cell? ⟨b, o, none⟩ = w.cell? ⟨b, o, none⟩ := fun o => World.cell?_of_block (hf.block b hb (by simp))
  refine ⟨b, off, e, Nat.lt_of_lt_of_le hb hf.size, fun i hi => ?_⟩
  have h1 := hc i hi
  exact ⟨(hk _).trans h1.c0, (hk _).trans h1.c1, (hk _).trans h1.c2, (hk _).trans h1.c3, (hk _).trans h1.c4⟩

section
variable {H : Type} {enc : TypeId × Value → H}
theorem weightsAll_mem {P : Program} {e : TypeId} : ∀ {ds : List (DataW H)} {d : DataW H}, d ∈ ds → ∀ n ∈ d.weights P e, n ∈ DataW.weightsAll P e ds
  | x :: r, d, hd, n, hn => by
    simp only [DataW.weightsAll, List.mem_append]
    rcases List.mem_cons.1 hd with rfl | hd
    · exact Or.inl hn
    · exact Or.inr (weightsAll_mem hd n hn)
theorem Tryz.undOps : Tryz.prog.underlying 22 = some (.slice 47) := by kernel_rfl
theorem Tryz.cellsOp : Tryz.prog.cellsOf 47 = 5 := by kernel_rfl
theorem Tryz.opFields : (match Tryz.prog.underlying 47 with | some (.struct fs) => fs.toList.map (fun f => (f.type, f.offset)) | _ => []) = [(5, 0), (3, 1), (3, 2), (45, 3), (3, 4)] := by kernel_rfl
theorem Tryz.undI : Tryz.prog.underlying 3 = some (.int .i64) := by kernel_rfl
theorem Tryz.cB : Tryz.prog.cellsOf 5 = 1 := by kernel_rfl
theorem Tryz.cI : Tryz.prog.cellsOf 3 = 1 := by kernel_rfl
theorem Tryz.cBs : Tryz.prog.cellsOf 45 = 1 := by kernel_rfl
/-- A row of bytes, and that its length is bounded by the weights. -/
theorem row_open {w : World} {fuel : Nat} {v : Value} {x : DataW H × List MemPlace} (h : DataW.trod enc Tryz.prog w 0 (fun _ => true) true fuel 45 [v] = some x) : ∃ bo M cb ys, v = .slice bo M cb ∧ BArg w bo M cb ys ∧ (M = 0 ∨ ∃ m ∈ x.1.weights Tryz.prog 45, M ≤ m) := by
  rcases open_ints Tryz.undBs Tryz.underlying5 (by kernel_rfl) h with ⟨hcs, hx⟩ | ⟨a, l, c, zs, hcs, _, hl, hm, hz, hx, hcell, hwz⟩
  · simp only [List.cons.injEq, and_true] at hcs
    exact ⟨none, 0, 0, [], hcs, ⟨rfl, by simp, Nat.le_refl _, by omega, fun h => by omega⟩, Or.inl rfl⟩
  · simp only [List.cons.injEq, and_true] at hcs
    obtain ⟨xs, hB⟩ := BArg.of_row (w := w) (a := some a) (len := l) (cap := c) (zs := zs) (.inr ⟨_, rfl, hl, hm, by simpa using hz, hcell, hwz⟩)
    refine ⟨some a, l, c, xs, hcs, hB, Or.inr ⟨((lits .u8 (zs.take l) : List (DataW H)).length + (lits .u8 (zs.drop l) : List (DataW H)).length) * Tryz.prog.bytesOf 5, ?_, ?_⟩⟩
    · rw [hx]
      simp [DataW.weights]
    · rw [show Tryz.prog.bytesOf 5 = 1 from by kernel_rfl]
      simp [lits] at hz ⊢
      omega
set_option maxRecDepth 100000 in
theorem op_open {w : World} {fuel : Nat} {cs : List Value} {x : DataW H × List MemPlace} (h : DataW.trod enc Tryz.prog w 0 (fun _ => true) true fuel 47 cs = some x) (hsz : ∀ n ∈ x.1.weights Tryz.prog 47, n ≤ reachBytes) :
    ∃ v : OV, cs = [.int .u8 v.k, .int .i64 v.s, .int .i64 v.a, .slice v.bo v.M v.cb, .int .i64 v.n] ∧ v.ok w := by
  have hF := Tryz.opFields
  cases hu : Tryz.prog.underlying 47 with
  | none => rw [hu] at hF; simp at hF
  | some u =>
    rw [hu] at hF
    cases u with
    | struct fs =>
      simp only at hF
      obtain ⟨ys, n, _, hx, hlen, hys, hf⟩ := DataW.trod_struct hu h
      rw [Tryz.cellsOp] at hlen
      match cs, hlen with
      | [v0, v1, v2, v3, v4], _ =>
        have hl5 : fs.toList.length = 5 := by have := congrArg List.length hF; simpa using this
        obtain ⟨l, hl⟩ : ∃ l, l = fs.toList := ⟨_, rfl⟩
        rw [← hl] at hF hl5
        match l, hl5 with
        | [f0, f1, f2, f3, f4], _ =>
          simp only [List.map_cons, List.map_nil, List.cons.injEq, Prod.mk.injEq, and_true] at hF
          obtain ⟨⟨t0, o0⟩, ⟨t1, o1⟩, ⟨t2, o2⟩, ⟨t3, o3⟩, ⟨t4, o4⟩⟩ := hF
          have g : ∀ (i : Nat) (f : Field), [f0, f1, f2, f3, f4][i]? = some f → fs[i]? = some f := by
            intro i f hi
            rw [hl] at hi
            simpa using hi
          have r0 := hf 0 f0 (g 0 f0 rfl)
          have r1 := hf 1 f1 (g 1 f1 rfl)
          have r2 := hf 2 f2 (g 2 f2 rfl)
          have r3 := hf 3 f3 (g 3 f3 rfl)
          have r4 := hf 4 f4 (g 4 f4 rfl)
          rw [t0, o0, Tryz.cB] at r0
          rw [t1, o1, Tryz.cI] at r1
          rw [t2, o2, Tryz.cI] at r2
          rw [t3, o3, Tryz.cBs] at r3
          rw [t4, o4, Tryz.cI] at r4
          simp only [List.drop_zero, List.drop_succ_cons, List.take_succ_cons, List.take_zero] at r0 r1 r2 r3 r4
          have hy5 : ys.length = 5 := by rw [hys]; have := congrArg List.length hl; simpa using this.symm
          match ys, hy5 with
          | [y0, y1, y2, y3, y4], _ =>
            simp only [List.getElem?_cons_zero, List.getElem?_cons_succ] at r0 r1 r2 r3 r4
            obtain ⟨k, e0, _, w0⟩ := DataW.trod_int Tryz.undB r0
            obtain ⟨s, e1, _, w1⟩ := DataW.trod_int Tryz.undI r1
            obtain ⟨a, e2, _, w2⟩ := DataW.trod_int Tryz.undI r2
            obtain ⟨bo, M, cb, bs, e3, hB, hm⟩ := row_open r3
            obtain ⟨nn, e4, _, w4⟩ := DataW.trod_int Tryz.undI r4
            simp only [List.cons.injEq, and_true] at e0 e1 e2 e4
            have b0 := bounds_u8 w0
            have b1 := bounds_i64 w1
            have b2 := bounds_i64 w2
            have b4 := bounds_i64 w4
            refine ⟨⟨k, s, a, bo, M, cb, bs, nn⟩, by rw [e0, e1, e2, e3, e4], ⟨b0.1, b0.2, b1.1, b1.2, b2.1, b2.2, b4.1, b4.2, ?_, hB⟩⟩
            rcases hm with hm | ⟨m, hm, hle⟩
            · simp only; omega
            · have hr : m ≤ reachBytes := by
                apply hsz
                rw [hx]
                simp only [DataW.weights, hu]
                have hty : fs.toList.map (·.type) = [5, 3, 3, 45, 3] := by rw [← hl]; simp [t0, t1, t2, t3, t4]
                rw [hty]
                exact DataW.weights_mem_each (j := 3) (t := 45) (d := y3.1) rfl rfl _ hm
              have := reachBytes_lt
              simp only
              omega
    | _ => simp at hF

set_option maxRecDepth 100000 in
theorem SArg.of_trod {w : World} {fuel : Nat} {v : Value} {d : DataW H} {ps : List MemPlace} (h : DataW.trod enc Tryz.prog w 0 (fun _ => true) true fuel 22 [v] = some (d, ps)) (hsz : ∀ n ∈ d.weights Tryz.prog 22, n ≤ reachBytes) :
    ∃ ao L cap os, v = .slice ao L cap ∧ SArg w ao L cap os := by
  rcases Go.Deep.open_slice Tryz.undOps h with ⟨hcs, _⟩ | ⟨a, len, cap, m, n, D, Pl, hcs, hb, hl, hm, hmm, hx, hE⟩
  · simp only [List.cons.injEq, and_true] at hcs
    exact ⟨none, 0, 0, [], hcs, rfl, by simp, by omega, fun h => by omega⟩
  · simp only [List.cons.injEq, and_true] at hcs
    simp only [if_true] at hmm
    subst hmm
    rw [Tryz.cellsOp] at hE hx
    have hd : d = .slice ((List.range len).map D) ((List.range (m - len)).map fun j => D (len + j)) := by have := congrArg Prod.fst hx; simpa using this
    have hO : ∀ i, i < len → ∃ o : OV, (w.cells? 0 (a.add (i * 5)) 5 = some [.int .u8 o.k, .int .i64 o.s, .int .i64 o.a, .slice o.bo o.M o.cb, .int .i64 o.n]) ∧ o.ok w := by
      intro i hi
      obtain ⟨cs', h1, h2⟩ := hE i (by omega)
      obtain ⟨o, rfl, rest⟩ := op_open h2 (by
        intro q hq
        apply hsz
        rw [hd]
        simp only [DataW.weights, Tryz.undOps]
        refine List.mem_cons_of_mem _ (List.mem_append_left _ ?_)
        exact weightsAll_mem (List.mem_map.2 ⟨i, by simpa using hi, rfl⟩) _ hq)
      exact ⟨o, h1, rest⟩
    haveI : Inhabited OV := ⟨OV.zero⟩
    obtain ⟨F, hF⟩ := Go.Deep.choose_lt hO
    refine ⟨some a, len, m, (List.range len).map F, hcs, by simp, ?_, by simp only [maxLen] at hm; omega, fun h0 => ?_⟩
    · intro o ho
      obtain ⟨i, hi, rfl⟩ := List.mem_map.1 ho
      have hi' : i < len := by simpa using hi
      exact (hF i hi').2
    · have hc0 := (World.cells?_some (hF 0 (by omega)).1).2.2
      obtain ⟨b, off, spot⟩ := a
      have hspot : spot = none := by
        have := hc0 0 (by omega)
        simp at this
        simpa [Addr.add] using World.cell?_spot this
      subst hspot
      have hcell : ∀ i, i < len → ∀ j, j < 5 → w.cell? ⟨b, off + i * 5 + j, none⟩ = [Value.int .u8 (F i).k, .int .i64 (F i).s, .int .i64 (F i).a, .slice (F i).bo (F i).M (F i).cb, .int .i64 (F i).n][j]? := by
        intro i hi j hj
        have := (World.cells?_some (hF i (by omega)).1).2.2 j hj
        rw [show ((⟨b, off, none⟩ : Addr).add (i * 5)).add j = ⟨b, off + i * 5 + j, none⟩ from by rw [Addr.add_lit, Addr.add_lit]] at this
        exact this
      refine ⟨b, off, rfl, World.block_lt_of_cell? w ⟨b, off + 0 * 5 + 0, none⟩ (by rw [hcell 0 (by omega) 0 (by omega)]; rfl), fun i hi => ?_⟩
      have e : ((List.range len).map F).getD i OV.zero = F i := by simp [List.getD, hi]
      rw [e]
      exact ⟨hcell i hi 0 (by omega), hcell i hi 1 (by omega), hcell i hi 2 (by omega), hcell i hi 3 (by omega), hcell i hi 4 (by omega)⟩
end
end Go.Proofs.YtgoonbikhdbkiaaGreatDoor
